/- disk: Create, Append: contracts. -/
import Derived.Test.YtdjcblboibbefaaDkJ
set_option linter.unusedSimpArgs false
set_option linter.unusedVariables false
set_option maxRecDepth 100000
namespace Go.Proofs.Ytdjcblboibbefaa.S13
open Go.RowKit Go.Maps Go.Shelf Dk
theorem put_len {L : Dir} {n : Nm} {i : Nat} (h : ((dget L n).isNone && decide (150 ≤ L.length)) = false) (hL : L.length ≤ 150) : (app1 L ([], n, some i)).length ≤ 150 := by
  show (dput (ddel L []) n i).length ≤ 150
  unfold dput
  rw [dins_length]
  have h0 := ddel_length L []
  have h1 := ddel_length (ddel L []) n
  cases hd : dget L n with
  | none =>
    rw [hd] at h
    simp at h
    omega
  | some j =>
    -- the name stands there: struck, then laid again
    by_cases hn : n = []
    · subst hn
      have := ddel_lt hd
      have := ddel_length (ddel L []) []
      omega
    · have hd2 : dget (ddel L []) n = some j := by
        unfold dget at hd ⊢
        unfold ddel
        rw [find_filter_keep (f := fun p : Nm × Nat => p.1 == n) (g := fun p => !(p.1 == [])) (fun p hp => by
          simp at hp ⊢
          rw [hp]; exact hn)]
        exact hd
      have := ddel_lt hd2
      omega
set_option maxHeartbeats 16000000 in
theorem create_any (l : Lay) (S : St) (n : ByteArray) (w : World) (h : IsFS w l S) (hn : n.size ≤ maxLen) (hc : S.calls ≤ 1099511627776) :
    Calls Try.prog 13 #[fsP l, .string n] w (OpPost l S (create S n.data.toList) w) := by
  have hb := begin_any l S w h hc
  unfold begE at hb
  have hok := h.ok
  have hFF := beg_F S
  have hnm := fun w1 => isName_any n w1
  obtain ⟨b, hbb⟩ : ∃ b, (beg S).2 = b := ⟨_, rfl⟩
  rw [hbb] at hb
  clear h
  cases b with
  | true =>
    have hr : create S n.data.toList = ((beg S).1, 5) := by simp [create, withB, hbb]
    rw [hr]
    go_enter Try.func13, Try.ntmps13
    go_wp2_with fail
    refine hb.mono ?_
    rintro e w1 ⟨rfl, hs⟩
    simp only [if_true]
    clear hb
    go_wp2_with fail
    go_ret
    exact ⟨rfl, hs.gone (by rw [hFF])⟩
  | false =>
    simp only [Bool.false_eq_true, if_false] at hb
    cases hq : isNm n.data.toList with
    | false =>
      have hr : create S n.data.toList = ((beg S).1, 10) := by simp [create, withB, hbb, hq]
      rw [hr]
      rw [hq] at hnm
      go_enter Try.func13, Try.ntmps13
      go_wp2_with fail
      refine hb.mono ?_
      rintro e w1 ⟨rfl, hs⟩
      have HS := Lib.hid hs
      clear hb hs
      go_wp2_with fail
      refine (hnm _).mono ?_
      rintro e w2 ⟨rfl, rfl⟩
      go_wp2_with fail
      go_ret
      exact ⟨rfl, HS.out.gone (by rw [hFF])⟩
    | true =>
      rw [hq] at hnm
      have hsz := isNm_size hq
      cases hfull : ((dget (beg S).1.now n.data.toList).isNone && decide (150 ≤ (beg S).1.now.length)) with
      | true =>
        have hr : create S n.data.toList = ((beg S).1, 4) := by
          unfold create withB
          simp only [hbb, hq, hfull, Bool.false_eq_true, if_false, Bool.true_eq_false, if_true]
        rw [hr]
        have hd : dget (beg S).1.now n.data.toList = none := by
          simp only [Bool.and_eq_true] at hfull
          exact Option.isNone_iff_eq_none.1 hfull.1
        have hlen : decide ((150 : Int) ≤ ((beg S).1.now.length : Nat)) = true := by
          simp only [Bool.and_eq_true, decide_eq_true_eq] at hfull
          simp only [decide_eq_true_eq]
          omega
        go_enter Try.func13, Try.ntmps13
        go_wp2_with fail
        refine hb.mono ?_
        rintro e w1 ⟨rfl, hs⟩
        obtain ⟨wt, _, _, _, c1, _⟩ := hs.1.out.cells
        have hlk := dir_look hs.1.out.now hn
        rw [hd] at hlk
        simp only [Option.map_none, ptrO] at hlk
        have hln := fun ty => dir_len hs.1.out.now ty
        obtain ⟨M, hM⟩ : ∃ M, (beg S).1.now.length = M := ⟨_, rfl⟩
        rw [hM] at hln hlen
        have hM150 : 150 ≤ M := by
          simp only [decide_eq_true_eq] at hlen; omega
        have HS := Lib.hid hs
        clear hb hs hM
        go_wp2_with fail
        refine (hnm _).mono ?_
        rintro e w2 ⟨rfl, rfl⟩
        go_wp2_with fail
        go_ret
        exact ⟨rfl, HS.out.gone (by rw [hFF])⟩
      | false =>
        have hr : create S n.data.toList = (St.chg { (beg S).1 with F := (beg S).1.F ++ [([], 0)] } ([], n.data.toList, some (beg S).1.F.length), 0) := by
          unfold create withB
          simp only [hbb, hq, hfull, Bool.false_eq_true, if_false, Bool.true_eq_false]
        rw [hr]
        have hok2 := beg_ok hok
        have hl := put_len (i := (beg S).1.F.length) hfull (now_le hok2)
        have hpc : (beg S).1.pend.length + 1 ≤ (beg S).1.calls := by rw [beg_pend, beg_calls]; have := hok.names; omega
        have hcc : (beg S).1.calls ≤ 1099511627777 := by rw [beg_calls]; omega
        generalize (beg S).1 = T at *
        go_enter Try.func13, Try.ntmps13
        go_wp2_with fail
        refine hb.mono ?_
        rintro e w1 ⟨rfl, hs⟩
        obtain ⟨wt, _, _, _, c1, _⟩ := hs.1.out.cells
        have hlk := dir_look hs.1.out.now hn
        have hln := fun ty => dir_len hs.1.out.now ty
        have hmf := hs.1.out.moreFile
        obtain ⟨w2, hw2⟩ : ∃ w2, w1.alloc (.cells #[.slice none 0 0, .int .i64 0] 53) = w2 := ⟨_, rfl⟩
        rw [hw2] at hmf
        have hch := change_any _ _ ⟨#[]⟩ n (some T.F.length) w2 hmf.1 (by decide) (by omega) (by intro j hj; cases hj; simp) hl hpc hcc
        unfold chgV at hch
        simp only [Option.map_some, upd_same, ptrO] at hch
        have HS := Lib.hid hs
        have HMF := Lib.hid hmf
        have HFULL := Lib.hid hfull
        obtain ⟨M, hM⟩ : ∃ M, T.now.length = M := ⟨_, rfl⟩
        rw [hM] at hln HFULL
        clear hb hs hM hmf hl hpc hcc hfull
        cases hd : dget T.now n.data.toList with
        | none =>
          rw [hd] at hlk HFULL
          simp only [Option.map_none, ptrO] at hlk
          have hM150 : M < 150 := by have := HFULL.out; simp at this; omega
          go_wp2_with fail
          refine (hnm _).mono ?_
          rintro e w3 ⟨rfl, rfl⟩
          go_wp2_with fail
          refine hch.mono ?_
          rintro e w3 ⟨rfl, l', hp', hI', hS'⟩
          have HI := Lib.hid hI'
          have HSS := Lib.hid hS'
          clear hch hI' hS' hw2
          go_wp2_with fail
          go_ret
          refine ⟨rfl, Gone.trans HS.out (by rw [hFF]) ⟨l', hp', HI.out, Lib.hid ?_⟩⟩
          have hss := HSS.out.out
          have e1 : (T.F ++ [(([] : List Nat), 0)]).length = T.F.length + 1 := by simp
          simp only [e1] at hss
          exact HMF.out.2.trans hss
        | some j =>
          rw [hd] at hlk
          simp only [Option.map_some, ptrO] at hlk
          go_wp2_with fail
          refine (hnm _).mono ?_
          rintro e w3 ⟨rfl, rfl⟩
          go_wp2_with fail
          refine hch.mono ?_
          rintro e w3 ⟨rfl, l', hp', hI', hS'⟩
          have HI := Lib.hid hI'
          have HSS := Lib.hid hS'
          clear hch hI' hS' hw2
          go_wp2_with fail
          go_ret
          refine ⟨rfl, Gone.trans HS.out (by rw [hFF]) ⟨l', hp', HI.out, Lib.hid ?_⟩⟩
          have hss := HSS.out.out
          have e1 : (T.F ++ [(([] : List Nat), 0)]).length = T.F.length + 1 := by simp
          simp only [e1] at hss
          exact HMF.out.2.trans hss
/-- a file behind an append -/
theorem append_fin {w1 w2 V1 : World} {l : Lay} {T : St} (h : IsFS w1 l T) (hb : Below w1.heap.size w1 w2) {i : Nat} (hi : i < T.F.length) {v' : Value} {B : List Nat}
    (ho : V1.ownsRow 0 5 1 v' ((T.file i).1.length + B.length) (u8s ((T.file i).1 ++ B))) (hg : w2.grownBy V1 (l.ν i).ownBlock) (hn : Nigh w2 (l.ν i) v') (hB : ∀ x ∈ B, x < 256) (hlen : (T.file i).1.length + B.length ≤ 4194304) :
    IsFS (V1.setCell ⟨l.β i, 0, none⟩ v') { l with ν := upd l.ν i v' } (T.put i ((T.file i).1 ++ B, (T.file i).2)) ∧
      Step w1 (V1.setCell ⟨l.β i, 0, none⟩ v') (l.at T.F.length) (Lay.at { l with ν := upd l.ν i v' } T.F.length) := by
  have h2 := h.below hb
  have hfi := h2.file i hi
  have hfo := file_ok h.ok i
  have hob : (l.ν i).ownBlock ≠ some (l.β i) := blk_own_ne hfi.1 hfi.2.1 (by decide)
  have hbl := hfi.lt.1
  have hV : Blk V1 (l.β i) 53 [l.ν i, .int .i64 ((T.file i).2 : Nat)] := hfi.1.grown hg (fun e => hob e.symm)
  have hvb : v'.ownBlock ≠ some (l.β i) := fun e => by
    rcases hn _ e with e' | e'
    · exact hob e'
    · omega
  have hfin := h2.putFile hi (v' := v') (x := ((T.file i).1 ++ B, (T.file i).2)) (V := V1.setCell ⟨l.β i, 0, none⟩ v') hg.os hg.tape hg.output (by have := hg.size; simpa using this)
    (fun b hb' h1 h3 => by rw [Below.heap_setCell _ _ _ b h1]; exact hg.block b hb' (fun e => h3 e.symm)) ?_ hn (put_ok h.ok ⟨?_, ?_, ?_⟩)
  · exact ⟨hfin.1, (Step.ofBelow hb _).trans hfin.2⟩
  · refine ⟨?_, ?_, ?_⟩
    · have := hV.set 0 v'
      simpa using this
    · have e1 : ((T.file i).1 ++ B).length = (T.file i).1.length + B.length := by simp
      show World.ownsRow _ 0 _ 1 v' ((T.file i).1 ++ B).length _
      rw [e1]
      refine ho.kept ((Gr.refl V1 (l.β i)).setCell 0 _) ?_
      cases hq : v'.ownBlock with
      | none => exact .inl rfl
      | some g => exact .inr (fun e => hvb (by rw [hq]; exact e))
    · intro x hx
      rcases List.mem_append.1 hx with hx | hx
      · exact hfo.1 x hx
      · exact hB x hx
  · intro x hx
    rcases List.mem_append.1 hx with hx | hx
    · exact hfo.1 x hx
    · exact hB x hx
  · show (T.file i).2 ≤ ((T.file i).1 ++ B).length
    rw [List.length_append]; omega
  · show ((T.file i).1 ++ B).length ≤ 4194304
    rw [List.length_append]; omega
/-- append(own, src...) of bytes, told where the answer lies -/
theorem wpList_append_nigh {w : World} {ops : Array Oper} {rest : List Oper} {o : Oper} {a : Act} {Q : Exit → Act → World → Prop} (hgd : o.guard = none) (s x : Operand)
    (ho : o.op = .call { callee := .builtin .append, args := #[s, x], argTypes := #[23, 23] })
    (v : Value) (n : Nat) (A : List Nat) (hs : a.eval s = v) (hown : w.ownsRow 0 5 1 v n (u8s A)) (src : Value) (B : List Nat) (hx : a.eval x = src) (hsrc : IsBytes w src B) (hb : n + B.length ≤ 140737488355328)
    (h : ∀ v' w', w'.ownsRow 0 5 1 v' (n + B.length) (u8s (A ++ B)) → w.grownBy w' v.ownBlock → Nigh w v v' → wpList Try.prog ops Q rest (a.put o.dst v') w') : wpList Try.prog ops Q (o :: rest) a w := by
  obtain ⟨i0, hi, hz0, hz1, hz2⟩ := info_parts info5
  have key : ∃ v' w', (Builtin.append_ #[23, 23] o.type #[v, src]).run Try.prog w = .ok v' w' ∧ w'.ownsRow 0 5 1 v' (n + B.length) (u8s (A ++ B)) ∧ w.grownBy w' v.ownBlock ∧ Nigh w v v' := by
    rw [u8s_append]
    obtain ⟨_, ⟨rfl, rfl⟩ | ⟨ad, cap, rfl, h1, h2, hc⟩⟩ := hsrc
    · have hr := run_append_owned_none (P := Try.prog) (w := w) 0 23 o.type 5 i0 1 Try.underlying23 hi v n (u8s A) hown
      exact ⟨v, w, hr, by simpa [u8s] using hown, grownBy_refl _ _, fun g hg => .inl hg⟩
    · exact run_append_nigh 23 o.type 5 i0 (.int .u8 0) 1 1 Try.underlying23 hi hz0 hz1 hz2 rfl (by decide) 0 v n (u8s A) hown ad B.length cap (u8s B) (by rw [u8s_length, Nat.mul_one]) hc (u8s_one B) (by unfold maxLen; omega) (by omega) (Nat.zero_le _)
  obtain ⟨v', w', hr, r1, r2, r3⟩ := key
  refine wpList_plain hgd fun K' hK' => ?_
  unfold Oper.wp execOp
  simp only [ho, resolve, invoke, builtin, Sem.run_bind, Sem.run_pure, Result.andThen_ok, List.map_toArray, List.map_cons, List.map_nil, hs, hx, hr]
  exact hK' _ _ (h v' w' r1 r2 r3)
end Go.Proofs.Ytdjcblboibbefaa.S13
