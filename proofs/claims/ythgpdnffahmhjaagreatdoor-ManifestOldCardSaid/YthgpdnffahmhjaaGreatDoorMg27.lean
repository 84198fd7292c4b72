/- Texts put together: DkJ, DkK. -/
import Derived.Test.YthgpdnffahmhjaaGreatDoorMg25
import Derived.Test.YthgpdnffahmhjaaGreatDoorMg26
set_option linter.unusedSimpArgs false
set_option linter.unusedVariables false
set_option maxRecDepth 100000
namespace Go.Proofs.YthgpdnffahmhjaaGreatDoor.S13
open Go.RowKit Go.Maps Go.Shelf Dk
theorem syncDir_ok {S : St} (h : S.Ok) : St.Ok { S with last := S.now, pend := [] } where
  room := h.room
  byte := h.byte
  now := h.now
  last := h.now
  pend := by simp
  eq := rfl
  len := by
    intro k hk
    simp at hk
    subst hk
    exact now_le h
  names := by simp
  short := by simp
  nl := ⟨h.nl.1, h.nl.1⟩
theorem IsFS.syncDir {w W V : World} {l : Lay} {S : St} (h : IsFS w l S) {mv : Option Nat} (hb : Below w.heap.size w W) (hd : IsDir W mv l.β S.now) (hn : ∀ b, mv = some b → w.heap.size ≤ b)
    (hV : V = (W.setCell ⟨l.p, 2, none⟩ (.map mv)).setCell ⟨l.p, 3, none⟩ (.slice none 0 0)) :
    IsFS V { l with lv := mv, pv := .slice none 0 0 } { S with last := S.now, pend := [] } ∧ Step w V (l.at S.F.length) (Lay.at { l with lv := mv, pv := .slice none 0 0 } S.F.length) := by
  subst hV
  have hW := h.below hb
  obtain ⟨wt, hw, hk, _⟩ := hW.cells
  obtain ⟨n1, n2, n3, n4⟩ := hW.p_ne
  have hp := h.lt _ (.inl rfl)
  have hsame : ∀ b, b ≠ l.p → ((W.setCell ⟨l.p, 2, none⟩ (.map mv)).setCell ⟨l.p, 3, none⟩ (.slice none 0 0)).heap[b]? = W.heap[b]? := fun b hne => by
    rw [Below.heap_setCell _ _ _ b hne, Below.heap_setCell _ _ _ b hne]
  refine ⟨⟨⟨wt, ?_, hw⟩, ?_, ?_, ?_, World.ownsRow_nil _ _ _ _, ?_, h.inj, h.apart, syncDir_ok h.ok⟩, ?_⟩
  · have := (hk.set 2 (.map mv)).set 3 (.slice none 0 0)
    simpa [fsC] using this
  · exact hW.now.keep fun b e => hsame b (fun e' => n1 (by rw [e, e']))
  · exact hd.keep fun b e => hsame b (fun e' => by have := hn b e; omega)
  · intro b e e2
    have := hn b e2
    have := h.lt b (.inr (.inl e))
    omega
  · intro i hi
    exact (hW.file i hi).keep (hsame _ (fun e => (n4 i hi).1 e.symm)) (fun g e => hsame g (fun e' => (n4 i hi).2 (by rw [e, e'])))
  · refine ⟨hb.os, hb.tape, hb.output, by have := hb.size; simpa using this, fun b hb' hn' => ?_, fun b hb' => ?_⟩
    · rw [hsame b (fun e => hn' (.inl e))]
      exact hb.block b hb'
    · rcases hb' with e | e | e | e | e
      · exact .inl (.inl e)
      · exact .inl (.inr (.inl e))
      · exact .inr (hn b e)
      · cases e
      · exact .inl (.inr (.inr (.inr (.inr e))))
set_option maxHeartbeats 8000000 in
theorem syncDir_any (l : Lay) (S : St) (w : World) (h : IsFS w l S) (hc : S.calls ≤ 1099511627776) :
    Calls Tryz.prog 104 #[fsP l] w (OpPost l S (syncDir S) w) := by
  have hb := begin_any l S w h hc
  unfold begE at hb
  have hFF := beg_F S
  obtain ⟨b, hbb⟩ : ∃ b, (beg S).2 = b := ⟨_, rfl⟩
  rw [hbb] at hb
  clear h
  cases b with
  | true =>
    have hr : syncDir S = ((beg S).1, 5) := by simp [syncDir, withB, hbb]
    rw [hr]
    go_enter Tryz.func104, Tryz.ntmps104
    go_wp2_with fail
    refine hb.mono ?_
    rintro e w1 ⟨rfl, hs⟩
    simp only [if_true]
    clear hb
    go_wp2_with fail
    go_ret
    exact ⟨rfl, hs.gone (by rw [hFF])⟩
  | false =>
    have hr : syncDir S = ({ (beg S).1 with last := (beg S).1.now, pend := [] }, 0) := by simp [syncDir, withB, hbb]
    rw [hr]
    go_enter Tryz.func104, Tryz.ntmps104
    go_wp2_with fail
    refine hb.mono ?_
    rintro e w1 ⟨rfl, hs⟩
    clear hb
    obtain ⟨wt, _, hk, _, c1, _⟩ := hs.1.out.cells
    have hcl := cloneM_any l.nv l.β (beg S).1.now w1 hs.1.out.now
    have HS := Lib.hid hs
    have HK := Lib.hid hk
    clear hs hk
    simp only [Bool.false_eq_true, if_false]
    go_wp2_with fail
    refine hcl.mono ?_
    rintro e w2 ⟨mv, rfl, hd, hn, hb2⟩
    have hk2 := HK.out.below hb2 HK.out.lt
    have c2 := hk2.cell (o := 2) rfl
    have f2 := hk2.frozen 2
    have c3 := hk2.cell (o := 3) rfl
    have f3 := hk2.frozen 3
    have HD := Lib.hid hd
    have HB2 := Lib.hid hb2
    clear hcl hd hb2 hk2 c1
    go_wp2_with fail
    go_ret
    have hfin := HS.out.1.out.syncDir HB2.out HD.out hn rfl
    exact ⟨rfl, Gone.trans HS.out (by rw [hFF]) ⟨{ l with lv := mv, pv := .slice none 0 0 }, rfl, Lib.hid hfin.1, Lib.hid hfin.2⟩⟩
theorem rem_len {L : Dir} {n : Nm} {i : Nat} (h : dget L n = some i) (hL : L.length ≤ 150) : (app1 L (n, [], none)).length ≤ 150 := by
  have := ddel_length L n
  show (ddel L n).length ≤ 150
  omega
theorem ren_len {L : Dir} {a b : Nm} {i j : Nat} (h : dget L a = some i) (hL : L.length ≤ 150) : (app1 L (a, b, some j)).length ≤ 150 := by
  have h1 := ddel_lt h
  have h2 := ddel_length (ddel L a) b
  show (dput (ddel L a) b j).length ≤ 150
  unfold dput
  rw [dins_length]
  omega
theorem isNm_size {s : ByteArray} (h : isNm s.data.toList = true) : s.size ≤ 20 := by
  simp only [isNm, Bool.and_eq_true, decide_eq_true_eq, Array.length_toList] at h
  exact h.1.2
set_option maxHeartbeats 8000000 in
theorem remove_any (l : Lay) (S : St) (n : ByteArray) (w : World) (h : IsFS w l S) (hn : n.size ≤ maxLen) (hc : S.calls ≤ 1099511627776) :
    Calls Tryz.prog 103 #[fsP l, .string n] w (OpPost l S (remove S n.data.toList) w) := by
  have hb := beginWith_any l S n w h hn hc
  unfold WithPost at hb
  have hok := h.ok
  have hFF := beg_F S
  obtain ⟨hx, hr⟩ | ⟨hx, hd, hr⟩ | ⟨i, hx, hd, hr⟩ := withF_cases (S := S) (n := n.data.toList) (f := fun T i => (T.chg (n.data.toList, [], none), 0))
  · change remove S n.data.toList = _ at hr
    rw [hr]
    rw [hx] at hb
    simp only [if_true, errV] at hb
    clear h
    go_enter Tryz.func103, Tryz.ntmps103
    go_wp2_with fail
    refine hb.mono ?_
    rintro e w1 ⟨hs, rfl⟩
    clear hb
    go_wp2_with fail
    go_ret
    exact ⟨rfl, hs.gone (by rw [hFF])⟩
  · change remove S n.data.toList = _ at hr
    rw [hr]
    rw [hx, hd] at hb
    simp only [Bool.false_eq_true, if_false, Option.map_none, Option.isNone_none, if_true, errV, ptrO] at hb
    clear h
    go_enter Tryz.func103, Tryz.ntmps103
    go_wp2_with fail
    refine hb.mono ?_
    rintro e w1 ⟨hs, rfl⟩
    clear hb
    go_wp2_with fail
    go_ret
    exact ⟨rfl, hs.gone (by rw [hFF])⟩
  · change remove S n.data.toList = _ at hr
    rw [hr]
    rw [hx, hd] at hb
    simp only [Bool.false_eq_true, if_false, Option.map_some, Option.isNone_some, errV, ptrO] at hb
    have hn5 : n.size ≤ 100000 := by have := hok.nl.1 _ (dget_mem hd); simpa using this
    have hl : (app1 (beg S).1.now (n.data.toList, [], none)).length ≤ 150 := by rw [beg_now]; exact rem_len hd (now_le hok)
    have hch : ∀ w1, IsFS w1 l (beg S).1 → _ := fun w1 h1 => change_any l (beg S).1 n ⟨#[]⟩ none w1 h1 hn5 (by decide) (by intro i hi; cases hi) hl (by rw [beg_pend, beg_calls]; have := hok.names; omega) (by rw [beg_calls]; omega)
    unfold chgV at hch
    simp only [Option.map_none, ptrO] at hch
    have HCH := Lib.hid hch
    clear h hch
    go_enter Tryz.func103, Tryz.ntmps103
    go_wp2_with fail
    refine hb.mono ?_
    rintro e w1 ⟨hs, rfl⟩
    have hch := HCH.out w1 hs.1.out
    have HS := Lib.hid hs
    clear hb hs HCH
    go_wp2_with fail
    refine hch.mono ?_
    rintro e w2 ⟨rfl, hg⟩
    have HG := Lib.hid hg
    clear hch hg
    go_wp2_with fail
    go_ret
    exact ⟨rfl, Gone.trans HS.out (by rw [hFF]) HG.out⟩
set_option maxHeartbeats 8000000 in
theorem rename_any (l : Lay) (S : St) (a n : ByteArray) (w : World) (h : IsFS w l S) (ha : a.size ≤ maxLen) (hn : n.size ≤ maxLen) (hc : S.calls ≤ 1099511627776) :
    Calls Tryz.prog 102 #[fsP l, .string a, .string n] w (OpPost l S (rename S a.data.toList n.data.toList) w) := by
  have hb := beginWith_any l S a w h ha hc
  unfold WithPost at hb
  have hok := h.ok
  have hFF := beg_F S
  obtain ⟨hx, hr⟩ | ⟨hx, hd, hr⟩ | ⟨i, hx, hd, hr⟩ := withF_cases (S := S) (n := a.data.toList) (f := fun T i => if isNm n.data.toList = false then (T, 10) else (T.chg (a.data.toList, n.data.toList, some i), 0))
  · change rename S a.data.toList n.data.toList = _ at hr
    rw [hr]
    rw [hx] at hb
    simp only [if_true, errV] at hb
    clear h
    go_enter Tryz.func102, Tryz.ntmps102
    go_wp2_with fail
    refine hb.mono ?_
    rintro e w1 ⟨hs, rfl⟩
    clear hb
    go_wp2_with fail
    go_ret
    exact ⟨rfl, hs.gone (by rw [hFF])⟩
  · change rename S a.data.toList n.data.toList = _ at hr
    rw [hr]
    rw [hx, hd] at hb
    simp only [Bool.false_eq_true, if_false, Option.map_none, Option.isNone_none, if_true, errV, ptrO] at hb
    clear h
    go_enter Tryz.func102, Tryz.ntmps102
    go_wp2_with fail
    refine hb.mono ?_
    rintro e w1 ⟨hs, rfl⟩
    clear hb
    go_wp2_with fail
    go_ret
    exact ⟨rfl, hs.gone (by rw [hFF])⟩
  · change rename S a.data.toList n.data.toList = _ at hr
    rw [hr]
    rw [hx, hd] at hb
    simp only [Bool.false_eq_true, if_false, Option.map_some, Option.isNone_some, errV, ptrO] at hb
    have hnm := fun w1 => isName_any n w1
    cases hq : isNm n.data.toList with
    | false =>
      rw [hq] at hnm
      simp only [if_true]
      clear h
      go_enter Tryz.func102, Tryz.ntmps102
      go_wp2_with fail
      refine hb.mono ?_
      rintro e w1 ⟨hs, rfl⟩
      have HS := Lib.hid hs
      clear hb hs
      go_wp2_with fail
      refine (hnm _).mono ?_
      rintro e w2 ⟨rfl, rfl⟩
      go_wp2_with fail
      go_ret
      exact ⟨rfl, HS.out.gone (by rw [hFF])⟩
    | true =>
      rw [hq] at hnm
      simp only [Bool.true_eq_false, if_false]
      have ha5 : a.size ≤ 100000 := by have := hok.nl.1 _ (dget_mem hd); simpa using this
      have hl : (app1 (beg S).1.now (a.data.toList, n.data.toList, some i)).length ≤ 150 := by rw [beg_now]; exact ren_len hd (now_le hok)
      have hsz := isNm_size hq
      have hch : ∀ w1, IsFS w1 l (beg S).1 → _ := fun w1 h1 => change_any l (beg S).1 a n (some i) w1 h1 ha5 (by omega) (by intro j hj; cases hj; rw [beg_F]; exact hok.now _ (dget_mem hd)) hl (by rw [beg_pend, beg_calls]; have := hok.names; omega) (by rw [beg_calls]; omega)
      unfold chgV at hch
      simp only [Option.map_some, ptrO] at hch
      have HCH := Lib.hid hch
      clear h hch
      go_enter Tryz.func102, Tryz.ntmps102
      go_wp2_with fail
      refine hb.mono ?_
      rintro e w1 ⟨hs, rfl⟩
      have hch := HCH.out w1 hs.1.out
      have HS := Lib.hid hs
      clear hb hs HCH
      go_wp2_with fail
      refine (hnm _).mono ?_
      rintro e w2 ⟨rfl, rfl⟩
      go_wp2_with fail
      refine hch.mono ?_
      rintro e w2 ⟨rfl, hg⟩
      have HG := Lib.hid hg
      clear hch hg
      go_wp2_with fail
      go_ret
      exact ⟨rfl, Gone.trans HS.out (by rw [hFF]) HG.out⟩
end Go.Proofs.YthgpdnffahmhjaaGreatDoor.S13
namespace Go.Proofs.YthgpdnffahmhjaaGreatDoor.S13
open Go.RowKit Go.Maps Go.Shelf Dk
theorem put_len {L : Dir} {n : Nm} {i : Nat} (h : ((dget L n).isNone && decide (150 ≤ L.length)) = false) (hL : L.length ≤ 150) : (app1 L ([], n, some i)).length ≤ 150 := by
  show (dput (ddel L []) n i).length ≤ 150
  unfold dput
  rw [dins_length]
  have h0 := ddel_length L []
  have h1 := ddel_length (ddel L []) n
  cases hd : dget L n with
  | none =>
    rw [hd] at h
    simp at h
    omega
  | some j =>
    by_cases hn : n = []
    · subst hn
      have := ddel_lt hd
      have := ddel_length (ddel L []) []
      omega
    · have hd2 : dget (ddel L []) n = some j := by
        unfold dget at hd ⊢
        unfold ddel
        rw [find_filter_keep (f := fun p : Nm × Nat => p.1 == n) (g := fun p => !(p.1 == [])) (fun p hp => by
          simp at hp ⊢
          rw [hp]; exact hn)]
        exact hd
      have := ddel_lt hd2
      omega
set_option maxHeartbeats 16000000 in
theorem create_any (l : Lay) (S : St) (n : ByteArray) (w : World) (h : IsFS w l S) (hn : n.size ≤ maxLen) (hc : S.calls ≤ 1099511627776) :
    Calls Tryz.prog 7 #[fsP l, .string n] w (OpPost l S (create S n.data.toList) w) := by
  have hb := begin_any l S w h hc
  unfold begE at hb
  have hok := h.ok
  have hFF := beg_F S
  have hnm := fun w1 => isName_any n w1
  obtain ⟨b, hbb⟩ : ∃ b, (beg S).2 = b := ⟨_, rfl⟩
  rw [hbb] at hb
  clear h
  cases b with
  | true =>
    have hr : create S n.data.toList = ((beg S).1, 5) := by simp [create, withB, hbb]
    rw [hr]
    go_enter Tryz.func7, Tryz.ntmps7
    go_wp2_with fail
    refine hb.mono ?_
    rintro e w1 ⟨rfl, hs⟩
    simp only [if_true]
    clear hb
    go_wp2_with fail
    go_ret
    exact ⟨rfl, hs.gone (by rw [hFF])⟩
  | false =>
    simp only [Bool.false_eq_true, if_false] at hb
    cases hq : isNm n.data.toList with
    | false =>
      have hr : create S n.data.toList = ((beg S).1, 10) := by simp [create, withB, hbb, hq]
      rw [hr]
      rw [hq] at hnm
      go_enter Tryz.func7, Tryz.ntmps7
      go_wp2_with fail
      refine hb.mono ?_
      rintro e w1 ⟨rfl, hs⟩
      have HS := Lib.hid hs
      clear hb hs
      go_wp2_with fail
      refine (hnm _).mono ?_
      rintro e w2 ⟨rfl, rfl⟩
      go_wp2_with fail
      go_ret
      exact ⟨rfl, HS.out.gone (by rw [hFF])⟩
    | true =>
      rw [hq] at hnm
      have hsz := isNm_size hq
      cases hfull : ((dget (beg S).1.now n.data.toList).isNone && decide (150 ≤ (beg S).1.now.length)) with
      | true =>
        have hr : create S n.data.toList = ((beg S).1, 4) := by
          unfold create withB
          simp only [hbb, hq, hfull, Bool.false_eq_true, if_false, Bool.true_eq_false, if_true]
        rw [hr]
        have hd : dget (beg S).1.now n.data.toList = none := by
          simp only [Bool.and_eq_true] at hfull
          exact Option.isNone_iff_eq_none.1 hfull.1
        have hlen : decide ((150 : Int) ≤ ((beg S).1.now.length : Nat)) = true := by
          simp only [Bool.and_eq_true, decide_eq_true_eq] at hfull
          simp only [decide_eq_true_eq]
          omega
        go_enter Tryz.func7, Tryz.ntmps7
        go_wp2_with fail
        refine hb.mono ?_
        rintro e w1 ⟨rfl, hs⟩
        obtain ⟨wt, _, _, _, c1, _⟩ := hs.1.out.cells
        have hlk := dir_look hs.1.out.now hn
        rw [hd] at hlk
        simp only [Option.map_none, ptrO] at hlk
        have hln := fun ty => dir_len hs.1.out.now ty
        obtain ⟨M, hM⟩ : ∃ M, (beg S).1.now.length = M := ⟨_, rfl⟩
        rw [hM] at hln hlen
        have hM150 : 150 ≤ M := by
          simp only [decide_eq_true_eq] at hlen; omega
        have HS := Lib.hid hs
        clear hb hs hM
        go_wp2_with fail
        refine (hnm _).mono ?_
        rintro e w2 ⟨rfl, rfl⟩
        go_wp2_with fail
        go_ret
        exact ⟨rfl, HS.out.gone (by rw [hFF])⟩
      | false =>
        have hr : create S n.data.toList = (St.chg { (beg S).1 with F := (beg S).1.F ++ [([], 0)] } ([], n.data.toList, some (beg S).1.F.length), 0) := by
          unfold create withB
          simp only [hbb, hq, hfull, Bool.false_eq_true, if_false, Bool.true_eq_false]
        rw [hr]
        have hok2 := beg_ok hok
        have hl := put_len (i := (beg S).1.F.length) hfull (now_le hok2)
        have hpc : (beg S).1.pend.length + 1 ≤ (beg S).1.calls := by rw [beg_pend, beg_calls]; have := hok.names; omega
        have hcc : (beg S).1.calls ≤ 1099511627777 := by rw [beg_calls]; omega
        generalize (beg S).1 = T at *
        go_enter Tryz.func7, Tryz.ntmps7
        go_wp2_with fail
        refine hb.mono ?_
        rintro e w1 ⟨rfl, hs⟩
        obtain ⟨wt, _, _, _, c1, _⟩ := hs.1.out.cells
        have hlk := dir_look hs.1.out.now hn
        have hln := fun ty => dir_len hs.1.out.now ty
        have hmf := hs.1.out.moreFile
        obtain ⟨w2, hw2⟩ : ∃ w2, w1.alloc (.cells #[.slice none 0 0, .int .i64 0] 64) = w2 := ⟨_, rfl⟩
        rw [hw2] at hmf
        have hch := change_any _ _ ⟨#[]⟩ n (some T.F.length) w2 hmf.1 (by decide) (by omega) (by intro j hj; cases hj; simp) hl hpc hcc
        unfold chgV at hch
        simp only [Option.map_some, upd_same, ptrO] at hch
        have HS := Lib.hid hs
        have HMF := Lib.hid hmf
        have HFULL := Lib.hid hfull
        obtain ⟨M, hM⟩ : ∃ M, T.now.length = M := ⟨_, rfl⟩
        rw [hM] at hln HFULL
        clear hb hs hM hmf hl hpc hcc hfull
        cases hd : dget T.now n.data.toList with
        | none =>
          rw [hd] at hlk HFULL
          simp only [Option.map_none, ptrO] at hlk
          have hM150 : M < 150 := by have := HFULL.out; simp at this; omega
          go_wp2_with fail
          refine (hnm _).mono ?_
          rintro e w3 ⟨rfl, rfl⟩
          go_wp2_with fail
          refine hch.mono ?_
          rintro e w3 ⟨rfl, l', hp', hI', hS'⟩
          have HI := Lib.hid hI'
          have HSS := Lib.hid hS'
          clear hch hI' hS' hw2
          go_wp2_with fail
          go_ret
          refine ⟨rfl, Gone.trans HS.out (by rw [hFF]) ⟨l', hp', HI.out, Lib.hid ?_⟩⟩
          have hss := HSS.out.out
          have e1 : (T.F ++ [(([] : List Nat), 0)]).length = T.F.length + 1 := by simp
          simp only [e1] at hss
          exact HMF.out.2.trans hss
        | some j =>
          rw [hd] at hlk
          simp only [Option.map_some, ptrO] at hlk
          go_wp2_with fail
          refine (hnm _).mono ?_
          rintro e w3 ⟨rfl, rfl⟩
          go_wp2_with fail
          refine hch.mono ?_
          rintro e w3 ⟨rfl, l', hp', hI', hS'⟩
          have HI := Lib.hid hI'
          have HSS := Lib.hid hS'
          clear hch hI' hS' hw2
          go_wp2_with fail
          go_ret
          refine ⟨rfl, Gone.trans HS.out (by rw [hFF]) ⟨l', hp', HI.out, Lib.hid ?_⟩⟩
          have hss := HSS.out.out
          have e1 : (T.F ++ [(([] : List Nat), 0)]).length = T.F.length + 1 := by simp
          simp only [e1] at hss
          exact HMF.out.2.trans hss
theorem append_fin {w1 w2 V1 : World} {l : Lay} {T : St} (h : IsFS w1 l T) (hb : Below w1.heap.size w1 w2) {i : Nat} (hi : i < T.F.length) {v' : Value} {B : List Nat}
    (ho : V1.ownsRow 0 5 1 v' ((T.file i).1.length + B.length) (u8s ((T.file i).1 ++ B))) (hg : w2.grownBy V1 (l.ν i).ownBlock) (hn : Nigh w2 (l.ν i) v') (hB : ∀ x ∈ B, x < 256) (hlen : (T.file i).1.length + B.length ≤ 4194304) :
    IsFS (V1.setCell ⟨l.β i, 0, none⟩ v') { l with ν := upd l.ν i v' } (T.put i ((T.file i).1 ++ B, (T.file i).2)) ∧
      Step w1 (V1.setCell ⟨l.β i, 0, none⟩ v') (l.at T.F.length) (Lay.at { l with ν := upd l.ν i v' } T.F.length) := by
  have h2 := h.below hb
  have hfi := h2.file i hi
  have hfo := file_ok h.ok i
  have hob : (l.ν i).ownBlock ≠ some (l.β i) := blk_own_ne hfi.1 hfi.2.1 (by decide)
  have hbl := hfi.lt.1
  have hV : Blk V1 (l.β i) 64 [l.ν i, .int .i64 ((T.file i).2 : Nat)] := hfi.1.grown hg (fun e => hob e.symm)
  have hvb : v'.ownBlock ≠ some (l.β i) := fun e => by
    rcases hn _ e with e' | e'
    · exact hob e'
    · omega
  have hfin := h2.putFile hi (v' := v') (x := ((T.file i).1 ++ B, (T.file i).2)) (V := V1.setCell ⟨l.β i, 0, none⟩ v') hg.os hg.tape hg.output (by have := hg.size; simpa using this)
    (fun b hb' h1 h3 => by rw [Below.heap_setCell _ _ _ b h1]; exact hg.block b hb' (fun e => h3 e.symm)) ?_ hn (put_ok h.ok ⟨?_, ?_, ?_⟩)
  · exact ⟨hfin.1, (Step.ofBelow hb _).trans hfin.2⟩
  · refine ⟨?_, ?_, ?_⟩
    · have := hV.set 0 v'
      simpa using this
    · have e1 : ((T.file i).1 ++ B).length = (T.file i).1.length + B.length := by simp
      show World.ownsRow _ 0 _ 1 v' ((T.file i).1 ++ B).length _
      rw [e1]
      refine ho.kept ((Gr.refl V1 (l.β i)).setCell 0 _) ?_
      cases hq : v'.ownBlock with
      | none => exact .inl rfl
      | some g => exact .inr (fun e => hvb (by rw [hq]; exact e))
    · intro x hx
      rcases List.mem_append.1 hx with hx | hx
      · exact hfo.1 x hx
      · exact hB x hx
  · intro x hx
    rcases List.mem_append.1 hx with hx | hx
    · exact hfo.1 x hx
    · exact hB x hx
  · show (T.file i).2 ≤ ((T.file i).1 ++ B).length
    rw [List.length_append]; omega
  · show ((T.file i).1 ++ B).length ≤ 4194304
    rw [List.length_append]; omega
theorem wpList_append_nigh {w : World} {ops : Array Oper} {rest : List Oper} {o : Oper} {a : Act} {Q : Exit → Act → World → Prop} (hgd : o.guard = none) (s x : Operand)
    (ho : o.op = .call { callee := .builtin .append, args := #[s, x], argTypes := #[36, 36] })
    (v : Value) (n : Nat) (A : List Nat) (hs : a.eval s = v) (hown : w.ownsRow 0 5 1 v n (u8s A)) (src : Value) (B : List Nat) (hx : a.eval x = src) (hsrc : IsBytes w src B) (hb : n + B.length ≤ 140737488355328)
    (h : ∀ v' w', w'.ownsRow 0 5 1 v' (n + B.length) (u8s (A ++ B)) → w.grownBy w' v.ownBlock → Nigh w v v' → wpList Tryz.prog ops Q rest (a.put o.dst v') w') : wpList Tryz.prog ops Q (o :: rest) a w := by
  obtain ⟨i0, hi, hz0, hz1, hz2⟩ := info_parts info5
  have key : ∃ v' w', (Builtin.append_ #[36, 36] o.type #[v, src]).run Tryz.prog w = .ok v' w' ∧ w'.ownsRow 0 5 1 v' (n + B.length) (u8s (A ++ B)) ∧ w.grownBy w' v.ownBlock ∧ Nigh w v v' := by
    rw [u8s_append]
    obtain ⟨_, ⟨rfl, rfl⟩ | ⟨ad, cap, rfl, h1, h2, hc⟩⟩ := hsrc
    · have hr := run_append_owned_none (P := Tryz.prog) (w := w) 0 36 o.type 5 i0 1 Tryz.underlying36 hi v n (u8s A) hown
      exact ⟨v, w, hr, by simpa [u8s] using hown, grownBy_refl _ _, fun g hg => .inl hg⟩
    · exact run_append_nigh 36 o.type 5 i0 (.int .u8 0) 1 1 Tryz.underlying36 hi hz0 hz1 hz2 rfl (by decide) 0 v n (u8s A) hown ad B.length cap (u8s B) (by rw [u8s_length, Nat.mul_one]) hc (u8s_one B) (by unfold maxLen; omega) (by omega) (Nat.zero_le _)
  obtain ⟨v', w', hr, r1, r2, r3⟩ := key
  refine wpList_plain hgd fun K' hK' => ?_
  unfold Oper.wp execOp
  simp only [ho, resolve, invoke, builtin, Sem.run_bind, Sem.run_pure, Result.andThen_ok, List.map_toArray, List.map_cons, List.map_nil, hs, hx, hr]
  exact hK' _ _ (h v' w' r1 r2 r3)
end Go.Proofs.YthgpdnffahmhjaaGreatDoor.S13
