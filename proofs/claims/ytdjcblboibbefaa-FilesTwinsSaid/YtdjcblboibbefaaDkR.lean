/- disk: Rot: the walk. -/
import Derived.Test.YtdjcblboibbefaaDkO
set_option linter.unusedSimpArgs false
set_option linter.unusedVariables false
set_option maxRecDepth 100000
namespace Go.Proofs.Ytdjcblboibbefaa.S13
open Go.RowKit Go.Maps Go.Shelf Dk
theorem run_tail_u8 (W : World) (g N cap k : Nat) (hk : k < N) (hn : N ≤ cap) (hm : cap ≤ maxLen) : (sliceU8 (.slice (some ⟨g, 0, none⟩) N cap) (some (.int .i64 k)) none none).run Try.prog W = .ok (.slice (some ⟨g, k, none⟩) (N - k) (cap - k)) W := by
  unfold sliceU8
  rw [run_sliceAt_slice _ _ _ _ _ _ und_u8s, run_slice_l _ _ _ _ _ und_u8s _ _ (by omega) (by omega), run_size_u8, Int.toNat_natCast]
  have hne : ¬ cap = k := by omega
  simp only [Result.andThen, sliced, if_neg hne, Option.map_some, Nat.mul_one]
  rw [addr_at, Nat.zero_add]
/-- the first i bytes of sector k are turned -/
def rotI (X : List Nat) (k x i : Nat) : List Nat := X.mapIdx fun j y => if k * 64 ≤ j ∧ j < k * 64 + i then y ^^^ ((x + (j - k * 64)) % 256) else y
theorem rotI_length (X : List Nat) (k x i : Nat) : (rotI X k x i).length = X.length := by simp [rotI]
theorem rotI_0 (X : List Nat) (k x : Nat) : rotI X k x 0 = X := by
  apply List.ext_getElem?
  intro j
  simp only [rotI, List.getElem?_mapIdx]
  cases X[j]? with
  | none => rfl
  | some y => simp; omega
theorem rotI_get (X : List Nat) (k x i : Nat) : (rotI X k x i).getD (k * 64 + i) 0 = X.getD (k * 64 + i) 0 := by
  simp only [rotI, List.getD_eq_getElem?_getD, List.getElem?_mapIdx]
  cases X[k * 64 + i]? with
  | none => rfl
  | some y => simp
theorem rotI_step (X : List Nat) (k x i : Nat) (h : k * 64 + i < X.length) : (rotI X k x i).set (k * 64 + i) (X.getD (k * 64 + i) 0 ^^^ ((x + i) % 256)) = rotI X k x (i + 1) := by
  apply List.ext_getElem?
  intro j
  rw [List.getElem?_set]
  by_cases hj : k * 64 + i = j
  · subst hj
    rw [if_pos rfl, if_pos (by rw [rotI_length]; exact h)]
    simp only [rotI, List.getElem?_mapIdx, List.getElem?_eq_getElem h, Option.map_some, List.getD_eq_getElem?_getD, Option.getD_some]
    rw [if_pos (by omega), show k * 64 + i - k * 64 = i by omega]
  · rw [if_neg hj]
    simp only [rotI, List.getElem?_mapIdx]
    cases X[j]? with
    | none => rfl
    | some y =>
      simp only [Option.map_some]
      by_cases h1 : k * 64 ≤ j ∧ j < k * 64 + i
      · rw [if_pos h1, if_pos (by omega)]
      · rw [if_neg h1, if_neg (by omega)]
theorem rotI_end (X : List Nat) (k x m : Nat) (hm : m = 64 ∨ X.length ≤ k * 64 + m) (h64 : m ≤ 64) : rotI X k x m = rotB X k x := by
  apply List.ext_getElem?
  intro j
  simp only [rotI, rotB, List.getElem?_mapIdx]
  by_cases hl : j < X.length
  · rw [List.getElem?_eq_getElem hl]
    simp only [Option.map_some]
    by_cases h1 : j / 64 = k
    · rw [if_pos h1, if_pos (by omega), show j - k * 64 = j % 64 by omega]
    · rw [if_neg h1, if_neg (by omega)]
  · rw [List.getElem?_eq_none (by omega)]; rfl
theorem rotB_lt {X : List Nat} (h : ∀ y ∈ X, y < 256) (k x : Nat) : ∀ y ∈ rotB X k x, y < 256 := by
  intro y hy
  obtain ⟨i, hi, rfl⟩ := List.getElem_of_mem hy
  simp only [rotB, List.getElem_mapIdx]
  have := h _ (List.getElem_mem (by simpa [rotB] using hi))
  split
  · exact Nat.xor_lt_two_pow (n := 8) this (by omega)
  · exact this
theorem rotB_length (X : List Nat) (k x : Nat) : (rotB X k x).length = X.length := by simp [rotB]
attribute [local go_sem ↓] minN_eq sliceU8_eq
set_option maxHeartbeats 16000000 in
theorem rot_any (l : Lay) (S : St) (n : ByteArray) (sector : Int) (x : Nat) (w : World) (h : IsFS w l S) (hn : n.size ≤ maxLen) (hx : x < 256) (hsw : (Lit.int .i64 sector).wf = true) :
    Calls Try.prog 23 #[fsP l, .string n, .int .i64 sector, .int .u8 x] w (OpPost l S (rot S n.data.toList sector x) w) := by
  have hf := find_any l S n w h hn
  cases hd : dget S.now n.data.toList with
  | none =>
    have e : rot S n.data.toList sector x = (S, 3) := by unfold rot; rw [hd]
    rw [hd] at hf
    rw [e]
    simp only [Option.map_none, ptrO] at hf
    have H := Lib.hid h
    clear h
    go_enter Try.func23, Try.ntmps23
    go_wp2_with fail
    refine hf.mono ?_
    rintro e w1 ⟨rfl, rfl⟩
    clear hf
    go_wp2_with fail
    go_ret
    exact ⟨rfl, l, rfl, H, Lib.hid (Step.refl _ _)⟩
  | some i =>
    rw [hd] at hf
    simp only [Option.map_some, ptrO] at hf
    have hi := h.ok.now _ (dget_mem hd)
    have hfi := h.file i hi
    have hfo := file_ok h.ok i
    obtain ⟨sp, cap, hv, hcap, hmax⟩ := hfi.bytes.slice
    have c0 : w.cell? ⟨l.β i, 0, none⟩ = some (l.ν i) := hfi.1.cell rfl
    rw [hv] at c0
    obtain ⟨N, hN⟩ : ∃ N, (S.file i).1.length = N := ⟨_, rfl⟩
    have hl4 := hfo.2.2
    rw [hN] at c0 hcap hl4
    obtain ⟨Q, hQ⟩ : ∃ Q, (N + 63) / 64 = Q := ⟨_, rfl⟩
    have hQI : ((N : Int) + 63) / 64 = (Q : Nat) := by omega
    by_cases hrange : sector < 0 ∨ (Q : Int) ≤ sector
    · have e : rot S n.data.toList sector x = (S, 7) := by
        unfold rot
        rw [hd]
        simp only
        rw [if_pos (by rw [hN]; omega)]
      rw [e]
      have H := Lib.hid h
      have HQ := Lib.hid hQ
      clear h hfi hfo hv hN hQ e
      rcases hrange with hlt | hge
      · have h1 : decide (sector < 0) = true := by simpa using hlt
        go_enter Try.func23, Try.ntmps23
        go_wp2_with fail
        refine hf.mono ?_
        rintro e w1 ⟨rfl, rfl⟩
        clear hf
        go_wp2_with fail
        go_ret
        exact ⟨rfl, l, rfl, H, Lib.hid (Step.refl _ _)⟩
      · have h1 : decide (sector < 0) = false := by simp; omega
        have h2 : decide ((Q : Int) ≤ sector) = true := by simpa using hge
        go_enter Try.func23, Try.ntmps23
        go_wp2_with fail
        refine hf.mono ?_
        rintro e w1 ⟨rfl, rfl⟩
        clear hf
        go_wp2_with fail
        go_ret
        exact ⟨rfl, l, rfl, H, Lib.hid (Step.refl _ _)⟩
    · obtain ⟨k, rfl⟩ : ∃ k : Nat, sector = (k : Int) := ⟨sector.toNat, by omega⟩
      have hkQ : k < Q := by omega
      have e : rot S n.data.toList (k : Int) x = (S.put i (rotB (S.file i).1 k x, (S.file i).2), 0) := by
        unfold rot
        rw [hd]
        simp only
        rw [if_neg (by rw [hN]; omega), Int.toNat_natCast]
      rw [e]
      obtain ⟨o, ho⟩ : ∃ o, k * 64 = o := ⟨_, rfl⟩
      have hoN : o < N := by omega
      have hko : (k : Int) * 64 = (o : Int) := by omega
      obtain ⟨R, hR⟩ : ∃ R, N - o = R := ⟨_, rfl⟩
      obtain ⟨m, hm⟩ : ∃ m, min 64 R = m := ⟨_, rfl⟩
      have hmn : ∀ ats ty W, (minN ats ty (.int .i64 64) (.int .i64 (R : Nat))).run Try.prog W = .ok (.int .i64 (m : Nat)) W := fun ats ty W => by
        rw [run_minN ats ty 64 (R : Nat) W, show (min (64 : Int) (R : Nat)) = (m : Nat) by omega]
      have hsp : ∃ g, sp = some ⟨g, 0, none⟩ := by
        have h0 := hfi.2.1
        rw [hv, hN] at h0
        obtain ⟨g, _, he, _⟩ := own_open h0 (by omega)
        simp at he
        exact ⟨g, he.1⟩
      obtain ⟨g, rfl⟩ := hsp
      have hsl := fun W => run_tail_u8 W g N cap o hoN hcap hmax
      rw [hR] at hsl
      have hown : w.ownsRow 0 5 1 (.slice (some ⟨g, 0, none⟩) N cap) N (u8s (S.file i).1) := by
        have h0 := hfi.2.1
        rw [hv, hN] at h0
        exact h0
      have h1 : decide ((k : Int) < 0) = false := by simp
      have h2 : decide ((Q : Int) ≤ (k : Int)) = false := by simp; omega
      have h3 : decide (Q ≤ k) = false := by simp; omega
      have hmR : m ≤ R ∧ m ≤ 64 ∧ (m = 64 ∨ N ≤ o + m) := by omega
      have H := Lib.hid h
      have HO := Lib.hid ho
      have HV := Lib.hid hv
      have HN := Lib.hid hN
      have HX := Lib.hid hfo.1
      have HOWN := Lib.hid hown
      have HFI := Lib.hid hfi
      have HR := Lib.hid hR
      have hRN : o + R = N := by omega
      clear h hfi hfo hv hN hQ e hrange hown ho hm hR
      go_enter Try.func23, Try.ntmps23
      go_wp2_with fail
      refine hf.mono ?_
      rintro e w1 ⟨rfl, rfl⟩
      clear hf
      go_wp2_with fail
      clear c0 hsl hmn h1 h2 h3
      go_loopw [43] (fun v wr => ∃ j : Nat, j ≤ m ∧ v = .int .i64 j ∧ wr.ownsRow 0 5 1 (.slice (some ⟨g, 0, none⟩) N cap) N (u8s (rotI (S.file i).1 k x j)) ∧ w1.grownBy wr (some g)) (fun v _ => m - (intOf v).toNat)
      case atStart => exact ⟨0, by omega, rfl, by rw [rotI_0]; exact HOWN.out, grownBy_refl _ _⟩
      case round =>
        obtain ⟨j, hj, rfl, ho, hg⟩ := hrel
        have HO2 := Lib.hid ho
        have HG := Lib.hid hg
        clear ho hg
        by_cases hlt : j < m
        · have hc := own_cell HO2.out (i := o + j) (by omega)
          have hfz := HO2.out.frozenAt (o + j)
          have hgd := rotI_get (S.file i).1 k x j
          rw [HO.out] at hgd
          rw [hgd] at hc
          have hy := getD_lt HX.out (o + j)
          have hst := rotI_step (S.file i).1 k x j (by rw [HN.out, HO.out]; omega)
          rw [HO.out] at hst
          obtain ⟨y, hyy⟩ : ∃ y, (S.file i).1.getD (o + j) 0 = y := ⟨_, rfl⟩
          rw [hyy] at hc hy hst
          obtain ⟨z, hz⟩ : ∃ z, (x + j) % 256 = z := ⟨_, rfl⟩
          have hzI : ((x : Int) + (j : Int)) % 256 = (z : Nat) := by omega
          have hz8 : z < 256 := by omega
          rw [hz] at hst
          obtain ⟨q, hq⟩ : ∃ q, y ^^^ z = q := ⟨_, rfl⟩
          have hxe : bits BinOp.xor IntKind.u8 (y : Int) (z : Int) = (q : Int) := by rw [u8_xor_nat y z hy hz8, hq]
          rw [hq] at hst
          have HST := Lib.hid hst
          clear hst hyy hz hq hgd
          go_wp2_with fail
          refine ⟨⟨j + 1, by omega, by go_num, ?_, HG.out.trans ((Gr.refl wr g).setCell (o + j) _)⟩, by simp [intOf]; omega⟩
          have hs := HO2.out.stored (o + j) (.int .u8 (q : Nat))
          rw [u8s_set, HST.out] at hs
          exact hs.1
        · obtain rfl : j = m := by omega
          go_wp2_with fail
          go_ret
          have hend := rotI_end (S.file i).1 k x j (by rw [HN.out, HO.out]; exact hmR.2.2) hmR.2.1
          have ho := HO2.out
          rw [hend] at ho
          have hgb : (l.ν i).ownBlock = some g := by rw [HV.out]; rfl
          have hgβ : l.β i ≠ g := fun e => blk_own_ne HFI.out.1 HFI.out.2.1 (by decide) (by rw [hgb, e])
          have hfo := file_ok H.out.ok i
          have hfin := H.out.putFile hi (v' := l.ν i) (x := (rotB (S.file i).1 k x, (S.file i).2)) (V := wr) HG.out.os HG.out.tape HG.out.output HG.out.size
            (fun b hb h1 h2 => HG.out.block b hb (fun e => h2 (by rw [hgb]; exact e.symm))) ?_ (fun b hb => .inl hb) (put_ok H.out.ok ⟨rotB_lt hfo.1 k x, by show _ ≤ (rotB _ k x).length; rw [rotB_length]; exact hfo.2.1, by show (rotB _ k x).length ≤ _; rw [rotB_length]; exact hfo.2.2⟩)
          · refine ⟨rfl, { l with ν := upd l.ν i (l.ν i) }, rfl, Lib.hid hfin.1, Lib.hid ?_⟩
            have e : (S.put i (rotB (S.file i).1 k x, (S.file i).2)).F.length = S.F.length := by simp [St.put]
            rw [e]
            exact hfin.2
          · refine ⟨HFI.out.1.grown HG.out (by simpa using hgβ), ?_, rotB_lt hfo.1 k x⟩
            show wr.ownsRow 0 _ 1 (l.ν i) (rotB (S.file i).1 k x).length _
            rw [rotB_length, HV.out, HN.out]
            exact ho
end Go.Proofs.Ytdjcblboibbefaa.S13
