/- CrcCut, walked. -/
import Derived.Test.YtoajgeemkmfboaaDoorCrcJ
set_option linter.unusedSimpArgs false
set_option linter.unusedVariables false
namespace Go.Proofs.YtoajgeemkmfboaaDoor
open Go.RowKit Pl

namespace Pl
theorem getFour_take (B : List Nat) (n : Nat) (hn : 4 ≤ n) : getFour (B.take n) = getFour B := by
  unfold getFour
  by_cases h : B.length < 4
  · rw [if_pos h, if_pos (by rw [List.length_take]; omega)]
  · rw [if_neg h, if_neg (by rw [List.length_take]; omega)]
    simp [List.getD_eq_getElem?_getD, List.getElem?_take, show 0 < n by omega, show 1 < n by omega, show 2 < n by omega, show 3 < n by omega]
/-- a scan of a seal that is cut -/
theorem pscan_part (P Q : List Nat) (hP : P.length < 4294967296) (c : Nat) (hc : c < 12 + P.length) : pscan ((pseal P ++ Q).take c) = ([], 0, true) := by
  have hX : (pseal P ++ Q).length = 12 + P.length + Q.length := by rw [List.length_append, pseal_length]
  by_cases h : c < 12
  · exact pscan_short (by rw [List.length_take]; omega)
  · have hok : endOk ((pseal P ++ Q).take c) = true := by
      have h0 := seal_endOk P Q
      unfold endOk at h0 ⊢
      have e1 : (((pseal P ++ Q).take c).drop 4) = ((pseal P ++ Q).drop 4).take (c - 4) := List.drop_take
      have e2 : ((pseal P ++ Q).take c).take 4 = (pseal P ++ Q).take 4 := by rw [List.take_take, Nat.min_eq_left (by omega)]
      rw [e1, e2, getFour_take _ _ (by omega)]
      simp only [Bool.and_eq_true, decide_eq_true_eq] at h0 ⊢
      exact ⟨by rw [List.length_take]; omega, h0.2⟩
    refine pscan_cut hok ?_
    rw [endAt_ok hok, getFour_take _ _ (by omega), seal_getFour P Q hP, List.length_take]
    omega
theorem parts_split (R : List (List Nat)) (i n : Nat) (h : i ≤ n) : parts R n = parts R i ++ ((R.drop i).take (n - i)).map (·.take 60) := by
  unfold parts
  have e : n = i + (n - i) := by omega
  rw [e, List.take_add, List.map_append, Nat.add_sub_cancel_left]
theorem parts_next (R : List (List Nat)) (i n : Nat) (h : i < n) (hi : i < R.length) : ∃ M, parts R n = parts R i ++ ((R.getD i []).take 60 :: M) := by
  refine ⟨((R.drop (i + 1)).take (n - i - 1)).map (·.take 60), ?_⟩
  rw [parts_split R i n (by omega), List.drop_eq_getElem_cons hi, show n - i = (n - i - 1) + 1 by omega, List.take_succ_cons, List.map_cons]
  simp [List.getD, hi]
theorem cut_scan {R : List (List Nat)} (hR : ∀ B ∈ R, ∀ x ∈ B, x < 256) {n i C : Nat} (hin : i ≤ n) (h1 : (pcat (parts R i)).length ≤ C) (hC : C ≤ (pcat (parts R n)).length)
    (h2 : (i = n ∨ R.length ≤ i) ∨ (i < n ∧ i < R.length ∧ C < (pcat (parts R i)).length + (12 + ((R.getD i []).take 60).length))) :
    pscan ((pcat (parts R n)).take C) = (parts R i, (pcat (parts R i)).length, true) := by
  have hcat := fun T => pscan_cat (parts R i) T (parts_lt hR i) (fun P hP => by have := parts_short P hP; omega)
  rcases h2 with h | ⟨h, h3, h4⟩
  · have e : parts R n = parts R i := by
      rcases h with h | h
      · rw [h]
      · unfold parts; rw [List.take_of_length_le (by omega), List.take_of_length_le h]
    rw [e] at hC ⊢
    have hCe : C = (pcat (parts R i)).length := by omega
    rw [List.take_of_length_le (by omega)]
    have := hcat []
    rw [List.append_nil, pscan_short (B := []) (by simp)] at this
    rw [this]; simp
  · obtain ⟨M, hM⟩ := parts_next R i n h h3
    rw [hM, pcat_append, List.take_append, List.take_of_length_le h1, hcat]
    rw [show pcat ((R.getD i []).take 60 :: M) = pseal ((R.getD i []).take 60) ++ pcat M from rfl, pscan_part _ _ (by rw [List.length_take]; omega) _ (by omega)]
    simp
end Pl

attribute [local go_sem ↓] sliceU8_eq
set_option maxHeartbeats 4000000 in
theorem crcCut_walk (a : Option Addr) (len cap : Nat) (R : List (List Nat)) (cut : Int) (w : World) (hT : Tab w) (hr : IsRows w (.slice a len cap) R) (hcut : (Lit.int .i64 cut).wf = true) :
    Calls Tryd.prog 6 #[.slice a len cap, .int .i64 cut] w fun e w' => e = .returned (.bool true) ∧ Below w.heap.size w w' := by
  obtain ⟨a0, cap0, hs, hcap, hmax⟩ := hr.slice
  simp at hs
  obtain ⟨rfl, rfl, rfl⟩ := hs
  unfold maxLen at hmax
  have HR := Lib.hid hr
  have HT := Lib.hid hT
  have HL := Lib.hid hr.lt
  clear hr hT hcut
  go_enter Tryd.func6, Tryd.ntmps6
  go_wp2_with fail
  refine (begun_any _ HT.out).mono ?_
  rintro e w1 ⟨rfl, hb1⟩
  have HR1 := Lib.hid (HR.out.below hb1)
  have HT1 := Lib.hid (HT.out.below hb1)
  have HB1 := Lib.hid hb1
  clear hb1 HR HT
  go_wp2_with fail
  refine (laid_any _ R 6 _ HR1.out (by omega)).mono ?_
  intro e w2 h2
  obtain ⟨sp2, cp2, rfl, ho2, hb2⟩ := h2.s
  have HI2 := Lib.hid (isBytes_own (pcat_lt (parts_lt HL.out 6)) ho2)
  have HR2 := Lib.hid (HR1.out.below hb2)
  have HT2 := Lib.hid (HT1.out.below hb2)
  have HB2 := Lib.hid (HB1.out.trans (hb2.mono HB1.out.size))
  have hlen := plaid_len R 6
  clear h2 ho2 hb2 HR1 HT1 HB1
  obtain ⟨n, hn⟩ : ∃ n, n = (pcat (parts R 6)).length := ⟨_, rfl⟩
  rw [← hn] at HI2 hlen ⊢
  have HN := Lib.hid hn
  clear hn
  by_cases hneg : cut < 0
  · go_wp2_with fail
    go_ret
    exact ⟨rfl, HB2.out⟩
  · by_cases hbig : (n : Int) < cut
    · go_wp2_with fail
      go_ret
      exact ⟨rfl, HB2.out⟩
    · obtain ⟨C, rfl⟩ := Int.eq_ofNat_of_zero_le (show 0 ≤ cut by omega)
      have hCn : C ≤ n := by omega
      have hneg' : decide ((C : Int) < 0) = false := by simp
      have hbig' : decide ((n : Int) < (C : Int)) = false := by simp; omega
      have hI2' : IsBytes w2 (.slice sp2 (pcat (parts R 6)).length cp2) (pcat (parts R 6)) := by rw [← HN.out]; exact HI2.out
      obtain ⟨a5, c5, hs5, hI5⟩ := run_upto hI2' C (by rw [← HN.out]; exact hCn)
      rw [← HN.out] at hs5
      have hl5 : ((pcat (parts R 6)).take C).length = C := by rw [List.length_take, ← HN.out]; omega
      have HI5 := Lib.hid hI5
      have hcs := fun i => cut_scan (n := 6) (i := i) (C := C) HL.out
      rw [← HN.out] at hcs
      have HCS := Lib.hid hcs
      have hsc := scan_any _ _ _ HT2.out (hl5.symm ▸ hI5 : IsBytes w2 (.slice a5 ((pcat (parts R 6)).take C).length c5) _) (by rw [hl5]; omega)
      rw [hl5] at hsc
      unfold ScanPost at hsc
      obtain ⟨F, q, o, hP⟩ : ∃ F q o, pscan ((pcat (parts R 6)).take C) = (F, q, o) := ⟨_, _, _, rfl⟩
      rw [hP] at hsc
      have HSC := Lib.hid hsc
      have HP := Lib.hid hP
      have HNG := Lib.hid hneg
      have HBG := Lib.hid hbig
      clear hI2' hI5 hl5 hsc hP hcs hneg hbig
      go_wp2_with fail
      refine HSC.out.mono ?_
      rintro e w6 ⟨v6, rfl, hr6, hb6⟩
      obtain ⟨a6, c6, rfl, _, _⟩ := hr6.slice
      have HR6 := Lib.hid (HR2.out.below hb6)
      have HB6 := Lib.hid (HB2.out.trans (hb6.mono HB2.out.size))
      clear hr6 hb6 HR2 HB2
      go_wp2_with fail
      go_loop [10, 11] (fun k v => ∃ i : Nat, i ≤ 6 ∧ i ≤ R.length ∧ k = .int .i64 i ∧ v = .int .i64 ((pcat (parts R i)).length : Nat) ∧ (pcat (parts R i)).length ≤ C) (fun k _ => 6 - (intOf k).toNat)
      case atStart => exact ⟨0, by omega, by omega, rfl, rfl, by simp [parts, pcat]⟩
      case round =>
        obtain ⟨i, hi6, hiR, rfl, rfl, hiC⟩ := hrel
        have hend := HCS.out i hi6 hiC hCn
        by_cases hlt : i < 6 ∧ i < R.length
        · obtain ⟨hlt, hlt2⟩ := hlt
          obtain ⟨b, off, a', c', rfl, hbl, hc, hI⟩ := HR6.out.at (i := i) hlt2
          have HI := Lib.hid hI
          have hst := parts_step R i hlt2
          obtain ⟨P, hPe⟩ : ∃ P, P = (R.getD i []).take 60 := ⟨_, rfl⟩
          have hPl : P.length ≤ 60 := by rw [hPe, List.length_take]; omega
          rw [← hPe] at hst hend
          have hnx : (pcat (parts R (i + 1))).length = (pcat (parts R i)).length + (12 + P.length) := by rw [hst, pcat_snoc, List.length_append, pseal_length]
          have HNX := Lib.hid hnx
          have HPE := Lib.hid hPe
          generalize (pcat (parts R i)).length = p at *
          have HEND := Lib.hid hend
          have hx1 : (i : Int) < R.length := by omega
          have hx2 : (i : Int) < 6 := by omega
          clear hI hst hend hPe hnx
          generalize R.getD i [] = X0 at *
          go_wp2_with fail
          refine (short_any _ _ 60 _ HI.out (by omega)).mono ?_
          rintro e w7 ⟨v7, rfl, hi7, rfl⟩
          rw [← HPE.out] at hi7
          obtain ⟨a7, c7, rfl, _, _⟩ := hi7.slice
          clear hi7 HI
          by_cases hbr : C < p + (12 + P.length)
          · have hfin := HEND.out (.inr ⟨hlt, hlt2, hbr⟩)
            rw [HP.out] at hfin
            simp only [Prod.mk.injEq] at hfin
            obtain ⟨rfl, rfl, rfl⟩ := hfin
            have hFl : (parts R i).length = i := by rw [parts_length]; omega
            have hbr' : (C : Int) < (q : Int) + (12 + (P.length : Int)) := by omega
            rw [hFl]
            go_wp2_with fail
            go_ret
            exact ⟨rfl, HB6.out⟩
          · have hbr' : ¬ (C : Int) < (p : Int) + (12 + (P.length : Int)) := by omega
            go_wp2_with fail
            go_round
            case rel => exact ⟨i + 1, by omega, by omega, by go_num, by rw [HNX.out]; go_num, by rw [HNX.out]; omega⟩
            case measure => simp [intOf]; omega
        · have hfin := hend (.inl (by omega))
          rw [HP.out] at hfin
          simp only [Prod.mk.injEq] at hfin
          obtain ⟨rfl, rfl, rfl⟩ := hfin
          have hFl : (parts R i).length = i := by rw [parts_length]; omega
          have hways : (R.length : Int) ≤ i ∨ ((i : Int) < R.length ∧ (6 : Int) ≤ i) := by omega
          rw [hFl]
          generalize (pcat (parts R i)).length = p at *
          clear hend hlt
          rcases hways with h | ⟨h, h2⟩
          all_goals
            go_wp2_with fail
            go_ret
            exact ⟨rfl, HB6.out⟩
end Go.Proofs.YtoajgeemkmfboaaDoor
