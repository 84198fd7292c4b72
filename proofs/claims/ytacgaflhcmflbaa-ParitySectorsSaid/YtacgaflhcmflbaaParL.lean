/- ParityNone, ParityLost, walked. -/
import Derived.Test.YtacgaflhcmflbaaParK
set_option linter.unusedSimpArgs false
set_option linter.unusedVariables false
set_option maxRecDepth 100000
namespace Go.Proofs.Ytacgaflhcmflbaa
open Go.RowKit Pl
set_option maxHeartbeats 4000000 in
theorem parityNone_walk (w : World) : Calls Try.prog 5 #[] w fun e w' => e = .returned (.bool true) ∧ Below w.heap.size w w' := by
  have hrep := repair_any (.slice none 0 0) (.slice none 0 0) (.slice none 0 0) (.slice none 0 0) [] (parP []) (lens []) [] w (isRows_nil w) (.inl ⟨rfl, rfl⟩) (isBytes_nil w) (isInts_nil w) (isBls_nil w) (by simp) (by decide) (by simp [lens]) (by decide)
  go_enter Try.func5, Try.ntmps5
  go_wp2_with fail
  refine hrep.mono ?_
  intro e w1 h1
  obtain ⟨hb1, G, rfl, hr1⟩ := repair_same (X := []) (L0 := []) rfl rfl (fun i j hi => by simp at hi) (fun i _ => rfl) h1
  rw [show ([] : List (List Nat)).length = 0 from rfl]
  have HB1 := Lib.hid hb1
  clear hrep h1 hr1 hb1
  have hsec := sectors_any (.slice none 0 0) (.slice none 0 0) (.slice none 0 0) (.slice none 0 0) [] [] [] [] w1 (isRows_nil w1) (isBytes_nil w1) (isInts_nil w1) ⟨none, 0, [], rfl, Nat.le_refl _, by unfold maxLen; omega, rfl, by simp, by simp⟩ (by simp) (by decide) (by simp) (by simp)
  go_wp2_with fail
  refine hsec.mono ?_
  rintro e w2 ⟨hb2, ⟨h, _⟩ | ⟨_, rfl⟩⟩
  · exact absurd h.1 (by simp)
  have HB2 := Lib.hid (HB1.out.trans (hb2.mono HB1.out.size))
  clear hsec hb2
  go_wp2_with fail
  refine (begun_any w2).mono ?_
  rintro e w3 ⟨rfl, hb3⟩
  have HB3 := Lib.hid (HB2.out.trans (hb3.mono HB2.out.size))
  clear hb3
  have hmk := make_any (.slice none 0 0) [] w3 (isRows_nil w3) (by simp) (by decide)
  go_wp2_with fail
  refine hmk.mono ?_
  intro e w4 h4
  obtain ⟨sp4, cp4, rfl, ho4, hb4⟩ := h4.s
  rw [show (parP []).length = 0 from rfl]
  have HB4 := Lib.hid (HB3.out.trans (hb4.mono HB3.out.size))
  clear hmk h4 ho4 hb4
  go_wp2_with fail
  go_ret
  exact ⟨rfl, HB4.out⟩
theorem lens_take (L : List (List Nat)) (i : Nat) (h : i < L.length) : (lens L).take (i + 1) = (lens L).take i ++ [(((L.getD i []).length : Nat) : Int)] := by
  rw [List.take_add_one, List.getElem?_eq_getElem (by rw [lens_length]; exact h)]
  simp [lens, List.getD, h]
set_option maxHeartbeats 16000000 in
theorem parityLost_walk (a : Option Addr) (len cap : Nat) (R : List (List Nat)) (p q : Int) (w : World) (hr : IsRows w (.slice a len cap) R) (hp : (Lit.int .i64 p).wf = true) (hq : (Lit.int .i64 q).wf = true) :
    Calls Try.prog 6 #[.slice a len cap, .int .i64 p, .int .i64 q] w fun e w' => e = .returned (.bool true) ∧ Below w.heap.size w w' := by
  have HR := Lib.hid hr
  have HLT := Lib.hid (cutP_lt hr.lt)
  clear hr hp hq
  go_enter Try.func6, Try.ntmps6
  go_wp2_with fail
  refine (begun_any w).mono ?_
  rintro e w1 ⟨rfl, hb1⟩
  have HB1 := Lib.hid hb1
  clear hb1
  go_wp2_with fail
  refine (cut_any _ R w1 (HR.out.below HB1.out)).mono ?_
  rintro e w2 ⟨v2, rfl, ho2, hb2⟩
  obtain ⟨L, hL⟩ : ∃ L, cutP R = L := ⟨_, rfl⟩
  have hL5 := cutP_length R
  have hmx := cutP_mx R
  rw [hL] at ho2 hL5 hmx HLT
  obtain ⟨n, hn⟩ : ∃ n, L.length = n := ⟨_, rfl⟩
  obtain ⟨sp, cp, rfl, hcp, hcm⟩ := ho2.slice
  unfold maxLen at hcm
  rw [hn] at ho2 hL5 hcp ⊢
  have HO2 := Lib.hid ho2
  have HN := Lib.hid hn
  have HMX := Lib.hid hmx
  have HB2 := Lib.hid (HB1.out.trans (hb2.mono HB1.out.size))
  have hs12 : w1.heap.size ≤ w2.heap.size := hb2.size
  clear hL ho2 hn hmx hb2 HR HB1
  by_cases h2 : n < 2
  · have h2' : (n : Int) < 2 := by omega
    go_wp2_with fail
    go_quiet (fail)
    go_wp2_with fail
    go_ret
    exact ⟨rfl, bel_drewN HB2.out _⟩
  have h2' : decide ((n : Int) < 2) = false := decide_eq_false (by omega)
  by_cases hp0 : p < 0
  · have hp1 : decide (p < 0) = true := decide_eq_true hp0
    go_wp2_with fail
    go_quiet (fail)
    go_wp2_with fail
    go_ret
    exact ⟨rfl, bel_drewN HB2.out _⟩
  have hp1 : decide (p < 0) = false := decide_eq_false hp0
  by_cases hq0 : q < 0
  · have hq1 : decide (q < 0) = true := decide_eq_true hq0
    go_wp2_with fail
    go_quiet (fail)
    go_wp2_with fail
    go_ret
    exact ⟨rfl, bel_drewN HB2.out _⟩
  have hq1 : decide (q < 0) = false := decide_eq_false hq0
  obtain ⟨A, rfl⟩ := Int.eq_ofNat_of_zero_le (show 0 ≤ p by omega)
  obtain ⟨B, rfl⟩ := Int.eq_ofNat_of_zero_le (show 0 ≤ q by omega)
  obtain ⟨i, hi⟩ : ∃ i, A % n = i := ⟨_, rfl⟩
  obtain ⟨j, hj⟩ : ∃ j, B % n = j := ⟨_, rfl⟩
  have hin : i < n := by rw [← hi]; exact Nat.mod_lt _ (by omega)
  have hjn : j < n := by rw [← hj]; exact Nat.mod_lt _ (by omega)
  have ei : (A : Int) % (n : Int) = (i : Int) := by rw [← hi]; rfl
  have ej : (B : Int) % (n : Int) = (j : Int) := by rw [← hj]; rfl
  have hn0 : ¬ ((n : Int) = 0) := by omega
  have hn0' : ((n : Int) == 0) = false := by rw [beq_eq_false_iff_ne]; omega
  clear hp0 hq0 hi hj
  by_cases hij : i = j
  · have hb : ((i : Int) == (j : Int)) = true := beq_t (by omega)
    go_wp2_with fail
    go_quiet (fail)
    go_wp2_with fail
    go_ret
    exact ⟨rfl, bel_drewN HB2.out _⟩
  have hb : ((i : Int) == (j : Int)) = false := beq_f (by omega)
  have HIJ := Lib.hid hij
  clear hij
  go_wp2_with fail
  go_quiet (fail)
  obtain ⟨w3, hw3⟩ : ∃ w3, w2.drewN nq = w3 := ⟨_, rfl⟩
  have hb23 : Below w2.heap.size w2 w3 := by rw [← hw3]; exact bel_drewN (Below.refl _ _) _
  have HO3 := Lib.hid (HO2.out.below hb23)
  have HB3 := Lib.hid (HB2.out.trans (hb23.mono HB2.out.size))
  have hs13 : w1.heap.size ≤ w3.heap.size := Nat.le_trans hs12 hb23.size
  rw [hw3]
  clear hw3 hb23 HO2 HB2 hb
  go_wp2_with fail
  refine (make_any _ L w3 HO3.out.isRows (by rw [HN.out]; omega) (by have := HMX.out; omega)).mono ?_
  intro e w4 h4
  obtain ⟨sp4, cp4, rfl, ho4, hb4⟩ := h4.s
  obtain ⟨np, hnp⟩ : ∃ np, (parP L).length = np := ⟨_, rfl⟩
  have hI4 := isBytes_own (parP_lt HLT.out) ho4
  rw [hnp] at ho4 hI4 ⊢
  have HNP := Lib.hid hnp
  have HI4 := Lib.hid hI4
  have HO4 := Lib.hid (HO3.out.below hb4)
  have HB4 := Lib.hid (HB3.out.trans (hb4.mono HB3.out.size))
  have hs14 : w1.heap.size ≤ w4.heap.size := Nat.le_trans hs13 hb4.size
  obtain ⟨i0, hi, hz0, hz1, hz2⟩ := infoB_parts infoB
  have Hi := Lib.hid hi
  have Hz0 := Lib.hid hz0
  have Hz1 := Lib.hid hz1
  have Hz2 := Lib.hid hz2
  clear h4 ho4 hI4 hnp hb4 HO3 HB3 hi hz0 hz1 hz2
  go_wp2_with (at_make; refine wpList_make_full _ rfl _ _ 28 rfl w4.heap.size 4 i0 (.bool false) 1 Try.underlying28 Hi.out Hz0.out Hz1.out .i64 .i64 _ _ n rfl rfl rfl rfl (by rw [Hz2.out]; omega) (by unfold maxLen; omega) (Nat.le_refl _) ?_; intro w5 hown hgr)
  have hD5 : Blk w5 w4.heap.size 4 (bls (List.replicate n false)) := by
    rw [made_bls] at hown
    exact made_blk hown
  have hb45 : Below w4.heap.size w4 w5 := (Below.refl _ _).grown hgr (Nat.le_refl _) (by simp)
  obtain ⟨T, hT⟩ : ∃ T, w4.heap.size = T := ⟨_, rfl⟩
  rw [hT] at hD5 ⊢
  have hTl : T < w5.heap.size := hD5.lt
  have HT := Lib.hid hT
  have HD5 := Lib.hid hD5
  have HB45 := Lib.hid hb45
  clear hown hgr hD5 hb45 hT
  go_loopw [9, 11] (fun v x wr => ∃ k : Nat, k ≤ n ∧ x = .int .i64 k ∧ wr.ownsRow w5.heap.size 3 1 v k (i64s ((lens L).take k)) ∧ Below w5.heap.size w5 wr) (fun _ x _ => n - (intOf x).toNat)
  case atStart => exact ⟨0, by omega, rfl, own_nilI _ _, Below.refl _ _⟩
  case round =>
    obtain ⟨k, hk, rfl, ho, hb⟩ := hrel
    obtain ⟨sp6, cp6, rfl, _, _⟩ := ownsRow_slice ho
    have HO := Lib.hid ho
    have HB := Lib.hid hb
    have hsz := hb.size
    clear ho hb
    have HOr := Lib.hid ((HO4.out.below HB45.out).below HB.out)
    by_cases hlt : k < n
    · obtain ⟨b, off, a', c', hsp, _, hc, _⟩ := HOr.out.isRows.at (i := k) (by rw [HN.out]; exact hlt)
      obtain rfl := hsp
      have hst := lens_take L k (by rw [HN.out]; exact hlt)
      generalize (L.getD k []).length = z at *
      have HST := Lib.hid hst
      clear hst HOr
      go_wp2_with (at_builtin; refine wpList_append_int rfl (.tmp 52) (.tmp 58) rfl w5.heap.size (.slice sp6 k cp6) k _ _ rfl HO.out _ rfl rfl (by omega) hsz ?_; intro v4 w6 hown hgr; obtain ⟨sp7, cp7, rfl, _, _⟩ := ownsRow_slice hown)
      go_roundw
      case rel =>
        refine ⟨k + 1, by omega, by go_num, ?_, bel_append HB.out _ HO.out hgr hsz⟩
        rw [HST.out]
        exact hown
      case measure => simp [intOf]; omega
    · obtain rfl : k = n := by omega
      have hti : (lens L).take k = lens L := by rw [List.take_of_length_le (by rw [lens_length, HN.out]; omega)]
      have ho := HO.out
      rw [hti] at ho
      have hD6 := HD5.out.below HB.out hTl
      have c1 := hD6.cell (bls_get _ i (by simp; exact hin))
      have f1 := hD6.frozen i
      have hD7 := hD6.set i (.bool true)
      rw [bls_set] at hD7
      have c2 := hD7.cell (bls_get _ j (by simp; exact hjn))
      have f2 := hD7.frozen j
      have hD8 := hD7.set j (.bool true)
      rw [bls_set] at hD8
      have hO8 := ownsRow_setCell_other (ownsRow_setCell_other ho (w := wr) (a := ⟨T, i, none⟩) (fun e => by have := (ho.lt T e).1; omega) (.bool true)) (a := ⟨T, j, none⟩) (fun e => by have := (ho.lt T e).1; omega) (.bool true)
      have hb48 : Below w4.heap.size w4 ((wr.setCell ⟨T, i, none⟩ (.bool true)).setCell ⟨T, j, none⟩ (.bool true)) := (((HB45.out.trans (HB.out.mono HB45.out.size))).setCell (p := ⟨T, i, none⟩) (by rw [HT.out]; exact Nat.le_refl _) _).setCell (p := ⟨T, j, none⟩) (by rw [HT.out]; exact Nat.le_refl _) _
      obtain ⟨W8, hW8⟩ : ∃ W8, (wr.setCell ⟨T, i, none⟩ (.bool true)).setCell ⟨T, j, none⟩ (.bool true) = W8 := ⟨_, rfl⟩
      have hrep := repair_any (.slice sp k cp) (.slice sp4 np cp4) (.slice sp6 k cp6) (.slice (some ⟨T, 0, none⟩) k k) L (parP L) (lens L) (((List.replicate k false).set i true).set j true) W8 (by rw [← hW8]; exact (HO4.out.below hb48).isRows) (by rw [← hW8]; exact ((elemRows_own HO4.out).below hb48).up (Nat.le_trans hs14 hb48.size)) (by rw [← hW8]; exact HI4.out.below hb48) (by rw [← hW8]; exact isInts_own (by rw [lens_length, HN.out]) hO8) (by rw [← hW8]; exact isBls_blk hD8 (by simp) (by unfold maxLen; omega)) (by rw [HN.out]; omega) (by have := HMX.out; omega) (by rw [lens_length, HN.out]; omega) (by rw [parP_length]; have := HMX.out; omega)
      have HREP := Lib.hid hrep
      have hbW : Below w.heap.size w W8 := by rw [← hW8]; exact HB4.out.trans (hb48.mono HB4.out.size)
      have HBW := Lib.hid hbW
      have gi : (((List.replicate k false).set i true).set j true).getD i false = true := by
        rw [List.getD_eq_getElem?_getD, List.getElem?_set_ne (Ne.symm HIJ.out), List.getElem?_set_self (by simp; exact hin)]; rfl
      have gj : (((List.replicate k false).set i true).set j true).getD j false = true := by
        rw [List.getD_eq_getElem?_getD, List.getElem?_set_self (by simp; exact hjn)]; rfl
      have GI := Lib.hid gi
      have GJ := Lib.hid gj
      clear hD6 hD7 hD8 hO8 hb48 hrep hbW ho hti gi gj HOr HB HO HD5 HB45
      go_wp2_with fail
      refine HREP.out.mono ?_
      rintro e w9 (⟨_, _, hno, _⟩ | ⟨_, _, k', z, ⟨_, _, hone⟩, _⟩ | ⟨_, rfl, hb9⟩)
      · rw [hno i] at GI; cases GI.out
      · exfalso
        have h1 : i = k' := Classical.byContradiction fun h => by have := hone i h; rw [GI.out] at this; cases this
        have h2 : j = k' := Classical.byContradiction fun h => by have := hone j h; rw [GJ.out] at this; cases this
        exact HIJ.out (h1.trans h2.symm)
      · have HB9 := Lib.hid (HBW.out.trans (hb9.mono HBW.out.size))
        clear hb9 HREP
        go_wp2_with fail
        go_ret
        exact ⟨rfl, HB9.out⟩
end Go.Proofs.Ytacgaflhcmflbaa
