/- ParityRepair, walked. -/
import Derived.Test.YtacgaflhcmflbaaParM
set_option linter.unusedSimpArgs false
set_option linter.unusedVariables false
set_option maxRecDepth 100000
namespace Go.Proofs.Ytacgaflhcmflbaa
open Go.RowKit Pl
attribute [local go_sem ↓] conv_eq
theorem repl_getB (n i : Nat) : (List.replicate n false).getD i false = false := by
  rw [List.getD_eq_getElem?_getD, List.getElem?_replicate]
  split <;> rfl
theorem set_getB {n k i : Nat} (h : ((List.replicate n false).set k true).getD i false = true) : i = k := by
  apply Classical.byContradiction
  intro hne
  rw [List.getD_eq_getElem?_getD, List.getElem?_set_ne (Ne.symm hne), ← List.getD_eq_getElem?_getD, repl_getB] at h
  cases h
theorem mxL_set {L : List (List Nat)} {B : List Nat} {k m : Nat} (h : mxL L ≤ m) (hB : B.length ≤ m) : mxL (L.set k B) ≤ m := mxL_le fun C hC => by
  rcases List.mem_or_eq_of_mem_set hC with h1 | rfl
  · obtain ⟨i, hi, rfl⟩ := List.getElem_of_mem h1
    have := mxL_at hi
    rw [List.getD_eq_getElem?_getD, List.getElem?_eq_getElem hi] at this
    exact Nat.le_trans this h
  · exact hB
set_option maxHeartbeats 16000000 in
theorem parityRepair_any (a : Option Addr) (len cap : Nat) (R : List (List Nat)) (q : Int) (vj : Value) (J : List Nat) (w : World) (hr : IsRows w (.slice a len cap) R) (hj : IsBytes w vj J) :
    Calls Try.prog 3 #[.slice a len cap, .int .i64 q, vj] w fun e w' => e = .returned (.bool true) ∧ Below w.heap.size w w' := by
  have HR := Lib.hid hr
  have HJ := Lib.hid hj
  have HLT := Lib.hid (cutP_lt hr.lt)
  clear hr hj
  go_enter Try.func3, Try.ntmps3
  go_wp2_with fail
  refine (begun_any w).mono ?_
  rintro e w1 ⟨rfl, hb1⟩
  have HB1 := Lib.hid hb1
  clear hb1
  go_wp2_with fail
  refine (cut_any _ R w1 (HR.out.below HB1.out)).mono ?_
  rintro e w2 ⟨v2, rfl, ho2, hb2⟩
  obtain ⟨L, hL⟩ : ∃ L, cutP R = L := ⟨_, rfl⟩
  have hL5 := cutP_length R
  have hmx := cutP_mx R
  rw [hL] at ho2 hL5 hmx HLT
  obtain ⟨n, hn⟩ : ∃ n, L.length = n := ⟨_, rfl⟩
  obtain ⟨sp, cp, rfl, hcp, hcm⟩ := ho2.slice
  unfold maxLen at hcm
  rw [hn] at ho2 hL5 hcp ⊢
  have HO2 := Lib.hid ho2
  have HN := Lib.hid hn
  have HMX := Lib.hid hmx
  have HB2 := Lib.hid (HB1.out.trans (hb2.mono HB1.out.size))
  have hs12 : w1.heap.size ≤ w2.heap.size := hb2.size
  clear hL ho2 hn hmx hb2 HR HB1
  go_wp2_with fail
  refine (make_any _ L w2 HO2.out.isRows (by rw [HN.out]; omega) (by have := HMX.out; omega)).mono ?_
  intro e w4 h4
  obtain ⟨sp4, cp4, rfl, ho4, hb4⟩ := h4.s
  obtain ⟨np, hnp⟩ : ∃ np, (parP L).length = np := ⟨_, rfl⟩
  have hI4 := isBytes_own (parP_lt HLT.out) ho4
  rw [hnp] at ho4 hI4 ⊢
  have HNP := Lib.hid hnp
  have HI4 := Lib.hid hI4
  have HO4 := Lib.hid (HO2.out.below hb4)
  have HB4 := Lib.hid (HB2.out.trans (hb4.mono HB2.out.size))
  have hs14 : w1.heap.size ≤ w4.heap.size := Nat.le_trans hs12 hb4.size
  clear h4 ho4 hI4 hb4 hnp HO2 HB2
  go_wp2_with fail
  have HF : Hid (∀ W, From w4 W → Calls Try.prog 12 #[.slice sp n cp] W (MadeC (str (parP L)) np W)) := Lib.hid fun W h => (refParity_any _ L W (HO4.out.isRows.below h) (by rw [HN.out]; omega) (by have := HMX.out; omega)).mono fun e w' h' => h'.c (parP_lt HLT.out) HNP.out
  have hc4 : ∀ w'', From w4 w'' → (convS (.slice sp4 np cp4)).run Try.prog w'' = .ok (.string (str (parP L))) w'' := fun w'' hb => run_conv (HI4.out.below hb)
  have hse : ((str (parP L)).toList == (str (parP L)).toList) = true := by simp
  generalize str (parP L) = ST at *
  refine wp_region_noPanic ?_
  have hHeld : From w4 w4.drew := (Below.refl _ _).drew
  refine wpAnyH_start (n := 6) (l := #[false, false, false, false, false, false]) (S := From w4) (by kernel_rfl) (hHeld) (by kernel_rfl) (by kernel_rfl) ?_
  refine wpAnyH_take (i := 0) (oi := _) (v := ?_) rfl (by kernel_rfl) (by kernel_rfl) (by kernel_rfl) (fun _ _ _ h => h) (Or.inl ⟨by rfl, ?_⟩) (by assumption) ?_
  rotate_left
  · intro wq hSw; go_simp; try with_reducible rfl
  simp only [Act.put, List.setIfInBounds_toArray, List.set_cons_zero, List.set_cons_succ, List.getElem_toArray, List.getElem_cons_zero, List.getElem_cons_succ]
  refine wpAnyH_take (i := 1) (oi := _) (v := ?_) rfl (by kernel_rfl) (by kernel_rfl) (by kernel_rfl) (fun _ _ _ h => h) (Or.inl ⟨by rfl, ?_⟩) (by assumption) ?_
  rotate_left
  · intro wq hSw; go_simp; try with_reducible rfl
  simp only [Act.put, List.setIfInBounds_toArray, List.set_cons_zero, List.set_cons_succ, List.getElem_toArray, List.getElem_cons_zero, List.getElem_cons_succ]
  refine wpAnyH_take (i := 2) (oi := _) (v := ?_) rfl (by kernel_rfl) (by kernel_rfl) (by kernel_rfl) (fun _ _ _ h => h) (Or.inl ⟨by rfl, ?_⟩) (by assumption) ?_
  rotate_left
  · intro wq hSw; go_simp; try with_reducible rfl
  simp only [Act.put, List.setIfInBounds_toArray, List.set_cons_zero, List.set_cons_succ, List.getElem_toArray, List.getElem_cons_zero, List.getElem_cons_succ]
  refine wpAnyH_ready (rs := [3]) (by kernel_rfl) (by simp) ?_
  refine AllReadyH.cons (o := _) rfl (fun K hK => ?_) AllReadyH.nil
  simp only [List.getElem_toArray, List.getElem_cons_zero, List.getElem_cons_succ]
  go_simp
  refine (HF.out _ hHeld).mono ?_; rintro e w5 ⟨sp5, cap5, rfl, h5, hb5⟩; have hE5 := Lib.hid (From.trans hHeld hb5.out)
  refine hK.out _ _ (hE5.out) (fun _ => ?_)
  clear hK K hHeld
  refine wpAnyH_mono (S' := From w5) (fun w' h => From.trans hE5.out h) ?_
  have hHeld := From.refl w5
  have hc5 := h5.out
  clear h5 hb5 HF
  simp only [Act.put, List.setIfInBounds_toArray, List.set_cons_zero, List.set_cons_succ, List.getElem_toArray, List.getElem_cons_zero, List.getElem_cons_succ]
  refine wpAnyH_take (i := 4) (oi := _) (v := ?_) rfl (by kernel_rfl) (by kernel_rfl) (by kernel_rfl) (fun _ _ _ h => h) (Or.inl ⟨by rfl, ?_⟩) (by assumption) ?_
  rotate_left
  · intro wq hSw; go_simp; try with_reducible rfl
  simp only [Act.put, List.setIfInBounds_toArray, List.set_cons_zero, List.set_cons_succ, List.getElem_toArray, List.getElem_cons_zero, List.getElem_cons_succ]
  clear hc5
  refine wpAnyH_take (i := 5) (oi := _) (v := ?_) rfl (by kernel_rfl) (by kernel_rfl) (by kernel_rfl) (fun _ _ _ h => h) (Or.inl ⟨by rfl, ?_⟩) (by assumption) ?_
  rotate_left
  · intro wq hSw; go_simp; try with_reducible rfl
  simp only [Act.put, List.setIfInBounds_toArray, List.set_cons_zero, List.set_cons_succ, List.getElem_toArray, List.getElem_cons_zero, List.getElem_cons_succ]
  refine wpAnyH_done (by kernel_rfl) ?_ _
  refine NoPanic.normal ?_
  have HO5 := Lib.hid (HO4.out.below hE5.out)
  have HI5 := Lib.hid (HI4.out.below hE5.out)
  have HB5 := Lib.hid (HB4.out.trans (hE5.out.mono HB4.out.size))
  have hs15 : w1.heap.size ≤ w5.heap.size := Nat.le_trans hs14 hE5.out.size
  have hs5 : w.heap.size ≤ w5.heap.size := HB5.out.size
  obtain ⟨i0, hi, hz0, hz1, hz2⟩ := infoB_parts infoB
  have Hi := Lib.hid hi
  have Hz0 := Lib.hid hz0
  have Hz1 := Lib.hid hz1
  have Hz2 := Lib.hid hz2
  clear hi hz0 hz1 hz2 hHeld hc4 hE5 HO4 HI4 HB4
  go_wp2_with (first | (at_make; refine wpList_make_full _ rfl _ _ 28 rfl w5.heap.size 4 i0 (.bool false) 1 Try.underlying28 Hi.out Hz0.out Hz1.out .i64 .i64 _ _ n rfl rfl rfl rfl (by rw [Hz2.out]; omega) (by unfold maxLen; omega) (Nat.le_refl _) ?_; intro w6 hown hgr; have HD6 := Lib.hid (made_blk (by rw [made_bls] at hown; exact hown)); have HB56 : Hid (Below w5.heap.size w5 w6) := Lib.hid ((Below.refl _ _).grown hgr (Nat.le_refl _) (by simp)); have HO6 := Lib.hid (HO5.out.below HB56.out); have hs56 := HB56.out.size; clear hown hgr) | (at_builtin; refine wpList_append_rows rfl _ (.tmp 31) rfl w5.heap.size (.slice none 0 0) [] rfl (ownRows_nil _ _) _ L rfl ((elemRows_own HO6.out).up hs15) (by rw [HN.out]; simp; omega) hs56 ?_; intro v7 w7 hO7 hg7; obtain ⟨spx, cpx, rfl, _, _⟩ := hO7.slice; have HX7 : Hid (OwnRows w5.heap.size w7 (.slice spx n cpx) L) := Lib.hid (by rw [List.nil_append, HN.out] at hO7; exact hO7); have HB67 : Hid (Below w6.heap.size w6 w7) := Lib.hid ((Below.refl _ _).grown hg7 (Nat.le_refl _) (by intro q hq; simp [Value.ownBlock] at hq)); rw [List.nil_append, HN.out]; clear hO7 hg7))
  obtain ⟨T, hT⟩ : ∃ T, w5.heap.size = T := ⟨_, rfl⟩
  have hD6 := HD6.out
  rw [hT] at hD6 ⊢
  have hT6 : T < w6.heap.size := hD6.lt
  have hD7 : Blk w7 T 4 (bls (List.replicate n false)) := hD6.below HB67.out hT6
  have hT7 : T < w7.heap.size := hD7.lt
  have HD7 := Lib.hid hD7
  have HT := Lib.hid hT
  have HB57 : Hid (Below w5.heap.size w5 w7) := Lib.hid (HB56.out.trans (HB67.out.mono HB56.out.size))
  have hs57 := HB57.out.size
  clear hT hD6 hD7 HD6 HO6 HB56 HB67
  go_loopw [9, 12] (fun v x wr => ∃ k : Nat, k ≤ n ∧ x = .int .i64 k ∧ wr.ownsRow w7.heap.size 3 1 v k (i64s ((lens L).take k)) ∧ Below w7.heap.size w7 wr) (fun _ x _ => n - (intOf x).toNat)
  case atStart => exact ⟨0, by omega, rfl, own_nilI _ _, Below.refl _ _⟩
  case round =>
    obtain ⟨k, hk, rfl, ho, hb⟩ := hrel
    obtain ⟨sp9, cp9, rfl, _, _⟩ := ownsRow_slice ho
    have HO := Lib.hid ho
    have HB := Lib.hid hb
    have hsz := hb.size
    clear ho hb
    have HB5r := Lib.hid (HB57.out.trans (HB.out.mono hs57))
    have HOr := Lib.hid (HO5.out.below HB5r.out)
    by_cases hlt : k < n
    · obtain ⟨b, off, a', c', hsp, _, hc, _⟩ := HOr.out.isRows.at (i := k) (by rw [HN.out]; exact hlt)
      obtain rfl := hsp
      have hst := lens_take L k (by rw [HN.out]; exact hlt)
      generalize (L.getD k []).length = z at *
      have HST := Lib.hid hst
      clear hst HOr
      go_wp2_with (at_builtin; refine wpList_append_int rfl (.tmp 39) (.tmp 45) rfl w7.heap.size (.slice sp9 k cp9) k _ _ rfl HO.out _ rfl rfl (by omega) hsz ?_; intro v8 w8 hown hgr; obtain ⟨sp8, cp8, rfl, _, _⟩ := ownsRow_slice hown)
      go_roundw
      case rel =>
        refine ⟨k + 1, by omega, by go_num, ?_, bel_append HB.out _ HO.out hgr hsz⟩
        rw [HST.out]
        exact hown
      case measure => simp [intOf]; omega
    · obtain rfl : k = n := by omega
      have hti : (lens L).take k = lens L := by rw [List.take_of_length_le (by rw [lens_length, HN.out]; omega)]
      have ho := HO.out
      rw [hti] at ho
      have HSr := Lib.hid ho
      have HXr := Lib.hid (HX7.out.below HB.out)
      have HDr := Lib.hid (HD7.out.below HB.out hT7)
      have HIr := Lib.hid (HI5.out.below HB5r.out)
      clear ho hti HO HX7 HD7 HB
      by_cases hin : 0 ≤ q ∧ q < (k : Int)
      · obtain ⟨i, rfl⟩ := Int.eq_ofNat_of_zero_le hin.1
        have hik : i < k := by have := hin.2; omega
        have hd1 : decide ((i : Int) ≥ 0) = true := decide_eq_true (by omega)
        have hd2 : decide ((i : Int) < (k : Int)) = true := decide_eq_true (by omega)
        obtain ⟨gx, cx, hsx, hgx1, hgx2, hgx3, hgxc⟩ := HXr.out.open (by rw [HN.out]; omega)
        rw [HN.out] at hsx hgx3
        simp at hsx
        obtain ⟨rfl, rfl⟩ := hsx
        have hgT : gx ≠ T := by
          intro e
          obtain ⟨Vs, o1, _⟩ := HXr.out
          rw [HN.out] at o1
          obtain ⟨cs, hcs⟩ := own_blk o1
          rw [e] at hcs
          exact absurd (blk_ty hcs HDr.out) (by decide)
        have c1 := HDr.out.cell (bls_get _ i (by simp; exact hik))
        have f1 := HDr.out.frozen i
        have hD8 := HDr.out.set i (.bool true)
        rw [bls_set] at hD8
        have hX8 := HXr.out.setOther HDr.out (by decide) (by decide) (by rw [HT.out]; exact Nat.le_refl _) i (.bool true)
        obtain ⟨W7, hW7⟩ : ∃ W7, wr.setCell ⟨T, i, none⟩ (.bool true) = W7 := ⟨_, rfl⟩
        have hb57 : Below w5.heap.size w5 W7 := by rw [← hW7]; exact HB5r.out.setCell (p := ⟨T, i, none⟩) (by rw [HT.out]; exact Nat.le_refl _) _
        have hS7 := ownsRow_setCell_other HSr.out (w := wr) (a := ⟨T, i, none⟩) (fun e => by have := (HSr.out.lt T e).1; omega) (.bool true)
        rw [hW7] at hD8 hX8 hS7
        obtain ⟨_, _, hsx, _, _, _, hgxc7⟩ := hX8.open (by rw [HN.out]; omega)
        rw [HN.out] at hsx
        simp at hsx
        obtain ⟨rfl, rfl⟩ := hsx
        obtain ⟨u7, c7, hu7, f7⟩ := hgxc7 i (by rw [HN.out]; exact hik)
        have HD8 := Lib.hid hD8
        have HX8 := Lib.hid hX8
        have HS7 := Lib.hid hS7
        have HB57r := Lib.hid hb57
        have HW7 := Lib.hid hW7
        have HC7 := Lib.hid c7
        have HF7 := Lib.hid f7
        clear hD8 hX8 hS7 hb57 hgxc hgxc7 HXr HDr HSr hin hW7 c7 f7 HIr HB5r HOr
        go_wp2_with fail
        rw [HW7.out]
        refine (short_old vj J 50 w W7 HJ.out (by omega)).mono ?_
        rintro e w' ⟨vs, rfl, hs, rfl⟩
        obtain ⟨sj, cj, rfl, _, _⟩ := hs.slice
        have HSJ := Lib.hid hs
        have hJ50 : (J.take 50).length ≤ 50 := by rw [List.length_take]; omega
        have c7 := HC7.out
        have f7 := HF7.out
        clear hs
        obtain ⟨J5, hJ5⟩ : ∃ J5, J.take 50 = J5 := ⟨_, rfl⟩
        rw [hJ5] at HSJ hJ50 ⊢
        clear hJ5
        obtain ⟨W8, hW8⟩ : ∃ W8, W7.setCell ⟨gx, i, none⟩ (.slice sj J5.length cj) = W8 := ⟨_, rfl⟩
        have hb58 : Below w5.heap.size w5 W8 := by rw [← hW8]; exact HB57r.out.setCell (p := ⟨gx, i, none⟩) hgx1 _
        have HXT : Hid (OwnRows w5.heap.size W8 (.slice (some ⟨gx, 0, none⟩) k cpx) (L.set i J5)) := Lib.hid (by
          rw [← hW8]
          exact HX8.out.put (by rw [HN.out]; exact hik) (elem_up (elem_old HSJ.out (HB5.out.trans (HB57r.out.mono HB5.out.size))) hs5))
        have HDT : Hid (IsBls W8 (.slice (some ⟨T, 0, none⟩) k k) ((List.replicate k false).set i true)) := Lib.hid (by
          rw [← hW8]
          exact isBls_blk (HD8.out.grown ((Gr.refl W7 gx).setCell i _) (by simp; exact Ne.symm hgT)) (by simp) (by unfold maxLen; omega))
        have HST : Hid (IsInts W8 (.slice sp9 k cp9) (lens L)) := Lib.hid (by
          rw [← hW8]
          obtain ⟨Vs, o1, _⟩ := HX8.out
          rw [HN.out] at o1
          obtain ⟨cs2, hcs2⟩ := own_blk o1
          exact isInts_own (by rw [lens_length, HN.out]) (own_gr HS7.out ((Gr.refl W7 gx).setCell i _) hcs2 (by decide)))
        have HPT := Lib.hid (HI5.out.below hb58)
        have HLT2 := Lib.hid (HO5.out.below hb58)
        have HBT := Lib.hid (HB5.out.trans (hb58.mono HB5.out.size))
        have HSX := Lib.hid hb58.size
        have HLX : Hid ((L.set i J5).length = L.length) := Lib.hid (by simp)
        have hmX : mxL (L.set i J5) ≤ 300 := mxL_set HMX.out (by omega)
        have HLD : Hid (((List.replicate k false).set i true).length = L.length) := Lib.hid (by simp [HN.out])
        have H1D : Hid (∀ x y, ((List.replicate k false).set i true).getD x false = true → ((List.replicate k false).set i true).getD y false = true → x = y) := Lib.hid (fun x y hx hy => (set_getB hx).trans (set_getB hy).symm)
        have h0X : ∀ x, ((List.replicate k false).set i true).getD x false = false → (L.set i J5).getD x [] = L.getD x [] := fun x hx => by
          have hne : i ≠ x := fun e => by
            subst e
            rw [List.getD_eq_getElem?_getD, List.getElem?_set_self (by simp; exact hik)] at hx
            cases hx
          rw [List.getD_eq_getElem?_getD, List.getElem?_set_ne hne, ← List.getD_eq_getElem?_getD]
        have H0X := Lib.hid h0X
        clear h0X hb58 HX8 HD8 HS7 HB57r HC7 HF7 HW7 HSJ HJ HI5 HO5 HB5
        go_wp2_with fail
        try rw [hW8]
        clear hW8 c7 f7
        have hrep := repair_any (.slice (some ⟨gx, 0, none⟩) k cpx) (.slice sp4 np cp4) (.slice sp9 k cp9) (.slice (some ⟨T, 0, none⟩) k k) (L.set i J5) (parP L) (lens L) ((List.replicate k false).set i true) W8 HXT.out.isRows ((elemRows_own HXT.out).up HSX.out) HPT.out HST.out HDT.out (by rw [HLX.out, HN.out]; omega) (by have := hmX; omega) (by rw [lens_length, HN.out]; omega) (by rw [parP_length]; have := HMX.out; omega)
        have HREP := Lib.hid hrep
        clear hrep
        refine HREP.out.mono ?_
        intro e w9 h9
        obtain ⟨hb9, G, rfl, hr9⟩ := repair_same (X := (L.set i J5)) (L0 := L) HLX.out HLD.out H1D.out H0X.out h9
        rw [HN.out] at hr9 ⊢
        have hsm := same_any _ _ L L w9 hr9 (HLT2.out.below hb9).isRows
        have HSM := Lib.hid hsm
        have HB9 := Lib.hid (HBT.out.trans (hb9.mono HBT.out.size))
        clear hr9 hsm h9 HREP hb9
        go_wp2_with fail
        refine HSM.out.mono ?_
        rintro e w10 ⟨rfl, m, rfl⟩
        rw [decide_eq_true (rfl : L = L)]
        go_wp2_with fail
        go_ret
        exact ⟨rfl, bel_drewN HB9.out _⟩
      · have hd : decide (q ≥ 0) = false ∨ (decide (q ≥ 0) = true ∧ decide (q < (k : Int)) = false) := by
          by_cases h : q ≥ 0
          · exact .inr ⟨decide_eq_true h, decide_eq_false (by omega)⟩
          · exact .inl (decide_eq_false h)
        clear hin
        obtain ⟨W8, hW8⟩ : ∃ W8, wr = W8 := ⟨_, rfl⟩
        have HXT : Hid (OwnRows w5.heap.size W8 (.slice spx k cpx) L) := Lib.hid (by rw [← hW8]; exact HXr.out)
        have HDT : Hid (IsBls W8 (.slice (some ⟨T, 0, none⟩) k k) (List.replicate k false)) := Lib.hid (by rw [← hW8]; exact isBls_blk HDr.out (by simp) (by unfold maxLen; omega))
        have HST : Hid (IsInts W8 (.slice sp9 k cp9) (lens L)) := Lib.hid (by rw [← hW8]; exact isInts_own (by rw [lens_length, HN.out]) HSr.out)
        have HPT : Hid (IsBytes W8 (.slice sp4 np cp4) (parP L)) := Lib.hid (by rw [← hW8]; exact HIr.out)
        have HLT2 : Hid (OwnRows w1.heap.size W8 (.slice sp k cp) L) := Lib.hid (by rw [← hW8]; exact HOr.out)
        have HBT : Hid (Below w.heap.size w W8) := Lib.hid (by rw [← hW8]; exact HB5.out.trans (HB5r.out.mono HB5.out.size))
        have HSX : Hid (w5.heap.size ≤ W8.heap.size) := Lib.hid (by rw [← hW8]; exact HB5r.out.size)
        have HLX : Hid (L.length = L.length) := Lib.hid rfl
        have hmX : mxL L ≤ 300 := HMX.out
        have HLD : Hid ((List.replicate k false).length = L.length) := Lib.hid (by simp [HN.out])
        have H1D : Hid (∀ x y, (List.replicate k false).getD x false = true → (List.replicate k false).getD y false = true → x = y) := Lib.hid (fun x y hx _ => by rw [repl_getB] at hx; cases hx)
        have H0X : Hid (∀ x, (List.replicate k false).getD x false = false → L.getD x [] = L.getD x []) := Lib.hid (fun _ _ => rfl)
        clear HXr HDr HSr HIr HOr HB5r HB5 HO5 HI5 HJ
        rcases hd with hd1 | ⟨hd1, hd2⟩
        · go_wp2_with fail
          try rw [hW8]
          clear hW8
          have hrep := repair_any (.slice spx k cpx) (.slice sp4 np cp4) (.slice sp9 k cp9) (.slice (some ⟨T, 0, none⟩) k k) L (parP L) (lens L) (List.replicate k false) W8 HXT.out.isRows ((elemRows_own HXT.out).up HSX.out) HPT.out HST.out HDT.out (by rw [HN.out]; omega) (by have := hmX; omega) (by rw [lens_length, HN.out]; omega) (by rw [parP_length]; have := HMX.out; omega)
          have HREP := Lib.hid hrep
          clear hrep
          refine HREP.out.mono ?_
          intro e w9 h9
          obtain ⟨hb9, G, rfl, hr9⟩ := repair_same (X := L) (L0 := L) rfl HLD.out H1D.out (fun _ _ => rfl) h9
          rw [HN.out] at hr9 ⊢
          have hsm := same_any _ _ L L w9 hr9 (HLT2.out.below hb9).isRows
          have HSM := Lib.hid hsm
          have HB9 := Lib.hid (HBT.out.trans (hb9.mono HBT.out.size))
          clear hr9 hsm h9 HREP hb9
          go_wp2_with fail
          refine HSM.out.mono ?_
          rintro e w10 ⟨rfl, m, rfl⟩
          rw [decide_eq_true (rfl : L = L)]
          go_wp2_with fail
          go_ret
          exact ⟨rfl, bel_drewN HB9.out _⟩
        · go_wp2_with fail
          try rw [hW8]
          clear hW8
          have hrep := repair_any (.slice spx k cpx) (.slice sp4 np cp4) (.slice sp9 k cp9) (.slice (some ⟨T, 0, none⟩) k k) L (parP L) (lens L) (List.replicate k false) W8 HXT.out.isRows ((elemRows_own HXT.out).up HSX.out) HPT.out HST.out HDT.out (by rw [HN.out]; omega) (by have := hmX; omega) (by rw [lens_length, HN.out]; omega) (by rw [parP_length]; have := HMX.out; omega)
          have HREP := Lib.hid hrep
          clear hrep
          refine HREP.out.mono ?_
          intro e w9 h9
          obtain ⟨hb9, G, rfl, hr9⟩ := repair_same (X := L) (L0 := L) rfl HLD.out H1D.out (fun _ _ => rfl) h9
          rw [HN.out] at hr9 ⊢
          have hsm := same_any _ _ L L w9 hr9 (HLT2.out.below hb9).isRows
          have HSM := Lib.hid hsm
          have HB9 := Lib.hid (HBT.out.trans (hb9.mono HBT.out.size))
          clear hr9 hsm h9 HREP hb9
          go_wp2_with fail
          refine HSM.out.mono ?_
          rintro e w10 ⟨rfl, m, rfl⟩
          rw [decide_eq_true (rfl : L = L)]
          go_wp2_with fail
          go_ret
          exact ⟨rfl, bel_drewN HB9.out _⟩
theorem parityRepair_walk (a : Option Addr) (len cap : Nat) (R : List (List Nat)) (q : Int) (a' : Option Addr) (len' cap' : Nat) (z' : List Int) (w : World) (hr : IsRows w (.slice a len cap) R) (hq : (Lit.int .i64 q).wf = true) (hj : IsRow .u8 w a' len' cap' z') :
    Calls Try.prog 3 #[.slice a len cap, .int .i64 q, .slice a' len' cap'] w fun e w' => e = .returned (.bool true) ∧ Below w.heap.size w w' := parityRepair_any a len cap R q _ _ w hr (isBytes_row hj).1
end Go.Proofs.Ytacgaflhcmflbaa
