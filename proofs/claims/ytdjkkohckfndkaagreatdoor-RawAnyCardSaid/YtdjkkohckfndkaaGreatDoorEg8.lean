/- Texts put together: CrcE. -/
import Derived.Test.YtdjkkohckfndkaaGreatDoorEg2
import Derived.Test.YtdjkkohckfndkaaGreatDoorEg7
set_option linter.unusedSimpArgs false
set_option linter.unusedVariables false
set_option maxRecDepth 100000
namespace Go.Proofs.YtdjkkohckfndkaaGreatDoor.Pl
end Go.Proofs.YtdjkkohckfndkaaGreatDoor.Pl
namespace Go.Proofs.YtdjkkohckfndkaaGreatDoor.S3.Pl
end Go.Proofs.YtdjkkohckfndkaaGreatDoor.S3.Pl
namespace Go.Proofs.YtdjkkohckfndkaaGreatDoor.S3
open Go.RowKit _root_.Go.Proofs.YtdjkkohckfndkaaGreatDoor.Pl _root_.Go.Proofs.YtdjkkohckfndkaaGreatDoor.S3.Pl

namespace Pl
theorem take_lt {B : List Nat} (h : ∀ x ∈ B, x < 256) (n : Nat) : ∀ x ∈ B.take n, x < 256 := fun x hx => h x (List.mem_of_mem_take hx)
theorem drop_lt {B : List Nat} (h : ∀ x ∈ B, x < 256) (n : Nat) : ∀ x ∈ B.drop n, x < 256 := fun x hx => h x (List.mem_of_mem_drop hx)
theorem head_eq {R : List Nat} (hx : ∀ x ∈ R, x < 256) (h12 : 12 ≤ R.length) : four (csum (R.take 4)) = (R.drop 4).take 4 ↔ endOk R = true := by
  rw [four_eq (drop_lt hx 4) (by rw [List.length_drop]; omega) _ (csum_lt (take_lt hx 4))]
  unfold endOk
  simp [h12]
  omega
theorem body_eq {R : List Nat} (hx : ∀ x ∈ R, x < 256) (h2 : endOk R = true) (h3 : endAt R ≤ R.length) : four (csum ((R.drop 12).take (endAt R - 12))) = (R.drop 8).take 4 ↔ bodyOk (R.take (endAt R)) = true := by
  have h12 : 12 ≤ endAt R := by rw [endAt_ok h2]; omega
  have e1 : (R.drop 8).take 4 = ((R.take (endAt R)).drop 8).take 4 := by
    rw [List.drop_take, List.take_take, Nat.min_eq_left (by omega)]
  have e2 : (R.take (endAt R)).drop 12 = (R.drop 12).take (endAt R - 12) := List.drop_take
  rw [e1, four_eq (drop_lt (take_lt hx _) 8) (by rw [List.length_drop, List.length_take]; omega) _ (csum_lt (take_lt (drop_lt hx 12) _))]
  unfold bodyOk
  rw [e2]
  simp
  omega
end Pl
theorem refFour_c (m : Nat) (W : World) : Calls Tryz.prog 79 #[.int .u32 (m : Nat)] W (MadeC (str (four m)) 4 W) :=
  (refFour_nat _ m W rfl).mono fun _ _ h => h.c (four_lt _) rfl
attribute [local go_sem ↓] sliceU8_eq conv_eq
set_option maxHeartbeats 4000000 in
set_option maxRecDepth 100000 in
theorem refScan_any (v : Value) (B : List Nat) (w : World) (hv : IsBytes w v B) (hl : B.length ≤ 4000000000) : Calls Tryz.prog 50 #[v] w (ScanPost B w) := by
  obtain ⟨a, cap, rfl, hcap, hmax⟩ := hv.slice
  unfold maxLen at hmax
  have HV := Lib.hid hv
  clear hv
  go_enter Tryz.func50, Tryz.ntmps50
  go_wp2_with fail
  go_loopw [5, 6] (fun v x wr => ∃ n : Nat, n ≤ B.length ∧ x = .int .i64 n ∧ ∃ F : List (List Nat), F.length ≤ n ∧ ScanTo B n F ∧ OwnRows w.heap.size wr v F ∧ Below w.heap.size w wr) (fun _ x _ => B.length - (intOf x).toNat)
  case atStart => exact ⟨0, by omega, rfl, [], by simp, ScanTo.start B, ownRows_nil _ _, Below.refl _ _⟩
  case round =>
    obtain ⟨n, hn, rfl, F, hF, hs, ho, hb⟩ := hrel
    have HS := Lib.hid hs
    have HO := Lib.hid ho
    have HB := Lib.hid hb
    have hsz := hb.size
    obtain ⟨sp, cp, rfl, hcp, hcm⟩ := ho.slice
    have HVr := Lib.hid (HV.out.below hb)
    have hlr : (B.drop n).length = B.length - n := List.length_drop ..
    have HLR := Lib.hid hlr
    have HX := Lib.hid (drop_lt HV.out.1 n)
    clear hs ho hb hlr
    by_cases h1 : (B.length : Int) - n < 12
    · have HP := Lib.hid (pscan_short (B := B.drop n) (by rw [HLR.out]; omega))
      go_wp2_with fail
      go_ret3
      exact scan_ret HS.out HP.out HO.out.isRows HB.out
    · -- the head
      obtain ⟨ah, ch, hsh, hIh⟩ := run_between HVr.out n 12 (by omega) ((n : Int) + 12) rfl
      have hlh : ((B.drop n).take 12).length = 12 := by rw [List.length_take, HLR.out]; omega
      have hIh' : IsBytes wr (.slice ah ((B.drop n).take 12).length ch) ((B.drop n).take 12) := by rw [hlh]; exact hIh
      obtain ⟨a4, c4, hs4, hI4⟩ := run_upto hIh' 4 (by omega)
      obtain ⟨a5, c5, hs5, hI5⟩ := run_between hIh' 4 4 (by omega) 8 rfl
      rw [hlh] at hs4 hs5
      have e4 : ((B.drop n).take 12).take 4 = (B.drop n).take 4 := by rw [List.take_take, Nat.min_eq_left (by omega)]
      have e5 : (((B.drop n).take 12).drop 4).take 4 = ((B.drop n).drop 4).take 4 := by rw [List.drop_take, List.take_take, Nat.min_eq_left (by omega)]
      rw [e4] at hI4
      rw [e5] at hI5
      have hs4' : ∀ W, (sliceU8 (.slice ah 12 ch) none (some (.int .i64 4)) none).run Tryz.prog W = .ok (.slice a4 4 c4) W := hs4
      have hs5' : ∀ W, (sliceU8 (.slice ah 12 ch) (some (.int .i64 4)) (some (.int .i64 8)) none).run Tryz.prog W = .ok (.slice a5 4 c5) W := hs5
      have HI4 := Lib.hid hI4
      have hc5 := fun (W : World) (h : From wr W) => run_conv (hI5.below h)
      have hq4 := fun (W : World) (h : From wr W) => refSum_any _ _ W (HI4.out.below h)
      have HQ4 := Lib.hid hq4
      have hne := str_head (four_lt _) (take_lt (drop_lt HX.out 4) 4) (head_eq HX.out (by rw [HLR.out]; omega))
      have hf := refFour_c (csum ((B.drop n).take 4))
      have HIH := Lib.hid hIh
      obtain ⟨o, ho⟩ : ∃ o, o = endOk (B.drop n) := ⟨_, rfl⟩
      rw [← ho] at hne
      have HEO := Lib.hid ho.symm
      generalize csum ((B.drop n).take 4) = C4 at *
      generalize str (four C4) = SF at *
      generalize str (((B.drop n).drop 4).take 4) = SH at *
      have HF := Lib.hid hf
      clear hf hIh hIh' hI4 hI5 hs4 hs5 e4 e5 hlh hq4 HI4 ho
      go_wp2_with fail
      refine wp_region_noPanic ?_
      have hHeld : From wr wr.drew := (Below.refl _ _).drew
      refine wpAnyH_start (n := 9) (l := #[false, false, false, false, false, false, false, false, false]) (S := From wr) (by kernel_rfl) (hHeld) (by kernel_rfl) (by kernel_rfl) ?_
      refine wpAnyH_take (i := 0) (oi := _) (v := ?_) rfl (by kernel_rfl) (by kernel_rfl) (by kernel_rfl) (fun _ _ _ h => h) (Or.inl ⟨by rfl, ?_⟩) (by assumption) ?_
      rotate_left
      · intro wq hSw; go_simp; try with_reducible rfl
      simp only [Act.put, List.setIfInBounds_toArray, List.set_cons_zero, List.set_cons_succ, List.getElem_toArray, List.getElem_cons_zero, List.getElem_cons_succ]
      refine wpAnyH_take (i := 1) (oi := _) (v := ?_) rfl (by kernel_rfl) (by kernel_rfl) (by kernel_rfl) (fun _ _ _ h => h) (Or.inl ⟨by rfl, ?_⟩) (by assumption) ?_
      rotate_left
      · intro wq hSw; go_simp; try with_reducible rfl
      simp only [Act.put, List.setIfInBounds_toArray, List.set_cons_zero, List.set_cons_succ, List.getElem_toArray, List.getElem_cons_zero, List.getElem_cons_succ]
      refine wpAnyH_take (i := 5) (oi := _) (v := ?_) rfl (by kernel_rfl) (by kernel_rfl) (by kernel_rfl) (fun _ _ _ h => h) (Or.inl ⟨by rfl, ?_⟩) (by assumption) ?_
      rotate_left
      · intro wq hSw; go_simp; try with_reducible rfl
      simp only [Act.put, List.setIfInBounds_toArray, List.set_cons_zero, List.set_cons_succ, List.getElem_toArray, List.getElem_cons_zero, List.getElem_cons_succ]
      refine wpAnyH_take (i := 6) (oi := _) (v := ?_) rfl (by kernel_rfl) (by kernel_rfl) (by kernel_rfl) (fun _ _ _ h => h) (Or.inl ⟨by rfl, ?_⟩) (by assumption) ?_
      rotate_left
      · intro wq hSw; go_simp; try with_reducible rfl
      simp only [Act.put, List.setIfInBounds_toArray, List.set_cons_zero, List.set_cons_succ, List.getElem_toArray, List.getElem_cons_zero, List.getElem_cons_succ]
      refine wpAnyH_take (i := 7) (oi := _) (v := ?_) rfl (by kernel_rfl) (by kernel_rfl) (by kernel_rfl) (fun _ _ _ h => h) (Or.inl ⟨by rfl, ?_⟩) (by assumption) ?_
      rotate_left
      · intro wq hSw; go_simp; try with_reducible rfl
      simp only [Act.put, List.setIfInBounds_toArray, List.set_cons_zero, List.set_cons_succ, List.getElem_toArray, List.getElem_cons_zero, List.getElem_cons_succ]
      clear hc5
      refine wpAnyH_ready (rs := [2]) (by kernel_rfl) (by simp) ?_
      refine AllReadyH.cons (o := _) rfl (fun K hK => ?_) AllReadyH.nil
      simp only [List.getElem_toArray, List.getElem_cons_zero, List.getElem_cons_succ]
      go_simp
      refine (HQ4.out _ hHeld).mono ?_; rintro e w5 ⟨rfl, rfl⟩; have hE5 := Lib.hid hHeld
      refine hK.out _ _ (hE5.out) (fun _ => ?_)
      clear hK K hHeld
      refine wpAnyH_mono (S' := From wr) (fun w' h => h) ?_
      have hHeld := hE5.out
      simp only [Act.put, List.setIfInBounds_toArray, List.set_cons_zero, List.set_cons_succ, List.getElem_toArray, List.getElem_cons_zero, List.getElem_cons_succ]
      refine wpAnyH_ready (rs := [3]) (by kernel_rfl) (by simp) ?_
      refine AllReadyH.cons (o := _) rfl (fun K hK => ?_) AllReadyH.nil
      simp only [List.getElem_toArray, List.getElem_cons_zero, List.getElem_cons_succ]
      go_simp
      refine (HF.out _).mono ?_; rintro e w6 ⟨sp6, cap6, rfl, h6, hb6⟩; have hE6 := Lib.hid (From.trans hHeld hb6.out)
      refine hK.out _ _ (hE6.out) (fun _ => ?_)
      clear hK K hHeld
      refine wpAnyH_mono (S' := From w6) (fun w' h => From.trans hE6.out h) ?_
      have hHeld := From.refl w6
      have hc6 := h6.out
      clear h6 hb6
      simp only [Act.put, List.setIfInBounds_toArray, List.set_cons_zero, List.set_cons_succ, List.getElem_toArray, List.getElem_cons_zero, List.getElem_cons_succ]
      refine wpAnyH_take (i := 4) (oi := _) (v := ?_) rfl (by kernel_rfl) (by kernel_rfl) (by kernel_rfl) (fun _ _ _ h => h) (Or.inl ⟨by rfl, ?_⟩) (by assumption) ?_
      rotate_left
      · intro wq hSw; go_simp; try with_reducible rfl
      simp only [Act.put, List.setIfInBounds_toArray, List.set_cons_zero, List.set_cons_succ, List.getElem_toArray, List.getElem_cons_zero, List.getElem_cons_succ]
      clear hc6
      refine wpAnyH_take (i := 8) (oi := _) (v := ?_) rfl (by kernel_rfl) (by kernel_rfl) (by kernel_rfl) (fun _ _ _ h => h) (Or.inl ⟨by rfl, ?_⟩) (by assumption) ?_
      rotate_left
      · intro wq hSw; go_simp; try with_reducible rfl
      simp only [Act.put, List.setIfInBounds_toArray, List.set_cons_zero, List.set_cons_succ, List.getElem_toArray, List.getElem_cons_zero, List.getElem_cons_succ]
      refine wpAnyH_done (by kernel_rfl) ?_ _
      refine NoPanic.normal ?_
      have HB6 := Lib.hid (HB.out.trans (Below.mono hE6.out hsz))
      have HO6 := Lib.hid (HO.out.below hE6.out)
      have HV6 := Lib.hid (HVr.out.below hE6.out)
      have HIH6 := Lib.hid (HIH.out.below hE6.out)
      have hsz6 := HB6.out.size
      clear HQ4 HF hE6 hE5 HO HB HVr HIH hHeld hsz
      cases o
      · have HP := Lib.hid (pscan_head (B := B.drop n) (by rw [HLR.out]; omega) HEO.out)
        go_wp2_with fail
        go_ret3
        exact scan_ret HS.out HP.out HO6.out.isRows HB6.out
      · have HEA := Lib.hid (endAt_ok HEO.out)
        have hfl := getFour_lt HX.out
        have hg4 : getFour (B.drop n) = ((B.drop n).take 12).getD 0 0 + 256 * ((B.drop n).take 12).getD 1 0 + 65536 * ((B.drop n).take 12).getD 2 0 + 16777216 * ((B.drop n).take 12).getD 3 0 := by
          unfold getFour
          rw [if_neg (by rw [HLR.out]; omega)]
          simp [List.getD_eq_getElem?_getD, List.getElem?_take]
        have hl12 : ((B.drop n).take 12).length = 12 := by rw [List.length_take, HLR.out]; omega
        have hIH6' : IsBytes w6 (.slice ah ((B.drop n).take 12).length ch) ((B.drop n).take 12) := by rw [hl12]; exact HIH6.out
        obtain ⟨b, off, ch', hsv, _, _, _, hc⟩ := hIH6'.cells (by omega)
        simp at hsv
        obtain ⟨rfl, rfl⟩ := hsv
        have hc0 : w6.cell? ⟨b, off, none⟩ = some (.int .u8 (((B.drop n).take 12).getD 0 0 : Nat)) := hc 0 (by omega)
        have hc1 := hc 1 (by omega)
        have hc2 := hc 2 (by omega)
        have hc3 := hc 3 (by omega)
        have hx0 := getD_lt (take_lt HX.out 12) 0
        have hx1 := getD_lt (take_lt HX.out 12) 1
        have hx2 := getD_lt (take_lt HX.out 12) 2
        have hx3 := getD_lt (take_lt HX.out 12) 3
        generalize ((B.drop n).take 12).getD 0 0 = x0 at *
        generalize ((B.drop n).take 12).getD 1 0 = x1 at *
        generalize ((B.drop n).take 12).getD 2 0 = x2 at *
        generalize ((B.drop n).take 12).getD 3 0 = x3 at *
        have HG4 := Lib.hid hg4
        clear hg4 hl12 hIH6' hc
        go_wp2_with fail
        go_quiet (fail)
        obtain ⟨G, hG⟩ : ∃ G, G = getFour (B.drop n) := ⟨_, rfl⟩
        have hGi : ((x0 : Int) + (x1 : Int) * 256 + (x2 : Int) * 65536 + (x3 : Int) * 16777216) = ((G : Nat) : Int) := by rw [hG, HG4.out]; omega
        rw [hGi]
        rw [← hG] at hfl
        have HEG : Hid (endAt (B.drop n) = 12 + G) := Lib.hid (by rw [HEA.out, hG])
        have HB7 : Hid (Below w.heap.size w (w6.drewN nq)) := Lib.hid (bel_drewN HB6.out nq)
        have HO7 : Hid (OwnRows w.heap.size (w6.drewN nq) (.slice sp F.length cp) F) := Lib.hid (HO6.out.below (bel_drewN (Below.refl _ _) nq))
        have HIH7 : Hid (IsBytes (w6.drewN nq) (.slice (some ⟨b, off, none⟩) 12 ch) ((B.drop n).take 12)) := Lib.hid (HIH6.out.drew nq)
        clear hG hGi HG4 HEA HB6 HO6 HIH6 HV6 hsz6 hc0 hc1 hc2 hc3 hx0 hx1 hx2 hx3 hs4' hs5'
        generalize w6.drewN nq = WA at *
        have hsz7 := HB7.out.size
        by_cases h3 : (B.length : Int) - n - 12 < (G : Int)
        · have HP := Lib.hid (pscan_cut HEO.out (by rw [HEG.out, HLR.out]; omega))
          go_wp2_with fail
          go_ret3
          exact scan_ret HS.out HP.out HO7.out.isRows HB7.out
        · have h3n : n + 12 + G ≤ B.length := by omega
          obtain ⟨ax, cx, hsx, hIx⟩ := run_between HV.out (n + 12) G h3n ((n : Int) + 12 + G) (by omega)
          have ec : ((n + 12 : Nat) : Int) = (n : Int) + 12 := by omega
          rw [ec] at hsx
          have eX : (B.drop (n + 12)).take G = ((B.drop n).drop 12).take (endAt (B.drop n) - 12) := by rw [List.drop_drop, HEG.out, Nat.add_sub_cancel_left]
          rw [eX] at hIx
          have hlX : (((B.drop n).drop 12).take (endAt (B.drop n) - 12)).length = G := by rw [← eX, List.length_take, List.length_drop]; omega
          have hl12 : ((B.drop n).take 12).length = 12 := by rw [List.length_take, HLR.out]; omega
          have hIH7' : IsBytes WA (.slice (some ⟨b, off, none⟩) ((B.drop n).take 12).length ch) ((B.drop n).take 12) := by rw [hl12]; exact HIH7.out
          obtain ⟨a8, c8, hs8, hI8⟩ := run_between hIH7' 8 4 (by omega) 12 rfl
          rw [hl12] at hs8
          have e8 : (((B.drop n).take 12).drop 8).take 4 = ((B.drop n).drop 8).take 4 := by rw [List.drop_take, List.take_take, Nat.min_eq_left (by omega)]
          rw [e8] at hI8
          have hs8' : ∀ W, (sliceU8 (.slice (some ⟨b, off, none⟩) 12 ch) (some (.int .i64 8)) (some (.int .i64 12)) none).run Tryz.prog W = .ok (.slice a8 4 c8) W := hs8
          have hc7 := fun (W : World) (h : From WA W) => run_conv (hI8.below h)
          have HIX := Lib.hid hIx
          have hq8 := fun (W : World) (h : From WA W) => refSum_any _ _ W (HIX.out.below (HB7.out.trans (Below.mono h hsz7)))
          have HQ8 := Lib.hid hq8
          have hle : endAt (B.drop n) ≤ (B.drop n).length := by rw [HEG.out, HLR.out]; omega
          have hne2 := str_head (four_lt _) (take_lt (drop_lt HX.out 8) 4) (body_eq HX.out HEO.out hle)
          have hf2 := refFour_c (csum (((B.drop n).drop 12).take (endAt (B.drop n) - 12)))
          obtain ⟨o, ho⟩ : ∃ o, o = bodyOk ((B.drop n).take (endAt (B.drop n))) := ⟨_, rfl⟩
          rw [← ho] at hne2
          have HBO := Lib.hid ho.symm
          have HLE := Lib.hid hle
          have HLX := Lib.hid hlX
          clear hIH7' hI8 hs8 e8 hl12 hIx hq8 eX hle ho hlX HIH7 h3 ec
          generalize csum (((B.drop n).drop 12).take (endAt (B.drop n) - 12)) = CX at *
          generalize str (four CX) = SF2 at *
          generalize str (((B.drop n).drop 8).take 4) = SH2 at *
          have HF2 := Lib.hid hf2
          clear hf2
          go_wp2_with fail
          refine wp_region_noPanic ?_
          have hHeld : From WA WA.drew := (Below.refl _ _).drew
          refine wpAnyH_start (n := 8) (l := #[false, false, false, false, false, false, false, false]) (S := From WA) (by kernel_rfl) (hHeld) (by kernel_rfl) (by kernel_rfl) ?_
          refine wpAnyH_take (i := 0) (oi := _) (v := ?_) rfl (by kernel_rfl) (by kernel_rfl) (by kernel_rfl) (fun _ _ _ h => h) (Or.inl ⟨by rfl, ?_⟩) (by assumption) ?_
          rotate_left
          · intro wq hSw; go_simp; try with_reducible rfl
          simp only [Act.put, List.setIfInBounds_toArray, List.set_cons_zero, List.set_cons_succ, List.getElem_toArray, List.getElem_cons_zero, List.getElem_cons_succ]
          refine wpAnyH_take (i := 4) (oi := _) (v := ?_) rfl (by kernel_rfl) (by kernel_rfl) (by kernel_rfl) (fun _ _ _ h => h) (Or.inl ⟨by rfl, ?_⟩) (by assumption) ?_
          rotate_left
          · intro wq hSw; go_simp; try with_reducible rfl
          simp only [Act.put, List.setIfInBounds_toArray, List.set_cons_zero, List.set_cons_succ, List.getElem_toArray, List.getElem_cons_zero, List.getElem_cons_succ]
          refine wpAnyH_take (i := 5) (oi := _) (v := ?_) rfl (by kernel_rfl) (by kernel_rfl) (by kernel_rfl) (fun _ _ _ h => h) (Or.inl ⟨by rfl, ?_⟩) (by assumption) ?_
          rotate_left
          · intro wq hSw; go_simp; try with_reducible rfl
          simp only [Act.put, List.setIfInBounds_toArray, List.set_cons_zero, List.set_cons_succ, List.getElem_toArray, List.getElem_cons_zero, List.getElem_cons_succ]
          refine wpAnyH_take (i := 6) (oi := _) (v := ?_) rfl (by kernel_rfl) (by kernel_rfl) (by kernel_rfl) (fun _ _ _ h => h) (Or.inl ⟨by rfl, ?_⟩) (by assumption) ?_
          rotate_left
          · intro wq hSw; go_simp; try with_reducible rfl
          simp only [Act.put, List.setIfInBounds_toArray, List.set_cons_zero, List.set_cons_succ, List.getElem_toArray, List.getElem_cons_zero, List.getElem_cons_succ]
          clear hc7
          refine wpAnyH_ready (rs := [1]) (by kernel_rfl) (by simp) ?_
          refine AllReadyH.cons (o := _) rfl (fun K hK => ?_) AllReadyH.nil
          simp only [List.getElem_toArray, List.getElem_cons_zero, List.getElem_cons_succ]
          go_simp
          refine (HQ8.out _ hHeld).mono ?_; rintro e w7 ⟨rfl, rfl⟩; have hE7 := Lib.hid hHeld
          refine hK.out _ _ (hE7.out) (fun _ => ?_)
          clear hK K hHeld
          refine wpAnyH_mono (S' := From WA) (fun w' h => h) ?_
          have hHeld := hE7.out
          simp only [Act.put, List.setIfInBounds_toArray, List.set_cons_zero, List.set_cons_succ, List.getElem_toArray, List.getElem_cons_zero, List.getElem_cons_succ]
          refine wpAnyH_ready (rs := [2]) (by kernel_rfl) (by simp) ?_
          refine AllReadyH.cons (o := _) rfl (fun K hK => ?_) AllReadyH.nil
          simp only [List.getElem_toArray, List.getElem_cons_zero, List.getElem_cons_succ]
          go_simp
          refine (HF2.out _).mono ?_; rintro e w8 ⟨sp8, cap8, rfl, h8, hb8⟩; have hE8 := Lib.hid (From.trans hHeld hb8.out)
          refine hK.out _ _ (hE8.out) (fun _ => ?_)
          clear hK K hHeld
          refine wpAnyH_mono (S' := From w8) (fun w' h => From.trans hE8.out h) ?_
          have hHeld := From.refl w8
          have hc8 := h8.out
          clear h8 hb8
          simp only [Act.put, List.setIfInBounds_toArray, List.set_cons_zero, List.set_cons_succ, List.getElem_toArray, List.getElem_cons_zero, List.getElem_cons_succ]
          refine wpAnyH_take (i := 3) (oi := _) (v := ?_) rfl (by kernel_rfl) (by kernel_rfl) (by kernel_rfl) (fun _ _ _ h => h) (Or.inl ⟨by rfl, ?_⟩) (by assumption) ?_
          rotate_left
          · intro wq hSw; go_simp; try with_reducible rfl
          simp only [Act.put, List.setIfInBounds_toArray, List.set_cons_zero, List.set_cons_succ, List.getElem_toArray, List.getElem_cons_zero, List.getElem_cons_succ]
          clear hc8
          refine wpAnyH_take (i := 7) (oi := _) (v := ?_) rfl (by kernel_rfl) (by kernel_rfl) (by kernel_rfl) (fun _ _ _ h => h) (Or.inl ⟨by rfl, ?_⟩) (by assumption) ?_
          rotate_left
          · intro wq hSw; go_simp; try with_reducible rfl
          simp only [Act.put, List.setIfInBounds_toArray, List.set_cons_zero, List.set_cons_succ, List.getElem_toArray, List.getElem_cons_zero, List.getElem_cons_succ]
          refine wpAnyH_done (by kernel_rfl) ?_ _
          refine NoPanic.normal ?_
          have HB9 := Lib.hid (HB7.out.trans (Below.mono hE8.out hsz7))
          have HO9 := Lib.hid (HO7.out.below hE8.out)
          have hsz9 := HB9.out.size
          clear HQ8 HF2 hE8 hE7 HO7 HB7 hHeld hsz7
          cases o
          · have HP := Lib.hid (pscan_body HEO.out HLE.out HBO.out)
            go_wp2_with fail
            go_ret3
            exact scan_ret HS.out HP.out HO9.out.isRows HB9.out
          · have HST := Lib.hid (HS.out.step HEO.out HLE.out HBO.out)
            have HEX := elem_old HIX.out HB9.out
            rw [HEG.out] at HST
            have HEX := Lib.hid HEX
            go_wp2_with (at_builtin; refine wpList_append_str1 rfl (.tmp 83) (.tmp 85) rfl w.heap.size _ F rfl HO9.out _ _ _ _ HEX.out rfl (by omega) hsz9 ?_; intro v' w3 hown hgr)
            go_roundw
            case rel => exact ⟨n + (12 + G), by omega, by go_num, _, by simp; omega, HST.out, (by rw [HEG.out] at hown; exact hown), (HB9.out.alloc hsz9 _).grown hgr (by simp; omega) HO9.out.lt⟩
            case measure => simp [intOf]; omega
end Go.Proofs.YtdjkkohckfndkaaGreatDoor.S3
