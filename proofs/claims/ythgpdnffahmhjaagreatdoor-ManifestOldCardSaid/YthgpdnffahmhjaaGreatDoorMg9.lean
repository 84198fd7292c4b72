/- Texts put together: CrcD. -/
import Derived.Test.YthgpdnffahmhjaaGreatDoorMg2
import Derived.Test.YthgpdnffahmhjaaGreatDoorMg8
set_option linter.unusedSimpArgs false
set_option linter.unusedVariables false
set_option maxRecDepth 100000
namespace Go.Proofs.YthgpdnffahmhjaaGreatDoor.Pl
end Go.Proofs.YthgpdnffahmhjaaGreatDoor.Pl
namespace Go.Proofs.YthgpdnffahmhjaaGreatDoor.S3.Pl
end Go.Proofs.YthgpdnffahmhjaaGreatDoor.S3.Pl
namespace Go.Proofs.YthgpdnffahmhjaaGreatDoor.S3
open Go.RowKit _root_.Go.Proofs.YthgpdnffahmhjaaGreatDoor.Pl _root_.Go.Proofs.YthgpdnffahmhjaaGreatDoor.S3.Pl

namespace Pl
theorem endAt_ok {B : List Nat} (h : endOk B = true) : endAt B = 12 + getFour B := by unfold endAt; rw [if_pos h]
theorem endOk_len {B : List Nat} (h : endOk B = true) : 12 ≤ B.length := by
  unfold endOk at h
  simp at h
  exact h.1
def pscan (B : List Nat) : List (List Nat) × Nat × Bool :=
  if B.length < 12 then ([], 0, true)
  else if endOk B then
    if B.length < 12 + getFour B then ([], 0, true)
    else if bodyOk (B.take (12 + getFour B)) then
      ((B.drop 12).take (getFour B) :: (pscan (B.drop (12 + getFour B))).1, 12 + getFour B + (pscan (B.drop (12 + getFour B))).2.1, (pscan (B.drop (12 + getFour B))).2.2)
    else ([], 0, false)
  else ([], 0, false)
termination_by B.length
decreasing_by all_goals (rw [List.length_drop]; omega)
theorem pscan_short {B : List Nat} (h : B.length < 12) : pscan B = ([], 0, true) := by rw [pscan, if_pos h]
theorem pscan_head {B : List Nat} (h : ¬ B.length < 12) (h2 : endOk B = false) : pscan B = ([], 0, false) := by rw [pscan, if_neg h, h2]; rfl
theorem pscan_cut {B : List Nat} (h2 : endOk B = true) (h3 : B.length < endAt B) : pscan B = ([], 0, true) := by
  have := endOk_len h2
  rw [endAt_ok h2] at h3
  rw [pscan, if_neg (by omega), h2, if_pos rfl, if_pos h3]
theorem pscan_body {B : List Nat} (h2 : endOk B = true) (h3 : endAt B ≤ B.length) (h4 : bodyOk (B.take (endAt B)) = false) : pscan B = ([], 0, false) := by
  have := endOk_len h2
  rw [endAt_ok h2] at h3 h4
  rw [pscan, if_neg (by omega), h2, if_pos rfl, if_neg (by omega), h4]; rfl
theorem pscan_more {B : List Nat} (h2 : endOk B = true) (h3 : endAt B ≤ B.length) (h4 : bodyOk (B.take (endAt B)) = true) :
    pscan B = ((B.drop 12).take (endAt B - 12) :: (pscan (B.drop (endAt B))).1, endAt B + (pscan (B.drop (endAt B))).2.1, (pscan (B.drop (endAt B))).2.2) := by
  have := endOk_len h2
  rw [endAt_ok h2] at h3 h4 ⊢
  rw [pscan, if_neg (by omega), h2, if_pos rfl, if_neg (by omega), h4, if_pos rfl, Nat.add_sub_cancel_left]
def ScanTo (B : List Nat) (n : Nat) (F : List (List Nat)) : Prop := pscan B = (F ++ (pscan (B.drop n)).1, n + (pscan (B.drop n)).2.1, (pscan (B.drop n)).2.2)
theorem ScanTo.start (B : List Nat) : ScanTo B 0 [] := by unfold ScanTo; simp
theorem ScanTo.step {B : List Nat} {n : Nat} {F : List (List Nat)} (h : ScanTo B n F) (h2 : endOk (B.drop n) = true) (h3 : endAt (B.drop n) ≤ (B.drop n).length) (h4 : bodyOk ((B.drop n).take (endAt (B.drop n))) = true) :
    ScanTo B (n + endAt (B.drop n)) (F ++ [((B.drop n).drop 12).take (endAt (B.drop n) - 12)]) := by
  unfold ScanTo at h ⊢
  rw [pscan_more h2 h3 h4] at h
  rw [List.drop_drop] at h
  rw [h]
  simp [Nat.add_assoc]
theorem ScanTo.done {B : List Nat} {n : Nat} {F : List (List Nat)} (h : ScanTo B n F) {o : Bool} (h2 : pscan (B.drop n) = ([], 0, o)) : pscan B = (F, n, o) := by
  unfold ScanTo at h
  rw [h2] at h
  simpa using h
end Pl
def ScanPost (B : List Nat) (w : World) (e : Ending) (w' : World) : Prop :=
  ∃ v, e = .returned (.tuple #[v, .int .i64 ((pscan B).2.1 : Nat), .bool (pscan B).2.2]) ∧ IsRows w' v (pscan B).1 ∧ Below w.heap.size w w'
theorem scan_ret {B : List Nat} {n : Nat} {F : List (List Nat)} {o : Bool} {w wr : World} {v : Value} (h : ScanTo B n F) (h2 : pscan (B.drop n) = ([], 0, o)) (hr : IsRows wr v F) (hb : Below w.heap.size w wr) :
    ScanPost B w (.returned (.tuple #[v, .int .i64 n, .bool o])) wr := by
  have := h.done h2
  unfold ScanPost
  rw [this]
  exact ⟨v, rfl, hr, hb⟩

attribute [local go_sem ↓] sliceU8_eq
set_option maxHeartbeats 2000000 in
theorem scan_any (v : Value) (B : List Nat) (w : World) (hT : Tab w) (hv : IsBytes w v B) (hl : B.length ≤ 4000000000) : Calls Tryz.prog 59 #[v] w (ScanPost B w) := by
  obtain ⟨a, cap, rfl, hcap, hmax⟩ := hv.slice
  unfold maxLen at hmax
  have HV := Lib.hid hv
  have HT := Lib.hid hT
  clear hv hT
  go_enter Tryz.func59, Tryz.ntmps59
  go_wp2_with fail
  go_loopw [5, 6] (fun v x wr => ∃ n : Nat, n ≤ B.length ∧ x = .int .i64 n ∧ ∃ F : List (List Nat), F.length ≤ n ∧ ScanTo B n F ∧ OwnRows w.heap.size wr v F ∧ Below w.heap.size w wr) (fun _ x _ => B.length - (intOf x).toNat)
  case atStart => exact ⟨0, by omega, rfl, [], by simp, ScanTo.start B, ownRows_nil _ _, Below.refl _ _⟩
  case round =>
    obtain ⟨n, hn, rfl, F, hF, hs, ho, hb⟩ := hrel
    have HS := Lib.hid hs
    have HO := Lib.hid ho
    have HB := Lib.hid hb
    have hsz := hb.size
    obtain ⟨sp, cp, rfl, hcp, hcm⟩ := ho.slice
    have HVr := Lib.hid (HV.out.below hb)
    have HTr := Lib.hid (HT.out.below hb)
    obtain ⟨ar, cr, hsr, hIr⟩ := run_from HVr.out n hn
    have HR := Lib.hid hIr
    have hlr : (B.drop n).length = B.length - n := List.length_drop ..
    have HLR := Lib.hid hlr
    clear hs ho hb hIr hlr
    by_cases h1 : B.length - n < 12
    · have HP := Lib.hid (pscan_short (B := B.drop n) (by rw [HLR.out]; exact h1))
      go_wp2_with fail
      go_ret3
      exact scan_ret HS.out HP.out HO.out.isRows HB.out
    · have hd1 : decide (((B.length - n : Nat) : Int) < 12) = false := by simp; omega
      have hse := sealEnd_any _ _ _ HTr.out HR.out
      unfold EndPost at hse
      by_cases h2 : endOk (B.drop n) = true
      · have h12 := endOk_len h2
        have hea := Lib.hid (endAt_ok h2)
        have hge : 12 ≤ endAt (B.drop n) := by rw [hea.out]; omega
        rw [h2] at hse
        by_cases h3 : (B.drop n).length < endAt (B.drop n)
        · have HP := Lib.hid (pscan_cut h2 h3)
          have HSE := Lib.hid hse
          have hd3 : B.length - n < endAt (B.drop n) := by rw [HLR.out] at h3; exact h3
          clear hse h2 h3 h12
          go_wp2_with fail
          refine HSE.out.mono ?_
          rintro e w1 ⟨rfl, m, rfl⟩
          go_wp2_with fail
          go_ret3
          exact scan_ret HS.out HP.out (HO.out.isRows.drew m) (bel_drewN HB.out m)
        · have h3' : endAt (B.drop n) ≤ (B.drop n).length := by omega
          have hd3 : ¬ B.length - n < endAt (B.drop n) := by rw [HLR.out] at h3'; omega
          obtain ⟨at1, ct1, hst, hIt⟩ := run_upto (v := .slice ar (B.length - n) cr) HR.out (endAt (B.drop n)) h3'
          have hbh := fun m => bodyHolds_any _ _ (wr.drewN m) HTr.out hIt (by rw [List.length_take]; omega)
          unfold HoldsPost at hbh
          by_cases h4 : bodyOk ((B.drop n).take (endAt (B.drop n))) = true
          · have HST := Lib.hid (HS.out.step h2 h3' h4)
            obtain ⟨ab, cb, hsb, hIb⟩ := run_between (v := .slice ar (B.length - n) cr) HR.out 12 (endAt (B.drop n) - 12) (by omega) (endAt (B.drop n) : Nat) (by omega)
            have hsb' : ∀ W, (sliceU8 (.slice ar (B.length - n) cr) (some (.int .i64 12)) (some (.int .i64 (endAt (B.drop n) : Nat))) none).run Tryz.prog W = .ok (.slice ab (endAt (B.drop n) - 12) cb) W := hsb
            rw [h4] at hbh
            have HSE := Lib.hid hse
            have HBH := Lib.hid hbh
            have HIB := Lib.hid hIb
            have hlb : (((B.drop n).drop 12).take (endAt (B.drop n) - 12)).length = endAt (B.drop n) - 12 := by rw [List.length_take, List.length_drop]; omega
            have HLB := Lib.hid hlb
            have hmore : n + endAt (B.drop n) ≤ B.length := by rw [HLR.out] at h3'; omega
            generalize endAt (B.drop n) = E at *
            clear hse hbh hIb hIt h2 h3 h3' h4 hsb hlb
            go_wp2_with fail
            refine HSE.out.mono ?_
            rintro e w1 ⟨rfl, m, rfl⟩
            go_wp2_with fail
            refine (HBH.out _).mono ?_
            rintro e w1 ⟨rfl, m2, rfl⟩
            go_wp2_with fail
            refine (clone_any _ (((B.drop n).drop 12).take (E - 12)) _ (HIB.out.drew (m + m2)) (by rw [HLB.out]; omega)).mono ?_
            rintro e w2 hm
            obtain ⟨sp2, cp2, rfl, ho2, hb2⟩ := hm.s
            have hB2 : Below wr.heap.size wr w2 := ⟨hb2.os, hb2.tape, hb2.output, hb2.size, hb2.block⟩
            have HE2 : Hid (Elem w.heap.size w2 (.slice sp2 (((B.drop n).drop 12).take (E - 12)).length cp2) (((B.drop n).drop 12).take (E - 12))) := Lib.hid (elem_own HIB.out.1 ho2)
            have HO2 := Lib.hid (HO.out.below hB2)
            have HB2 := Lib.hid (HB.out.trans (hB2.mono hsz))
            have hsz2 := HB2.out.size
            rw [HLB.out] at HE2 ⊢
            clear hm ho2 hb2 hB2 HO HB
            go_wp2_with (at_builtin; refine wpList_append_str1 rfl (.tmp 40) (.tmp 45) rfl w.heap.size _ F rfl HO2.out _ _ _ _ HE2.out rfl (by omega) hsz2 ?_; intro v' w3 hown hgr)
            go_roundw
            case rel => exact ⟨n + E, hmore, by go_num, F ++ [((B.drop n).drop 12).take (E - 12)], by simp; omega, HST.out, hown, (HB2.out.alloc hsz2 _).grown hgr (by simp; omega) HO2.out.lt⟩
            case measure => simp [intOf]; omega
          · have h4' : bodyOk ((B.drop n).take (endAt (B.drop n))) = false := by simpa using h4
            have HP := Lib.hid (pscan_body h2 h3' h4')
            rw [h4'] at hbh
            have HSE := Lib.hid hse
            have HBH := Lib.hid hbh
            clear hse hbh hIt h2 h3 h3' h4 h4'
            go_wp2_with fail
            refine HSE.out.mono ?_
            rintro e w1 ⟨rfl, m, rfl⟩
            go_wp2_with fail
            refine (HBH.out _).mono ?_
            rintro e w1 ⟨rfl, m2, rfl⟩
            go_wp2_with fail
            go_ret3
            exact scan_ret HS.out HP.out (HO.out.isRows.drew (m + m2)) (bel_drewN HB.out (m + m2))
      · have h2' : endOk (B.drop n) = false := by simpa using h2
        have HP := Lib.hid (pscan_head (B := B.drop n) (by rw [HLR.out]; exact h1) h2')
        rw [h2'] at hse
        have HSE := Lib.hid hse
        clear hse h2 h2'
        go_wp2_with fail
        refine HSE.out.mono ?_
        rintro e w1 ⟨rfl, m, rfl⟩
        go_wp2_with fail
        go_ret3
        exact scan_ret HS.out HP.out (HO.out.isRows.drew m) (bel_drewN HB.out m)
end Go.Proofs.YthgpdnffahmhjaaGreatDoor.S3
