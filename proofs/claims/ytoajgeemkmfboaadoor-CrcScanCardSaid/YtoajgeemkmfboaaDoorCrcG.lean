/- Seals, read: plain; the law's own opening: a contract. -/
import Derived.Test.YtoajgeemkmfboaaDoorCrcF
import Derived.Lib.SlBytesConst
set_option linter.unusedSimpArgs false
set_option linter.unusedVariables false
namespace Go.Proofs.YtoajgeemkmfboaaDoor
open Go.RowKit Pl

namespace Pl
theorem pseal_cut (B R : List Nat) : ∃ T, pseal B ++ R = four B.length ++ T ∧ T = four (csum (four B.length)) ++ (four (csum B) ++ (B ++ R)) := ⟨_, by unfold pseal; simp, rfl⟩
theorem seal_take4 (B R : List Nat) : (pseal B ++ R).take 4 = four B.length := rfl
theorem seal_drop4 (B R : List Nat) : (pseal B ++ R).drop 4 = four (csum (four B.length)) ++ (four (csum B) ++ (B ++ R)) := rfl
theorem seal_drop8 (B R : List Nat) : (pseal B ++ R).drop 8 = four (csum B) ++ (B ++ R) := rfl
theorem seal_drop12 (B R : List Nat) : (pseal B ++ R).drop 12 = B ++ R := rfl
theorem seal_getFour (B R : List Nat) (h : B.length < 4294967296) : getFour (pseal B ++ R) = B.length := by
  have := getFour_four B.length h (four (csum (four B.length)) ++ (four (csum B) ++ (B ++ R)))
  exact this
theorem seal_endOk (B R : List Nat) : endOk (pseal B ++ R) = true := by
  unfold endOk
  rw [seal_drop4, seal_take4, getFour_four _ (csum_lt (four_lt _))]
  simp [pseal_length]
  omega
theorem seal_endAt (B R : List Nat) (h : B.length < 4294967296) : endAt (pseal B ++ R) = 12 + B.length := by
  rw [endAt_ok (seal_endOk B R), seal_getFour B R h]
theorem seal_take (B R : List Nat) : (pseal B ++ R).take (12 + B.length) = pseal B := by
  rw [← pseal_length, List.take_left]
theorem seal_dropAll (B R : List Nat) : (pseal B ++ R).drop (12 + B.length) = R := by
  rw [← pseal_length, List.drop_left]
theorem seal_bodyOk (B : List Nat) (hB : ∀ x ∈ B, x < 256) : bodyOk (pseal B) = true := by
  have h8 := seal_drop8 B []
  have h12 := seal_drop12 B []
  simp only [List.append_nil] at h8 h12
  unfold bodyOk
  rw [h8, h12, getFour_four _ (csum_lt hB)]
  simp
theorem pscan_seal (B R : List Nat) (hB : ∀ x ∈ B, x < 256) (h : B.length < 4294967296) :
    pscan (pseal B ++ R) = (B :: (pscan R).1, 12 + B.length + (pscan R).2.1, (pscan R).2.2) := by
  rw [pscan_more (seal_endOk B R) (by rw [seal_endAt B R h, List.length_append, pseal_length]; omega) (by rw [seal_endAt B R h, seal_take]; exact seal_bodyOk B hB)]
  rw [seal_endAt B R h, seal_dropAll, seal_drop12, Nat.add_sub_cancel_left, List.take_left]
theorem pscan_one (B : List Nat) (hB : ∀ x ∈ B, x < 256) (h : B.length < 4294967296) : pscan (pseal B) = ([B], 12 + B.length, true) := by
  have := pscan_seal B [] hB h
  rw [List.append_nil] at this
  rw [this, pscan_short (by simp)]
  simp
theorem open_seal (B : List Nat) (hB : ∀ x ∈ B, x < 256) (h : B.length < 4294967296) : (endOk (pseal B) && (endAt (pseal B) == (pseal B).length) && bodyOk (pseal B)) = true := by
  have h1 := seal_endOk B []
  have h2 := seal_endAt B [] h
  rw [List.append_nil] at h1 h2
  rw [h1, h2, seal_bodyOk B hB, pseal_length]
  simp
theorem sum_nine : csum [49, 50, 51, 52, 53, 54, 55, 56, 57] = 3421780262 := by decide +kernel
end Pl
theorem openOk_seal (B : List Nat) (hB : ∀ x ∈ B, x < 256) (h : B.length < 4294967296) : openOk (pseal B) = true := open_seal B hB h
theorem drop12_seal (B : List Nat) : (pseal B).drop 12 = B := by
  have := seal_drop12 B []
  simpa using this
theorem isBytes_mark (w : World) (B : List Nat) (r : Nat × Nat) (hB : ∀ x ∈ B, x < 256) (hl : B.length ≤ maxLen) : IsBytes (w.alloc (.cells (u8s B).toArray 5 r)) (.slice (some ⟨w.heap.size, 0, none⟩) B.length B.length) B := by
  refine ⟨hB, .inr ⟨⟨w.heap.size, 0, none⟩, B.length, rfl, Nat.le_refl _, hl, fun i u hu => ?_⟩⟩
  have hadd : (⟨w.heap.size, 0, none⟩ : Addr).add i = ⟨w.heap.size, i, none⟩ := by unfold Addr.add; split <;> simp_all
  rw [hadd]
  have hh : (w.alloc (.cells (u8s B).toArray 5 r)).heap[w.heap.size]? = some (.cells (u8s B).toArray 5 r) := heap_alloc_new w _
  unfold World.cell?
  rw [hh]
  simpa using hu
theorem open_ok {B C : List Nat} {w w' : World} {e : Ending} (h : OpenPost C w e w') (hC : C = pseal B) (hB : ∀ x ∈ B, x < 256) (hl : B.length < 4294967296) : ∃ a c, e = .returned (.tuple #[.slice a B.length c, .bool true]) ∧ Below w.heap.size w w' ∧ IsBytes w' (.slice a B.length c) B := by
  subst hC
  obtain ⟨v', he, hb, hi⟩ := h
  rw [openOk_seal B hB hl] at he hi
  rw [if_pos rfl, drop12_seal] at hi
  obtain ⟨a, c, rfl, _, _⟩ := hi.slice
  exact ⟨a, c, he, hb, hi⟩

attribute [local go_sem ↓] conv_eq
set_option maxHeartbeats 2000000 in
theorem begun_any (w : World) (hT : Tab w) : Calls Tryd.prog 11 #[] w fun e w' => e = .returned (.bool true) ∧ Below w.heap.size w w' := by
  have hA : Below w.heap.size w (w.alloc (.cells #[.int .u8 120] 5 (1, 2))) := (Below.refl _ _).alloc (Nat.le_refl _) _
  have HI0 : Hid (IsBytes (w.alloc (.cells #[.int .u8 120] 5 (1, 2))) (.slice (some ⟨w.heap.size, 0, none⟩) 1 1) [120]) := Lib.hid (isBytes_mark w [120] _ (by simp) (by simp [maxLen]))
  have HT0 := Lib.hid (hT.below hA)
  have HA := Lib.hid hA
  have kc := fun (w : World) (C : Array Value) (n c : Nat) => Lib.run_convert_bytes_const (P := Tryd.prog) w 22 5 C n c Tryd.underlying22 Tryd.underlying5
  clear hA hT
  go_enter Tryd.func11, Tryd.ntmps11
  go_wp2_with fail
  refine (seal_any _ [120] _ HT0.out HI0.out (by simp)).mono ?_
  intro e w1 h1
  obtain ⟨sp1, cp1, rfl, ho1, hb1⟩ := h1.s
  rw [pseal_length] at ho1 ⊢
  have HI1 : Hid (IsBytes w1 (.slice sp1 (12 + [120].length) cp1) (pseal [120])) := Lib.hid (isBytes_ownS (pseal_lt (by simp)) (by rw [pseal_length]) (by rw [pseal_length]; exact ho1))
  have HB1 := Lib.hid (HA.out.trans (hb1.mono HA.out.size))
  have HT1 := Lib.hid (HT0.out.below hb1)
  clear h1 ho1 hb1 HI0 HT0 HA
  go_wp2_with fail
  refine (open_any _ _ _ HT1.out HI1.out (by simp [pseal_length])).mono ?_
  intro e w2 h2
  obtain ⟨a2, c2, rfl, hb2, hi2⟩ := open_ok h2 rfl (by simp) (by simp)
  have HI2 := Lib.hid hi2
  have HB2 := Lib.hid (HB1.out.trans (hb2.mono HB1.out.size))
  have HT2 := Lib.hid (HT1.out.below hb2)
  clear h2 hb2 hi2 HI1 HB1 HT1
  have hA3 : Below w2.heap.size w2 (w2.alloc (.cells #[.int .u8 120] 5 (1, 2))) := (Below.refl _ _).alloc (Nat.le_refl _) _
  have HI3 : Hid (IsBytes (w2.alloc (.cells #[.int .u8 120] 5 (1, 2))) (.slice (some ⟨w2.heap.size, 0, none⟩) 1 1) [120]) := Lib.hid (isBytes_mark w2 [120] _ (by simp) (by simp [maxLen]))
  have HJ3 := Lib.hid (HI2.out.below hA3)
  have HT3 := Lib.hid (HT2.out.below hA3)
  have HB3 := Lib.hid (HB2.out.trans (hA3.mono HB2.out.size))
  clear hA3 HI2 HT2 HB2
  go_wp2_with fail
  refine (seal_any _ [120] _ HT3.out HI3.out (by simp)).mono ?_
  intro e w4 h4
  obtain ⟨sp4, cp4, rfl, ho4, hb4⟩ := h4.s
  rw [pseal_length] at ho4 ⊢
  have HI4 : Hid (IsBytes w4 (.slice sp4 (12 + [120].length) cp4) (pseal [120])) := Lib.hid (isBytes_ownS (pseal_lt (by simp)) (by rw [pseal_length]) (by rw [pseal_length]; exact ho4))
  have HJ4 := Lib.hid (HJ3.out.below hb4)
  have HT4 := Lib.hid (HT3.out.below hb4)
  have HB4 := Lib.hid (HB3.out.trans (hb4.mono HB3.out.size))
  clear h4 ho4 hb4 HI3 HJ3 HT3 HB3
  go_wp2_with fail
  refine (scan_any _ _ _ HT4.out HI4.out (by simp [pseal_length])).mono ?_
  intro e w5 h5
  obtain ⟨v5, rfl, hr5, hb5⟩ := h5
  rw [pscan_one _ (by simp) (by simp)] at hr5 ⊢
  obtain ⟨a5, c5, rfl, _, _⟩ := hr5.slice
  have HJ5 := Lib.hid (HJ4.out.below hb5)
  have HT5 := Lib.hid (HT4.out.below hb5)
  have HB5 := Lib.hid (HB4.out.trans (hb5.mono HB4.out.size))
  clear hr5 hb5 HI4 HJ4 HT4 HB4
  have hA6 : Below w5.heap.size w5 (w5.alloc (.cells #[.int .u8 49, .int .u8 50, .int .u8 51, .int .u8 52, .int .u8 53, .int .u8 54, .int .u8 55, .int .u8 56, .int .u8 57] 5 (9, 10))) := (Below.refl _ _).alloc (Nat.le_refl _) _
  have HI6 : Hid (IsBytes (w5.alloc (.cells #[.int .u8 49, .int .u8 50, .int .u8 51, .int .u8 52, .int .u8 53, .int .u8 54, .int .u8 55, .int .u8 56, .int .u8 57] 5 (9, 10))) (.slice (some ⟨w5.heap.size, 0, none⟩) 9 9) [49, 50, 51, 52, 53, 54, 55, 56, 57]) := Lib.hid (isBytes_mark w5 [49, 50, 51, 52, 53, 54, 55, 56, 57] _ (by simp) (by simp [maxLen]))
  have HT6 := Lib.hid (HT5.out.below hA6)
  have HB6 := Lib.hid (HB5.out.trans (hA6.mono HB5.out.size))
  have hj6 := run_conv (HJ5.out.below hA6)
  rw [show str [120] = { data := #[120] } from rfl, show [120].length = 1 from rfl] at hj6
  clear hA6 HT5 HB5 HJ5
  go_wp2_with fail
  refine (sum_any _ _ _ HT6.out HI6.out).mono ?_
  rintro e w7 ⟨rfl, rfl⟩
  rw [sum_nine]
  go_wp2_with fail
  go_ret
  exact ⟨rfl, HB6.out⟩
end Go.Proofs.YtoajgeemkmfboaaDoor
