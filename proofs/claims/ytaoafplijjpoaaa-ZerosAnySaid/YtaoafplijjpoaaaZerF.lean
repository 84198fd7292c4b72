/- foliolaw1.Ints, foliolaw5.begun: contracts. -/
import Derived.Test.YtaoafplijjpoaaaZerD
import Derived.Test.YtaoafplijjpoaaaStrs
import Derived.Lib.SlBytesConst
set_option linter.unusedSimpArgs false
set_option linter.unusedVariables false
namespace Go.Proofs.Ytaoafplijjpoaaa
open Go.RowKit Pl
set_option maxHeartbeats 1000000 in
theorem ints_same (v1 v2 : Value) (A : List Int) (w : World) (h1 : IsInts w v1 A) (h2 : IsInts w v2 A) (hl : A.length ≤ 8589934592) :
    Calls Try.prog 12 #[v1, v2] w fun e w' => e = .returned (.bool true) ∧ Below w.heap.size w w' := by
  obtain ⟨a1, c1, rfl, _, _⟩ := h1.slice
  obtain ⟨a2, c2, rfl, _, _⟩ := h2.slice
  have H1 := Lib.hid h1
  have H2 := Lib.hid h2
  have hbn : ((A.length : Int) != (A.length : Int)) = false := bne_f rfl
  clear h1 h2
  go_enter Try.func12, Try.ntmps12
  go_wp2
  clear hbn
  go_loopw [5] (fun x wr => ∃ i : Nat, i ≤ A.length ∧ x = .int .i64 i ∧ ∃ m, wr = w.drewN m) (fun x _ => A.length - (intOf x).toNat)
  case atStart => exact ⟨0, by omega, rfl, 0, rfl⟩
  case round =>
    obtain ⟨i, hi, rfl, m, rfl⟩ := hrel
    by_cases hlt : i < A.length
    · obtain ⟨b1, o1, k1, hs1, _, _, _, hc1⟩ := H1.out.cells (by omega)
      simp at hs1
      obtain ⟨rfl, rfl⟩ := hs1
      obtain ⟨b2, o2, k2, hs2, _, _, _, hc2⟩ := H2.out.cells (by omega)
      simp at hs2
      obtain ⟨rfl, rfl⟩ := hs2
      have d1 := hc1 i hlt
      have d2 := hc2 i hlt
      clear hc1 hc2
      generalize A.getD i 0 = x at *
      have ht : (x != x) = false := bne_f rfl
      go_wp2_with fail
      go_quiet (fail)
      go_wp2_with fail
      go_roundw
      case rel => exact ⟨i + 1, by omega, by go_num, _, rfl⟩
      case measure => simp [intOf]; omega
    · obtain rfl : i = A.length := by omega
      go_wp2_with fail
      go_ret
      exact ⟨rfl, bel_drewN (Below.refl _ _) m⟩

theorem encode_s {v : Value} {B : List Nat} {w : World} {L : List Int} (hv : IsBytes w v B) (hB : B.length ≤ 4294967296) (hL : enc B 0 = L) :
    Calls Try.prog 10 #[v] w fun e w' => ∃ sp cap, e = .returned (.slice sp L.length cap) ∧ IsInts w' (.slice sp L.length cap) L ∧ Below w.heap.size w w' :=
  (encode_any v B w hv hB).mono fun e w' h => by
    subst hL
    obtain ⟨sp, n, cap, rfl, rfl, ho, hb⟩ := h
    exact ⟨sp, cap, rfl, isInts_own rfl ho, hb⟩
theorem decode_s {v : Value} {L : List Int} {m : Int} {w : World} {r : Int} {X : List Nat} {n : Nat} (hv : IsInts w v L) (hL : L.length ≤ 4294967296) (hm : m ≤ 4294967296) (hA : ans L [] 0 m.toNat = (r, X)) (hn : X.length = n) :
    Calls Try.prog 8 #[v, .int .i64 m] w fun e w' => ∃ sp cap, e = .returned (.tuple #[.slice sp n cap, .int .i64 r]) ∧ IsBytes w' (.slice sp n cap) X ∧ Below w.heap.size w w' :=
  (decode_any v L m w hv hL hm).mono fun e w' h => by
    subst hn
    unfold DecPost at h
    rw [hA] at h
    obtain ⟨v', rfl, hi, hb⟩ := h
    obtain ⟨sp, cap, rfl, _, _⟩ := hi.slice
    exact ⟨sp, cap, rfl, hi, hb⟩

attribute [local go_sem ↓] conv_eq
set_option maxHeartbeats 2000000 in
theorem begun_any (w : World) : Calls Try.prog 7 #[] w fun e w' => e = .returned (.bool true) ∧ Below w.heap.size w w' := by
  go_enter Try.func7, Try.ntmps7
  go_wp2_with fail
  have hI0 : IsBytes (w.alloc (.cells #[.int .u8 0, .int .u8 0, .int .u8 0, .int .u8 7] 5)) (.slice (some ⟨w.heap.size, 0, none⟩) 4 4) [0, 0, 0, 7] := isBytes_mark w [0, 0, 0, 7] (0, 0) (by simp) (by simp [maxLen])
  refine (encode_s hI0 (by simp) enc_begun).mono ?_
  rintro e w1 ⟨sp1, cp1, rfl, hi1, hb1⟩
  have HI1 := Lib.hid hi1
  have HB1 : Hid (Below w.heap.size w w1) := Lib.hid (((Below.refl _ _).alloc (Nat.le_refl _) _).trans (hb1.mono (by simp)))
  clear hi1 hb1 hI0
  go_wp2_with fail
  refine (decode_s (m := 10) (n := 4) HI1.out (by simp) (by omega) ans_ten rfl).mono ?_
  rintro e w2 ⟨sp2, cp2, rfl, hi2, hb2⟩
  have HI2 := Lib.hid (HI1.out.below hb2)
  have HV2 := Lib.hid hi2
  have HB2 := Lib.hid (HB1.out.trans (hb2.mono HB1.out.size))
  clear hi2 hb2 HI1 HB1
  go_wp2_with fail
  refine (decode_s (m := 3) (n := 0) HI2.out (by simp) (by omega) ans_three rfl).mono ?_
  rintro e w3 ⟨sp3, cp3, rfl, hi3, hb3⟩
  have HI3 := Lib.hid (HI2.out.below hb3)
  have HV3 := Lib.hid (HV2.out.below hb3)
  have HB3 := Lib.hid (HB2.out.trans (hb3.mono HB2.out.size))
  clear hi3 hb3 HI2 HV2 HB2
  go_wp2_with fail
  have hA3 : Below w3.heap.size w3 (w3.alloc (.cells #[.int .i64 0] 3)) := (Below.refl _ _).alloc (Nat.le_refl _) _
  have hN3 : IsInts (w3.alloc (.cells #[.int .i64 0] 3)) (.slice (some ⟨w3.heap.size, 0, none⟩) 1 1) [0] := isInts_new w3 [0] (0, 0) (by simp [maxLen])
  refine (decode_s (m := 10) (n := 0) hN3 (by simp) (by omega) ans_open rfl).mono ?_
  rintro e w4 ⟨sp4, cp4, rfl, hi4, hb4⟩
  have hb34 : Below w3.heap.size w3 w4 := hA3.trans (hb4.mono (by simp))
  have HI4 := Lib.hid (HI3.out.below hb34)
  have HV4 := Lib.hid (HV3.out.below hb34)
  have HB4 := Lib.hid (HB3.out.trans (hb34.mono HB3.out.size))
  clear hi4 hb4 hA3 hN3 hb34 HI3 HV3 HB3
  go_wp2_with fail
  have hA4 : Below w4.heap.size w4 (w4.alloc (.cells #[.int .i64 0, .int .i64 0, .int .i64 8, .int .i64 257] 3)) := (Below.refl _ _).alloc (Nat.le_refl _) _
  have hN4 : IsInts (w4.alloc (.cells #[.int .i64 0, .int .i64 0, .int .i64 8, .int .i64 257] 3)) (.slice (some ⟨w4.heap.size, 0, none⟩) 4 4) [0, 0, 8, 257] := isInts_new w4 [0, 0, 8, 257] (0, 0) (by simp [maxLen])
  refine (ints_same _ _ [0, 0, 8, 257] _ (HI4.out.below hA4) hN4 (by simp)).mono ?_
  rintro e w5 ⟨rfl, hb5⟩
  have hb45 : Below w4.heap.size w4 w5 := hA4.trans (hb5.mono (by simp))
  have hj := run_conv (HV4.out.below hb45)
  rw [show str [0, 0, 0, 7] = { data := #[0, 0, 0, 7] } from rfl] at hj
  have HB5 := Lib.hid (HB4.out.trans (hb45.mono HB4.out.size))
  clear hb5 hA4 hN4 hb45 HI4 HV4 HB4
  go_wp2_with fail
  go_ret
  exact ⟨rfl, HB5.out⟩
end Go.Proofs.Ytaoafplijjpoaaa
