/- foliolaw1.Ints, suffix.Sort and Common by what they answer, foliolaw8.begun: contracts. -/
import Derived.Test.YtklpmpniempmcaaSufT
import Derived.Test.YtklpmpniempmcaaSufV
import Derived.Test.YtklpmpniempmcaaStrs
import Derived.Lib.SlBytesConst
set_option linter.unusedSimpArgs false
set_option linter.unusedVariables false
namespace Go.Proofs.Ytklpmpniempmcaa
open Go.RowKit Pl
set_option maxHeartbeats 1000000 in
theorem ints_same (v1 v2 : Value) (A : List Int) (w : World) (h1 : IsInts w v1 A) (h2 : IsInts w v2 A) (hl : A.length ≤ 8589934592) :
    Calls Try.prog 13 #[v1, v2] w fun e w' => e = .returned (.bool true) ∧ Below w.heap.size w w' := by
  obtain ⟨a1, c1, rfl, _, _⟩ := h1.slice
  obtain ⟨a2, c2, rfl, _, _⟩ := h2.slice
  have H1 := Lib.hid h1
  have H2 := Lib.hid h2
  have hbn : ((A.length : Int) != (A.length : Int)) = false := bne_f rfl
  clear h1 h2
  go_enter Try.func13, Try.ntmps13
  go_wp2
  clear hbn
  go_loopw [5] (fun x wr => ∃ i : Nat, i ≤ A.length ∧ x = .int .i64 i ∧ ∃ m, wr = w.drewN m) (fun x _ => A.length - (intOf x).toNat)
  case atStart => exact ⟨0, by omega, rfl, 0, rfl⟩
  case round =>
    obtain ⟨i, hi, rfl, m, rfl⟩ := hrel
    by_cases hlt : i < A.length
    · obtain ⟨b1, o1, k1, hs1, _, _, _, hc1⟩ := H1.out.cells (by omega)
      simp at hs1
      obtain ⟨rfl, rfl⟩ := hs1
      obtain ⟨b2, o2, k2, hs2, _, _, _, hc2⟩ := H2.out.cells (by omega)
      simp at hs2
      obtain ⟨rfl, rfl⟩ := hs2
      have d1 := hc1 i hlt
      have d2 := hc2 i hlt
      clear hc1 hc2
      generalize A.getD i 0 = x at *
      have ht : (x != x) = false := bne_f rfl
      go_wp2_with fail
      go_quiet (fail)
      go_wp2_with fail
      go_roundw
      case rel => exact ⟨i + 1, by omega, by go_num, _, rfl⟩
      case measure => simp [intOf]; omega
    · obtain rfl : i = A.length := by omega
      go_wp2_with fail
      go_ret
      exact ⟨rfl, bel_drewN (Below.refl _ _) m⟩


theorem sort_s {v : Value} {B : List Nat} {w : World} {n : Nat} (hv : IsBytes w v B) (hB : B.length ≤ 900000) (hn : B.length = n) :
    Calls Try.prog 11 #[v] w fun e w' => ∃ (g : Nat) (R : List Nat), e = .returned (.slice (some ⟨g, 0, none⟩) n n) ∧ IsSA B R ∧ R.length = n ∧ IsInts w' (.slice (some ⟨g, 0, none⟩) n n) (nI R) ∧ Below w.heap.size w w' :=
  (sort_any v B w hv (by omega)).mono fun e w' h => by
    subst hn
    obtain ⟨g, R, rfl, h1, h2, h3, h4⟩ := h
    exact ⟨g, R, rfl, h3, sa_length h3, h2.ints, h4⟩
theorem common_s {v sv : Value} {B R C : List Nat} {w : World} {n : Nat} (hv : IsBytes w v B) (hs : IsInts w sv (nI R)) (hR : IsSA B R) (hB : B.length ≤ 900000) (hC : comL B R = C) (hn : C.length = n) :
    Calls Try.prog 14 #[v, sv] w fun e w' => ∃ sp cap, e = .returned (.slice sp n cap) ∧ IsInts w' (.slice sp n cap) (nI C) ∧ Below w.heap.size w w' :=
  (common_any v sv B R w hv hs hR hB).mono fun e w' h => by
    subst hn hC
    obtain ⟨sp, n, cap, rfl, hl, ho, hb⟩ := h
    rw [nI_length] at hl
    subst hl
    exact ⟨sp, cap, rfl, isInts_ownA ho, hb⟩
namespace Pl
theorem banana_sa : IsSA [98, 97, 110, 97, 110, 97] [5, 3, 1, 0, 4, 2] := ⟨by unfold Rises; decide, fun i => by simp; omega⟩
theorem banana_com : comL [98, 97, 110, 97, 110, 97] [5, 3, 1, 0, 4, 2] = [0, 1, 3, 0, 0, 2] := by decide
end Pl
set_option maxHeartbeats 4000000 in
theorem begun_any (w : World) : Calls Try.prog 9 #[] w fun e w' => e = .returned (.bool true) ∧ Below w.heap.size w w' := by
  have kc := fun (w : World) (C : Array Value) (n c : Nat) => Lib.run_convert_bytes_const (P := Try.prog) w 22 5 C n c Try.underlying22 Try.underlying5
  have HI0 : Hid (IsBytes (w.alloc (.cells #[.int .u8 98, .int .u8 97, .int .u8 110, .int .u8 97, .int .u8 110, .int .u8 97] 5 (6, 7))) (.slice (some ⟨w.heap.size, 0, none⟩) 6 6) [98, 97, 110, 97, 110, 97]) := Lib.hid (isBytes_mark w [98, 97, 110, 97, 110, 97] _ (by simp) (by simp [maxLen]))
  have HA : Hid (Below w.heap.size w (w.alloc (.cells #[.int .u8 98, .int .u8 97, .int .u8 110, .int .u8 97, .int .u8 110, .int .u8 97] 5 (6, 7)))) := Lib.hid ((Below.refl _ _).alloc (Nat.le_refl _) _)
  go_enter Try.func9, Try.ntmps9
  go_wp2_with fail
  refine (sort_s (n := 6) HI0.out (by simp) rfl).mono ?_
  rintro e w1 ⟨g1, R, rfl, hR, hRl, hi1, hb1⟩
  obtain rfl := sa_unique hR banana_sa
  have HI1 := Lib.hid hi1
  have HB1 := Lib.hid (HA.out.trans (hb1.mono HA.out.size))
  clear hi1 hb1 HI0 HA hR hRl
  go_wp2_with fail
  have hA1 : Below w1.heap.size w1 (w1.alloc (.cells #[.int .i64 5, .int .i64 3, .int .i64 1, .int .i64 0, .int .i64 4, .int .i64 2] 3)) := (Below.refl _ _).alloc (Nat.le_refl _) _
  have hN1 : IsInts (w1.alloc (.cells #[.int .i64 5, .int .i64 3, .int .i64 1, .int .i64 0, .int .i64 4, .int .i64 2] 3)) (.slice (some ⟨w1.heap.size, 0, none⟩) 6 6) (nI [5, 3, 1, 0, 4, 2]) := isInts_new w1 [5, 3, 1, 0, 4, 2] (0, 0) (by simp [maxLen])
  refine (ints_same _ _ (nI [5, 3, 1, 0, 4, 2]) _ (HI1.out.below hA1) hN1 (by simp [nI])).mono ?_
  rintro e w2 ⟨rfl, hb2⟩
  have hb12 : Below w1.heap.size w1 w2 := hA1.trans (hb2.mono (by simp))
  have HI2 := Lib.hid (HI1.out.below hb12)
  have HB2 := Lib.hid (HB1.out.trans (hb12.mono HB1.out.size))
  clear hA1 hN1 hb2 hb12 HI1 HB1
  have HJ2 : Hid (IsBytes (w2.alloc (.cells #[.int .u8 98, .int .u8 97, .int .u8 110, .int .u8 97, .int .u8 110, .int .u8 97] 5 (6, 7))) (.slice (some ⟨w2.heap.size, 0, none⟩) 6 6) [98, 97, 110, 97, 110, 97]) := Lib.hid (isBytes_mark w2 [98, 97, 110, 97, 110, 97] _ (by simp) (by simp [maxLen]))
  have HA2 : Hid (Below w2.heap.size w2 (w2.alloc (.cells #[.int .u8 98, .int .u8 97, .int .u8 110, .int .u8 97, .int .u8 110, .int .u8 97] 5 (6, 7)))) := Lib.hid ((Below.refl _ _).alloc (Nat.le_refl _) _)
  go_wp2_with fail
  refine (common_s (n := 6) HJ2.out (HI2.out.below HA2.out) banana_sa (by simp) banana_com rfl).mono ?_
  rintro e w3 ⟨sp3, cp3, rfl, hi3, hb3⟩
  have hb23 : Below w2.heap.size w2 w3 := HA2.out.trans (hb3.mono (by simp))
  have HI3 := Lib.hid hi3
  have HB3 := Lib.hid (HB2.out.trans (hb23.mono HB2.out.size))
  clear hi3 hb3 hb23 HJ2 HA2 HB2 HI2
  go_wp2_with fail
  have hA3 : Below w3.heap.size w3 (w3.alloc (.cells #[.int .i64 0, .int .i64 1, .int .i64 3, .int .i64 0, .int .i64 0, .int .i64 2] 3)) := (Below.refl _ _).alloc (Nat.le_refl _) _
  have hN3 : IsInts (w3.alloc (.cells #[.int .i64 0, .int .i64 1, .int .i64 3, .int .i64 0, .int .i64 0, .int .i64 2] 3)) (.slice (some ⟨w3.heap.size, 0, none⟩) 6 6) (nI [0, 1, 3, 0, 0, 2]) := isInts_new w3 [0, 1, 3, 0, 0, 2] (0, 0) (by simp [maxLen])
  refine (ints_same _ _ (nI [0, 1, 3, 0, 0, 2]) _ (HI3.out.below hA3) hN3 (by simp [nI])).mono ?_
  rintro e w4 ⟨rfl, hb4⟩
  have hb34 : Below w3.heap.size w3 w4 := hA3.trans (hb4.mono (by simp))
  have HB4 := Lib.hid (HB3.out.trans (hb34.mono HB3.out.size))
  clear hA3 hN3 hb4 hb34 HI3 HB3
  go_wp2_with fail
  refine (sort_s (n := 0) (B := []) (isBytes_nil w4) (by simp) rfl).mono ?_
  rintro e w5 ⟨g5, R, rfl, _, _, _, hb5⟩
  have HB5 := Lib.hid (HB4.out.trans (hb5.mono HB4.out.size))
  clear hb5
  go_wp2_with fail
  go_ret
  exact ⟨rfl, HB5.out⟩
end Go.Proofs.Ytklpmpniempmcaa
