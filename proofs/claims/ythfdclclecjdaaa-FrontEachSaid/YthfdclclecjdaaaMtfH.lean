/- FrontRuns, walked. -/
import Derived.Test.YthfdclclecjdaaaMtfG
set_option linter.unusedSimpArgs false
set_option linter.unusedVariables false
namespace Go.Proofs.Ythfdclclecjdaaa
open Go.RowKit Pl
theorem beq_int (a b : Nat) : (((a : Nat) : Int) == ((b : Nat) : Int)) = decide (a = b) := by
  rw [Bool.eq_iff_iff, beq_iff_eq, decide_eq_true_iff]; omega
set_option maxHeartbeats 2000000 in
theorem frontRuns_walk (a : Option Addr) (len cap : Nat) (z : List Int) (w : World) (hr : IsRow .u8 w a len cap z) :
    Calls Try.prog 4 #[.slice a len cap] w fun e w' => e = .returned (.bool true) ∧ Below w.heap.size w w' := by
  obtain ⟨hV, hlen⟩ := isBytes_row hr
  have HV := Lib.hid hV
  clear hV hr
  go_enter Try.func4, Try.ntmps4
  go_wp2_with fail
  refine (begun_any _).mono ?_
  rintro e w1 ⟨rfl, hb1⟩
  have HV1 := Lib.hid (HV.out.below hb1)
  have HB1 := Lib.hid hb1
  clear hb1 HV
  go_wp2_with fail
  refine (short_any _ _ 400 _ HV1.out (by omega)).mono ?_
  rintro e w2 ⟨v2, rfl, hi2, rfl⟩
  obtain ⟨S, hS⟩ : ∃ S, S = (bytesZ z len).take 400 := ⟨_, rfl⟩
  have hSl : S.length ≤ 400 := by rw [hS, List.length_take]; omega
  rw [← hS] at hi2
  obtain ⟨a2, c2, rfl, hc2, hm2⟩ := hi2.slice
  unfold maxLen at hm2
  have HI := Lib.hid hi2
  clear hi2 hS HV1
  go_wp2_with fail
  refine (encode_s (n := S.length) HI.out (by omega) rfl).mono ?_
  rintro e w3 ⟨sp3, cp3, rfl, hi3, hb3⟩
  have HI3 := Lib.hid (HI.out.below hb3)
  have HE3 := Lib.hid hi3
  have HB3 := Lib.hid (HB1.out.trans (hb3.mono HB1.out.size))
  have hbn : ((S.length : Int) != (S.length : Int)) = false := bne_f rfl
  clear hi3 hb3 HI HB1
  go_wp2_with fail
  clear hbn
  go_loopw [5] (fun x wr => ∃ i : Nat, 1 ≤ i ∧ x = .int .i64 i ∧ ∃ m, wr = w3.drewN m) (fun x _ => S.length - (intOf x).toNat)
  case atStart => exact ⟨1, by omega, rfl, 0, rfl⟩
  case round =>
    obtain ⟨i, hi, rfl, m, rfl⟩ := hrel
    by_cases hlt : i < S.length
    · obtain ⟨b1, o1, k1, hs1, _, _, _, hc1⟩ := HI3.out.cells (by omega)
      simp at hs1
      obtain ⟨rfl, rfl⟩ := hs1
      obtain ⟨b2, o2, k2, hs2, _, _, _, hc2⟩ := HE3.out.cells (by rw [enc_length]; omega)
      simp at hs2
      obtain ⟨rfl, hs2⟩ := hs2
      obtain ⟨j, rfl⟩ : ∃ j, i = j + 1 := ⟨i - 1, by omega⟩
      have c1 := hc1 (j + 1) hlt
      have c2 := hc1 j (by omega)
      have c3 := hc2 (j + 1) (by rw [enc_length]; exact hlt)
      have hag := enc_again HI3.out.1 (i := j) hlt
      clear hc1 hc2 hs2
      generalize (enc S).getD (j + 1) 0 = p at *
      generalize S.getD (j + 1) 0 = x at *
      generalize S.getD j 0 = y at *
      by_cases he : x = y
      · have hp : p = 0 := hag.2 he
        subst he hp
        clear hag
        have d1 : ((x : Int) == (x : Int)) = true := beq_t rfl
        go_wp2_with fail
        go_quiet (fail)
        go_wp2_with fail
        go_roundw
        case rel => exact ⟨j + 1 + 1, by omega, by go_num, _, rfl⟩
        case measure => simp [intOf]; omega
      · have hp : p ≠ 0 := fun h => he (hag.1 h)
        have d1 : ((x : Int) == (y : Int)) = false := beq_f (by omega)
        have d2 : ((p : Int) == 0) = false := beq_f (by omega)
        clear hag he hp
        go_wp2_with fail
        go_quiet (fail)
        go_wp2_with fail
        go_roundw
        case rel => exact ⟨j + 1 + 1, by omega, by go_num, _, rfl⟩
        case measure => simp [intOf]; omega
    · go_wp2_with fail
      go_ret
      exact ⟨rfl, bel_drewN HB3.out m⟩
end Go.Proofs.Ythfdclclecjdaaa
