/- score.Bits, Ratio, Gain, Less; folioref1.FloatBits, Ratio, Gain, Key, Less: contracts. -/
import Derived.Test.YtaeolkkbakdlbaaScA
set_option linter.unusedSimpArgs false
set_option linter.unusedVariables false
namespace Go.Proofs.Ytaeolkkbakdlbaa.S12
open Go.RowKit Pl
theorem bits_any (x : Nat) (w : World) (hx : x < 18446744073709551616) : Calls Try.prog 10 #[.float .f64 x] w fun e w' => e = .returned (.int .u64 (fB x : Nat)) ∧ w' = w := by
  have c1 := fun W => isNaN_any x W hx
  unfold fB
  generalize fN x = p at *
  cases p
  all_goals
    go_enter Try.func10, Try.ntmps10
    go_wp2_with fail
    refine (c1 _).mono ?_
    rintro e w' ⟨rfl, rfl⟩
    go_wp2_with fail
    go_ret
    exact ⟨by simp, rfl⟩
theorem refBits_any (x : Nat) (w : World) (hx : x < 18446744073709551616) : Calls Try.prog 12 #[.float .f64 x] w fun e w' => e = .returned (.int .u64 (fB x : Nat)) ∧ w' = w := by
  have h := order_self hx
  have h2 : (Ieee.double.order x x != some .eq) = fN x := by simp [bne, h]
  unfold fB
  generalize fN x = p at *
  cases p
  all_goals
    go_enter Try.func12, Try.ntmps12
    go_wp2_with fail
    go_ret
    exact ⟨by simp, rfl⟩
theorem ratio_any (d a : Int) (w : World) : Calls Try.prog 11 #[.int .i64 d, .int .i64 a] w fun e w' => ∃ r n, e = .returned (.float .f64 r) ∧ RatR d a r ∧ w' = w.drewN n := by
  go_enter Try.func11, Try.ntmps11
  go_wp2
  go_ret
  exact ⟨_, _, rfl, fres_ok _ _ _ _, rfl⟩
theorem refRatio_any (d a : Int) (w : World) : Calls Try.prog 13 #[.int .i64 d, .int .i64 a] w fun e w' => ∃ r n, e = .returned (.float .f64 r) ∧ RatR d a r ∧ w' = w.drewN n := by
  go_enter Try.func13, Try.ntmps13
  go_wp2
  go_ret
  exact ⟨_, _, rfl, fres_ok _ _ _ _, rfl⟩
theorem gain_any (d a : Int) (age wt : Nat) (w : World) : Calls Try.prog 14 #[.int .i64 d, .int .i64 a, .float .f64 age, .float .f64 wt] w fun e w' => ∃ g n, e = .returned (.float .f64 g) ∧ GainR d a age wt g ∧ w' = w.drewN n := by
  go_enter Try.func14, Try.ntmps14
  go_wp2_with fail
  refine (ratio_any _ _ _).mono ?_
  rintro e w' ⟨r, n, rfl, hr, rfl⟩
  have HR := Lib.hid hr
  clear hr
  go_wp2
  go_ret
  exact ⟨_, _, rfl, ⟨r, _, _, _, _, HR.out, fres_ok _ _ _ _, fres_ok _ _ _ _, fres_ok _ _ _ _, fres_ok _ _ _ _, fres_ok _ _ _ _⟩, by first | rfl | simp only [World.drewN_drewN]; rfl⟩
theorem refGain_any (d a : Int) (age wt : Nat) (w : World) : Calls Try.prog 15 #[.int .i64 d, .int .i64 a, .float .f64 age, .float .f64 wt] w fun e w' => ∃ g n, e = .returned (.float .f64 g) ∧ GainR d a age wt g ∧ w' = w.drewN n := by
  go_enter Try.func15, Try.ntmps15
  go_wp2_with fail
  refine (refRatio_any _ _ _).mono ?_
  rintro e w' ⟨r, n, rfl, hr, rfl⟩
  have HR := Lib.hid hr
  clear hr
  go_wp2
  go_ret
  exact ⟨_, _, rfl, ⟨r, _, _, _, _, HR.out, fres_ok _ _ _ _, fres_ok _ _ _ _, fres_ok _ _ _ _, fres_ok _ _ _ _, fres_ok _ _ _ _⟩, by first | rfl | simp only [World.drewN_drewN]; rfl⟩
theorem less_any (x y : Nat) (w : World) (hx : x < 18446744073709551616) (hy : y < 18446744073709551616) : Calls Try.prog 16 #[.float .f64 x, .float .f64 y] w fun e w' => e = .returned (.bool (fless x y)) ∧ w' = w := by
  have c1 := fun W => signbit_any x W hx
  have c2 := fun W => signbit_any y W hy
  have c3 := fun W => cless_any x y W hx hy
  cases h : (Ieee.double.order x y == some .eq)
  · have e := less_apart h hx hy
    rw [e] at c3
    have E := Lib.hid e
    clear e c1 c2
    go_enter Try.func16, Try.ntmps16
    go_wp2_with fail
    refine (c3 _).mono ?_
    rintro e w' ⟨rfl, rfl⟩
    go_wp2_with fail
    go_ret
    exact ⟨rfl, rfl⟩
  · have e := less_same h hx hy
    rw [← e]
    clear e c3
    generalize fs x = p at *
    generalize fs y = q at *
    cases p <;> cases q
    all_goals
      go_enter Try.func16, Try.ntmps16
      go_wp2_with fail
      refine (c1 _).mono ?_
      rintro e w' ⟨rfl, rfl⟩
      go_wp2_with (refine (c2 _).mono ?_; rintro e w' ⟨rfl, rfl⟩)
      go_ret
      exact ⟨by simp, rfl⟩
theorem mask63 (x : Nat) (h : 9223372036854775808 ≤ x) (hx : x < 18446744073709551616) : bits BinOp.and IntKind.u64 (x : Int) 9223372036854775807 = (x : Int) - 9223372036854775808 := by
  rw [u64_and _ _ (by omega) (by omega) (by omega) (by omega)]
  have e : (9223372036854775807 : Int).toNat = 2 ^ 63 - 1 := by decide
  rw [e, Int.toNat_natCast, Nat.and_two_pow_sub_one_eq_mod]
  omega
theorem key_any (x : Nat) (w : World) (hx : x < 18446744073709551616) : Calls Try.prog 20 #[.float .f64 x] w fun e w' => e = .returned (.tuple #[.bool (!fN x), .int .i64 (if fN x then 0 else fk x)]) ∧ w' = w := by
  have h := order_self hx
  have h2 : (Ieee.double.order x x != some .eq) = fN x := by simp [bne, h]
  cases e : fN x
  · by_cases c : 9223372036854775808 ≤ x
    · have hf : fk x = -((x : Int) - 9223372036854775808) - 1 := by unfold fk fs fr; rw [if_pos (by simp [c]), if_pos c]; omega
      rw [e] at h2
      go_enter Try.func20, Try.ntmps20
      go_wp2_with fail
      go_ret2
      refine ⟨?_, rfl⟩
      rw [mask63 x c hx]
      have e1 : wrap64 ((x : Int) - 9223372036854775808) = (x : Int) - 9223372036854775808 := by unfold wrap64; omega
      have e2 : wrap64 (-((x : Int) - 9223372036854775808)) = -((x : Int) - 9223372036854775808) := by unfold wrap64; omega
      have e3 : wrap64 (-((x : Int) - 9223372036854775808) - 1) = -((x : Int) - 9223372036854775808) - 1 := by unfold wrap64; omega
      rw [e1, e2, e3]
      rfl
    · have hf : fk x = (x : Int) := by unfold fk fs fr; rw [if_neg (by simp [c]), if_neg c]
      rw [e] at h2
      go_enter Try.func20, Try.ntmps20
      go_wp2_with fail
      go_ret2
      exact ⟨by first | rfl | (rw [hf]; rfl), rfl⟩
  · rw [e] at h2
    go_enter Try.func20, Try.ntmps20
    go_wp2_with fail
    go_ret2
    exact ⟨rfl, rfl⟩
theorem refLess_any (x y : Nat) (w : World) (hx : x < 18446744073709551616) (hy : y < 18446744073709551616) : Calls Try.prog 17 #[.float .f64 x, .float .f64 y] w fun e w' => e = .returned (.bool (fless x y)) ∧ w' = w := by
  have c1 := fun W => key_any x W hx
  have c2 := fun W => key_any y W hy
  unfold fless
  generalize fN x = p at *
  generalize fN y = q at *
  generalize fk x = kx at *
  generalize fk y = ky at *
  cases p <;> cases q
  all_goals
    go_enter Try.func17, Try.ntmps17
    go_wp2_with fail
    refine (c1 _).mono ?_
    rintro e w' ⟨rfl, rfl⟩
    go_wp2_with (refine (c2 _).mono ?_; rintro e w' ⟨rfl, rfl⟩)
    go_ret
    exact ⟨by simp, rfl⟩
end Go.Proofs.Ytaeolkkbakdlbaa.S12
