/- Floats: the laws of the walk; math.Float64bits, Float64frombits, IsNaN, Signbit, NaN, Inf, cmp.Less: contracts. -/
import Derived.Test.YtaeolkkbakdlbaaScP
import Derived.Test.YtaeolkkbakdlbaaBase
import Derived.Test.YtaeolkkbakdlbaaProg
import Derived.Laws.Externs
set_option linter.unusedSimpArgs false
set_option linter.unusedVariables false
namespace Go.Proofs.Ytaeolkkbakdlbaa.S12
open Go.RowKit Pl
/-- what an operation answers here: the exact answer's word, or what the machine makes of none -/
def fres (op : BinOp) (x y : Nat) (w : World) : Nat := match floatBits op .f64 x y with
  | some b => b
  | none => (Question.nanBits .f64 x y).cut (w.tape w.drawn (.nanBits .f64 x y))
def fdr (op : BinOp) (x y : Nat) : Nat := if (floatBits op .f64 x y).isSome then 0 else 1
theorem drewN_zero (w : World) : w.drewN 0 = w := rfl
theorem run_f {P : Program} (op : BinOp) (h : op = .add ∨ op = .sub ∨ op = .mul ∨ op = .quo) (t : TypeId) (x y : Nat) (w : World) :
    (binOp op t (.float .f64 x) (.float .f64 y)).run P w = .ok (.float .f64 (fres op x y w)) (w.drewN (fdr op x y)) := by
  unfold fres fdr
  cases e : floatBits op .f64 x y with
  | some b => rw [run_float_arith w op t .f64 x y b e]; rfl
  | none =>
    rcases h with rfl | rfl | rfl | rfl <;> simp only [floatBits] at e <;>
      simp only [binOp, Op.floatArith, e, Sem.run_bind, Sem.run_pure, Result.andThen_ok, run_choose_drew, Question.forced] <;> rfl
theorem fres_ok (op : BinOp) (x y : Nat) (w : World) : OpR op x y (fres op x y w) := by
  unfold fres
  cases e : floatBits op .f64 x y with
  | some b =>
    refine ⟨?_, fun c => ⟨fun h => by rw [e] at h; exact Option.some.inj h, fun h => by rw [e] at h; cases h⟩⟩
    have := floatBits_wf e
    simpa [Lit.wf] using this
  | none =>
    have h : ∀ t, (Question.nanBits .f64 x y).cut t < 18446744073709551616 ∧ fN ((Question.nanBits .f64 x y).cut t) = true := by
      intro t
      simp only [Question.cut]
      unfold fN fr
      have hs : t % 2 < 2 := Nat.mod_lt _ (by decide)
      generalize t % 2 = s at *
      have hm : t / 2 % (2 ^ 52 - 1) < 2 ^ 52 - 1 := Nat.mod_lt _ (by decide)
      generalize t / 2 % (2 ^ 52 - 1) = m at *
      have hv : s * 2 ^ 63 + 0x7ff0000000000000 + 1 + m < 18446744073709551616 := by omega
      refine ⟨hv, ?_⟩
      simp only [decide_eq_true_eq]
      split <;> omega
    exact ⟨(h _).1, fun c => ⟨fun h' => (by rw [e] at h'; cases h'), fun _ => (h _).2⟩⟩
@[go_sem] theorem run_fadd {P : Program} (t : TypeId) (x y : Nat) (w : World) : (binOp .add t (.float .f64 x) (.float .f64 y)).run P w = .ok (.float .f64 (fres .add x y w)) (w.drewN (fdr .add x y)) := run_f .add (.inl rfl) t x y w
@[go_sem] theorem run_fsub {P : Program} (t : TypeId) (x y : Nat) (w : World) : (binOp .sub t (.float .f64 x) (.float .f64 y)).run P w = .ok (.float .f64 (fres .sub x y w)) (w.drewN (fdr .sub x y)) := run_f .sub (.inr (.inl rfl)) t x y w
@[go_sem] theorem run_fmul {P : Program} (t : TypeId) (x y : Nat) (w : World) : (binOp .mul t (.float .f64 x) (.float .f64 y)).run P w = .ok (.float .f64 (fres .mul x y w)) (w.drewN (fdr .mul x y)) := run_f .mul (.inr (.inr (.inl rfl))) t x y w
@[go_sem] theorem run_fquo {P : Program} (t : TypeId) (x y : Nat) (w : World) : (binOp .quo t (.float .f64 x) (.float .f64 y)).run P w = .ok (.float .f64 (fres .quo x y w)) (w.drewN (fdr .quo x y)) := run_f .quo (.inr (.inr (.inr rfl))) t x y w
@[go_sem] theorem run_bits (x : Nat) (w : World) : (callFunc 25 #[.float .f64 x]).run Try.prog w = .ok (.value (.int .u64 (x : Int))) w := by
  rw [run_callFunc_extern Try.func25 (by kernel_rfl) (by kernel_rfl) (by kernel_rfl) (e := Extern.MathFloatBits.float64bits) (by kernel_rfl)]
  rfl
@[go_sem] theorem run_frombits (x : Int) (w : World) : (callFunc 9 #[.int .u64 x]).run Try.prog w = .ok (.value (.float .f64 x.toNat)) w := by
  rw [run_callFunc_extern Try.func9 (by kernel_rfl) (by kernel_rfl) (by kernel_rfl) (e := Extern.MathFloatBits.float64frombits) (by kernel_rfl)]
  rfl
@[go_sem] theorem ford (x y : Nat) : FloatKind.f64.format.order x y = Ieee.double.order x y := rfl

theorem isNaN_any (x : Nat) (w : World) (hx : x < 18446744073709551616) : Calls Try.prog 24 #[.float .f64 x] w fun e w' => e = .returned (.bool (fN x)) ∧ w' = w := by
  have h := order_self hx
  go_enter Try.func24, Try.ntmps24
  go_wp2
  go_ret
  exact ⟨by simp [bne, h], rfl⟩
theorem cisNaN_any (x : Nat) (w : World) (hx : x < 18446744073709551616) : Calls Try.prog 28 #[.float .f64 x] w fun e w' => e = .returned (.bool (fN x)) ∧ w' = w := by
  have h := order_self hx
  go_enter Try.func28, Try.ntmps28
  go_wp2
  go_ret
  exact ⟨by simp [bne, h], rfl⟩
theorem signbit_any (x : Nat) (w : World) (hx : x < 18446744073709551616) : Calls Try.prog 26 #[.float .f64 x] w fun e w' => e = .returned (.bool (fs x)) ∧ w' = w := by
  go_enter Try.func26, Try.ntmps26
  go_wp2
  go_ret
  refine ⟨congrArg Ending.returned (congrArg Value.bool ?_), rfl⟩
  unfold fs
  refine decide_eq_decide.2 ?_
  unfold wrap64
  omega
theorem nan_any (w : World) : Calls Try.prog 21 #[] w fun e w' => e = .returned (.float .f64 9221120237041090561) ∧ w' = w := by
  go_enter Try.func21, Try.ntmps21
  go_wp2
  go_ret
  exact ⟨rfl, rfl⟩
theorem inf_minus (w : World) : Calls Try.prog 22 #[.int .i64 (-1)] w fun e w' => e = .returned (.float .f64 18442240474082181120) ∧ w' = w := by
  go_enter Try.func22, Try.ntmps22
  go_wp2
  go_ret
  exact ⟨rfl, rfl⟩
theorem copysign_minus (w : World) : Calls Try.prog 23 #[.float .f64 0, .float .f64 13830554455654793216] w fun e w' => e = .returned (.float .f64 9223372036854775808) ∧ w' = w := by
  go_enter Try.func23, Try.ntmps23
  go_wp2
  go_ret
  exact ⟨rfl, rfl⟩
theorem cless_any (x y : Nat) (w : World) (hx : x < 18446744073709551616) (hy : y < 18446744073709551616) :
    Calls Try.prog 27 #[.float .f64 x, .float .f64 y] w fun e w' => e = .returned (.bool ((fN x && !fN y) || (Ieee.double.order x y == some .lt))) ∧ w' = w := by
  have c1 := fun W => cisNaN_any x W hx
  have c2 := fun W => cisNaN_any y W hy
  generalize fN x = p at *
  generalize fN y = q at *
  cases p <;> cases q
  all_goals
    go_enter Try.func27, Try.ntmps27
    go_wp2_with fail
    refine (c1 _).mono ?_
    rintro e w' ⟨rfl, rfl⟩
    go_wp2_with (refine (c2 _).mono ?_; rintro e w' ⟨rfl, rfl⟩)
    go_ret
    exact ⟨by simp, rfl⟩
end Go.Proofs.Ytaeolkkbakdlbaa.S12
