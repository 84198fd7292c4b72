/- The greater of two integers. -/
import Derived.Test.YtklpmpniempmcaaSufR
set_option linter.unusedSimpArgs false
namespace Go.Proofs.Ytklpmpniempmcaa
open Go.RowKit Pl
def maxI (ats : Array TypeId) (ty : TypeId) (v u : Value) : Sem Value := Builtin.max_ ats ty #[v, u]
theorem maxI_eq (ats : Array TypeId) (ty : TypeId) (v u : Value) : Builtin.max_ ats ty #[v, u] = maxI ats ty v u := rfl
theorem run_maxI (ats : Array TypeId) (ty : TypeId) (a b : Nat) (w : World) : (maxI ats ty (.int .i64 a) (.int .i64 b)).run Try.prog w = .ok (.int .i64 (Nat.max a b : Nat)) w := by
  unfold maxI Builtin.max_
  rcases Nat.le_total a b with h | h
  · rw [show Nat.max a b = b from Nat.max_eq_right h]
    by_cases h2 : a < b
    · have h3 : (a : Int) < (b : Int) := by omega
      simp [Builtin.max2, h2, h3]
    · obtain rfl : a = b := by omega
      simp [Builtin.max2]
  · rw [show Nat.max a b = a from Nat.max_eq_left h]
    have h3 : ¬ (a : Int) < (b : Int) := by omega
    have h2 : ¬ a < b := by omega
    simp [Builtin.max2, h2, h3]
end Go.Proofs.Ytklpmpniempmcaa
