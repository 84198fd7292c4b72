/- folioref1.Get: contract. -/
import Derived.Test.YtaffmfocjaihlaaDoorNumC
set_option linter.unusedSimpArgs false
set_option linter.unusedVariables false
set_option maxRecDepth 100000
namespace Go.Proofs.YtaffmfocjaihlaaDoor.Pl
end Go.Proofs.YtaffmfocjaihlaaDoor.Pl
namespace Go.Proofs.YtaffmfocjaihlaaDoor.S2.Pl
end Go.Proofs.YtaffmfocjaihlaaDoor.S2.Pl
namespace Go.Proofs.YtaffmfocjaihlaaDoor.S2
open Go.RowKit _root_.Go.Proofs.YtaffmfocjaihlaaDoor.Pl _root_.Go.Proofs.YtaffmfocjaihlaaDoor.S2.Pl

theorem horner_big {B : List Nat} {j p n : Nat} (hn : n = vval ((B.take (j + 1)).drop (p + 1))) (hb : 144115188075855872 ≤ n) : VBad B j := by
  left
  have h := vval_drop_le (B.take (j + 1)) (p + 1)
  rw [← hn, Nat.pow_succ] at h
  have h1 : 1 ≤ 128 ^ p := by
    have := Nat.pow_le_pow_left (show 1 ≤ 128 by omega) p
    simpa using this
  have h2 : 1 * 128 * n ≤ 128 ^ p * 128 * n := Nat.mul_le_mul_right _ (Nat.mul_le_mul_right _ h1)
  omega
theorem horner {B : List Nat} {j p n y : Nat} (hn : n = vval ((B.take (j + 1)).drop (p + 1))) (hb : ¬ 144115188075855872 ≤ n) (hy : y = B.getD p 0) (hp : p < j + 1) (hj : j + 1 ≤ B.length) :
    IntKind.u64.wrap (IntKind.u64.wrap ((n : Int) * 128) + (y : Int) % 128) = ((vval ((B.take (j + 1)).drop p) : Nat) : Int) ∧ U64 (vval ((B.take (j + 1)).drop p) : Nat) := by
  have h := vval_drop B (j + 1) p hp hj
  rw [← hn, ← hy] at h
  rw [h, IntKind.wrap_u64, IntKind.wrap_u64]
  exact ⟨by omega, by omega, by omega⟩

end Go.Proofs.YtaffmfocjaihlaaDoor.S2
