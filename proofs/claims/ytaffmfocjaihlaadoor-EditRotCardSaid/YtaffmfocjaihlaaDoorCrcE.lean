/- folioref1.Scan: a contract. -/
import Derived.Test.YtaffmfocjaihlaaDoorCrcD
import Derived.Test.YtaffmfocjaihlaaDoorStrs
set_option maxRecDepth 100000
namespace Go.Proofs.YtaffmfocjaihlaaDoor.Pl
end Go.Proofs.YtaffmfocjaihlaaDoor.Pl
namespace Go.Proofs.YtaffmfocjaihlaaDoor.S3.Pl
end Go.Proofs.YtaffmfocjaihlaaDoor.S3.Pl
set_option linter.unusedSimpArgs false
set_option linter.unusedVariables false
namespace Go.Proofs.YtaffmfocjaihlaaDoor.S3
open Go.RowKit _root_.Go.Proofs.YtaffmfocjaihlaaDoor.Pl _root_.Go.Proofs.YtaffmfocjaihlaaDoor.S3.Pl

namespace Pl
theorem take_lt {B : List Nat} (h : ∀ x ∈ B, x < 256) (n : Nat) : ∀ x ∈ B.take n, x < 256 := fun x hx => h x (List.mem_of_mem_take hx)
theorem drop_lt {B : List Nat} (h : ∀ x ∈ B, x < 256) (n : Nat) : ∀ x ∈ B.drop n, x < 256 := fun x hx => h x (List.mem_of_mem_drop hx)
theorem head_eq {R : List Nat} (hx : ∀ x ∈ R, x < 256) (h12 : 12 ≤ R.length) : four (csum (R.take 4)) = (R.drop 4).take 4 ↔ endOk R = true := by
  rw [four_eq (drop_lt hx 4) (by rw [List.length_drop]; omega) _ (csum_lt (take_lt hx 4))]
  unfold endOk
  simp [h12]
  omega
theorem body_eq {R : List Nat} (hx : ∀ x ∈ R, x < 256) (h2 : endOk R = true) (h3 : endAt R ≤ R.length) : four (csum ((R.drop 12).take (endAt R - 12))) = (R.drop 8).take 4 ↔ bodyOk (R.take (endAt R)) = true := by
  have h12 : 12 ≤ endAt R := by rw [endAt_ok h2]; omega
  have e1 : (R.drop 8).take 4 = ((R.take (endAt R)).drop 8).take 4 := by
    rw [List.drop_take, List.take_take, Nat.min_eq_left (by omega)]
  have e2 : (R.take (endAt R)).drop 12 = (R.drop 12).take (endAt R - 12) := List.drop_take
  rw [e1, four_eq (drop_lt (take_lt hx _) 8) (by rw [List.length_drop, List.length_take]; omega) _ (csum_lt (take_lt (drop_lt hx 12) _))]
  unfold bodyOk
  rw [e2]
  simp
  omega
end Pl
attribute [local go_sem ↓] sliceU8_eq conv_eq
end Go.Proofs.YtaffmfocjaihlaaDoor.S3
