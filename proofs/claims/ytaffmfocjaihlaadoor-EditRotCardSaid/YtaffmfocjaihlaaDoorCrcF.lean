/- foliolaw3.same: a contract. -/
import Derived.Test.YtaffmfocjaihlaaDoorCrcE
set_option linter.unusedSimpArgs false
set_option linter.unusedVariables false
set_option maxRecDepth 100000
namespace Go.Proofs.YtaffmfocjaihlaaDoor.Pl
end Go.Proofs.YtaffmfocjaihlaaDoor.Pl
namespace Go.Proofs.YtaffmfocjaihlaaDoor.S3.Pl
end Go.Proofs.YtaffmfocjaihlaaDoor.S3.Pl
namespace Go.Proofs.YtaffmfocjaihlaaDoor.S3
open Go.RowKit _root_.Go.Proofs.YtaffmfocjaihlaaDoor.Pl _root_.Go.Proofs.YtaffmfocjaihlaaDoor.S3.Pl

namespace Pl
theorem take_step {La Lb : List (List Nat)} {i : Nat} (h : La.take i = Lb.take i) (ha : i < La.length) (hb : i < Lb.length) (he : La.getD i [] = Lb.getD i []) : La.take (i + 1) = Lb.take (i + 1) := by
  rw [List.take_add_one, List.take_add_one, h, List.getElem?_eq_getElem ha, List.getElem?_eq_getElem hb]
  simp [List.getD, ha, hb] at he
  rw [he]
theorem take_ne {La Lb : List (List Nat)} {i : Nat} (ha : i < La.length) (he : La.getD i [] ≠ Lb.getD i []) : La ≠ Lb := fun h => he (by rw [h])
end Pl
def SamePost (La Lb : List (List Nat)) (w : World) (e : Ending) (w' : World) : Prop := e = .returned (.bool (decide (La = Lb))) ∧ ∃ m, w' = w.drewN m
attribute [local go_sem ↓] conv_eq
end Go.Proofs.YtaffmfocjaihlaaDoor.S3
