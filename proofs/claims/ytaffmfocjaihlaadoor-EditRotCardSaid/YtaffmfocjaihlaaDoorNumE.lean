/- GetText and its counterpart: contracts. -/
import Derived.Test.YtaffmfocjaihlaaDoorNumD
set_option linter.unusedSimpArgs false
set_option linter.unusedVariables false
set_option maxRecDepth 100000
namespace Go.Proofs.YtaffmfocjaihlaaDoor.Pl
end Go.Proofs.YtaffmfocjaihlaaDoor.Pl
namespace Go.Proofs.YtaffmfocjaihlaaDoor.S2.Pl
end Go.Proofs.YtaffmfocjaihlaaDoor.S2.Pl
namespace Go.Proofs.YtaffmfocjaihlaaDoor.S2
open Go.RowKit _root_.Go.Proofs.YtaffmfocjaihlaaDoor.Pl _root_.Go.Proofs.YtaffmfocjaihlaaDoor.S2.Pl

attribute [local go_sem ↓] conv_eq
def TextPost (B : List Nat) (w : World) (e : Ending) (w' : World) : Prop := e = .returned (.tuple #[.string (str (vgetText B).1), .int .i64 ((vgetText B).2 : Nat)]) ∧ w = w'
theorem textPost_none {B : List Nat} {w : World} (h : (vget B).2 = 0 ∨ B.length - (vget B).2 < (vget B).1) : TextPost B w (.returned (.tuple #[.string { data := #[] }, .int .i64 0])) w := by
  unfold TextPost; rw [vgetText_none h]; exact ⟨rfl, rfl⟩
theorem textPost_some {B : List Nat} {w : World} {n k : Nat} {s : ByteArray} {j : Int} (h : ¬ ((vget B).2 = 0 ∨ B.length - (vget B).2 < (vget B).1)) (hn : n = (vget B).1) (hk : k = (vget B).2) (hs : s = str ((B.drop k).take n)) (hj : j = (k : Int) + n) :
    TextPost B w (.returned (.tuple #[.string s, .int .i64 j])) w := by
  unfold TextPost; rw [vgetText_some h, ← hn, ← hk, hs, hj]; exact ⟨by simp, rfl⟩

end Go.Proofs.YtaffmfocjaihlaaDoor.S2
