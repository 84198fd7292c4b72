/- What a sort answers; whose letters lie in memory: no walk. -/
import Derived.Test.YtklpmpniempmcaaSufJ
import Derived.Test.YtklpmpniempmcaaSaG
set_option linter.unusedSimpArgs false
set_option linter.unusedVariables false
namespace Go.Proofs.Ytklpmpniempmcaa
open Go.RowKit Pl
def SortPost (T : List Nat) (w : World) (e : Ending) (w' : World) : Prop :=
  ∃ (g : Nat) (R : List Nat), e = .returned (.slice (some ⟨g, 0, none⟩) T.length T.length) ∧ w.heap.size ≤ g ∧ OwnI w' g T.length T.length (nI R) ∧ IsSA T R ∧ Below w.heap.size w w'
theorem letI_of {w : World} {v : Value} {U : List Nat} (h : IsInts w v (nI U)) : LetI w w.heap.size v U :=
  ⟨h, fun a n c e h0 => by
    obtain ⟨b, off, cp, e2, _, _, hb, _⟩ := h.cells (by rw [nI_length]; exact h0)
    rw [e] at e2
    simp at e2
    rw [e2.1]; exact hb⟩
theorem letB_of {w : World} {v : Value} {U : List Nat} (h : IsBytes w v U) : LetB w w.heap.size v U :=
  ⟨h, fun a n c e h0 => by
    obtain ⟨b, off, cp, e2, _, _, hb, _⟩ := h.cells h0
    rw [e] at e2
    simp at e2
    rw [e2.1]; exact hb⟩
theorem nI_snoc (A : List Nat) (c : Nat) : nI (A ++ [c]) = nI A ++ [(c : Int)] := by simp [nI]
theorem isInts_ownA {w : World} {base : Nat} {sp : Option Addr} {n cap : Nat} {L : List Int} (h : w.ownsRow base 3 1 (.slice sp n cap) n (i64s L)) : IsInts w (.slice sp n cap) L := isInts_own (by have := h.1; rw [i64s_length] at this; omega) h
end Go.Proofs.Ytklpmpniempmcaa
