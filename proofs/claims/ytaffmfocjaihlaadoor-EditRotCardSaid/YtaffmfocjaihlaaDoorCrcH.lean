/- CrcSum, walked. -/
import Derived.Test.YtaffmfocjaihlaaDoorCrcG
import Derived.Test.YtaffmfocjaihlaaDoorCutB
set_option maxRecDepth 100000
namespace Go.Proofs.YtaffmfocjaihlaaDoor.Pl
end Go.Proofs.YtaffmfocjaihlaaDoor.Pl
namespace Go.Proofs.YtaffmfocjaihlaaDoor.S3.Pl
end Go.Proofs.YtaffmfocjaihlaaDoor.S3.Pl
set_option linter.unusedSimpArgs false
set_option linter.unusedVariables false
namespace Go.Proofs.YtaffmfocjaihlaaDoor.S3
open Go.RowKit _root_.Go.Proofs.YtaffmfocjaihlaaDoor.Pl _root_.Go.Proofs.YtaffmfocjaihlaaDoor.S3.Pl

namespace Pl
theorem set_cut {S : List Nat} {i : Nat} (h : i < S.length) (y : Nat) : S.set i y = S.take i ++ ([y] ++ S.drop (i + 1)) := by
  rw [List.set_eq_take_append_cons_drop, if_pos h]; rfl
theorem self_cut {S : List Nat} {i : Nat} (h : i < S.length) : S = S.take i ++ ([S.getD i 0] ++ S.drop (i + 1)) := by
  have : S = S.set i (S.getD i 0) := by
    apply List.ext_getElem?
    intro k
    rw [List.getElem?_set]
    by_cases e : i = k
    · subst e
      simp [h, List.getD]
    · simp [e]
  exact this.trans (set_cut h _)
theorem csum_set {S : List Nat} (hS : ∀ x ∈ S, x < 256) {i : Nat} (h : i < S.length) {y : Nat} (hy : y < 256) (hne : y ≠ S.getD i 0) : csum (S.set i y) ≠ csum S := by
  intro e
  rw [set_cut h y] at e
  have e2 := self_cut h
  rw [e2] at e
  have e3 : S.take i ++ ([S.getD i 0] ++ S.drop (i + 1)) = S := e2.symm
  have := csum_burst (M := [y]) (M' := [S.getD i 0]) (fun x hx => hS x (List.mem_of_mem_take hx)) (by simpa using hy) (by simpa using getD_lt hS i) (fun x hx => hS x (List.mem_of_mem_drop hx)) rfl (by simp) (L := S.take i) (R := S.drop (i + 1)) (by rw [e3] at e; rw [e3]; exact e)
  simp at this
  exact hne this
theorem xor_ne {a x : Nat} (hx : x ≠ 0) : a ^^^ x ≠ a := by
  intro h
  have : a ^^^ x = a ^^^ 0 := by rw [h, Nat.xor_zero]
  exact hx (xor_cancel_left this)
end Pl

end Go.Proofs.YtaffmfocjaihlaaDoor.S3
