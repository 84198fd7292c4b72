/- CrcBurst, walked. -/
import Derived.Test.YtaffmfocjaihlaaDoorCrcK
set_option maxRecDepth 100000
namespace Go.Proofs.YtaffmfocjaihlaaDoor.Pl
end Go.Proofs.YtaffmfocjaihlaaDoor.Pl
namespace Go.Proofs.YtaffmfocjaihlaaDoor.S3.Pl
end Go.Proofs.YtaffmfocjaihlaaDoor.S3.Pl
set_option linter.unusedSimpArgs false
set_option linter.unusedVariables false
namespace Go.Proofs.YtaffmfocjaihlaaDoor.S3
open Go.RowKit _root_.Go.Proofs.YtaffmfocjaihlaaDoor.Pl _root_.Go.Proofs.YtaffmfocjaihlaaDoor.S3.Pl

namespace Pl
theorem ext_getD {A B : List Nat} (h : A.length = B.length) (h2 : ∀ i, i < A.length → A.getD i 0 = B.getD i 0) : A = B := by
  apply List.ext_getElem h
  intro i h1 h3
  have := h2 i h1
  simpa [List.getD, h1, h3] using this
/-- i bytes of X laid over S from A on -/
def burst (S : List Nat) (A : Nat) (X : List Nat) : Nat → List Nat
  | 0 => S
  | i + 1 => (burst S A X i).set (A + i) ((burst S A X i).getD (A + i) 0 ^^^ X.getD i 0)
theorem burst_length (S : List Nat) (A : Nat) (X : List Nat) (i : Nat) : (burst S A X i).length = S.length := by
  induction i with
  | zero => rfl
  | succ i ih => simp [burst, ih]
theorem getD_set (l : List Nat) (i j v : Nat) : (l.set i v).getD j 0 = if i = j ∧ j < l.length then v else l.getD j 0 := by
  rw [List.getD_eq_getElem?_getD, List.getElem?_set, List.getD_eq_getElem?_getD]
  by_cases e : i = j
  · subst e
    by_cases h : i < l.length
    · simp [h]
    · simp [h]
  · simp [e]
theorem burst_get (S : List Nat) (A : Nat) (X : List Nat) (i : Nat) (h : A + i ≤ S.length) (j : Nat) :
    (burst S A X i).getD j 0 = if A ≤ j ∧ j < A + i then S.getD j 0 ^^^ X.getD (j - A) 0 else S.getD j 0 := by
  induction i generalizing j with
  | zero => rw [if_neg (by omega)]; rfl
  | succ i ih =>
    have h1 := ih (by omega) j
    have h2 := ih (by omega) (A + i)
    rw [if_neg (by omega)] at h2
    unfold burst
    rw [getD_set, burst_length, h2]
    by_cases e : A + i = j
    · subst e
      rw [if_pos (by omega), if_pos (by omega), Nat.add_sub_cancel_left]
    · rw [if_neg (by omega), h1]
      by_cases c : A ≤ j ∧ j < A + i
      · rw [if_pos c, if_pos (by omega)]
      · rw [if_neg c, if_neg (by omega)]
theorem burst_lt {S X : List Nat} (hS : ∀ x ∈ S, x < 256) (hX : ∀ x ∈ X, x < 256) (A i : Nat) : ∀ x ∈ burst S A X i, x < 256 := by
  induction i with
  | zero => exact hS
  | succ i ih =>
    intro x hx
    rcases List.mem_or_eq_of_mem_set hx with h | h
    · exact ih x h
    · rw [h]; exact Nat.xor_lt_two_pow (n := 8) (getD_lt ih _) (getD_lt hX _)
theorem cut3 (S : List Nat) (A m : Nat) : S = S.take A ++ ((S.drop A).take m ++ S.drop (A + m)) := by
  rw [← List.drop_drop, List.take_append_drop, List.take_append_drop]
theorem burst_sum {S X : List Nat} (hS : ∀ x ∈ S, x < 256) (hX : ∀ x ∈ X, x < 256) {A k : Nat} (h : A + X.length ≤ S.length) (h4 : X.length ≤ 4) (hk : k < X.length) (hne : X.getD k 0 ≠ 0) : csum S ≠ csum (burst S A X X.length) := by
  intro e
  have hg := burst_get S A X X.length h
  have hl := burst_length S A X X.length
  have hT := burst_lt hS hX A X.length
  generalize burst S A X X.length = T at *
  have e1 : T.take A = S.take A := by
    apply ext_getD (by simp [hl])
    intro i hi
    rw [List.length_take] at hi
    have := hg i
    rw [if_neg (by omega)] at this
    simpa [List.getD_eq_getElem?_getD, List.getElem?_take, show i < A by omega] using this
  have e2 : T.drop (A + X.length) = S.drop (A + X.length) := by
    apply ext_getD (by simp [hl])
    intro i hi
    have := hg (A + X.length + i)
    rw [if_neg (by omega)] at this
    simpa [List.getD_eq_getElem?_getD, List.getElem?_drop] using this
  have c1 := cut3 S A X.length
  have c2 := cut3 T A X.length
  rw [e1, e2] at c2
  have hM := csum_burst (M := (S.drop A).take X.length) (M' := (T.drop A).take X.length) (L := S.take A) (R := S.drop (A + X.length)) (fun x hx => hS x (List.mem_of_mem_take hx)) (fun x hx => hS x (List.mem_of_mem_drop (List.mem_of_mem_take hx))) (fun x hx => hT x (List.mem_of_mem_drop (List.mem_of_mem_take hx))) (fun x hx => hS x (List.mem_of_mem_drop hx)) (by simp [hl]) (by rw [List.length_take]; omega) (by rw [← c1, ← c2]; exact e)
  have hk1 := congrArg (fun l : List Nat => l.getD k 0) hM
  have hgk := hg (A + k)
  rw [if_pos (by omega), Nat.add_sub_cancel_left] at hgk
  simp only [List.getD_eq_getElem?_getD, List.getElem?_take, List.getElem?_drop, if_pos hk] at hk1 hgk
  rw [hgk] at hk1
  exact xor_ne (a := S[A + k]?.getD 0) (x := X[k]?.getD 0) (by simpa [List.getD_eq_getElem?_getD] using hne) hk1.symm
/-- is one of the first i not nought? -/
def anyN (X : List Nat) (i : Nat) : Bool := (X.take i).any (· != 0)
theorem anyN_succ (X : List Nat) (i : Nat) (h : i < X.length) : anyN X (i + 1) = (anyN X i || (X.getD i 0 != 0)) := by
  unfold anyN
  rw [List.take_add_one, List.getElem?_eq_getElem h, List.any_append]
  simp [List.getD, h]
theorem anyN_some {X : List Nat} (h : anyN X X.length = true) : ∃ k, k < X.length ∧ X.getD k 0 ≠ 0 := by
  unfold anyN at h
  rw [List.take_length, List.any_eq_true] at h
  obtain ⟨x, hx, h2⟩ := h
  obtain ⟨k, hk, rfl⟩ := List.getElem_of_mem hx
  exact ⟨k, hk, by simpa [List.getD, hk] using h2⟩
end Pl
theorem ne_zero_int (x : Nat) : (((x : Nat) : Int) != 0) = (x != 0) := by
  rw [Bool.eq_iff_iff]
  simp

end Go.Proofs.YtaffmfocjaihlaaDoor.S3
