/- Seals one behind the other: plain; foliolaw3.laid, told: contracts. -/
import Derived.Test.YtaffmfocjaihlaaDoorCrcH
set_option maxRecDepth 100000
namespace Go.Proofs.YtaffmfocjaihlaaDoor.Pl
end Go.Proofs.YtaffmfocjaihlaaDoor.Pl
namespace Go.Proofs.YtaffmfocjaihlaaDoor.S3.Pl
end Go.Proofs.YtaffmfocjaihlaaDoor.S3.Pl
set_option linter.unusedSimpArgs false
set_option linter.unusedVariables false
namespace Go.Proofs.YtaffmfocjaihlaaDoor.S3
open Go.RowKit _root_.Go.Proofs.YtaffmfocjaihlaaDoor.Pl _root_.Go.Proofs.YtaffmfocjaihlaaDoor.S3.Pl

namespace Pl
/-- byte strings, sealed, one behind the other -/
def pcat : List (List Nat) → List Nat
  | [] => []
  | P :: t => pseal P ++ pcat t
theorem pcat_append (A B : List (List Nat)) : pcat (A ++ B) = pcat A ++ pcat B := by
  induction A with
  | nil => rfl
  | cons P t ih => simp [pcat, ih]
theorem pcat_snoc (A : List (List Nat)) (P : List Nat) : pcat (A ++ [P]) = pcat A ++ pseal P := by rw [pcat_append]; simp [pcat]
theorem pcat_lt {A : List (List Nat)} (h : ∀ P ∈ A, ∀ x ∈ P, x < 256) : ∀ x ∈ pcat A, x < 256 := by
  induction A with
  | nil => simp [pcat]
  | cons P t ih =>
    intro x hx
    simp only [pcat, List.mem_append] at hx
    rcases hx with hx | hx
    · exact pseal_lt (h P (by simp)) x hx
    · exact ih (fun Q hQ => h Q (by simp [hQ])) x hx
theorem pscan_cat (A : List (List Nat)) (R : List Nat) (h : ∀ P ∈ A, ∀ x ∈ P, x < 256) (hl : ∀ P ∈ A, P.length < 4294967296) :
    pscan (pcat A ++ R) = (A ++ (pscan R).1, (pcat A).length + (pscan R).2.1, (pscan R).2.2) := by
  induction A with
  | nil => simp [pcat]
  | cons P t ih =>
    have h1 := pscan_seal P (pcat t ++ R) (h P (by simp)) (hl P (by simp))
    rw [ih (fun Q hQ => h Q (by simp [hQ])) (fun Q hQ => hl Q (by simp [hQ]))] at h1
    rw [pcat, List.append_assoc, h1]
    simp [pseal_length]
    omega
/-- the parts that are laid: the first n of L, sixty bytes of each at most -/
def parts (L : List (List Nat)) (n : Nat) : List (List Nat) := (L.take n).map (·.take 60)
theorem parts_step (L : List (List Nat)) (i : Nat) (h : i < L.length) : parts L (i + 1) = parts L i ++ [(L.getD i []).take 60] := by
  unfold parts
  rw [List.take_add_one, List.getElem?_eq_getElem h, List.map_append]
  congr 1
  simp [List.getD, h]
theorem parts_min (L : List (List Nat)) (n : Nat) : parts L n = parts L (min n L.length) := by
  unfold parts
  by_cases h : n ≤ L.length
  · rw [Nat.min_eq_left h]
  · rw [Nat.min_eq_right (by omega), List.take_length, List.take_of_length_le (by omega)]
theorem parts_short {L : List (List Nat)} {n : Nat} : ∀ P ∈ parts L n, P.length ≤ 60 := by
  intro P hP
  simp only [parts, List.mem_map] at hP
  obtain ⟨Q, _, rfl⟩ := hP
  rw [List.length_take]; omega
theorem parts_lt {L : List (List Nat)} (h : ∀ B ∈ L, ∀ x ∈ B, x < 256) (n : Nat) : ∀ P ∈ parts L n, ∀ x ∈ P, x < 256 := by
  intro P hP
  simp only [parts, List.mem_map] at hP
  obtain ⟨Q, hQ, rfl⟩ := hP
  exact fun x hx => h Q (List.mem_of_mem_take hQ) x (List.mem_of_mem_take hx)
theorem parts_length (L : List (List Nat)) (n : Nat) : (parts L n).length = min n L.length := by simp [parts]
theorem pcat_len {A : List (List Nat)} (h : ∀ P ∈ A, P.length ≤ 60) : (pcat A).length ≤ 72 * A.length := by
  induction A with
  | nil => simp [pcat]
  | cons P t ih =>
    have h1 := ih fun Q hQ => h Q (by simp [hQ])
    have h2 := h P (by simp)
    simp only [pcat, List.length_append, pseal_length, List.length_cons]
    omega
theorem plaid_len (L : List (List Nat)) (n : Nat) : (pcat (parts L n)).length ≤ 72 * n := by
  have h1 := pcat_len (A := parts L n) parts_short
  rw [parts_length] at h1
  have : min n L.length ≤ n := Nat.min_le_left _ _
  omega
end Pl

/-- what a whole scan of what was laid answers -/
theorem pscan_laid {L : List (List Nat)} (h : ∀ B ∈ L, ∀ x ∈ B, x < 256) (n : Nat) : pscan (pcat (parts L n)) = (parts L n, (pcat (parts L n)).length, true) := by
  have := pscan_cat (parts L n) [] (parts_lt h n) (fun P hP => by have := parts_short P hP; omega)
  rw [List.append_nil] at this
  rw [this, pscan_short (by simp)]
  simp
end Go.Proofs.YtaffmfocjaihlaaDoor.S3
