/- CrcThree, walked. -/
import Derived.Test.YtaffmfocjaihlaaDoorCrcH
import Derived.Deep.RegionLaw
set_option maxRecDepth 100000
namespace Go.Proofs.YtaffmfocjaihlaaDoor.Pl
end Go.Proofs.YtaffmfocjaihlaaDoor.Pl
namespace Go.Proofs.YtaffmfocjaihlaaDoor.S3.Pl
end Go.Proofs.YtaffmfocjaihlaaDoor.S3.Pl
set_option linter.unusedSimpArgs false
set_option linter.unusedVariables false
namespace Go.Proofs.YtaffmfocjaihlaaDoor.S3
open Go.RowKit _root_.Go.Proofs.YtaffmfocjaihlaaDoor.Pl _root_.Go.Proofs.YtaffmfocjaihlaaDoor.S3.Pl

namespace Pl
/-- the first i of X, then noughts -/
def partly (X : List Nat) (i : Nat) : List Nat := X.take i ++ List.replicate (X.length - i) 0
theorem partly_zero (X : List Nat) : partly X 0 = List.replicate X.length 0 := by simp [partly]
theorem partly_all (X : List Nat) : partly X X.length = X := by simp [partly]
theorem partly_length (X : List Nat) (i : Nat) : (partly X i).length = X.length := by simp [partly]; omega
theorem partly_step (X : List Nat) (i : Nat) (h : i < X.length) : (partly X i).set i (X.getD i 0) = partly X (i + 1) := by
  unfold partly
  have e : X.length - i = (X.length - (i + 1)) + 1 := by omega
  rw [e, List.replicate_succ, List.take_add_one, List.getElem?_eq_getElem h]
  have hl : (X.take i).length = i := by rw [List.length_take]; omega
  rw [List.set_append_right _ _ (by omega), hl, Nat.sub_self, List.set_cons_zero, show X.getD i 0 = X[i] by simp [List.getD, h]]
  simp only [Option.toList_some, List.append_assoc, List.singleton_append]
theorem xor3_length (A B C : List Nat) (h1 : A.length = B.length) (h2 : B.length = C.length) : (xor3 A B C).length = A.length := by
  simp [xor3]; omega
theorem xor3_get (A B C : List Nat) (i : Nat) (ha : i < A.length) (hb : i < B.length) (hc : i < C.length) : (xor3 A B C).getD i 0 = A.getD i 0 ^^^ B.getD i 0 ^^^ C.getD i 0 := by
  have h1 : (B.zip C)[i]? = some (B[i], C[i]) := by rw [List.getElem?_zip_eq_some]; exact ⟨List.getElem?_eq_getElem hb, List.getElem?_eq_getElem hc⟩
  have h2 : (A.zip (B.zip C))[i]? = some (A[i], B[i], C[i]) := by rw [List.getElem?_zip_eq_some]; exact ⟨List.getElem?_eq_getElem ha, h1⟩
  unfold xor3
  rw [List.getD_eq_getElem?_getD, List.getElem?_map, h2]
  simp [List.getD, ha, hb, hc]
theorem xor3_lt {A B C : List Nat} (hA : ∀ x ∈ A, x < 256) (hB : ∀ x ∈ B, x < 256) (hC : ∀ x ∈ C, x < 256) : ∀ x ∈ xor3 A B C, x < 256 := by
  intro x hx
  simp only [xor3, List.mem_map] at hx
  obtain ⟨⟨p, q, r⟩, hm, rfl⟩ := hx
  have h1 := List.of_mem_zip hm
  have h2 := List.of_mem_zip h1.2
  exact Nat.xor_lt_two_pow (n := 8) (Nat.xor_lt_two_pow (n := 8) (hA _ h1.1) (hB _ h2.1)) (hC _ h2.2)
end Pl

attribute [local go_sem ↓] sliceU8_eq
end Go.Proofs.YtaffmfocjaihlaaDoor.S3
