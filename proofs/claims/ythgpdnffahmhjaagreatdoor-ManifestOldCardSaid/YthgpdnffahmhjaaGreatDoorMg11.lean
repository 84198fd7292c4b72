/- Texts put together: CrcF, CrcG, CrcH, CrcJ, CrcN. -/
import Derived.Test.YthgpdnffahmhjaaGreatDoorMg2
import Derived.Test.YthgpdnffahmhjaaGreatDoorMg10
import Derived.Lib.SlBytesConst
set_option linter.unusedSimpArgs false
set_option linter.unusedVariables false
set_option maxRecDepth 100000
namespace Go.Proofs.YthgpdnffahmhjaaGreatDoor.Pl
end Go.Proofs.YthgpdnffahmhjaaGreatDoor.Pl
namespace Go.Proofs.YthgpdnffahmhjaaGreatDoor.S3.Pl
end Go.Proofs.YthgpdnffahmhjaaGreatDoor.S3.Pl
namespace Go.Proofs.YthgpdnffahmhjaaGreatDoor.S3
open Go.RowKit _root_.Go.Proofs.YthgpdnffahmhjaaGreatDoor.Pl _root_.Go.Proofs.YthgpdnffahmhjaaGreatDoor.S3.Pl

namespace Pl
end Pl
attribute [local go_sem ↓] conv_eq
end Go.Proofs.YthgpdnffahmhjaaGreatDoor.S3
namespace Go.Proofs.YthgpdnffahmhjaaGreatDoor.Pl
end Go.Proofs.YthgpdnffahmhjaaGreatDoor.Pl
namespace Go.Proofs.YthgpdnffahmhjaaGreatDoor.S3.Pl
end Go.Proofs.YthgpdnffahmhjaaGreatDoor.S3.Pl
namespace Go.Proofs.YthgpdnffahmhjaaGreatDoor.S3
open Go.RowKit _root_.Go.Proofs.YthgpdnffahmhjaaGreatDoor.Pl _root_.Go.Proofs.YthgpdnffahmhjaaGreatDoor.S3.Pl

namespace Pl
theorem seal_take4 (B R : List Nat) : (pseal B ++ R).take 4 = four B.length := rfl
theorem seal_drop4 (B R : List Nat) : (pseal B ++ R).drop 4 = four (csum (four B.length)) ++ (four (csum B) ++ (B ++ R)) := rfl
theorem seal_drop8 (B R : List Nat) : (pseal B ++ R).drop 8 = four (csum B) ++ (B ++ R) := rfl
theorem seal_drop12 (B R : List Nat) : (pseal B ++ R).drop 12 = B ++ R := rfl
theorem seal_getFour (B R : List Nat) (h : B.length < 4294967296) : getFour (pseal B ++ R) = B.length := by
  have := getFour_four B.length h (four (csum (four B.length)) ++ (four (csum B) ++ (B ++ R)))
  exact this
theorem seal_endOk (B R : List Nat) : endOk (pseal B ++ R) = true := by
  unfold endOk
  rw [seal_drop4, seal_take4, getFour_four _ (csum_lt (four_lt _))]
  simp [pseal_length]
  omega
theorem seal_endAt (B R : List Nat) (h : B.length < 4294967296) : endAt (pseal B ++ R) = 12 + B.length := by
  rw [endAt_ok (seal_endOk B R), seal_getFour B R h]
theorem seal_take (B R : List Nat) : (pseal B ++ R).take (12 + B.length) = pseal B := by
  rw [← pseal_length, List.take_left]
theorem seal_dropAll (B R : List Nat) : (pseal B ++ R).drop (12 + B.length) = R := by
  rw [← pseal_length, List.drop_left]
theorem seal_bodyOk (B : List Nat) (hB : ∀ x ∈ B, x < 256) : bodyOk (pseal B) = true := by
  have h8 := seal_drop8 B []
  have h12 := seal_drop12 B []
  simp only [List.append_nil] at h8 h12
  unfold bodyOk
  rw [h8, h12, getFour_four _ (csum_lt hB)]
  simp
theorem pscan_seal (B R : List Nat) (hB : ∀ x ∈ B, x < 256) (h : B.length < 4294967296) :
    pscan (pseal B ++ R) = (B :: (pscan R).1, 12 + B.length + (pscan R).2.1, (pscan R).2.2) := by
  rw [pscan_more (seal_endOk B R) (by rw [seal_endAt B R h, List.length_append, pseal_length]; omega) (by rw [seal_endAt B R h, seal_take]; exact seal_bodyOk B hB)]
  rw [seal_endAt B R h, seal_dropAll, seal_drop12, Nat.add_sub_cancel_left, List.take_left]
end Pl
theorem isBytes_mark (w : World) (B : List Nat) (r : Nat × Nat) (hB : ∀ x ∈ B, x < 256) (hl : B.length ≤ maxLen) : IsBytes (w.alloc (.cells (u8s B).toArray 5 r)) (.slice (some ⟨w.heap.size, 0, none⟩) B.length B.length) B := by
  refine ⟨hB, .inr ⟨⟨w.heap.size, 0, none⟩, B.length, rfl, Nat.le_refl _, hl, fun i u hu => ?_⟩⟩
  have hadd : (⟨w.heap.size, 0, none⟩ : Addr).add i = ⟨w.heap.size, i, none⟩ := by unfold Addr.add; split <;> simp_all
  rw [hadd]
  have hh : (w.alloc (.cells (u8s B).toArray 5 r)).heap[w.heap.size]? = some (.cells (u8s B).toArray 5 r) := heap_alloc_new w _
  unfold World.cell?
  rw [hh]
  simpa using hu
attribute [local go_sem ↓] conv_eq
end Go.Proofs.YthgpdnffahmhjaaGreatDoor.S3
namespace Go.Proofs.YthgpdnffahmhjaaGreatDoor.Pl
end Go.Proofs.YthgpdnffahmhjaaGreatDoor.Pl
namespace Go.Proofs.YthgpdnffahmhjaaGreatDoor.S3.Pl
end Go.Proofs.YthgpdnffahmhjaaGreatDoor.S3.Pl
namespace Go.Proofs.YthgpdnffahmhjaaGreatDoor.S3
open Go.RowKit _root_.Go.Proofs.YthgpdnffahmhjaaGreatDoor.Pl _root_.Go.Proofs.YthgpdnffahmhjaaGreatDoor.S3.Pl

namespace Pl
end Pl

end Go.Proofs.YthgpdnffahmhjaaGreatDoor.S3
namespace Go.Proofs.YthgpdnffahmhjaaGreatDoor.Pl
end Go.Proofs.YthgpdnffahmhjaaGreatDoor.Pl
namespace Go.Proofs.YthgpdnffahmhjaaGreatDoor.S3.Pl
end Go.Proofs.YthgpdnffahmhjaaGreatDoor.S3.Pl
namespace Go.Proofs.YthgpdnffahmhjaaGreatDoor.S3
open Go.RowKit _root_.Go.Proofs.YthgpdnffahmhjaaGreatDoor.Pl _root_.Go.Proofs.YthgpdnffahmhjaaGreatDoor.S3.Pl

namespace Pl
def pcat : List (List Nat) → List Nat
  | [] => []
  | P :: t => pseal P ++ pcat t
theorem pcat_append (A B : List (List Nat)) : pcat (A ++ B) = pcat A ++ pcat B := by
  induction A with
  | nil => rfl
  | cons P t ih => simp [pcat, ih]
theorem pscan_cat (A : List (List Nat)) (R : List Nat) (h : ∀ P ∈ A, ∀ x ∈ P, x < 256) (hl : ∀ P ∈ A, P.length < 4294967296) :
    pscan (pcat A ++ R) = (A ++ (pscan R).1, (pcat A).length + (pscan R).2.1, (pscan R).2.2) := by
  induction A with
  | nil => simp [pcat]
  | cons P t ih =>
    have h1 := pscan_seal P (pcat t ++ R) (h P (by simp)) (hl P (by simp))
    rw [ih (fun Q hQ => h Q (by simp [hQ])) (fun Q hQ => hl Q (by simp [hQ]))] at h1
    rw [pcat, List.append_assoc, h1]
    simp [pseal_length]
    omega
end Pl

end Go.Proofs.YthgpdnffahmhjaaGreatDoor.S3
namespace Go.Proofs.YthgpdnffahmhjaaGreatDoor.Pl
end Go.Proofs.YthgpdnffahmhjaaGreatDoor.Pl
namespace Go.Proofs.YthgpdnffahmhjaaGreatDoor.S3.Pl
end Go.Proofs.YthgpdnffahmhjaaGreatDoor.S3.Pl
namespace Go.Proofs.YthgpdnffahmhjaaGreatDoor.S3
open Go.RowKit _root_.Go.Proofs.YthgpdnffahmhjaaGreatDoor.Pl _root_.Go.Proofs.YthgpdnffahmhjaaGreatDoor.S3.Pl

namespace Pl
end Pl

attribute [local go_sem ↓] sliceU8_eq
end Go.Proofs.YthgpdnffahmhjaaGreatDoor.S3
