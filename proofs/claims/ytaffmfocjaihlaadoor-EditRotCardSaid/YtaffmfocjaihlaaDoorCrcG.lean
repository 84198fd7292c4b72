/- Seals, read: plain; the law's own opening: a contract. -/
import Derived.Test.YtaffmfocjaihlaaDoorCrcF
import Derived.Lib.SlBytesConst
set_option maxRecDepth 100000
namespace Go.Proofs.YtaffmfocjaihlaaDoor.Pl
end Go.Proofs.YtaffmfocjaihlaaDoor.Pl
namespace Go.Proofs.YtaffmfocjaihlaaDoor.S3.Pl
end Go.Proofs.YtaffmfocjaihlaaDoor.S3.Pl
set_option linter.unusedSimpArgs false
set_option linter.unusedVariables false
namespace Go.Proofs.YtaffmfocjaihlaaDoor.S3
open Go.RowKit _root_.Go.Proofs.YtaffmfocjaihlaaDoor.Pl _root_.Go.Proofs.YtaffmfocjaihlaaDoor.S3.Pl

namespace Pl
theorem pseal_cut (B R : List Nat) : ∃ T, pseal B ++ R = four B.length ++ T ∧ T = four (csum (four B.length)) ++ (four (csum B) ++ (B ++ R)) := ⟨_, by unfold pseal; simp, rfl⟩
theorem seal_take4 (B R : List Nat) : (pseal B ++ R).take 4 = four B.length := rfl
theorem seal_drop4 (B R : List Nat) : (pseal B ++ R).drop 4 = four (csum (four B.length)) ++ (four (csum B) ++ (B ++ R)) := rfl
theorem seal_drop8 (B R : List Nat) : (pseal B ++ R).drop 8 = four (csum B) ++ (B ++ R) := rfl
theorem seal_drop12 (B R : List Nat) : (pseal B ++ R).drop 12 = B ++ R := rfl
theorem seal_getFour (B R : List Nat) (h : B.length < 4294967296) : getFour (pseal B ++ R) = B.length := by
  have := getFour_four B.length h (four (csum (four B.length)) ++ (four (csum B) ++ (B ++ R)))
  exact this
theorem seal_endOk (B R : List Nat) : endOk (pseal B ++ R) = true := by
  unfold endOk
  rw [seal_drop4, seal_take4, getFour_four _ (csum_lt (four_lt _))]
  simp [pseal_length]
  omega
theorem seal_endAt (B R : List Nat) (h : B.length < 4294967296) : endAt (pseal B ++ R) = 12 + B.length := by
  rw [endAt_ok (seal_endOk B R), seal_getFour B R h]
theorem seal_take (B R : List Nat) : (pseal B ++ R).take (12 + B.length) = pseal B := by
  rw [← pseal_length, List.take_left]
theorem seal_dropAll (B R : List Nat) : (pseal B ++ R).drop (12 + B.length) = R := by
  rw [← pseal_length, List.drop_left]
theorem seal_bodyOk (B : List Nat) (hB : ∀ x ∈ B, x < 256) : bodyOk (pseal B) = true := by
  have h8 := seal_drop8 B []
  have h12 := seal_drop12 B []
  simp only [List.append_nil] at h8 h12
  unfold bodyOk
  rw [h8, h12, getFour_four _ (csum_lt hB)]
  simp
theorem pscan_seal (B R : List Nat) (hB : ∀ x ∈ B, x < 256) (h : B.length < 4294967296) :
    pscan (pseal B ++ R) = (B :: (pscan R).1, 12 + B.length + (pscan R).2.1, (pscan R).2.2) := by
  rw [pscan_more (seal_endOk B R) (by rw [seal_endAt B R h, List.length_append, pseal_length]; omega) (by rw [seal_endAt B R h, seal_take]; exact seal_bodyOk B hB)]
  rw [seal_endAt B R h, seal_dropAll, seal_drop12, Nat.add_sub_cancel_left, List.take_left]
theorem pscan_one (B : List Nat) (hB : ∀ x ∈ B, x < 256) (h : B.length < 4294967296) : pscan (pseal B) = ([B], 12 + B.length, true) := by
  have := pscan_seal B [] hB h
  rw [List.append_nil] at this
  rw [this, pscan_short (by simp)]
  simp
theorem open_seal (B : List Nat) (hB : ∀ x ∈ B, x < 256) (h : B.length < 4294967296) : (endOk (pseal B) && (endAt (pseal B) == (pseal B).length) && bodyOk (pseal B)) = true := by
  have h1 := seal_endOk B []
  have h2 := seal_endAt B [] h
  rw [List.append_nil] at h1 h2
  rw [h1, h2, seal_bodyOk B hB, pseal_length]
  simp
theorem sum_nine : csum [49, 50, 51, 52, 53, 54, 55, 56, 57] = 3421780262 := by decide +kernel
end Pl
theorem openOk_seal (B : List Nat) (hB : ∀ x ∈ B, x < 256) (h : B.length < 4294967296) : openOk (pseal B) = true := open_seal B hB h
theorem drop12_seal (B : List Nat) : (pseal B).drop 12 = B := by
  have := seal_drop12 B []
  simpa using this
theorem isBytes_mark (w : World) (B : List Nat) (r : Nat × Nat) (hB : ∀ x ∈ B, x < 256) (hl : B.length ≤ maxLen) : IsBytes (w.alloc (.cells (u8s B).toArray 5 r)) (.slice (some ⟨w.heap.size, 0, none⟩) B.length B.length) B := by
  refine ⟨hB, .inr ⟨⟨w.heap.size, 0, none⟩, B.length, rfl, Nat.le_refl _, hl, fun i u hu => ?_⟩⟩
  have hadd : (⟨w.heap.size, 0, none⟩ : Addr).add i = ⟨w.heap.size, i, none⟩ := by unfold Addr.add; split <;> simp_all
  rw [hadd]
  have hh : (w.alloc (.cells (u8s B).toArray 5 r)).heap[w.heap.size]? = some (.cells (u8s B).toArray 5 r) := heap_alloc_new w _
  unfold World.cell?
  rw [hh]
  simpa using hu
theorem open_ok {B C : List Nat} {w w' : World} {e : Ending} (h : OpenPost C w e w') (hC : C = pseal B) (hB : ∀ x ∈ B, x < 256) (hl : B.length < 4294967296) : ∃ a c, e = .returned (.tuple #[.slice a B.length c, .bool true]) ∧ Below w.heap.size w w' ∧ IsBytes w' (.slice a B.length c) B := by
  subst hC
  obtain ⟨v', he, hb, hi⟩ := h
  rw [openOk_seal B hB hl] at he hi
  rw [if_pos rfl, drop12_seal] at hi
  obtain ⟨a, c, rfl, _, _⟩ := hi.slice
  exact ⟨a, c, he, hb, hi⟩

attribute [local go_sem ↓] conv_eq
end Go.Proofs.YtaffmfocjaihlaaDoor.S3
