/- Strings made of bytes, compared; a block of bytes that is new: small lemmas, no walk. -/
import Derived.Test.YthgpdnffahmhjaaMade
namespace Go.Proofs.Ythgpdnffahmhjaa
open Go.RowKit Pl
theorem str_eqb {A B : List Nat} (hA : ∀ x ∈ A, x < 256) (hB : ∀ x ∈ B, x < 256) : ((str A).toList == (str B).toList) = decide (A = B) := by
  rw [Bool.eq_iff_iff, beq_iff_eq, ByteArray.toList_eq, ByteArray.toList_eq, decide_eq_true_iff]
  exact ⟨fun h => str_inj hA hB (ByteArray.ext (Array.toList_inj.mp h)), fun h => by rw [h]⟩
theorem str_head {A B : List Nat} {o : Bool} (hA : ∀ x ∈ A, x < 256) (hB : ∀ x ∈ B, x < 256) (h : A = B ↔ o = true) : ((str A).toList == (str B).toList) = o := by
  rw [str_eqb hA hB]
  cases o <;> simp_all
theorem isBytes_mark (w : World) (B : List Nat) (r : Nat × Nat) (hB : ∀ x ∈ B, x < 256) (hl : B.length ≤ maxLen) : IsBytes (w.alloc (.cells (u8s B).toArray 5 r)) (.slice (some ⟨w.heap.size, 0, none⟩) B.length B.length) B := by
  refine ⟨hB, .inr ⟨⟨w.heap.size, 0, none⟩, B.length, rfl, Nat.le_refl _, hl, fun i u hu => ?_⟩⟩
  have hadd : (⟨w.heap.size, 0, none⟩ : Addr).add i = ⟨w.heap.size, i, none⟩ := by unfold Addr.add; split <;> simp_all
  rw [hadd]
  have hh : (w.alloc (.cells (u8s B).toArray 5 r)).heap[w.heap.size]? = some (.cells (u8s B).toArray 5 r) := heap_alloc_new w _
  unfold World.cell?
  rw [hh]
  simpa using hu
/-- what a function answers that makes bytes, as string() tells them from then on -/
def MadeC (S : ByteArray) (n : Nat) (w : World) (e : Ending) (w' : World) : Prop :=
  ∃ sp cap, e = .returned (.slice sp n cap) ∧ Hid (∀ w'', From w' w'' → (convS (.slice sp n cap)).run Try.prog w'' = .ok (.string S) w'') ∧ Hid (From w w')
theorem MadeS.c {B : List Nat} {w w' : World} {e : Ending} {n : Nat} (hx : ∀ x ∈ B, x < 256) (hn : B.length = n) (h : MadeS B w e w') : MadeC (str B) n w e w' := by
  subst hn
  obtain ⟨sp, cap, rfl, h1, h2⟩ := h
  exact ⟨sp, cap, rfl, Lib.hid fun w'' hb => run_conv ((isBytes_own hx h1).below hb), Lib.hid h2⟩
theorem MadePost.c {B : List Nat} {w w' : World} {e : Ending} {n : Nat} (hx : ∀ x ∈ B, x < 256) (hn : B.length = n) (h : MadePost B w e w') : MadeC (str B) n w e w' := h.s.c hx hn
/-- .. the bytes themselves -/
def MadeI (B : List Nat) (n : Nat) (w : World) (e : Ending) (w' : World) : Prop :=
  ∃ sp cap, e = .returned (.slice sp n cap) ∧ Hid (IsBytes w' (.slice sp n cap) B) ∧ Hid (From w w')
theorem MadePost.i {B : List Nat} {w w' : World} {e : Ending} {n : Nat} (hx : ∀ x ∈ B, x < 256) (hn : B.length = n) (h : MadePost B w e w') : MadeI B n w e w' := by
  obtain ⟨sp, cap, rfl, h1, h2⟩ := h.s
  subst hn
  exact ⟨sp, cap, rfl, Lib.hid (isBytes_own hx h1), Lib.hid h2⟩
end Go.Proofs.Ythgpdnffahmhjaa
