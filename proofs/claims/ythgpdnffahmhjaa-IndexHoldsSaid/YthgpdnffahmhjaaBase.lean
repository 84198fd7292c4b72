/- Blocks of memory that are known whole, and what a call leaves alone: small lemmas on worlds, no program. -/
import Derived.WalkKit
import Derived.WalkSpells
import Derived.WalkLawsBesides
import Derived.BigQuiet
import Derived.Deep.QuietTactic
import Derived.Deep.RegionLaw
import Derived.Deep.LoopGhost
import Derived.Deep.Draws
import Derived.BigRegion
import Derived.Outline
import Derived.Lib.Hide
import Derived.Laws.CopyOwn
import Derived.Laws.AppendOwnNone
import Derived.Deep.RegionHeld3
import Derived.Deep.WholeRow
namespace Go.Proofs.Ythgpdnffahmhjaa
open Go.RowKit

/-- block b is a row of the cells c, of type t, none of them frozen -/
def Blk (w : World) (b : Nat) (t : TypeId) (c : List Value) : Prop := w.heap[b]? = some (.cells c.toArray t (0, 0))

namespace Blk
variable {w w' : World} {b : Nat} {t : TypeId} {c : List Value}
theorem cell (h : Blk w b t c) {o : Nat} {v : Value} (ho : c[o]? = some v) : w.cell? ⟨b, o, none⟩ = some v := by
  unfold Blk at h; simp [World.cell?, h, ho]
theorem frozen (h : Blk w b t c) (o : Nat) : w.frozen? ⟨b, o, none⟩ = false := by
  unfold Blk at h; simp [World.frozen?, h]
theorem lt (h : Blk w b t c) : b < w.heap.size := by
  unfold Blk at h
  exact (Array.getElem?_eq_some_iff.1 h).1
theorem set (h : Blk w b t c) (o : Nat) (v : Value) : Blk (w.setCell ⟨b, o, none⟩ v) b t (c.set o v) := by
  have hl := h.lt
  unfold Blk at h ⊢
  simp only [World.setCell]
  rw [Array.getElem?_modify]
  simp [h]
theorem setOther (h : Blk w b t c) {p : Addr} (hp : b ≠ p.block) (v : Value) : Blk (w.setCell p v) b t c := by
  unfold Blk at h ⊢
  rw [Below.heap_setCell w p v b hp]; exact h
theorem alloc (h : Blk w b t c) (o : Obj) : Blk (w.alloc o) b t c := by
  have hl := h.lt
  unfold Blk at h ⊢
  rw [Below.heap_alloc w o b hl]; exact h
theorem new (w : World) (t : TypeId) (c : List Value) : Blk (w.alloc (.cells c.toArray t)) w.heap.size t c := by
  unfold Blk; exact heap_alloc_new w _
theorem drew (h : Blk w b t c) : Blk w.drew b t c := h
theorem drewN (h : Blk w b t c) (n : Nat) : Blk (w.drewN n) b t c := h
theorem grown {row : Option Nat} (h : Blk w b t c) (hg : w.grownBy w' row) (hb : some b ≠ row) : Blk w' b t c := by
  have hl := h.lt
  unfold Blk at h ⊢
  rw [hg.block b hl hb]; exact h
theorem below {B : Nat} (h : Blk w b t c) (hg : Below B w w') (hb : b < B) : Blk w' b t c := by
  unfold Blk at h ⊢
  rw [hg.block b hb]; exact h
theorem ne {b2 : Nat} {t2 : TypeId} {c2 : List Value} (h : Blk w b t c) (h2 : Blk w b2 t2 c2) (ht : t ≠ t2) : b ≠ b2 := by
  intro e; subst e
  unfold Blk at h h2
  rw [h] at h2
  simp at h2
  exact ht h2.2
theorem same {t2 : TypeId} {c2 : List Value} (h : Blk w b t c) (h2 : Blk w b t2 c2) : c = c2 := by
  unfold Blk at h h2
  rw [h] at h2
  simp at h2
  exact h2.1
theorem setRow (h : Blk w b t c) (c' : List Value) : Blk (w.setRow b c'.toArray) b t c' := by
  unfold Blk at h ⊢
  exact setRow_heap w b _ _ t _ h
theorem setRowOther (h : Blk w b t c) {g : Nat} (hg : b ≠ g) (c' : Array Value) : Blk (w.setRow g c') b t c := by
  unfold Blk at h ⊢
  rw [setRow_other w g b c' hg]; exact h
end Blk

/-- only block b may have changed; blocks may be new -/
abbrev Gr (w w' : World) (b : Nat) : Prop := w.grownBy w' (some b)
namespace Gr
variable {w w' w'' : World} {b : Nat}
theorem refl (w : World) (b : Nat) : Gr w w b := ⟨rfl, rfl, rfl, Nat.le_refl _, fun _ _ _ => rfl⟩
theorem trans (h : Gr w w' b) (k : Gr w' w'' b) : Gr w w'' b :=
  ⟨k.os.trans h.os, k.tape.trans h.tape, k.output.trans h.output, Nat.le_trans h.size k.size,
    fun i hi hn => (k.block i (Nat.lt_of_lt_of_le hi h.size) hn).trans (h.block i hi hn)⟩
theorem setCell (h : Gr w w' b) (o : Nat) (v : Value) : Gr w (w'.setCell ⟨b, o, none⟩ v) b :=
  ⟨h.os, h.tape, h.output, by simpa using h.size, fun i hi hn => by
    have hib : i ≠ b := fun e => hn (by rw [e])
    rw [Below.heap_setCell w' ⟨b, o, none⟩ v i hib]; exact h.block i hi hn⟩
theorem alloc (h : Gr w w' b) (o : Obj) : Gr w (w'.alloc o) b :=
  h.trans (World.grownBy_alloc w' o (some b))
theorem drew (h : Gr w w' b) : Gr w w'.drew b := ⟨h.os, h.tape, h.output, h.size, h.block⟩
theorem drewN (h : Gr w w' b) (n : Nat) : Gr w (w'.drewN n) b := ⟨h.os, h.tape, h.output, h.size, h.block⟩
theorem below (h : Gr w w' b) {B : Nat} (hB : B ≤ w.heap.size) (hb : B ≤ b) : Below B w w' :=
  ⟨h.os, h.tape, h.output, h.size, fun k hk => h.block k (by omega) (by intro e; simp at e; omega)⟩
theorem ofBelow (h : Below w.heap.size w w') : Gr w w' b := ⟨h.os, h.tape, h.output, h.size, fun k hk _ => h.block k hk⟩
end Gr

theorem bel_drewN {B : Nat} {a w : World} (h : Below B a w) (n : Nat) : Below B a (w.drewN n) := ⟨h.os, h.tape, h.output, h.size, h.block⟩
theorem ret_int {k : IntKind} {a b : Int} (h : a = b) : Ending.returned (.int k a) = .returned (.int k b) := by rw [h]
theorem bcell {W w1 : World} (hb : Below W.heap.size W w1) : (∀ b o, b < W.heap.size → w1.cell? ⟨b, o, none⟩ = W.cell? ⟨b, o, none⟩) ∧ (∀ b o, b < W.heap.size → w1.frozen? ⟨b, o, none⟩ = W.frozen? ⟨b, o, none⟩) :=
  ⟨fun b o h => hb.cell (p := ⟨b, o, none⟩) h, fun b o h => hb.frozen (p := ⟨b, o, none⟩) h⟩

/-- what a walk is told of a slice of integers that came in: nil, or a row of 'cap' cells, the numbers 'zs', the first 'len' its elements -/
def IsRow (k : IntKind) (w : World) (a : Option Addr) (len cap : Nat) (zs : List Int) : Prop :=
  (a = none ∧ len = 0 ∧ cap = 0 ∧ zs = []) ∨
  ∃ x, a = some x ∧ len ≤ cap ∧ cap ≤ maxLen ∧ zs.length = cap ∧ (∀ i, i < zs.length → w.cell? (x.add i) = some (.int k (zs.getD i 0))) ∧ ∀ n ∈ zs, (Lit.int k n).wf = true
theorem IsRow.cells {k : IntKind} {w : World} {a : Option Addr} {len cap : Nat} {zs : List Int} (h : IsRow k w a len cap zs) (hl : 0 < len) :
    ∃ b off, a = some ⟨b, off, none⟩ ∧ b < w.heap.size ∧ len ≤ zs.length ∧ len ≤ maxLen ∧ (∀ i, i < len → w.cell? ⟨b, off + i, none⟩ = some (.int k (zs.getD i 0))) ∧ ∀ i, i < len → (Lit.int k (zs.getD i 0)).wf = true := by
  rcases h with ⟨rfl, rfl, rfl, rfl⟩ | ⟨x, rfl, h1, h2, h3, hc, hw⟩
  · omega
  · obtain ⟨b, off, spot⟩ := x
    have hc0 := hc 0 (by omega)
    have hspot : spot = none := by simpa [Addr.add] using World.cell?_spot hc0
    subst hspot
    refine ⟨b, off, rfl, World.block_lt_of_cell? w _ hc0, by omega, by omega, fun i hi => ?_, fun i hi => ?_⟩
    · have := hc i (by omega)
      have hadd : (⟨b, off, none⟩ : Addr).add i = ⟨b, off + i, none⟩ := by unfold Addr.add; split <;> simp_all
      rwa [hadd] at this
    · apply hw
      rw [List.getD_eq_getElem?_getD, List.getElem?_eq_getElem (by omega)]
      exact List.getElem_mem _
theorem IsRow.len_le {k : IntKind} {w : World} {a : Option Addr} {len cap : Nat} {zs : List Int} (h : IsRow k w a len cap zs) : len ≤ maxLen := by
  rcases h with ⟨rfl, rfl, rfl, rfl⟩ | ⟨x, rfl, h1, h2, h3, hc, hw⟩
  · unfold maxLen; omega
  · omega
/-- what a walk is told of a slice of strings that came in -/
def IsStrs (w : World) (a : Option Addr) (len : Nat) (ss : List ByteArray) : Prop :=
  len ≤ maxLen ∧ (len = 0 ∨ ∃ b off, a = some ⟨b, off, none⟩ ∧ b < w.heap.size ∧ ∀ i, i < len → w.cell? ⟨b, off + i, none⟩ = some (.string (ss.getD i ByteArray.empty)) ∧ (ss.getD i ByteArray.empty).size ≤ maxLen)
theorem IsStrs.cells {w : World} {a : Option Addr} {len : Nat} {ss : List ByteArray} (h : IsStrs w a len ss) (h0 : 0 < len) : ∃ b off, a = some ⟨b, off, none⟩ ∧ b < w.heap.size ∧ ∀ i, i < len → w.cell? ⟨b, off + i, none⟩ = some (.string (ss.getD i ByteArray.empty)) ∧ (ss.getD i ByteArray.empty).size ≤ maxLen := by
  obtain ⟨_, h | h⟩ := h
  · omega
  · exact h

theorem strs_of {w : World} {x : Addr} {len : Nat} {ss : List ByteArray} (hm : len ≤ maxLen) (hl : len ≤ ss.length) (hc : ∀ i, i < ss.length → w.cell? (x.add i) = some (.string (ss.getD i ByteArray.empty))) (hs : ∀ s ∈ ss, s.size ≤ maxLen) : IsStrs w (some x) len ss := by
  refine ⟨hm, ?_⟩
  by_cases h0 : len = 0
  · exact .inl h0
  · obtain ⟨b, off, spot⟩ := x
    have hc0 := hc 0 (by omega)
    have hspot : spot = none := by simpa [Addr.add] using World.cell?_spot hc0
    subst hspot
    refine .inr ⟨b, off, rfl, World.block_lt_of_cell? w _ hc0, fun i hi => ⟨?_, ?_⟩⟩
    · have := hc i (by omega)
      have hadd : (⟨b, off, none⟩ : Addr).add i = ⟨b, off + i, none⟩ := by unfold Addr.add; split <;> simp_all
      rwa [hadd] at this
    · apply hs
      rw [List.getD_eq_getElem?_getD, List.getElem?_eq_getElem (by omega)]
      exact List.getElem_mem _
/-- a region that draws: the condition may be a stronger one from here on -/
theorem wpAnyH_mono {P : Program} {md : Region.Mode} {ops : Array Oper} {Q : Exit → Act → World → Prop} {S S' : World → Prop} (h : ∀ w, S' w → S w) :
    ∀ {fuel : Nat} {listed : Array Bool} {a : Act} {w : World}, wpAnyH P md ops Q S' fuel listed a w → wpAnyH P md ops Q S fuel listed a w
  | 0, _, _, _, H => H
  | _ + 1, _, _, _, H => ⟨H.1, fun i hi => wpOp_mono (fun _ w' h' => ⟨h w' h'.1, wpAnyH_mono h h'.2⟩) (H.2 i hi)⟩
theorem wpAnyH_start {P : Program} {id : Nat} {ops : Array Oper} {Q : Exit → Act → World → Prop} {S : World → Prop} {a : Act} {w : World} {n : Nat} {l : Array Bool} (hm : P.follows .mixedOrders = true) (hS : S w.drew) (hn : ops.size = n) (hl : Array.replicate n false = l)
    (h : wpAnyH P .any ops Q S n l a w.drew) : (Code.region id ops true).wp P Q a w :=
  wp_region_held_drew hm hS fun _ => by rw [hn, hl]; exact h
/-- the worlds that come behind w -/
def From (w w' : World) : Prop := Below w.heap.size w w'
theorem From.refl (w : World) : From w w := Below.refl _ _
theorem From.trans {a b c : World} (h : From a b) (k : From b c) : From a c := Below.trans h (Below.mono k h.size)
end Go.Proofs.Ythgpdnffahmhjaa
