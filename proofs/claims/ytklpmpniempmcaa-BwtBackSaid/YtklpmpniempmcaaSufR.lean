/- Rows of booleans and of integers, a text in memory, the box of a text: lemmas without a walk. -/
import Derived.Test.YtklpmpniempmcaaSufB
import Derived.Test.YtklpmpniempmcaaSaD
import Derived.Deep.WholeRow
set_option linter.unusedSimpArgs false
set_option linter.unusedVariables false
namespace Go.Proofs.Ytklpmpniempmcaa
open Go.RowKit Pl

theorem add_none (b off i : Nat) : (⟨b, off, none⟩ : Addr).add i = ⟨b, off + i, none⟩ := by unfold Addr.add; split <;> simp_all
theorem i64s_set (B : List Int) (i : Nat) (c : Int) : (i64s B).set i (.int .i64 c) = i64s (B.set i c) := by simp [i64s, List.map_set]
def bls (L : List Bool) : List Value := L.map Value.bool
theorem bls_length (L : List Bool) : (bls L).length = L.length := by simp [bls]
theorem bls_get (L : List Bool) (i : Nat) (h : i < L.length) : (bls L)[i]? = some (.bool (L.getD i false)) := by simp [bls, h, List.getD]
theorem bls_set (B : List Bool) (i : Nat) (c : Bool) : (bls B).set i (.bool c) = bls (B.set i c) := by simp [bls, List.map_set]
namespace Pl
def risL (T : List Nat) : List Bool := (List.range T.length).map (ris T)
theorem risL_length (T : List Nat) : (risL T).length = T.length := by simp [risL]
theorem risL_get (T : List Nat) (i : Nat) (h : i < T.length) : (risL T).getD i false = ris T i := by simp [risL, List.getD, h]
def stsL (T : List Nat) (K : Nat) : List Int := (List.range (K + 1)).map fun l => (bst T l : Int)
theorem stsL_length (T : List Nat) (K : Nat) : (stsL T K).length = K + 1 := by simp [stsL]
theorem stsL_get (T : List Nat) (K l : Nat) (h : l < K + 1) : (stsL T K).getD l 0 = (bst T l : Int) := by simp [stsL, List.getD, h]
end Pl
/-- only block g may have changed, and blocks may be new: what lies elsewhere is there -/
theorem gr_cell {w W : World} {g : Nat} (h : Gr w W g) {p : Addr} {u : Value} (hp : p.block ≠ g) (hc : w.cell? p = some u) : W.cell? p = some u :=
  World.grownBy.cell h hc (by simp; exact hp)
theorem blk_gr {w W : World} {g b : Nat} {t : TypeId} {c : List Value} (h : Gr w W g) (hb : b ≠ g) (k : Blk w b t c) : Blk W b t c := Blk.grown k h (by simp; exact hb)
def loadT (v : Value) : Sem Value := Instr.loadAt 46 v
theorem loadT_eq (v : Value) : Instr.loadAt 46 v = loadT v := rfl
theorem run_loadT {w : World} {b : Nat} {t : TypeId} {x y z : Value} (h : Blk w b t [x, y, z]) :
    (loadT (.pointer (some ⟨b, 0, none⟩))).run Try.prog w = .ok (.agg #[x, y, z]) w := by
  simp only [loadT, Instr.loadAt, Instr.sureAddr, loadVar, Sem.run_bind, Sem.run_pure, Result.andThen_ok, Try.isAgg46, Try.sizeOf46, if_true]
  have := run_loadCells_list (P := Try.prog) w ⟨b, 0, none⟩ [x, y, z] (fun j v hj => by
    rw [add_none, Nat.zero_add]
    exact h.cell hj)
  simp only [List.length_cons, List.length_nil, Nat.reduceAdd] at this
  rw [this]
  rfl
def loadU (v : Value) : Sem Value := Instr.loadAt 61 v
theorem loadU_eq (v : Value) : Instr.loadAt 61 v = loadU v := rfl
theorem run_loadU {w : World} {b : Nat} {t : TypeId} {x y z : Value} (h : Blk w b t [x, y, z]) :
    (loadU (.pointer (some ⟨b, 0, none⟩))).run Try.prog w = .ok (.agg #[x, y, z]) w := by
  simp only [loadU, Instr.loadAt, Instr.sureAddr, loadVar, Sem.run_bind, Sem.run_pure, Result.andThen_ok, Try.isAgg61, Try.sizeOf61, if_true]
  have := run_loadCells_list (P := Try.prog) w ⟨b, 0, none⟩ [x, y, z] (fun j v hj => by
    rw [add_none, Nat.zero_add]
    exact h.cell hj)
  simp only [List.length_cons, List.length_nil, Nat.reduceAdd] at this
  rw [this]
  rfl
/-- the letters of a text, below block B -/
def LetB (w : World) (B : Nat) (lv : Value) (T : List Nat) : Prop := IsBytes w lv T ∧ ∀ a n c, lv = .slice (some a) n c → 0 < T.length → a.block < B
def LetI (w : World) (B : Nat) (lv : Value) (T : List Nat) : Prop := IsInts w lv (nI T) ∧ ∀ a n c, lv = .slice (some a) n c → 0 < T.length → a.block < B
theorem LetB.keep {w W : World} {B g : Nat} {lv : Value} {T : List Nat} (h : LetB w B lv T) (hg : Gr w W g) (hB : B ≤ g) : LetB W B lv T :=
  ⟨h.1.row hg fun a n c e h0 e2 => by have := h.2 a n c e h0; simp at e2; omega, h.2⟩
theorem isInts_rowG {w w' : World} {v : Value} {L : List Int} (h : IsInts w v L) {r : Option Nat} (hg : w.grownBy w' r) (hr : ∀ a n c, v = .slice (some a) n c → 0 < L.length → some a.block ≠ r) : IsInts w' v L := by
  obtain h | ⟨a, cap, rfl, h1, h2, hc⟩ := h
  · exact .inl h
  · refine .inr ⟨a, cap, rfl, h1, h2, fun i u hu => ?_⟩
    have := hc i u hu
    have hl : i < L.length := by have := (List.getElem?_eq_some_iff.1 hu).1; rwa [i64s_length] at this
    have hblk : (a.add i).block = a.block := by unfold Addr.add; split <;> rfl
    exact hg.cell this (by rw [hblk]; exact hr a _ _ rfl (by omega))
theorem LetI.keep {w W : World} {B g : Nat} {lv : Value} {T : List Nat} (h : LetI w B lv T) (hg : Gr w W g) (hB : B ≤ g) : LetI W B lv T :=
  ⟨isInts_rowG h.1 hg fun a n c e h0 e2 => by have := h.2 a n c e (by rw [nI_length] at h0; exact h0); simp at e2; omega, h.2⟩
/-- a letter, read -/
theorem LetB.at {w : World} {B : Nat} {lv : Value} {T : List Nat} (h : LetB w B lv T) : ∃ a cap, lv = .slice a T.length cap ∧ (0 < T.length → ∃ b off, a = some ⟨b, off, none⟩ ∧ b < B ∧ ∀ i, i < T.length → w.cell? ⟨b, off + i, none⟩ = some (.int .u8 (T.getD i 0 : Nat))) := by
  obtain ⟨a, cap, rfl, _, _, hc⟩ := bytes_cell h.1
  refine ⟨a, cap, rfl, fun h0 => ?_⟩
  obtain ⟨b, off, rfl, _, hx⟩ := hc h0
  exact ⟨b, off, rfl, h.2 _ _ _ rfl h0, hx⟩
theorem LetI.at {w : World} {B : Nat} {lv : Value} {T : List Nat} (h : LetI w B lv T) : ∃ a cap, lv = .slice a T.length cap ∧ (0 < T.length → ∃ b off, a = some ⟨b, off, none⟩ ∧ b < B ∧ ∀ i, i < T.length → w.cell? ⟨b, off + i, none⟩ = some (.int .i64 (T.getD i 0 : Nat))) := by
  obtain ⟨a, cap, rfl, _, _⟩ := h.1.slice
  rw [nI_length]
  refine ⟨a, cap, rfl, fun h0 => ?_⟩
  obtain ⟨b, off, c, e, _, _, _, hx⟩ := h.1.cells (by rw [nI_length]; exact h0)
  simp at e
  obtain ⟨⟨rfl, _⟩, _⟩ := e
  refine ⟨b, off, rfl, h.2 _ _ _ rfl h0, fun i hi => ?_⟩
  have := hx i (by rw [nI_length]; exact hi)
  rwa [nI_get] at this
theorem LetB.cell {w : World} {B lb lo n cap : Nat} {T : List Nat} (h : LetB w B (.slice (some ⟨lb, lo, none⟩) n cap) T) {i : Nat} (hi : i < T.length) : lb < B ∧ w.cell? ⟨lb, lo + i, none⟩ = some (.int .u8 (T.getD i 0 : Nat)) := by
  obtain ⟨a, c, e, h2⟩ := h.at
  obtain ⟨b, off, rfl, h3, h4⟩ := h2 (by omega)
  simp at e
  obtain ⟨⟨rfl, rfl⟩, _⟩ := e
  exact ⟨h3, h4 i hi⟩
theorem LetI.cell {w : World} {B lb lo n cap : Nat} {T : List Nat} (h : LetI w B (.slice (some ⟨lb, lo, none⟩) n cap) T) {i : Nat} (hi : i < T.length) : lb < B ∧ w.cell? ⟨lb, lo + i, none⟩ = some (.int .i64 (T.getD i 0 : Nat)) := by
  obtain ⟨a, c, e, h2⟩ := h.at
  obtain ⟨b, off, rfl, h3, h4⟩ := h2 (by omega)
  simp at e
  obtain ⟨⟨rfl, rfl⟩, _⟩ := e
  exact ⟨h3, h4 i hi⟩
/-- a text of letters below K, its rises and its starts, below block B -/
structure TxB (w : World) (B : Nat) (T : List Nat) (K : Nat) (lv : Value) (rb sb : Nat) : Prop where
  ltr : LetB w B lv T
  rise : Blk w rb 4 (bls (risL T))
  sts : Blk w sb 3 (i64s (stsL T K))
  rb : rb < B
  sb : sb < B
  top : B ≤ w.heap.size
  kind : ∀ x ∈ T, x < K
  len : T.length ≤ 1000000
  lenK : K ≤ 1000000
structure TxI (w : World) (B : Nat) (T : List Nat) (K : Nat) (lv : Value) (rb sb : Nat) : Prop where
  ltr : LetI w B lv T
  rise : Blk w rb 4 (bls (risL T))
  sts : Blk w sb 3 (i64s (stsL T K))
  rb : rb < B
  sb : sb < B
  top : B ≤ w.heap.size
  kind : ∀ x ∈ T, x < K
  len : T.length ≤ 1000000
  lenK : K ≤ 1000000
theorem TxB.keep {w W : World} {B g K rb sb : Nat} {lv : Value} {T : List Nat} (h : TxB w B T K lv rb sb) (hg : Gr w W g) (hB : B ≤ g) : TxB W B T K lv rb sb := by
  have h1 := h.rb
  have h2 := h.sb
  exact ⟨h.ltr.keep hg hB, blk_gr hg (by omega) h.rise, blk_gr hg (by omega) h.sts, h1, h2, Nat.le_trans h.top hg.size, h.kind, h.len, h.lenK⟩
theorem TxI.keep {w W : World} {B g K rb sb : Nat} {lv : Value} {T : List Nat} (h : TxI w B T K lv rb sb) (hg : Gr w W g) (hB : B ≤ g) : TxI W B T K lv rb sb := by
  have h1 := h.rb
  have h2 := h.sb
  exact ⟨h.ltr.keep hg hB, blk_gr hg (by omega) h.rise, blk_gr hg (by omega) h.sts, h1, h2, Nat.le_trans h.top hg.size, h.kind, h.len, h.lenK⟩
/-- the value of a text -/
def txV (lv : Value) (rb n sb k : Nat) : Value := .agg #[lv, .slice (some ⟨rb, 0, none⟩) n n, .slice (some ⟨sb, 0, none⟩) k k]
theorem gr_below {w W : World} (h : Below w.heap.size w W) (g : Nat) : Gr w W g := Gr.ofBelow h
theorem TxB.below {w W : World} {B K rb sb : Nat} {lv : Value} {T : List Nat} (h : TxB w B T K lv rb sb) (hb : Below w.heap.size w W) : TxB W B T K lv rb sb := h.keep (gr_below hb B) (Nat.le_refl _)
theorem TxI.below {w W : World} {B K rb sb : Nat} {lv : Value} {T : List Nat} (h : TxI w B T K lv rb sb) (hb : Below w.heap.size w W) : TxI W B T K lv rb sb := h.keep (gr_below hb B) (Nat.le_refl _)
theorem getD_kind {T : List Nat} {K i : Nat} (h : ∀ x ∈ T, x < K) (hi : i < T.length) : T.getD i 0 < K := h _ (getD_mem T 0 hi)
end Go.Proofs.Ytklpmpniempmcaa
