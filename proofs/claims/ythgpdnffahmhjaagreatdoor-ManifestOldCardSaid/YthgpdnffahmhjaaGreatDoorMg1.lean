/- Texts put together: Base, Bytes. -/
import Derived.WalkKit
import Derived.WalkSpells
import Derived.WalkLawsBesides
import Derived.BigQuiet
import Derived.Deep.QuietTactic
import Derived.Deep.RegionLaw
import Derived.Deep.LoopGhost
import Derived.Deep.Draws
import Derived.BigRegion
import Derived.Outline
import Derived.Lib.Hide
import Derived.Laws.CopyOwn
import Derived.Laws.AppendOwnNone
import Derived.Deep.RegionHeld3
import Derived.Deep.WholeRow
import Derived.Test.YthgpdnffahmhjaaGreatDoorProg
import Derived.Lib.SliceRun
import Derived.Lib.AppendStr
import Derived.Laws.OwnMore
import Derived.Deep.RegionWith
set_option linter.unusedSimpArgs false
set_option linter.unusedVariables false
set_option maxRecDepth 100000
namespace Go.Proofs.YthgpdnffahmhjaaGreatDoor
open Go.RowKit

def Blk (w : World) (b : Nat) (t : TypeId) (c : List Value) : Prop := w.heap[b]? = some (.cells c.toArray t (0, 0))

namespace Blk
variable {w w' : World} {b : Nat} {t : TypeId} {c : List Value}
theorem cell (h : Blk w b t c) {o : Nat} {v : Value} (ho : c[o]? = some v) : w.cell? ⟨b, o, none⟩ = some v := by
  unfold Blk at h; simp [World.cell?, h, ho]
theorem frozen (h : Blk w b t c) (o : Nat) : w.frozen? ⟨b, o, none⟩ = false := by
  unfold Blk at h; simp [World.frozen?, h]
theorem lt (h : Blk w b t c) : b < w.heap.size := by
  unfold Blk at h
  exact (Array.getElem?_eq_some_iff.1 h).1
theorem set (h : Blk w b t c) (o : Nat) (v : Value) : Blk (w.setCell ⟨b, o, none⟩ v) b t (c.set o v) := by
  have hl := h.lt
  unfold Blk at h ⊢
  simp only [World.setCell]
  rw [Array.getElem?_modify]
  simp [h]
theorem setOther (h : Blk w b t c) {p : Addr} (hp : b ≠ p.block) (v : Value) : Blk (w.setCell p v) b t c := by
  unfold Blk at h ⊢
  rw [Below.heap_setCell w p v b hp]; exact h
theorem alloc (h : Blk w b t c) (o : Obj) : Blk (w.alloc o) b t c := by
  have hl := h.lt
  unfold Blk at h ⊢
  rw [Below.heap_alloc w o b hl]; exact h
theorem new (w : World) (t : TypeId) (c : List Value) : Blk (w.alloc (.cells c.toArray t)) w.heap.size t c := by
  unfold Blk; exact heap_alloc_new w _
theorem drew (h : Blk w b t c) : Blk w.drew b t c := h
theorem drewN (h : Blk w b t c) (n : Nat) : Blk (w.drewN n) b t c := h
theorem grown {row : Option Nat} (h : Blk w b t c) (hg : w.grownBy w' row) (hb : some b ≠ row) : Blk w' b t c := by
  have hl := h.lt
  unfold Blk at h ⊢
  rw [hg.block b hl hb]; exact h
theorem below {B : Nat} (h : Blk w b t c) (hg : Below B w w') (hb : b < B) : Blk w' b t c := by
  unfold Blk at h ⊢
  rw [hg.block b hb]; exact h
theorem ne {b2 : Nat} {t2 : TypeId} {c2 : List Value} (h : Blk w b t c) (h2 : Blk w b2 t2 c2) (ht : t ≠ t2) : b ≠ b2 := by
  intro e; subst e
  unfold Blk at h h2
  rw [h] at h2
  simp at h2
  exact ht h2.2
theorem setRow (h : Blk w b t c) (c' : List Value) : Blk (w.setRow b c'.toArray) b t c' := by
  unfold Blk at h ⊢
  exact setRow_heap w b _ _ t _ h
end Blk

abbrev Gr (w w' : World) (b : Nat) : Prop := w.grownBy w' (some b)
namespace Gr
variable {w w' w'' : World} {b : Nat}
theorem refl (w : World) (b : Nat) : Gr w w b := ⟨rfl, rfl, rfl, Nat.le_refl _, fun _ _ _ => rfl⟩
theorem trans (h : Gr w w' b) (k : Gr w' w'' b) : Gr w w'' b :=
  ⟨k.os.trans h.os, k.tape.trans h.tape, k.output.trans h.output, Nat.le_trans h.size k.size,
    fun i hi hn => (k.block i (Nat.lt_of_lt_of_le hi h.size) hn).trans (h.block i hi hn)⟩
theorem setCell (h : Gr w w' b) (o : Nat) (v : Value) : Gr w (w'.setCell ⟨b, o, none⟩ v) b :=
  ⟨h.os, h.tape, h.output, by simpa using h.size, fun i hi hn => by
    have hib : i ≠ b := fun e => hn (by rw [e])
    rw [Below.heap_setCell w' ⟨b, o, none⟩ v i hib]; exact h.block i hi hn⟩
theorem alloc (h : Gr w w' b) (o : Obj) : Gr w (w'.alloc o) b :=
  h.trans (World.grownBy_alloc w' o (some b))
theorem drew (h : Gr w w' b) : Gr w w'.drew b := ⟨h.os, h.tape, h.output, h.size, h.block⟩
theorem drewN (h : Gr w w' b) (n : Nat) : Gr w (w'.drewN n) b := ⟨h.os, h.tape, h.output, h.size, h.block⟩
theorem below (h : Gr w w' b) {B : Nat} (hB : B ≤ w.heap.size) (hb : B ≤ b) : Below B w w' :=
  ⟨h.os, h.tape, h.output, h.size, fun k hk => h.block k (by omega) (by intro e; simp at e; omega)⟩
theorem ofBelow (h : Below w.heap.size w w') : Gr w w' b := ⟨h.os, h.tape, h.output, h.size, fun k hk _ => h.block k hk⟩
end Gr

theorem bel_drewN {B : Nat} {a w : World} (h : Below B a w) (n : Nat) : Below B a (w.drewN n) := ⟨h.os, h.tape, h.output, h.size, h.block⟩
theorem ret_int {k : IntKind} {a b : Int} (h : a = b) : Ending.returned (.int k a) = .returned (.int k b) := by rw [h]
def IsRow (k : IntKind) (w : World) (a : Option Addr) (len cap : Nat) (zs : List Int) : Prop :=
  (a = none ∧ len = 0 ∧ cap = 0 ∧ zs = []) ∨
  ∃ x, a = some x ∧ len ≤ cap ∧ cap ≤ maxLen ∧ zs.length = cap ∧ (∀ i, i < zs.length → w.cell? (x.add i) = some (.int k (zs.getD i 0))) ∧ ∀ n ∈ zs, (Lit.int k n).wf = true
theorem IsRow.cells {k : IntKind} {w : World} {a : Option Addr} {len cap : Nat} {zs : List Int} (h : IsRow k w a len cap zs) (hl : 0 < len) :
    ∃ b off, a = some ⟨b, off, none⟩ ∧ b < w.heap.size ∧ len ≤ zs.length ∧ len ≤ maxLen ∧ (∀ i, i < len → w.cell? ⟨b, off + i, none⟩ = some (.int k (zs.getD i 0))) ∧ ∀ i, i < len → (Lit.int k (zs.getD i 0)).wf = true := by
  rcases h with ⟨rfl, rfl, rfl, rfl⟩ | ⟨x, rfl, h1, h2, h3, hc, hw⟩
  · omega
  · obtain ⟨b, off, spot⟩ := x
    have hc0 := hc 0 (by omega)
    have hspot : spot = none := by simpa [Addr.add] using World.cell?_spot hc0
    subst hspot
    refine ⟨b, off, rfl, World.block_lt_of_cell? w _ hc0, by omega, by omega, fun i hi => ?_, fun i hi => ?_⟩
    · have := hc i (by omega)
      have hadd : (⟨b, off, none⟩ : Addr).add i = ⟨b, off + i, none⟩ := by unfold Addr.add; split <;> simp_all
      rwa [hadd] at this
    · apply hw
      rw [List.getD_eq_getElem?_getD, List.getElem?_eq_getElem (by omega)]
      exact List.getElem_mem _
theorem IsRow.len_le {k : IntKind} {w : World} {a : Option Addr} {len cap : Nat} {zs : List Int} (h : IsRow k w a len cap zs) : len ≤ maxLen := by
  rcases h with ⟨rfl, rfl, rfl, rfl⟩ | ⟨x, rfl, h1, h2, h3, hc, hw⟩
  · unfold maxLen; omega
  · omega
def IsStrs (w : World) (a : Option Addr) (len : Nat) (ss : List ByteArray) : Prop :=
  len ≤ maxLen ∧ (len = 0 ∨ ∃ b off, a = some ⟨b, off, none⟩ ∧ b < w.heap.size ∧ ∀ i, i < len → w.cell? ⟨b, off + i, none⟩ = some (.string (ss.getD i ByteArray.empty)) ∧ (ss.getD i ByteArray.empty).size ≤ maxLen)
theorem IsStrs.cells {w : World} {a : Option Addr} {len : Nat} {ss : List ByteArray} (h : IsStrs w a len ss) (h0 : 0 < len) : ∃ b off, a = some ⟨b, off, none⟩ ∧ b < w.heap.size ∧ ∀ i, i < len → w.cell? ⟨b, off + i, none⟩ = some (.string (ss.getD i ByteArray.empty)) ∧ (ss.getD i ByteArray.empty).size ≤ maxLen := by
  obtain ⟨_, h | h⟩ := h
  · omega
  · exact h

theorem wpAnyH_start {P : Program} {id : Nat} {ops : Array Oper} {Q : Exit → Act → World → Prop} {S : World → Prop} {a : Act} {w : World} {n : Nat} {l : Array Bool} (hm : P.follows .mixedOrders = true) (hS : S w.drew) (hn : ops.size = n) (hl : Array.replicate n false = l)
    (h : wpAnyH P .any ops Q S n l a w.drew) : (Code.region id ops true).wp P Q a w :=
  wp_region_held_drew hm hS fun _ => by rw [hn, hl]; exact h
def From (w w' : World) : Prop := Below w.heap.size w w'
theorem From.refl (w : World) : From w w := Below.refl _ _
theorem From.trans {a b c : World} (h : From a b) (k : From b c) : From a c := Below.trans h (Below.mono k h.size)
end Go.Proofs.YthgpdnffahmhjaaGreatDoor
namespace Go.Proofs.YthgpdnffahmhjaaGreatDoor
open Go.RowKit

def U64 (v : Int) : Prop := 0 ≤ v ∧ v < 18446744073709551616
theorem U64.nn {v : Int} (h : U64 v) : 0 ≤ v := h.1
theorem U64.wf {v : Int} (h : U64 v) : (Lit.int .u64 v).wf = true := by
  obtain ⟨h1, h2⟩ := h
  simp [Lit.wf, IntKind.min, IntKind.max, IntKind.signed, IntKind.bits]
  exact ⟨h1, by omega⟩
theorem shr_int (v : Int) (k : Nat) (hv : 0 ≤ v) : v / 2 ^ k = ((v.toNat >>> k : Nat) : Int) := by
  obtain ⟨n, rfl⟩ := Int.eq_ofNat_of_zero_le hv
  rw [Int.toNat_natCast, Nat.shiftRight_eq_div_pow]
  simp

theorem U64.shr {v : Int} (h : U64 v) (k : Nat) : U64 (v / 2 ^ k) := by
  obtain ⟨h1, h2⟩ := h
  rw [shr_int v k h1]
  have := Nat.shiftRight_le v.toNat k
  generalize v.toNat >>> k = q at *
  exact ⟨by omega, by omega⟩

theorem info5 : (Tryz.prog.info? 5).map (fun i => (i.zero, i.size, i.bytes)) = some (some (.int .u8 0), 1, 1) := by kernel_rfl
def u8s (B : List Nat) : List Value := B.map fun (x : Nat) => .int .u8 x
def IsBytes (w : World) (v : Value) (B : List Nat) : Prop :=
  (∀ x ∈ B, x < 256) ∧ ((v = .slice none 0 0 ∧ B = []) ∨ ∃ a cap, v = .slice (some a) B.length cap ∧ B.length ≤ cap ∧ cap ≤ maxLen ∧ ∀ i u, (u8s B)[i]? = some u → w.cell? (a.add i) = some u)
theorem u8s_length (B : List Nat) : (u8s B).length = B.length := by simp [u8s]
theorem u8s_get (B : List Nat) (i : Nat) (h : i < B.length) : (u8s B)[i]? = some (.int .u8 (B.getD i 0 : Nat)) := by simp [u8s, h, List.getD]
theorem u8s_one (B : List Nat) : ∀ v ∈ u8s B, v.oneCell' = true := by
  intro v hv; simp only [u8s, List.mem_map] at hv; obtain ⟨x, _, rfl⟩ := hv; rfl

theorem ownsRow_slice {w : World} {base : Nat} {e : TypeId} {size : Nat} {v : Value} {n : Nat} {xs : List Value} (h : w.ownsRow base e size v n xs) : ∃ sp cap, v = .slice sp n cap ∧ n ≤ cap ∧ cap ≤ maxLen := by
  obtain ⟨_, ⟨rfl, rfl⟩ | ⟨g, cap, cur, rfl, _, _, h1, h2, _⟩⟩ := h
  · exact ⟨none, 0, rfl, Nat.le_refl _, by unfold maxLen; omega⟩
  · exact ⟨_, cap, rfl, h1, h2⟩
theorem ownsRow_row {w w' : World} {base : Nat} {e : TypeId} {size : Nat} {v : Value} {n : Nat} {xs : List Value} {r : Option Nat} (h : w.ownsRow base e size v n xs) (hg : w.grownBy w' r)
    (hr : ∀ k t cs, r = some k → Blk w k t cs → base ≤ k → t ≠ e) : w'.ownsRow base e size v n xs := by
  refine h.kept hg ?_
  obtain ⟨_, ⟨rfl, rfl⟩ | ⟨g, cap, cur, rfl, hb, hh, h1, h2, _⟩⟩ := h
  · exact .inl rfl
  · refine .inr fun e' => ?_
    have e2 : r = some g := e'.symm
    exact hr g e cur.toList e2 (by unfold Blk; simpa using hh) hb rfl

def str (B : List Nat) : ByteArray := ⟨(B.map UInt8.ofNat).toArray⟩
def convS (v : Value) : Sem Value := convert 36 9 v
theorem conv_eq (v : Value) : convert 36 9 v = convS v := rfl
theorem run_conv {w : World} {v : Value} {B : List Nat} (hv : IsBytes w v B) : (convS v).run Tryz.prog w = .ok (.string (str B)) w := by
  obtain ⟨hx, ⟨rfl, rfl⟩ | ⟨a, cap, rfl, _, _, hc⟩⟩ := hv
  · exact run_convert_bytes_nil w _ _ Tryz.underlying36 Tryz.underlying5 0 0 _ Tryz.underlying9
  · have h := run_convert_bytes_back (P := Tryz.prog) w 36 9 5 a cap (B.map UInt8.ofNat) Tryz.underlying36 Tryz.underlying5 Tryz.underlying9 (by
      intro j hj
      rw [List.length_map] at hj
      rw [hc j (.int .u8 (B.getD j 0 : Nat)) (u8s_get B j hj)]
      have hb : B[j] < 256 := hx _ (List.getElem_mem hj)
      simp [List.getD, hj]
      omega)
    rw [List.length_map] at h
    exact h
theorem IsBytes.below {w w' : World} {v : Value} {B : List Nat} (h : IsBytes w v B) (hb : Below w.heap.size w w') : IsBytes w' v B := by
  obtain ⟨hx, h | ⟨a, cap, rfl, h1, h2, hc⟩⟩ := h
  · exact ⟨hx, .inl h⟩
  · refine ⟨hx, .inr ⟨a, cap, rfl, h1, h2, fun i u hu => ?_⟩⟩
    have := hc i u hu
    rw [hb.cell (p := a.add i) (World.block_lt_of_cell? w _ this)]
    exact this
theorem IsBytes.row {w w' : World} {v : Value} {B : List Nat} (h : IsBytes w v B) {r : Option Nat} (hg : w.grownBy w' r) (hr : ∀ a n c, v = .slice (some a) n c → 0 < B.length → some a.block ≠ r) : IsBytes w' v B := by
  obtain ⟨hx, h | ⟨a, cap, rfl, h1, h2, hc⟩⟩ := h
  · exact ⟨hx, .inl h⟩
  · refine ⟨hx, .inr ⟨a, cap, rfl, h1, h2, fun i u hu => ?_⟩⟩
    have := hc i u hu
    have hl : i < B.length := by have := (List.getElem?_eq_some_iff.1 hu).1; rwa [u8s_length] at this
    have hblk : (a.add i).block = a.block := by unfold Addr.add; split <;> rfl
    exact hg.cell this (by rw [hblk]; exact hr a _ _ rfl (by omega))
theorem isBytes_own {w : World} {base : Nat} {sp : Option Addr} {cap : Nat} {B : List Nat} (hx : ∀ x ∈ B, x < 256) (h : w.ownsRow base 5 1 (.slice sp B.length cap) B.length (u8s B)) : IsBytes w (.slice sp B.length cap) B := by
  refine ⟨hx, ?_⟩
  obtain ⟨hl, ⟨he, h0⟩ | ⟨g, cap', cur, hv, _, hh, hn, hm, hs, ht⟩⟩ := h
  · have hB : B = [] := List.eq_nil_of_length_eq_zero h0
    subst hB
    exact .inl ⟨he, rfl⟩
  · simp at hv
    obtain ⟨rfl, rfl⟩ := hv
    refine .inr ⟨⟨g, 0, none⟩, cap, rfl, hn, hm, fun i u hu => ?_⟩
    have hadd : (⟨g, 0, none⟩ : Addr).add i = ⟨g, i, none⟩ := by unfold Addr.add; split <;> simp_all
    rw [hadd]
    have hi := (List.getElem?_eq_some_iff.1 hu).1
    rw [u8s_length] at hi
    rw [← ht, List.getElem?_take_of_lt (by omega)] at hu
    simp [World.cell?, hh]
    simpa using hu
theorem IsBytes.slice {w : World} {v : Value} {B : List Nat} (h : IsBytes w v B) : ∃ a cap, v = .slice a B.length cap ∧ B.length ≤ cap ∧ cap ≤ maxLen := by
  obtain ⟨_, ⟨rfl, rfl⟩ | ⟨a, cap, rfl, h1, h2, _⟩⟩ := h
  · exact ⟨none, 0, rfl, Nat.le_refl _, by unfold maxLen; omega⟩
  · exact ⟨some a, cap, rfl, h1, h2⟩
theorem IsBytes.take {w : World} {a : Option Addr} {cap : Nat} {B : List Nat} (h : IsBytes w (.slice a B.length cap) B) (n : Nat) (hn : n ≤ B.length) : IsBytes w (.slice a n cap) (B.take n) := by
  have hl : (B.take n).length = n := by rw [List.length_take]; omega
  obtain ⟨hx, ⟨he, rfl⟩ | ⟨x, c, he, h1, h2, hc⟩⟩ := h
  · simp at he hn
    obtain ⟨rfl, rfl⟩ := he
    subst hn
    exact ⟨by simp, .inl ⟨rfl, rfl⟩⟩
  · simp at he
    obtain ⟨rfl, rfl⟩ := he
    refine ⟨fun y hy => hx y (List.mem_of_mem_take hy), .inr ⟨x, cap, by rw [hl], by omega, h2, fun i u hu => hc i u ?_⟩⟩
    have hi := (List.getElem?_eq_some_iff.1 hu).1
    rw [u8s_length, hl] at hi
    simp only [u8s, List.map_take] at hu ⊢
    rwa [List.getElem?_take_of_lt hi] at hu

theorem getD_lt {B : List Nat} (hx : ∀ x ∈ B, x < 256) (i : Nat) : B.getD i 0 < 256 := by
  by_cases h : i < B.length
  · exact hx _ (by rw [List.getD_eq_getElem?_getD, List.getElem?_eq_getElem h]; exact List.getElem_mem h)
  · rw [List.getD_eq_getElem?_getD, List.getElem?_eq_none (by omega)]; simp
theorem grownBy_trans {w w' w'' : World} {r : Option Nat} (h : w.grownBy w' r) (k : w'.grownBy w'' r) : w.grownBy w'' r :=
  ⟨k.os.trans h.os, k.tape.trans h.tape, k.output.trans h.output, Nat.le_trans h.size k.size,
    fun i hi hn => (k.block i (Nat.lt_of_lt_of_le hi h.size) hn).trans (h.block i hi hn)⟩
theorem grownBy_refl (w : World) (r : Option Nat) : w.grownBy w r := ⟨rfl, rfl, rfl, Nat.le_refl _, fun _ _ _ => rfl⟩

theorem wpList_append_bytes {w : World} {ops : Array Oper} {rest : List Oper} {o : Oper} {a : Act} {Q : Exit → Act → World → Prop} (hgd : o.guard = none) (s x : Operand)
    (ho : o.op = .call { callee := .builtin .append, args := #[s, x], argTypes := #[36, 36] })
    (base : Nat) (v : Value) (n : Nat) (xs : List Value) (hs : a.eval s = v) (hown : w.ownsRow base 5 1 v n xs)
    (src : Value) (B : List Nat) (hx : a.eval x = src) (hsrc : IsBytes w src B)
    (hbytes : n + B.length ≤ 140737488355328) (hbase : base ≤ w.heap.size)
    (h : ∀ v' w', w'.ownsRow base 5 1 v' (n + B.length) (xs ++ u8s B) → w.grownBy w' v.ownBlock → wpList Tryz.prog ops Q rest (a.put o.dst v') w') : wpList Tryz.prog ops Q (o :: rest) a w := by
  obtain ⟨i0, hi, hz0, hz1, hz2⟩ := info_parts info5
  obtain ⟨_, ⟨rfl, rfl⟩ | ⟨ad, cap, rfl, h1, h2, hc⟩⟩ := hsrc
  · refine wpList_append_own_none hgd s x _ ho base 5 i0 1 Tryz.underlying36 hi v n xs hs hown hx ?_
    exact h v w (by simpa [u8s] using hown) (grownBy_refl _ _)
  · refine wpList_append_own w hgd s x _ ho base 5 i0 (.int .u8 0) 1 1 Tryz.underlying36 hi hz0 hz1 hz2 rfl (by decide) v n xs hs hown ad B.length cap (u8s B) hx (by rw [u8s_length, Nat.mul_one]) hc (u8s_one B) (by unfold maxLen; omega) (by omega) hbase ?_
    exact fun v' w' h3 h4 _ => h v' w' h3 h4

theorem blk_ty {w : World} {b : Nat} {t t2 : TypeId} {c c2 : List Value} (h : Blk w b t c) (h2 : Blk w b t2 c2) : t = t2 := by
  apply Classical.byContradiction
  intro hne
  exact h.ne h2 hne rfl
theorem own_below {w w' : World} {base n : Nat} {e : TypeId} {v : Value} {xs : List Value} (h : w.ownsRow base e 1 v n xs) (hb : Below w.heap.size w w') : w'.ownsRow base e 1 v n xs :=
  ownsRow_row h (r := none) ⟨hb.os, hb.tape, hb.output, hb.size, fun k hk _ => hb.block k hk⟩ (by simp)
theorem own_blk {w : World} {base e g n cap : Nat} {xs : List Value} (h : w.ownsRow base e 1 (.slice (some ⟨g, 0, none⟩) n cap) n xs) : ∃ cs, Blk w g e cs := by
  obtain ⟨hl, ⟨he, h0⟩ | ⟨g', cap', cur, hv, _, hh, hn, hm, hs, ht⟩⟩ := h
  · simp at he
  · simp at hv
    obtain ⟨rfl, rfl⟩ := hv
    exact ⟨cur.toList, by unfold Blk; simpa using hh⟩
def SameIn (lo hi : Nat) (w w' : World) : Prop := ∀ k, lo ≤ k → k < hi → w'.heap[k]? = w.heap[k]?
theorem SameIn.refl (lo hi : Nat) (w : World) : SameIn lo hi w w := fun _ _ _ => rfl
theorem SameIn.below {lo hi : Nat} {w w' w'' : World} (h : SameIn lo hi w w') (hb : Below w'.heap.size w' w'') (hs : hi ≤ w'.heap.size) : SameIn lo hi w w'' :=
  fun k h1 h2 => (hb.block k (by omega)).trans (h k h1 h2)
theorem wpList_append_byte {w : World} {ops : Array Oper} {rest : List Oper} {o : Oper} {a : Act} {Q : Exit → Act → World → Prop} (hgd : o.guard = none) (s x : Operand)
    (ho : o.op = .call { callee := .builtin .append, args := #[s, x], argTypes := #[36, 36] })
    (base : Nat) (v : Value) (n : Nat) (xs : List Value) (c : Int) (hs : a.eval s = v) (hown : w.ownsRow base 5 1 v n xs)
    (hx : a.eval x = .slice (some ⟨w.heap.size, 0, none⟩) 1 1)
    (hbytes : n + 1 ≤ 140737488355328) (hbase : base ≤ w.heap.size)
    (h : ∀ v' w', w'.ownsRow base 5 1 v' (n + 1) (xs ++ [.int .u8 c]) → (w.alloc (.cells #[.int .u8 c] 5 (0, 0))).grownBy w' v.ownBlock → wpList Tryz.prog ops Q rest (a.put o.dst v') w') : wpList Tryz.prog ops Q (o :: rest) a (w.alloc (.cells #[.int .u8 c] 5 (0, 0))) := by
  obtain ⟨i0, hi, hz0, hz1, hz2⟩ := info_parts info5
  exact wpList_append_own _ hgd s x _ ho base 5 i0 (.int .u8 0) 1 1 Tryz.underlying36 hi hz0 hz1 hz2 rfl (by decide) v n xs hs (hown.alloc _) ⟨w.heap.size, 0, none⟩ 1 1 [.int .u8 c] hx rfl (cell_one_new _ _ _) (by intro u hu; simp at hu; subst hu; rfl) (by unfold maxLen; omega) (by omega) (by simp; omega) fun v' w' h2 h3 _ => h v' w' h2 h3
theorem own_nil (w : World) (base : Nat) : w.ownsRow base 5 1 (.slice none 0 0) 0 [] := World.ownsRow_nil _ _ _ _
theorem own_lt {w : World} {base n : Nat} {e : TypeId} {v : Value} {xs : List Value} (h : w.ownsRow base e 1 v n xs) : ∀ k, v.ownBlock = some k → base ≤ k := fun k hk => (h.lt k hk).1
theorem bel_append {w w1 w2 : World} {base n : Nat} {e : TypeId} {v : Value} {xs : List Value} (hb : Below base w w1) (o : Obj) (h : w1.ownsRow base e 1 v n xs) (hg : (w1.alloc o).grownBy w2 v.ownBlock) (hbase : base ≤ w1.heap.size) : Below base w w2 :=
  (hb.alloc hbase o).grown hg (by simp; omega) (own_lt h)
theorem u8s_snoc (B : List Nat) (c : Nat) : u8s (B ++ [c]) = u8s B ++ [.int .u8 c] := by simp [u8s]
theorem u8s_append (A B : List Nat) : u8s (A ++ B) = u8s A ++ u8s B := by simp [u8s]
theorem own_new (w : World) (c : List Value) (t : TypeId) {base : Nat} (hb : base ≤ w.heap.size) (hl : c.length ≤ maxLen) : (w.alloc (.cells c.toArray t)).ownsRow base t 1 (.slice (some ⟨w.heap.size, 0, none⟩) c.length c.length) c.length c :=
  ⟨by omega, .inr ⟨w.heap.size, c.length, c.toArray, rfl, hb, heap_alloc_new w _, Nat.le_refl _, hl, by simp, by simp⟩⟩
theorem IsBytes.sub {w : World} {a : Option Addr} {cap : Nat} {B : List Nat} (h : IsBytes w (.slice a B.length cap) B) (k n : Nat) (hk : k + n ≤ B.length) : IsBytes w (.slice (a.map fun x => x.add k) n (cap - k)) ((B.drop k).take n) := by
  have hl : ((B.drop k).take n).length = n := by rw [List.length_take, List.length_drop]; omega
  obtain ⟨hx, ⟨he, rfl⟩ | ⟨x, c, he, h1, h2, hc⟩⟩ := h
  · simp at he hk
    obtain ⟨rfl, rfl⟩ := he
    obtain ⟨rfl, rfl⟩ := hk
    exact ⟨by simp, .inl ⟨rfl, rfl⟩⟩
  · simp at he
    obtain ⟨rfl, rfl⟩ := he
    refine ⟨fun y hy => hx y (List.mem_of_mem_drop (List.mem_of_mem_take hy)), .inr ⟨x.add k, cap - k, by rw [hl]; rfl, by omega, by omega, fun i u hu => ?_⟩⟩
    have hi := (List.getElem?_eq_some_iff.1 hu).1
    rw [u8s_length, hl] at hi
    simp only [u8s, List.map_take, List.map_drop] at hu
    rw [List.getElem?_take_of_lt hi, List.getElem?_drop] at hu
    have hcell := hc (k + i) u hu
    rw [Addr.add_add]; exact hcell
theorem IsBytes.none_left {w : World} {a : Option Addr} {B : List Nat} (h : IsBytes w (.slice a B.length B.length) B) : IsBytes w (.slice a 0 0) [] := by
  obtain ⟨hx, ⟨he, rfl⟩ | ⟨x, c, he, h1, h2, hc⟩⟩ := h
  · simp at he
    subst he
    exact ⟨by simp, .inl ⟨rfl, rfl⟩⟩
  · simp at he
    obtain ⟨rfl, rfl⟩ := he
    exact ⟨by simp, .inr ⟨x, 0, rfl, Nat.le_refl _, by unfold maxLen; omega, by simp [u8s]⟩⟩
theorem own_open {w : World} {base n : Nat} {e : TypeId} {v : Value} {xs : List Value} (h : w.ownsRow base e 1 v n xs) (h0 : 0 < n) : ∃ g cap, v = .slice (some ⟨g, 0, none⟩) n cap ∧ base ≤ g ∧ g < w.heap.size ∧ n ≤ cap ∧ cap ≤ maxLen := by
  obtain ⟨hl, ⟨rfl, rfl⟩ | ⟨g, cap, cur, rfl, hb, hh, hn, hm, _⟩⟩ := h
  · omega
  · exact ⟨g, cap, rfl, hb, (Array.getElem?_eq_some_iff.1 hh).1, hn, hm⟩
theorem own_base {w : World} {base base' n : Nat} {e : TypeId} {v : Value} {xs : List Value} (h : w.ownsRow base e 1 v n xs) (hb : base' ≤ base) : w.ownsRow base' e 1 v n xs := by
  obtain ⟨hl, h | ⟨g, cap, cur, hv, hg, hrest⟩⟩ := h
  · exact ⟨hl, .inl h⟩
  · exact ⟨hl, .inr ⟨g, cap, cur, hv, by omega, hrest⟩⟩
def MadePost (B : List Nat) (w : World) (e : Ending) (w' : World) : Prop :=
  ∃ v', e = .returned v' ∧ w'.ownsRow w.heap.size 5 1 v' B.length (u8s B) ∧ Below w.heap.size w w'
end Go.Proofs.YthgpdnffahmhjaaGreatDoor
