/- An index in memory; set, add: contracts. -/
import Derived.Test.YthgpdnffahmhjaaIxM
import Derived.Test.YthgpdnffahmhjaaSlice
import Derived.Laws.ResultCell
import Derived.Shelf.SlicesQ.Load
import Derived.Laws.CopyRow
import Derived.Shelf.SlMaps.Clone
import Derived.StillTailTactics
set_option linter.unusedSimpArgs false
set_option linter.unusedVariables false
set_option linter.unusedSectionVars false
set_option maxRecDepth 100000
namespace Go.Proofs.Ythgpdnffahmhjaa.S20
open Go.RowKit Go.Maps Go.Shelf
theorem lawS : Keyed Try.prog 9 := string_keyed Try.underlying9
theorem lawI : Keyed Try.prog 2 := int_keyed Try.underlying2
theorem key_int {k : Int} (h : (Lit.int .i64 k).wf = true) : keyOf Try.prog 2 (.int .i64 k) = some (ilit k) := by
  simp [keyOf, mapKey, Try.underlying2, h, ilit]
theorem key_str {s : ByteArray} (hs : s.size ≤ maxLen) : keyOf Try.prog 9 (.string s) = some (klit s) := WideMaps.keyOf_string_mk (P := Try.prog) Try.underlying9 hs
theorem zeroI (w : World) : (zeroValue 3).run Try.prog w = .ok (.int .i64 0) w := by kernel_rfl
theorem zeroI64 (w : World) : (zeroValue 2).run Try.prog w = .ok (.int .i64 0) w := by kernel_rfl
theorem zeroL (w : World) : (zeroValue 30).run Try.prog w = .ok (.agg #[.int .i64 0, .int .i64 0, .int .i64 0]) w := by kernel_rfl
/-- a location: segment, place, number -/
structure LT where
  seg : Int
  pos : Int
  seq : Int
deriving DecidableEq
def locC (l : LT) : List Value := [.int .i64 l.seg, .int .i64 l.pos, .int .i64 l.seq]
def locV (l : LT) : Value := .agg #[.int .i64 l.seg, .int .i64 l.pos, .int .i64 l.seq]
theorem addr_at (g o j : Nat) : (⟨g, o, none⟩ : Addr).add j = ⟨g, o + j, none⟩ := by unfold Addr.add; split <;> simp_all
def loadL (v : Value) : Sem Value := Instr.loadAt 30 v
theorem loadL_eq (v : Value) : Instr.loadAt 30 v = loadL v := rfl
theorem run_loadL {w : World} {g o : Nat} {cs : List Value} (hl : cs.length = 3) (h : ∀ j u, cs[j]? = some u → w.cell? ⟨g, o + j, none⟩ = some u) :
    (loadL (.pointer (some ⟨g, o, none⟩))).run Try.prog w = .ok (.agg cs.toArray) w := by
  simp only [loadL, Instr.loadAt, Instr.sureAddr, loadVar, loadCells, Sem.run_bind, Sem.run_pure, Result.andThen_ok, Try.isAgg30, Try.sizeOf30, if_true]
  have := run_loadCellsFrom_list Try.prog w ⟨g, o, none⟩ cs 3 hl (fun j v hj => by
    rw [addr_at]
    exact h j v hj)
  rw [this]
  rfl
theorem run_loadL_blk {w : World} {g : Nat} {t : TypeId} {l : LT} (h : Blk w g t (locC l)) : (loadL (.pointer (some ⟨g, 0, none⟩))).run Try.prog w = .ok (.agg #[.int .i64 l.seg, .int .i64 l.pos, .int .i64 l.seq]) w :=
  run_loadL (cs := locC l) rfl fun j u hj => by rw [Nat.zero_add]; exact h.cell hj
def storeL (p v : Value) : Sem Unit := Instr.storeAt 30 p v
theorem storeL_eq (p v : Value) : Instr.storeAt 30 p v = storeL p v := rfl
theorem putL {W : World} {g : Nat} {t : TypeId} {cs : List Value} (l : LT) (hk : Blk W g t cs) (hc : cs.length = 3) :
    ∃ W2, (storeL (.pointer (some ⟨g, 0, none⟩)) (.agg #[.int .i64 l.seg, .int .i64 l.pos, .int .i64 l.seq])).run Try.prog W = .ok () W2 ∧ Hid (Blk W2 g t (locC l)) ∧ Hid (W.grownBy W2 (some g)) := by
  refine ⟨W.setRow g (locC l).toArray, ?_, Lib.hid (hk.setRow _), Lib.hid ⟨rfl, rfl, rfl, by simp, fun k hk hne => setRow_other _ _ _ _ (by intro e; exact hne (by rw [e]))⟩⟩
  simp only [storeL, Instr.storeAt, Instr.sureAddr, storeVar, Sem.run_bind, Sem.run_pure, Result.andThen_ok, Try.sizeOf30]
  rw [if_neg (by simp [Value.cells])]
  have h1 : ∀ u ∈ locC l, u.oneCell' = true := by
    intro u hu
    simp [locC] at hu
    rcases hu with rfl | rfl | rfl <;> rfl
  have := run_storeCells_at (P := Try.prog) g 0 t (locC l) 0 cs.toArray W hk (by simp [hc, locC]) h1
  have e : cs.drop 3 = [] := List.drop_of_length_le (by omega)
  simpa [Value.cells, e, locC] using this
/-- what lies in fp alone has turned, or is new; fp' is fp and new blocks -/
structure Step (w w' : World) (fp fp' : Nat → Prop) : Prop where
  os : w'.os = w.os
  tape : w'.tape = w.tape
  output : w'.output = w.output
  size : w.heap.size ≤ w'.heap.size
  block : ∀ b, b < w.heap.size → ¬ fp b → w'.heap[b]? = w.heap[b]?
  more : ∀ b, fp' b → fp b ∨ w.heap.size ≤ b
namespace Step
variable {w w' w'' : World} {fp fp' fp'' : Nat → Prop}
theorem refl (w : World) (fp : Nat → Prop) : Step w w fp fp := ⟨rfl, rfl, rfl, Nat.le_refl _, fun _ _ _ => rfl, fun _ h => .inl h⟩
theorem trans (h : Step w w' fp fp') (k : Step w' w'' fp' fp'') : Step w w'' fp fp'' :=
  ⟨k.os.trans h.os, k.tape.trans h.tape, k.output.trans h.output, Nat.le_trans h.size k.size,
    fun b hb hn => (k.block b (Nat.lt_of_lt_of_le hb h.size) (fun h' => (h.more b h').elim hn (by omega))).trans (h.block b hb hn),
    fun b hb => (k.more b hb).elim (fun h' => h.more b h') (fun h' => .inr (Nat.le_trans h.size h'))⟩
theorem ofBelow (hb : Below w.heap.size w w') (fp : Nat → Prop) : Step w w' fp fp := ⟨hb.os, hb.tape, hb.output, hb.size, fun b h _ => hb.block b h, fun _ h => .inl h⟩
theorem below (h : Step w w' fp fp') {B : Nat} (hB : B ≤ w.heap.size) (hf : ∀ b, fp b → B ≤ b) : Below B w w' :=
  ⟨h.os, h.tape, h.output, h.size, fun k hk => h.block k (by omega) (fun hp => by have := hf k hp; omega)⟩
theorem base (h : Step w w' fp fp') {B : Nat} (hB : B ≤ w.heap.size) (hf : ∀ b, fp b → B ≤ b) : ∀ b, fp' b → B ≤ b := fun b hb => (h.more b hb).elim (hf b) (fun h' => by omega)
theorem ofGrown {row : Option Nat} (h : w.grownBy w' row) (hf : ∀ b, row = some b → fp b ∨ w.heap.size ≤ b) : Step w w' fp fp :=
  ⟨h.os, h.tape, h.output, h.size, fun b hb hn => h.block b hb (fun e => (hf b e.symm).elim hn (by omega)), fun _ h => .inl h⟩
theorem wide (h : Step w w' fp fp') {fq : Nat → Prop} (hf : ∀ b, fp b → fq b) : Step w w' fq (fun b => fq b ∨ fp' b) :=
  ⟨h.os, h.tape, h.output, h.size, fun b hb hn => h.block b hb (fun e => hn (hf b e)), fun b hb => hb.elim .inl (fun e => (h.more b e).imp (hf b) id)⟩
theorem mono (h : Step w w' fp fp') {fp2 : Nat → Prop} (hf : ∀ b, fp2 b → fp' b ∨ w.heap.size ≤ b) : Step w w' fp fp2 :=
  ⟨h.os, h.tape, h.output, h.size, h.block, fun b hb => (hf b hb).elim (h.more b) .inr⟩
end Step
/-- what set leaves: in slot o of block p a map that has the key -/
def SetPost {κ : Type} [DecidableEq κ] (lit : κ → Lit) (w : World) (p o : Nat) (cs : List Value) (mv : Option Nat) (kt : TypeId) (n : Nat) (f : κ → Option Value) (k : κ) (v : Value) (e : Ending) (w' : World) : Prop :=
  e = .returned (.tuple #[]) ∧ ∃ b, (mv = some b ∨ w.heap.size ≤ b) ∧ Hid (Blk w' p 50 (cs.set o (.map (some b)))) ∧ Hid (MF lit w' kt (some b) (nput f k n) (fput f k v)) ∧ Hid (Step w w' (fun x => x = p ∨ mv = some x) (fun x => x = p ∨ some b = some x))
theorem set_self {α : Type} : ∀ {l : List α} {o : Nat} {v : α}, l[o]? = some v → l.set o v = l
  | [], _, _, h => by simp at h
  | a :: l, 0, v, h => by simp at h; simp [h]
  | a :: l, o + 1, v, h => by simp at h; simp [set_self h]
set_option maxHeartbeats 4000000 in
theorem set_gone (p o : Nat) (cs : List Value) (mv : Option Nat) (n : Nat) (f : ByteArray → Option Value) (k : ByteArray) (v : Int) (w : World) (hb0 : Blk w p 50 cs) (hc : cs[o]? = some (.map mv)) (hm0 : MF klit w 9 mv n f) (hn : n < 1000000000) (hk : k.size ≤ maxLen) :
    Calls Try.prog 23 #[.pointer (some ⟨p, o, none⟩), .string k, .int .i64 v] w (SetPost klit w p o cs mv 9 n f k (.int .i64 v)) := by
  have hkey := key_str hk
  have ho : o < cs.length := by
    rcases Nat.lt_or_ge o cs.length with h | h
    · exact h
    · rw [List.getElem?_eq_none h] at hc; cases hc
  have hgu : Below w.heap.size w w := Below.refl _ _
  have hb : Blk w p 50 cs := hb0.below hgu hb0.lt
  have hm : MF klit w 9 mv n f := hm0.below hgu
  have HGU := Lib.hid hgu
  have heq := fun (W : World) (q : Option Nat) => run_eql_map_nil_sl (P := Try.prog) W 47 _ _ q Try.underlying47
  clear hb0 hm0 hgu
  cases mv with
  | some b =>
    have c0 : w.cell? ⟨p, o, none⟩ = some (.map (some b)) := hb.cell hc
    obtain ⟨w', hr, hm', hg⟩ := hm.put (t := 47) (e := 2) lawS Try.underlying47 hn hkey (klit_key k) klit_inj (.int .i64 v)
    have hne := hm.not_blk hb
    have HB := Lib.hid (hb.grown hg (fun e => hne e.symm))
    have HM := Lib.hid hm'
    have HG := Lib.hid hg
    have HO := Lib.hid (show cs.set o (.map (some b)) = cs from set_self hc)
    clear hm' hg hm hb hne hc ho
    go_enter Try.func23, Try.ntmps23
    go_wp2_with fail
    go_end0
    exact ⟨rfl, b, .inl rfl, Lib.hid (by rw [HO.out]; exact HB.out), HM, Lib.hid ((Step.ofBelow HGU.out _).trans (Step.ofGrown HG.out (fun x hx => by cases hx; exact .inl (.inr rfl))))⟩
  | none =>
    have c0 : w.cell? ⟨p, o, none⟩ = some (.map none) := hb.cell hc
    have hf : ∀ k, f k = none := by
      obtain ⟨_, _, h⟩ | ⟨b, D, h, _⟩ := hm
      · exact h
      · cases h
    have hn0 : n = 0 := by
      obtain ⟨_, h, _⟩ | ⟨b, D, h, _⟩ := hm
      · exact h
      · cases h
    subst hn0
    obtain ⟨w1, hw1⟩ : ∃ w1, w.alloc (.map #[] 0) = w1 := ⟨_, rfl⟩
    have hm1 : MF klit w1 9 (some w.heap.size) 0 f := by rw [← hw1]; exact MF.made klit w 9 hf
    have hb1 : Blk w1 p 50 cs := by rw [← hw1]; exact hb.alloc _
    have hg1 : Below w.heap.size w w1 := by rw [← hw1]; exact (Below.refl _ _).alloc (Nat.le_refl _) _
    have hpl := hb.lt
    obtain ⟨g, hg⟩ : ∃ g, w.heap.size = g := ⟨_, rfl⟩
    rw [hg] at hm1 hpl
    have hmm : (Instr.makeMap 47 none).run Try.prog w = .ok (.map (some g)) w1 := by rw [run_makeMap, hg, hw1]
    have d0 : w1.cell? ⟨p, o, none⟩ = some (.map none) := hb1.cell hc
    have fz := hb1.frozen o
    obtain ⟨w2, hw2⟩ : ∃ w2, w1.setCell ⟨p, o, none⟩ (.map (some g)) = w2 := ⟨_, rfl⟩
    have hb2 : Blk w2 p 50 (cs.set o (.map (some g))) := by rw [← hw2]; exact hb1.set o _
    have hm2 : MF klit w2 9 (some g) 0 f := hm1.keep fun b e => by cases e; rw [← hw2]; exact Below.heap_setCell w1 _ _ g (by show g ≠ p; omega)
    have c2 : w2.cell? ⟨p, o, none⟩ = some (.map (some g)) := hb2.cell (by rw [List.getElem?_set_self ho])
    obtain ⟨w', hr, hm', hg3⟩ := hm2.put (t := 47) (e := 2) lawS Try.underlying47 (by omega) hkey (klit_key k) klit_inj (.int .i64 v)
    have HB := Lib.hid (hb2.grown hg3 (by simp; omega))
    have HM := Lib.hid hm'
    have hst : Step w w' (fun x => x = p ∨ (none : Option Nat) = some x) (fun x => x = p ∨ some g = some x) := by
      refine ⟨?_, ?_, ?_, ?_, fun b hb hn => ?_, fun b hb => ?_⟩
      · rw [hg3.os, ← hw2]; exact hg1.os
      · rw [hg3.tape, ← hw2]; exact hg1.tape
      · rw [hg3.output, ← hw2]; exact hg1.output
      · refine Nat.le_trans hg1.size (Nat.le_trans ?_ hg3.size); rw [← hw2]; simp
      · have hbs : b < w2.heap.size := by rw [← hw2]; simp; exact Nat.lt_of_lt_of_le hb hg1.size
        rw [hg3.block b hbs (by simp; omega), ← hw2, Below.heap_setCell w1 _ _ b (by show b ≠ p; exact fun e => hn (.inl e)), hg1.block b hb]
      · rcases hb with hb | hb
        · exact .inl (.inl hb)
        · cases hb; right; omega
    have HS := Lib.hid hst
    have HGE := Lib.hid (show w.heap.size ≤ g by have := HGU.out.size; omega)
    clear hst hm' hg3 hm2 hb2 hm1 hb1 hg1 hb hm hf hc ho hpl
    clear hg
    go_enter Try.func23, Try.ntmps23
    go_wp2_with fail
    go_end0
    exact ⟨rfl, g, .inr HGE.out, HB, HM, Lib.hid ((Step.ofBelow HGU.out _).trans HS.out)⟩
set_option maxHeartbeats 4000000 in
theorem set_int (p o : Nat) (cs : List Value) (mv : Option Nat) (n : Nat) (f : Int → Option Value) (k : Int) (v : Int) (w : World) (hb0 : Blk w p 50 cs) (hc : cs[o]? = some (.map mv)) (hm0 : MF ilit w 2 mv n f) (hn : n < 1000000000) (hk : (Lit.int .i64 k).wf = true) :
    Calls Try.prog 31 #[.pointer (some ⟨p, o, none⟩), .int .i64 k, .int .i64 v] w (SetPost ilit w p o cs mv 2 n f k (.int .i64 v)) := by
  have hkey := key_int hk
  have ho : o < cs.length := by
    rcases Nat.lt_or_ge o cs.length with h | h
    · exact h
    · rw [List.getElem?_eq_none h] at hc; cases hc
  have hgu : Below w.heap.size w w := Below.refl _ _
  have hb : Blk w p 50 cs := hb0.below hgu hb0.lt
  have hm : MF ilit w 2 mv n f := hm0.below hgu
  have HGU := Lib.hid hgu
  have heq := fun (W : World) (q : Option Nat) => run_eql_map_nil_sl (P := Try.prog) W 48 _ _ q Try.underlying48
  clear hb0 hm0 hgu
  cases mv with
  | some b =>
    have c0 : w.cell? ⟨p, o, none⟩ = some (.map (some b)) := hb.cell hc
    obtain ⟨w', hr, hm', hg⟩ := hm.put (t := 48) (e := 3) lawI Try.underlying48 hn hkey (ilit_key k) ilit_inj (.int .i64 v)
    have hne := hm.not_blk hb
    have HB := Lib.hid (hb.grown hg (fun e => hne e.symm))
    have HM := Lib.hid hm'
    have HG := Lib.hid hg
    have HO := Lib.hid (show cs.set o (.map (some b)) = cs from set_self hc)
    clear hm' hg hm hb hne hc ho
    go_enter Try.func31, Try.ntmps31
    go_wp2_with fail
    go_end0
    exact ⟨rfl, b, .inl rfl, Lib.hid (by rw [HO.out]; exact HB.out), HM, Lib.hid ((Step.ofBelow HGU.out _).trans (Step.ofGrown HG.out (fun x hx => by cases hx; exact .inl (.inr rfl))))⟩
  | none =>
    have c0 : w.cell? ⟨p, o, none⟩ = some (.map none) := hb.cell hc
    have hf : ∀ k, f k = none := by
      obtain ⟨_, _, h⟩ | ⟨b, D, h, _⟩ := hm
      · exact h
      · cases h
    have hn0 : n = 0 := by
      obtain ⟨_, h, _⟩ | ⟨b, D, h, _⟩ := hm
      · exact h
      · cases h
    subst hn0
    obtain ⟨w1, hw1⟩ : ∃ w1, w.alloc (.map #[] 0) = w1 := ⟨_, rfl⟩
    have hm1 : MF ilit w1 2 (some w.heap.size) 0 f := by rw [← hw1]; exact MF.made ilit w 2 hf
    have hb1 : Blk w1 p 50 cs := by rw [← hw1]; exact hb.alloc _
    have hg1 : Below w.heap.size w w1 := by rw [← hw1]; exact (Below.refl _ _).alloc (Nat.le_refl _) _
    have hpl := hb.lt
    obtain ⟨g, hg⟩ : ∃ g, w.heap.size = g := ⟨_, rfl⟩
    rw [hg] at hm1 hpl
    have hmm : (Instr.makeMap 48 none).run Try.prog w = .ok (.map (some g)) w1 := by rw [run_makeMap, hg, hw1]
    have d0 : w1.cell? ⟨p, o, none⟩ = some (.map none) := hb1.cell hc
    have fz := hb1.frozen o
    obtain ⟨w2, hw2⟩ : ∃ w2, w1.setCell ⟨p, o, none⟩ (.map (some g)) = w2 := ⟨_, rfl⟩
    have hb2 : Blk w2 p 50 (cs.set o (.map (some g))) := by rw [← hw2]; exact hb1.set o _
    have hm2 : MF ilit w2 2 (some g) 0 f := hm1.keep fun b e => by cases e; rw [← hw2]; exact Below.heap_setCell w1 _ _ g (by show g ≠ p; omega)
    have c2 : w2.cell? ⟨p, o, none⟩ = some (.map (some g)) := hb2.cell (by rw [List.getElem?_set_self ho])
    obtain ⟨w', hr, hm', hg3⟩ := hm2.put (t := 48) (e := 3) lawI Try.underlying48 (by omega) hkey (ilit_key k) ilit_inj (.int .i64 v)
    have HB := Lib.hid (hb2.grown hg3 (by simp; omega))
    have HM := Lib.hid hm'
    have hst : Step w w' (fun x => x = p ∨ (none : Option Nat) = some x) (fun x => x = p ∨ some g = some x) := by
      refine ⟨?_, ?_, ?_, ?_, fun b hb hn => ?_, fun b hb => ?_⟩
      · rw [hg3.os, ← hw2]; exact hg1.os
      · rw [hg3.tape, ← hw2]; exact hg1.tape
      · rw [hg3.output, ← hw2]; exact hg1.output
      · refine Nat.le_trans hg1.size (Nat.le_trans ?_ hg3.size); rw [← hw2]; simp
      · have hbs : b < w2.heap.size := by rw [← hw2]; simp; exact Nat.lt_of_lt_of_le hb hg1.size
        rw [hg3.block b hbs (by simp; omega), ← hw2, Below.heap_setCell w1 _ _ b (by show b ≠ p; exact fun e => hn (.inl e)), hg1.block b hb]
      · rcases hb with hb | hb
        · exact .inl (.inl hb)
        · cases hb; right; omega
    have HS := Lib.hid hst
    have HGE := Lib.hid (show w.heap.size ≤ g by have := HGU.out.size; omega)
    clear hst hm' hg3 hm2 hb2 hm1 hb1 hg1 hb hm hf hc ho hpl
    clear hg
    go_enter Try.func31, Try.ntmps31
    go_wp2_with fail
    go_end0
    exact ⟨rfl, g, .inr HGE.out, HB, HM, Lib.hid ((Step.ofBelow HGU.out _).trans HS.out)⟩
attribute [local go_sem ↓] loadL_eq storeL_eq
set_option maxHeartbeats 4000000 in
theorem set_loc (p o : Nat) (cs : List Value) (mv : Option Nat) (n : Nat) (f : ByteArray → Option Value) (k : ByteArray) (v : LT) (w : World) (hb0 : Blk w p 50 cs) (hc : cs[o]? = some (.map mv)) (hm0 : MF klit w 9 mv n f) (hn : n < 1000000000) (hk : k.size ≤ maxLen) :
    Calls Try.prog 30 #[.pointer (some ⟨p, o, none⟩), .string k, .agg #[.int .i64 v.seg, .int .i64 v.pos, .int .i64 v.seq]] w (SetPost klit w p o cs mv 9 n f k (.agg #[.int .i64 v.seg, .int .i64 v.pos, .int .i64 v.seq])) := by
  have hkey := key_str hk
  have ho : o < cs.length := by
    rcases Nat.lt_or_ge o cs.length with h | h
    · exact h
    · rw [List.getElem?_eq_none h] at hc; cases hc
  obtain ⟨u, hu⟩ : ∃ u, w.alloc (.cells #[.int .i64 v.seg, .int .i64 v.pos, .int .i64 v.seq] 30) = u := ⟨_, rfl⟩
  have hgu : Below w.heap.size w u := by rw [← hu]; exact (Below.refl _ _).alloc (Nat.le_refl _) _
  have hku : Blk u w.heap.size 30 (locC v) := by rw [← hu]; exact Blk.new w _ _
  have hld := run_loadL_blk hku.drew
  have hpw := hb0.lt
  have hb : Blk u p 50 cs := hb0.below hgu hb0.lt
  have hm : MF klit u 9 mv n f := hm0.below hgu
  have HGU := Lib.hid hgu
  have heq := fun (W : World) (q : Option Nat) => run_eql_map_nil_sl (P := Try.prog) W 46 _ _ q Try.underlying46
  clear hb0 hm0 hgu
  cases mv with
  | some b =>
    have c0 : u.cell? ⟨p, o, none⟩ = some (.map (some b)) := hb.cell hc
    obtain ⟨w', hr, hm', hgd⟩ := (show MF klit u.drew 9 (some b) n f from hm).put (t := 46) (e := 30) lawS Try.underlying46 hn hkey (klit_key k) klit_inj (.agg #[.int .i64 v.seg, .int .i64 v.pos, .int .i64 v.seq])
    have hg : u.grownBy w' (some b) := ⟨hgd.os, hgd.tape, hgd.output, hgd.size, hgd.block⟩
    have hne := hm.not_blk hb
    clear hgd
    have HB := Lib.hid (hb.grown hg (fun e => hne e.symm))
    have HM := Lib.hid hm'
    have HG := Lib.hid hg
    have HO := Lib.hid (show cs.set o (.map (some b)) = cs from set_self hc)
    clear hm' hg hm hb hne hc ho hku hpw
    go_enter Try.func30, Try.ntmps30
    go_wp2_with fail
    go_still_tail 5, (by kernel_rfl)
    change wpList _ _ _ _ _ u.drew
    go_wp2_with fail
    go_end0
    exact ⟨rfl, b, .inl rfl, Lib.hid (by rw [HO.out]; exact HB.out), HM, Lib.hid ((Step.ofBelow HGU.out _).trans (Step.ofGrown HG.out (fun x hx => by cases hx; exact .inl (.inr rfl))))⟩
  | none =>
    have c0 : u.cell? ⟨p, o, none⟩ = some (.map none) := hb.cell hc
    have hf : ∀ k, f k = none := by
      obtain ⟨_, _, h⟩ | ⟨b, D, h, _⟩ := hm
      · exact h
      · cases h
    have hn0 : n = 0 := by
      obtain ⟨_, h, _⟩ | ⟨b, D, h, _⟩ := hm
      · exact h
      · cases h
    subst hn0
    obtain ⟨w1, hw1⟩ : ∃ w1, u.alloc (.map #[] 0) = w1 := ⟨_, rfl⟩
    have hm1 : MF klit w1 9 (some u.heap.size) 0 f := by rw [← hw1]; exact MF.made klit u 9 hf
    have hb1 : Blk w1 p 50 cs := by rw [← hw1]; exact hb.alloc _
    have hg1 : Below u.heap.size u w1 := by rw [← hw1]; exact (Below.refl _ _).alloc (Nat.le_refl _) _
    have hpl := hb.lt
    obtain ⟨g, hg⟩ : ∃ g, u.heap.size = g := ⟨_, rfl⟩
    rw [hg] at hm1 hpl
    have hmm : (Instr.makeMap 46 none).run Try.prog u = .ok (.map (some g)) w1 := by rw [run_makeMap, hg, hw1]
    have d0 : w1.cell? ⟨p, o, none⟩ = some (.map none) := hb1.cell hc
    have fz := hb1.frozen o
    obtain ⟨w2, hw2⟩ : ∃ w2, w1.setCell ⟨p, o, none⟩ (.map (some g)) = w2 := ⟨_, rfl⟩
    have hb2 : Blk w2 p 50 (cs.set o (.map (some g))) := by rw [← hw2]; exact hb1.set o _
    have hm2 : MF klit w2 9 (some g) 0 f := hm1.keep fun b e => by cases e; rw [← hw2]; exact Below.heap_setCell w1 _ _ g (by show g ≠ p; omega)
    have c2 : w2.cell? ⟨p, o, none⟩ = some (.map (some g)) := hb2.cell (by rw [List.getElem?_set_self ho])
    obtain ⟨w', hr, hm', hgd⟩ := (show MF klit w2.drew 9 (some g) 0 f from hm2).put (t := 46) (e := 30) lawS Try.underlying46 (by omega) hkey (klit_key k) klit_inj (.agg #[.int .i64 v.seg, .int .i64 v.pos, .int .i64 v.seq])
    have hku2 : Blk w2 w.heap.size 30 (locC v) := by
      have h1 : Blk w1 w.heap.size 30 (locC v) := by rw [← hw1]; exact hku.alloc _
      rw [← hw2]; exact h1.setOther (by show w.heap.size ≠ p; omega) _
    have hld2 := run_loadL_blk hku2.drew
    clear hld hku hku2 hpw
    have hg3 : w2.grownBy w' (some g) := ⟨hgd.os, hgd.tape, hgd.output, hgd.size, hgd.block⟩
    clear hgd
    have HB := Lib.hid (hb2.grown hg3 (by simp; omega))
    have HM := Lib.hid hm'
    have hst : Step u w' (fun x => x = p ∨ (none : Option Nat) = some x) (fun x => x = p ∨ some g = some x) := by
      refine ⟨?_, ?_, ?_, ?_, fun b hb hn => ?_, fun b hb => ?_⟩
      · rw [hg3.os, ← hw2]; exact hg1.os
      · rw [hg3.tape, ← hw2]; exact hg1.tape
      · rw [hg3.output, ← hw2]; exact hg1.output
      · refine Nat.le_trans hg1.size (Nat.le_trans ?_ hg3.size); rw [← hw2]; simp
      · have hbs : b < w2.heap.size := by rw [← hw2]; simp; exact Nat.lt_of_lt_of_le hb hg1.size
        rw [hg3.block b hbs (by simp; omega), ← hw2, Below.heap_setCell w1 _ _ b (by show b ≠ p; exact fun e => hn (.inl e)), hg1.block b hb]
      · rcases hb with hb | hb
        · exact .inl (.inl hb)
        · cases hb; right; omega
    have HS := Lib.hid hst
    have HGE := Lib.hid (show w.heap.size ≤ g by have := HGU.out.size; omega)
    clear hst hm' hg3 hm2 hb2 hm1 hb1 hg1 hb hm hf hc ho hpl
    clear hg
    go_enter Try.func30, Try.ntmps30
    go_wp2_with fail
    go_still_tail 5, (by kernel_rfl)
    change wpList _ _ _ _ _ w2.drew
    go_wp2_with fail
    go_end0
    exact ⟨rfl, g, .inr HGE.out, HB, HM, Lib.hid ((Step.ofBelow HGU.out _).trans HS.out)⟩
end Go.Proofs.Ythgpdnffahmhjaa.S20
