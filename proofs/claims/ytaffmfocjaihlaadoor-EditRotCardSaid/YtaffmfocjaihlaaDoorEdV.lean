/- Edits, and rows of them, as they come in: what a walk is told of them; lemmas without a walk. -/
import Derived.Test.YtaffmfocjaihlaaDoorEdM
import Derived.Deep.Slices
import Derived.ChangeSlices
import Derived.ChangeArms
set_option linter.unusedSimpArgs false
set_option linter.unusedVariables false
set_option maxRecDepth 100000
namespace Go.Proofs.YtaffmfocjaihlaaDoor.S18
open Go.RowKit Go.ChangeShapes Go.WideShapes
section
variable {H : Type} {enc : TypeId × Value → H} {w : World} {held : Bool}
abbrev In (w : World) (b : Nat) : Prop := b < w.heap.size
theorem open_rowD {α : Type} {R : α → List Value → Prop} {k : Nat} {t e : TypeId} {fuel : Nat} {a : Option Addr} {len cap : Nat} {x : DataW H × List MemPlace} (ht : Tryd.prog.underlying t = some (.slice e)) (hc : Tryd.prog.cellsOf e = k) (hk : 0 < k)
    (hel : ∀ (fuel : Nat) (cs : List Value) (x : DataW H × List MemPlace), DataW.trod enc Tryd.prog w 0 (fun _ => true) held fuel e cs = some x → ∃ y, R y cs) (h : DataW.trod enc Tryd.prog w 0 (fun _ => true) held fuel t [.slice a len cap] = some x) :
    ∃ L : List α, L.length = len ∧ RowD (In w) R k w (.slice a len cap) L := by
  rcases Go.Deep.open_slice ht h with ⟨hcs, _⟩ | ⟨b, l, c, m, n, D, Pl, hcs, _, hl, hm, hmm, _, hx⟩
  · simp at hcs
    obtain ⟨rfl, rfl, rfl⟩ := hcs
    exact ⟨[], rfl, RowD.nil⟩
  · simp at hcs
    obtain ⟨rfl, rfl, rfl⟩ := hcs
    have hone : ∀ i, ∃ y : Option α, i < len → ∃ z cs, y = some z ∧ R z cs ∧ cs.length = k ∧ ∀ j u, cs[j]? = some u → w.cell? ((b.add (i * k)).add j) = some u := fun i => by
      by_cases hi : i < len
      · obtain ⟨cs', h1, h2⟩ := hx i (by rw [hmm]; simp; omega)
        rw [hc] at h1
        obtain ⟨_, hlen, hcell⟩ := World.cells?_some h1
        obtain ⟨z, hz⟩ := hel _ _ _ h2
        refine ⟨some z, fun _ => ⟨z, cs', rfl, hz, hlen, fun j u hj => ?_⟩⟩
        have hjl := (List.getElem?_eq_some_iff.1 hj).1
        have := hcell j (by omega)
        rw [hj] at this
        exact this
      · exact ⟨none, fun h => absurd h hi⟩
    have hf := fun i => Classical.choose_spec (hone i)
    obtain ⟨f, hfd⟩ : ∃ f : Nat → Option α, f = fun i => Classical.choose (hone i) := ⟨_, rfl⟩
    have hf' : ∀ i, i < len → ∃ z cs, f i = some z ∧ R z cs ∧ cs.length = k ∧ ∀ j u, cs[j]? = some u → w.cell? ((b.add (i * k)).add j) = some u := fun i hi => by rw [hfd]; exact hf i hi
    have hL : ∀ n, n ≤ len → ∃ L : List α, L.length = n ∧ ∀ i, i < n → L[i]? = f i := fun n => by
      induction n with
      | zero => exact fun _ => ⟨[], rfl, fun i hi => by omega⟩
      | succ n ih =>
        intro hn
        obtain ⟨L, h1, h2⟩ := ih (by omega)
        obtain ⟨z, _, hz, _⟩ := hf' n (by omega)
        refine ⟨L ++ [z], by simp [h1], fun i hi => ?_⟩
        by_cases hin : i < n
        · rw [List.getElem?_append_left (by omega)]; exact h2 i hin
        · have : i = n := by omega
          subst this
          rw [List.getElem?_append_right (by omega), h1, hz]
          simp
    obtain ⟨L, hLl, hLf⟩ := hL len (Nat.le_refl _)
    refine ⟨L, hLl, some b, cap, by rw [hLl], by rw [hLl]; exact hl, hm, (fun e => by cases e), fun h0 => ?_⟩
    obtain ⟨z0, cs0, _, _, hl0, hu0⟩ := hf' 0 (by omega)
    obtain ⟨u0, hu00⟩ : ∃ u, cs0[0]? = some u := ⟨_, List.getElem?_eq_getElem (by omega)⟩
    have hc0 := hu0 0 u0 hu00
    obtain ⟨bk, off, spot⟩ := b
    have hspot : spot = none := by simpa [Addr.add] using World.cell?_spot hc0
    subst hspot
    rw [addr_at, addr_at] at hc0
    refine ⟨bk, off, rfl, World.block_lt_of_cell? w _ hc0, World.block_lt_of_cell? w _ hc0, fun i y hy => ?_⟩
    have hi := (List.getElem?_eq_some_iff.1 hy).1
    obtain ⟨z, cs, hz, hr, _, hu⟩ := hf' i (by omega)
    rw [hLf i (by omega), hz] at hy
    cases hy
    refine ⟨cs, hr, fun j u hj => ?_⟩
    have := hu j u hj
    rwa [addr_at, addr_at] at this
/-- a field of a struct -/
theorem open_field {fs : Array Field} {t : TypeId} {fuel : Nat} {cs : List Value} {x : DataW H × List MemPlace} (he : Tryd.prog.underlying t = some (.struct fs)) (h : DataW.trod enc Tryd.prog w 0 (fun _ => true) held fuel t cs = some x) :
    cs.length = Tryd.prog.cellsOf t ∧ ∀ (j : Nat) (f : Field), fs[j]? = some f → Tryd.prog.cellsOf f.type = 1 → f.offset = j → j < cs.length → ∃ fu y, DataW.trod enc Tryd.prog w 0 (fun _ => true) held fu f.type [cs.getD j undef] = some y := by
  obtain ⟨xs, k, hk, _, hl, hxl, hf⟩ := DataW.trod_struct he h
  refine ⟨hl, fun j f hj h1 hoff hjc => ?_⟩
  have hjx : j < xs.length := by rw [hxl]; exact (Array.getElem?_eq_some_iff.1 hj).1
  have g := hf j f hj
  have e1 : (cs.drop f.offset).take (Tryd.prog.cellsOf f.type) = [cs.getD j undef] := by
    have e2 : cs.getD j undef = cs[j] := by simp [List.getD, hjc]
    rw [hoff, h1, e2, List.drop_eq_getElem_cons hjc]
    rfl
  rw [e1, List.getElem?_eq_getElem hjx] at g
  exact ⟨_, _, g⟩
theorem open_i64 {t : TypeId} {fuel : Nat} {v : Value} {x : DataW H × List MemPlace} (ht : Tryd.prog.underlying t = some (.int .i64)) (h : DataW.trod enc Tryd.prog w 0 (fun _ => true) held fuel t [v] = some x) : ∃ z, v = .int .i64 z := by
  obtain ⟨z, e, _, _⟩ := DataW.trod_int ht h
  exact ⟨z, by simpa using e⟩
theorem open_u32 {t : TypeId} {fuel : Nat} {v : Value} {x : DataW H × List MemPlace} (ht : Tryd.prog.underlying t = some (.int .u32)) (h : DataW.trod enc Tryd.prog w 0 (fun _ => true) held fuel t [v] = some x) : ∃ z, v = .int .u32 z ∧ sumW z := by
  obtain ⟨z, e, _, hw⟩ := DataW.trod_int ht h
  refine ⟨z, by simpa using e, ?_⟩
  simp [Lit.wf, IntKind.min, IntKind.max, IntKind.signed, IntKind.bits] at hw
  exact ⟨hw.1, by omega⟩
theorem open_flag {t : TypeId} {fuel : Nat} {v : Value} {x : DataW H × List MemPlace} (ht : Tryd.prog.underlying t = some .bool) (h : DataW.trod enc Tryd.prog w 0 (fun _ => true) held fuel t [v] = some x) : ∃ z, v = .bool z := by
  obtain ⟨z, e, _⟩ := DataW.trod_bool ht h
  exact ⟨z, by simpa using e⟩
/-- a slice's value is one -/
theorem open_sl {t e : TypeId} {fuel : Nat} {v : Value} {x : DataW H × List MemPlace} (ht : Tryd.prog.underlying t = some (.slice e)) (h : DataW.trod enc Tryd.prog w 0 (fun _ => true) held fuel t [v] = some x) : ∃ a n c, v = .slice a n c := by
  rcases Go.Deep.open_slice ht h with ⟨hcs, _⟩ | ⟨b, l, c, m, n, D, Pl, hcs, _⟩
  · exact ⟨_, _, _, by simpa using hcs⟩
  · exact ⟨_, _, _, by simpa using hcs⟩
theorem cells_of {cs l : List Value} (hl : cs.length = l.length) (h : ∀ j, j < l.length → cs.getD j undef = l.getD j undef) : cs = l := by
  apply List.ext_getElem?
  intro j
  by_cases hj : j < l.length
  · have := h j hj
    rw [List.getD_eq_getElem?_getD, List.getD_eq_getElem?_getD, List.getElem?_eq_getElem (by omega), List.getElem?_eq_getElem hj] at this
    rw [List.getElem?_eq_getElem (by omega), List.getElem?_eq_getElem hj]
    simpa using this
  · rw [List.getElem?_eq_none (by omega), List.getElem?_eq_none (by omega)]
theorem open_nums {t e : TypeId} {fuel : Nat} {a : Option Addr} {len cap : Nat} {x : DataW H × List MemPlace} (ht : Tryd.prog.underlying t = some (.slice e)) (he : Tryd.prog.underlying e = some (.int .i64)) (hc : Tryd.prog.cellsOf e = 1) (h : DataW.trod enc Tryd.prog w 0 (fun _ => true) held fuel t [.slice a len cap] = some x) :
    ∃ L : List Int, L.length = len ∧ IsNums (In w) w (.slice a len cap) L :=
  open_rowD ht hc (by omega) (fun fu cs y hy => by
    obtain ⟨z, e', _, _⟩ := DataW.trod_int he hy
    exact ⟨z, by simpa [numC] using e'⟩) h
theorem open_seg {fuel : Nat} {cs : List Value} {x : DataW H × List MemPlace} (h : DataW.trod enc Tryd.prog w 0 (fun _ => true) held fuel 45 cs = some x) : ∃ s, segC s cs := by
  obtain ⟨hl, hf⟩ := open_field Tryd.underlying45 h
  have hl6 : cs.length = 6 := by rw [hl]; kernel_rfl
  obtain ⟨_, _, g0⟩ := hf 0 _ rfl (by kernel_rfl) rfl (by omega)
  obtain ⟨_, _, g1⟩ := hf 1 _ rfl (by kernel_rfl) rfl (by omega)
  obtain ⟨_, _, g2⟩ := hf 2 _ rfl (by kernel_rfl) rfl (by omega)
  obtain ⟨_, _, g3⟩ := hf 3 _ rfl (by kernel_rfl) rfl (by omega)
  obtain ⟨_, _, g4⟩ := hf 4 _ rfl (by kernel_rfl) rfl (by omega)
  obtain ⟨_, _, g5⟩ := hf 5 _ rfl (by kernel_rfl) rfl (by omega)
  obtain ⟨z0, e0⟩ := open_i64 Tryd.underlying2 g0
  obtain ⟨z1, e1⟩ := open_flag Tryd.underlying4 g1
  obtain ⟨z2, e2⟩ := open_i64 Tryd.underlying2 g2
  obtain ⟨z3, e3⟩ := open_i64 Tryd.underlying3 g3
  obtain ⟨z4, e4⟩ := open_i64 Tryd.underlying3 g4
  obtain ⟨z5, e5, hw⟩ := open_u32 Tryd.underlying43 g5
  refine ⟨⟨z0, z1, z2, z3, z4, z5⟩, cells_of hl6 fun j hj => ?_, hw⟩
  match j, hj with
  | 0, _ => exact e0
  | 1, _ => exact e1
  | 2, _ => exact e2
  | 3, _ => exact e3
  | 4, _ => exact e4
  | 5, _ => exact e5
  | n + 6, hj => exact absurd (show n + 6 < 6 from hj) (by omega)
theorem open_par {fuel : Nat} {cs : List Value} {x : DataW H × List MemPlace} (h : DataW.trod enc Tryd.prog w 0 (fun _ => true) held fuel 49 cs = some x) : ∃ p, parC (In w) w p cs := by
  obtain ⟨hl, hf⟩ := open_field Tryd.underlying49 h
  have hl5 : cs.length = 5 := by rw [hl]; kernel_rfl
  obtain ⟨_, _, g0⟩ := hf 0 _ rfl (by kernel_rfl) rfl (by omega)
  obtain ⟨_, _, g1⟩ := hf 1 _ rfl (by kernel_rfl) rfl (by omega)
  obtain ⟨_, _, g2⟩ := hf 2 _ rfl (by kernel_rfl) rfl (by omega)
  obtain ⟨_, _, g3⟩ := hf 3 _ rfl (by kernel_rfl) rfl (by omega)
  obtain ⟨_, _, g4⟩ := hf 4 _ rfl (by kernel_rfl) rfl (by omega)
  obtain ⟨z0, e0⟩ := open_i64 Tryd.underlying2 g0
  obtain ⟨a1, n1, c1, e1⟩ := open_sl Tryd.underlying23 g1
  obtain ⟨a2, n2, c2, e2⟩ := open_sl Tryd.underlying39 g2
  obtain ⟨z3, e3⟩ := open_i64 Tryd.underlying3 g3
  obtain ⟨z4, e4, hw⟩ := open_u32 Tryd.underlying43 g4
  rw [e1] at g1
  rw [e2] at g2
  obtain ⟨L1, l1, r1⟩ := open_nums Tryd.underlying23 Tryd.underlying2 (by kernel_rfl) g1
  obtain ⟨L2, l2, r2⟩ := open_nums Tryd.underlying39 Tryd.underlying3 (by kernel_rfl) g2
  subst l1 l2
  refine ⟨⟨z0, L1, L2, z3, z4⟩, a1, c1, a2, c2, cells_of hl5 fun j hj => ?_, r1, r2, hw⟩
  match j, hj with
  | 0, _ => exact e0
  | 1, _ => exact e1
  | 2, _ => exact e2
  | 3, _ => exact e3
  | 4, _ => exact e4
  | n + 5, hj => exact absurd (show n + 5 < 5 from hj) (by omega)
theorem open_edit {fuel : Nat} {cs : List Value} {x : DataW H × List MemPlace} (h : DataW.trod enc Tryd.prog w 0 (fun _ => true) held fuel 26 cs = some x) : ∃ e, edC (In w) w e cs := by
  obtain ⟨hl, hf⟩ := open_field Tryd.underlying26 h
  have hl6 : cs.length = 6 := by rw [hl]; kernel_rfl
  obtain ⟨_, _, g0⟩ := hf 0 _ rfl (by kernel_rfl) rfl (by omega)
  obtain ⟨_, _, g1⟩ := hf 1 _ rfl (by kernel_rfl) rfl (by omega)
  obtain ⟨_, _, g2⟩ := hf 2 _ rfl (by kernel_rfl) rfl (by omega)
  obtain ⟨_, _, g3⟩ := hf 3 _ rfl (by kernel_rfl) rfl (by omega)
  obtain ⟨_, _, g4⟩ := hf 4 _ rfl (by kernel_rfl) rfl (by omega)
  obtain ⟨_, _, g5⟩ := hf 5 _ rfl (by kernel_rfl) rfl (by omega)
  obtain ⟨z0, e0⟩ := open_i64 Tryd.underlying2 g0
  obtain ⟨z1, e1⟩ := open_i64 Tryd.underlying2 g1
  obtain ⟨a1, n1, c1, e2⟩ := open_sl Tryd.underlying22 g2
  obtain ⟨a2, n2, c2, e3⟩ := open_sl Tryd.underlying23 g3
  obtain ⟨a3, n3, c3, e4⟩ := open_sl Tryd.underlying24 g4
  obtain ⟨a4, n4, c4, e5⟩ := open_sl Tryd.underlying23 g5
  rw [e2] at g2
  rw [e3] at g3
  rw [e4] at g4
  rw [e5] at g5
  obtain ⟨L1, l1, r1⟩ := open_rowD (R := segC) (k := 6) Tryd.underlying22 (by kernel_rfl) (by omega) (fun _ _ _ h => open_seg h) g2
  obtain ⟨L2, l2, r2⟩ := open_nums Tryd.underlying23 Tryd.underlying2 (by kernel_rfl) g3
  obtain ⟨L3, l3, r3⟩ := open_rowD (R := parC (In w) w) (k := 5) Tryd.underlying24 (by kernel_rfl) (by omega) (fun _ _ _ h => open_par h) g4
  obtain ⟨L4, l4, r4⟩ := open_nums Tryd.underlying23 Tryd.underlying2 (by kernel_rfl) g5
  subst l1 l2 l3 l4
  refine ⟨⟨z0, z1, L1, L2, L3, L4⟩, a1, c1, a2, c2, a3, c3, a4, c4, cells_of hl6 fun j hj => ?_, ⟨r1, r2, r3, r4⟩⟩
  match j, hj with
  | 0, _ => exact e0
  | 1, _ => exact e1
  | 2, _ => exact e2
  | 3, _ => exact e3
  | 4, _ => exact e4
  | 5, _ => exact e5
  | n + 6, hj => exact absurd (show n + 6 < 6 from hj) (by omega)
theorem open_eds {fuel : Nat} {a : Option Addr} {len cap : Nat} {x : DataW H × List MemPlace} (h : DataW.trod enc Tryd.prog w 0 (fun _ => true) held fuel 35 [.slice a len cap] = some x) : ∃ L : List ED, L.length = len ∧ IsEds (In w) w (.slice a len cap) L :=
  open_rowD (R := edC (In w) w) (k := 6) Tryd.underlying35 (by kernel_rfl) (by omega) (fun _ _ _ h => open_edit h) h
end
end Go.Proofs.YtaffmfocjaihlaaDoor.S18
