/- A file system whose directory has changed: how it stands behind the stores. -/
import Derived.Test.YtdjcblboibbefaaDkF
import Derived.Test.YtdjcblboibbefaaApN
set_option linter.unusedSimpArgs false
set_option linter.unusedVariables false
set_option maxRecDepth 100000
namespace Go.Proofs.Ytdjcblboibbefaa.S13
open Go.RowKit Go.Maps Go.Shelf Dk
theorem own_type_ne {w : World} {e1 e2 s1 s2 n1 n2 : Nat} {v1 v2 : Value} {x1 x2 : List Value} (h1 : w.ownsRow 0 e1 s1 v1 n1 x1) (h2 : w.ownsRow 0 e2 s2 v2 n2 x2) (hne : e1 ≠ e2) : ∀ g, v1.ownBlock = some g → v2.ownBlock ≠ some g := by
  intro g hg hg2
  obtain ⟨_, ⟨rfl, _⟩ | ⟨g1, c1, cur1, rfl, _, hh1, _⟩⟩ := h1
  · cases hg
  obtain ⟨_, ⟨rfl, _⟩ | ⟨g2, c2, cur2, rfl, _, hh2, _⟩⟩ := h2
  · cases hg2
  simp only [Value.ownBlock, Option.some.injEq] at hg hg2
  subst hg hg2
  rw [hh1] at hh2
  simp at hh2
  exact hne hh2.2
theorem own_map_ne {w : World} {e s n : Nat} {v : Value} {x : List Value} {b : Nat} {β : Nat → Nat} {L : Dir} (h1 : w.ownsRow 0 e s v n x) (h2 : IsDir w (some b) β L) : v.ownBlock ≠ some b := by
  intro hg
  obtain ⟨_, ⟨rfl, _⟩ | ⟨g1, c1, cur1, rfl, _, hh1, _⟩⟩ := h1
  · cases hg
  obtain ⟨es, clock, hb, _⟩ := h2.own
  simp only [Value.ownBlock, Option.some.injEq] at hg
  subst hg
  rw [hh1] at hb; cases hb
theorem blk_map_ne {w : World} {p t : Nat} {c : List Value} {b : Nat} {β : Nat → Nat} {L : Dir} (h1 : Blk w p t c) (h2 : IsDir w (some b) β L) : p ≠ b := by
  intro e
  subst e
  obtain ⟨es, clock, hb, _⟩ := h2.own
  unfold Blk at h1
  rw [h1] at hb; cases hb
theorem blk_own_ne {w : World} {p t : Nat} {c : List Value} {e s n : Nat} {v : Value} {x : List Value} (h1 : Blk w p t c) (h2 : w.ownsRow 0 e s v n x) (hne : t ≠ e) : v.ownBlock ≠ some p := by
  intro hg
  obtain ⟨_, ⟨rfl, _⟩ | ⟨g1, c1, cur1, rfl, _, hh1, _⟩⟩ := h2
  · cases hg
  simp only [Value.ownBlock, Option.some.injEq] at hg
  subst hg
  unfold Blk at h1
  rw [h1] at hh1
  simp at hh1
  exact hne hh1.2
namespace IsFS
variable {Y Z V1 : World} {l : Lay} {S : St}
/-- a new map for the directory of now, which was nil -/
theorem newMap (h : IsFS Y l S) (hn : l.nv = none) : IsFS ((Y.setCell ⟨l.p, 1, none⟩ (.map (some Y.heap.size))).alloc (.map #[] 0)) { l with nv := some Y.heap.size } S ∧
    Step Y ((Y.setCell ⟨l.p, 1, none⟩ (.map (some Y.heap.size))).alloc (.map #[] 0)) (l.at S.F.length) (Lay.at { l with nv := some Y.heap.size } S.F.length) := by
  obtain ⟨wt, hw, hk, _⟩ := h.cells
  have hS : S.now = [] := by
    obtain ⟨_, e⟩ | ⟨b, e, _⟩ := h.now
    · exact e
    · rw [hn] at e; cases e
  obtain ⟨n1, n2, n3, n4⟩ := h.p_ne
  have hp := h.lt _ (.inl rfl)
  have hb : ∀ b, b < Y.heap.size → b ≠ l.p → ((Y.setCell ⟨l.p, 1, none⟩ (.map (some Y.heap.size))).alloc (.map #[] 0)).heap[b]? = Y.heap[b]? := fun b hb hne => by
    rw [Below.heap_alloc _ _ b (by simpa using hb), Below.heap_setCell _ _ _ b hne]
  have hnew : ((Y.setCell ⟨l.p, 1, none⟩ (.map (some Y.heap.size))).alloc (.map #[] 0)).heap[Y.heap.size]? = some (.map #[] 0) := by
    have := (MapKept.heap_alloc (Y.setCell ⟨l.p, 1, none⟩ (.map (some Y.heap.size))) (.map #[] 0)).1
    have e : (Y.setCell ⟨l.p, 1, none⟩ (.map (some Y.heap.size))).heap.size = Y.heap.size := by simp
    rw [e] at this
    exact this
  have hat : ∀ b, l.at S.F.length b → b < Y.heap.size := h.lt
  refine ⟨⟨⟨wt, ?_, hw⟩, ?_, ?_, ?_, ?_, ?_, h.inj, h.apart, h.ok⟩, ?_⟩
  · have := (hk.set 1 (.map (some Y.heap.size))).alloc (.map #[] 0)
    simpa [fsC] using this
  · rw [hS]
    exact .inr ⟨_, rfl, #[], 0, hnew, ⟨by simp, MapKept.stamped_empty 0, by simp⟩, Nat.le_refl _, rfl⟩
  · exact h.last.keep fun b e => hb b (hat b (.inr (.inr (.inl e)))) (fun e' => n2 (by rw [e, e']))
  · intro b e e2
    simp at e
    have := hat b (.inr (.inr (.inl e2)))
    omega
  · obtain ⟨hl', hq⟩ := h.pend
    refine ⟨hl', ?_⟩
    obtain hq | ⟨g, cap, cur, hv, hg0, hh, r⟩ := hq
    · exact .inl hq
    · have e : l.pv.ownBlock = some g := by rw [hv]; rfl
      exact .inr ⟨g, cap, cur, hv, hg0, (hb g (hat g (.inr (.inr (.inr (.inl e))))) (fun e' => n3 (by rw [e, e']))).trans hh, r⟩
  · intro i hi
    exact (h.file i hi).keep (hb _ (hat _ (.inr (.inr (.inr (.inr ⟨i, hi, .inl rfl⟩))))) (fun e => (n4 i hi).1 e.symm)) (fun g e => hb g (hat g (.inr (.inr (.inr (.inr ⟨i, hi, .inr e⟩))))) (fun e' => (n4 i hi).2 (by rw [e, e'])))
  · refine ⟨rfl, rfl, rfl, by simp, fun b hb' hn' => hb b hb' (fun e => hn' (.inl e)), fun b hb' => ?_⟩
    rcases hb' with e | e | e | e | e
    · exact .inl (.inl e)
    · right; simp at e; omega
    · exact .inl (.inr (.inr (.inl e)))
    · exact .inl (.inr (.inr (.inr (.inl e))))
    · exact .inl (.inr (.inr (.inr (.inr e))))
/-- the directory of now has changed, and a change is pending -/
theorem change (h : IsFS Y l S) {nb : Nat} (hn : l.nv = some nb) {c : Chg} {pv' : Value} (hYZ : Y.grownBy Z (some nb)) (hd : IsDir Z (some nb) l.β (app1 S.now c)) (hZV : Z.grownBy V1 l.pv.ownBlock)
    (ho : V1.ownsRow 0 63 3 pv' (S.pend.length + 1) (chgs l.β S.pend ++ chgC l.β c)) (hni : Nigh Z l.pv pv') (hok : (S.chg c).Ok) :
    IsFS (V1.setCell ⟨l.p, 3, none⟩ pv') { l with pv := pv' } (S.chg c) ∧ Step Y (V1.setCell ⟨l.p, 3, none⟩ pv') (l.at S.F.length) (Lay.at { l with pv := pv' } S.F.length) := by
  obtain ⟨wt, hw, hk, _⟩ := h.cells
  obtain ⟨n1, n2, n3, n4⟩ := h.p_ne
  have hnow := h.now
  rw [hn] at hnow n1
  have hpn : l.p ≠ nb := fun e => n1 (by rw [e])
  have hpl := h.lt _ (.inl rfl)
  have hsz := hYZ.size
  -- what has not turned
  have hb : ∀ b, b < Y.heap.size → b ≠ l.p → b ≠ nb → l.pv.ownBlock ≠ some b → (V1.setCell ⟨l.p, 3, none⟩ pv').heap[b]? = Y.heap[b]? := fun b hb h1 h2 h3 => by
    rw [Below.heap_setCell _ _ _ b h1, hZV.block b (Nat.lt_of_lt_of_le hb hsz) (fun e => h3 e.symm)]
    exact hYZ.block b hb (by simpa using h2)
  have hpnb : l.pv.ownBlock ≠ some nb := own_map_ne h.pend hnow
  have hfile : ∀ i, i < S.F.length → (l.β i < Y.heap.size ∧ l.β i ≠ l.p ∧ l.β i ≠ nb ∧ l.pv.ownBlock ≠ some (l.β i)) ∧ ∀ g, (l.ν i).ownBlock = some g → g < Y.heap.size ∧ g ≠ l.p ∧ g ≠ nb ∧ l.pv.ownBlock ≠ some g := fun i hi => by
    have hf := h.file i hi
    refine ⟨⟨hf.lt.1, fun e => (n4 i hi).1 e.symm, blk_map_ne hf.1 hnow, blk_own_ne hf.1 h.pend (by decide)⟩, fun g hg => ⟨hf.lt.2 g hg, fun e => (n4 i hi).2 (by rw [hg, e]), fun e => own_map_ne hf.2.1 hnow (by rw [hg, e]), fun e => own_type_ne hf.2.1 h.pend (by decide) g hg e⟩⟩
  have hVp : Blk V1 l.p 58 (fsC l S wt) := ((hk.grown hYZ (by simpa using hpn)).grown hZV (fun e => n3 e.symm))
  have hlast : ∀ b, l.lv = some b → b < Y.heap.size ∧ b ≠ l.p ∧ b ≠ nb ∧ l.pv.ownBlock ≠ some b := fun b e => by
    have hl := h.last
    rw [e] at hl
    exact ⟨h.lt b (.inr (.inr (.inl e))), fun e' => n2 (by rw [e, e']), fun e' => h.ne nb hn (by rw [e, e']), own_map_ne h.pend hl⟩
  have hpv : pv'.ownBlock ≠ some l.p := fun e => by
    rcases hni _ e with e' | e'
    · exact n3 e'
    · omega
  have hVo : (V1.setCell ⟨l.p, 3, none⟩ pv').ownsRow 0 63 3 pv' (S.pend.length + 1) (chgs l.β S.pend ++ chgC l.β c) := by
    refine ho.kept (Gr.setCell (Gr.refl V1 l.p) 3 pv') ?_
    cases hq : pv'.ownBlock with
    | none => exact .inl rfl
    | some g => exact .inr (fun e => hpv (by rw [hq]; exact e))
  refine ⟨⟨⟨wt, ?_, hw⟩, ?_, ?_, ?_, ?_, ?_, h.inj, h.apart, hok⟩, ?_⟩
  · have := hVp.set 3 pv'
    simpa [fsC, St.chg] using this
  · show IsDir _ l.nv l.β (app1 S.now c)
    rw [hn]
    refine hd.keep fun b e => ?_
    cases e
    rw [Below.heap_setCell _ _ _ nb hpn.symm, hZV.block nb (hd.lt nb rfl) (fun e => hpnb e.symm)]
  · exact h.last.keep fun b e => by
      obtain ⟨a1, a2, a3, a4⟩ := hlast b e
      exact hb b a1 a2 a3 a4
  · exact h.ne
  · show World.ownsRow _ 0 _ 3 pv' (S.pend ++ [c]).length (chgs l.β (S.pend ++ [c]))
    have e1 : (S.pend ++ [c]).length = S.pend.length + 1 := by simp
    have e2 : chgs l.β (S.pend ++ [c]) = chgs l.β S.pend ++ chgC l.β c := by simp [chgs]
    rw [e1, e2]
    exact hVo
  · intro i hi
    obtain ⟨⟨a1, a2, a3, a4⟩, hg⟩ := hfile i hi
    exact (h.file i hi).keep (hb _ a1 a2 a3 a4) (fun g e => by obtain ⟨b1, b2, b3, b4⟩ := hg g e; exact hb g b1 b2 b3 b4)
  · refine ⟨hZV.os.trans hYZ.os, hZV.tape.trans hYZ.tape, hZV.output.trans hYZ.output, ?_, fun b hb' hn' => hb b hb' (fun e => hn' (.inl e)) (fun e => hn' (.inr (.inl (by rw [hn, e])))) (fun e => hn' (.inr (.inr (.inr (.inl e))))), fun b hb' => ?_⟩
    · have := hZV.size
      have e0 : (V1.setCell ⟨l.p, 3, none⟩ pv').heap.size = V1.heap.size := by simp
      omega
    rcases hb' with e | e | e | e | e
    · exact .inl (.inl e)
    · exact .inl (.inr (.inl e))
    · exact .inl (.inr (.inr (.inl e)))
    · rcases hni b e with e' | e'
      · exact .inl (.inr (.inr (.inr (.inl e'))))
      · right; omega
    · exact .inl (.inr (.inr (.inr (.inr e))))
end IsFS
end Go.Proofs.Ytdjcblboibbefaa.S13
