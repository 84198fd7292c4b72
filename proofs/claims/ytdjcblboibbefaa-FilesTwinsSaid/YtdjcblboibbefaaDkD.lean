/- A file system whose files have changed, or that has one more; a new one; whose directory is synced. -/
import Derived.Test.YtdjcblboibbefaaDkC
set_option linter.unusedSimpArgs false
set_option linter.unusedVariables false
set_option maxRecDepth 100000
namespace Go.Proofs.Ytdjcblboibbefaa.S13
open Go.RowKit Go.Maps Go.Shelf Dk
def upd {α : Type} (f : Nat → α) (i : Nat) (x : α) : Nat → α := fun j => if j = i then x else f j
theorem upd_same {α : Type} (f : Nat → α) (i : Nat) (x : α) : upd f i x i = x := by simp [upd]
theorem upd_ne {α : Type} (f : Nat → α) {i j : Nat} (x : α) (h : j ≠ i) : upd f i x j = f j := by simp [upd, h]
theorem Gone.trans {w w' w'' : World} {l : Lay} {S S' S'' : St} (h : Same w l S S' w') (hF : S'.F.length = S.F.length) (k : Gone w' l S' S'' w'') : Gone w l S S'' w'' := by
  obtain ⟨l', hp, hI, hS⟩ := k
  refine ⟨l', hp, hI, Lib.hid (Step.trans (fp' := l.at S'.F.length) ?_ hS.out)⟩
  rw [hF]
  exact Step.ofGrown h.2.out (fun b hb => by cases hb; exact .inl (.inl rfl))
theorem put_file (S : St) (i j : Nat) (x : List Nat × Nat) (hi : i < S.F.length) : (S.put i x).file j = if j = i then x else S.file j := by
  unfold St.file St.put
  simp only [List.getD_eq_getElem?_getD, List.getElem?_set]
  by_cases h : j = i
  · subst h; simp [hi]
  · have : ¬ i = j := fun e => h e.symm
    simp [h, this]
theorem chgs_congr {β β' : Nat → Nat} {C : List Chg} (h : ∀ c ∈ C, ∀ i, c.2.2 = some i → β i = β' i) : chgs β C = chgs β' C := by
  unfold chgs
  rw [List.flatMap_def, List.flatMap_def]
  congr 1
  refine List.map_congr_left fun c hc => ?_
  unfold chgC
  cases hf : c.2.2 with
  | none => rfl
  | some i => simp [h c hc i hf]
namespace IsFS
variable {w V : World} {l : Lay} {S : St}
theorem putFile (h : IsFS w l S) {i : Nat} (hi : i < S.F.length) {v' : Value} {x : List Nat × Nat} (hos : V.os = w.os) (htp : V.tape = w.tape) (hout : V.output = w.output) (hsz : w.heap.size ≤ V.heap.size)
    (hb : ∀ b, b < w.heap.size → b ≠ l.β i → (l.ν i).ownBlock ≠ some b → V.heap[b]? = w.heap[b]?) (hf : IsFile V (l.β i) v' x) (hn : Nigh w (l.ν i) v') (hok : (S.put i x).Ok) :
    IsFS V { l with ν := upd l.ν i v' } (S.put i x) ∧ Step w V (l.at S.F.length) (Lay.at { l with ν := upd l.ν i v' } S.F.length) := by
  obtain ⟨wt, hw, hk, _⟩ := h.cells
  obtain ⟨n1, n2, n3, n4⟩ := h.p_ne
  have hfi := h.file i hi
  have hF : (S.put i x).F.length = S.F.length := by simp [St.put]
  have hmap : ∀ mv L, IsDir w mv l.β L → IsDir V mv l.β L := fun mv L hd => hd.keep fun b e => by
    subst e
    exact hb b (hd.lt b rfl) (fun e => blk_map_ne hfi.1 hd e.symm) (own_map_ne hfi.2.1 hd)
  refine ⟨⟨⟨wt, ?_, hw⟩, hmap _ _ h.now, hmap _ _ h.last, h.ne, ?_, ?_, ?_, ?_, hok⟩, ?_⟩
  · exact (hb l.p hk.lt (n4 i hi).1 (n4 i hi).2).trans hk
  · obtain ⟨hl', hq⟩ := h.pend
    refine ⟨hl', ?_⟩
    obtain hq | ⟨g, cap, cur, hv, hg0, hh, r⟩ := hq
    · exact .inl hq
    · have e : l.pv.ownBlock = some g := by rw [hv]; rfl
      exact .inr ⟨g, cap, cur, hv, hg0, (hb g (h.lt g (.inr (.inr (.inr (.inl e))))) (fun e' => blk_own_ne hfi.1 h.pend (by decide) (by rw [e, e'])) (fun e' => own_type_ne hfi.2.1 h.pend (by decide) g e' e)).trans hh, r⟩
  · intro j hj
    rw [hF] at hj
    show IsFile V (l.β j) (upd l.ν i v' j) ((S.put i x).file j)
    rw [put_file S i j x hi]
    by_cases e : j = i
    · subst e
      rw [upd_same, if_pos rfl]
      exact hf
    · rw [upd_ne _ _ e, if_neg e]
      have hfj := h.file j hj
      exact hfj.keep (hb _ hfj.lt.1 (fun e' => e (h.inj j i hj hi e')) (blk_own_ne hfj.1 hfi.2.1 (by decide)))
        (fun g hg => hb g (hfj.lt.2 g hg) (fun e' => blk_own_ne hfi.1 hfj.2.1 (by decide) (by rw [hg, e'])) (fun e' => e (h.apart j i g hj hi hg e')))
  · intro a b ha hb'
    rw [hF] at ha hb'
    exact h.inj a b ha hb'
  · intro a b g ha hb' ga gb
    rw [hF] at ha hb'
    have hlt : ∀ j, j < S.F.length → ∀ g, (l.ν j).ownBlock = some g → g < w.heap.size := fun j hj g hg => (h.file j hj).lt.2 g hg
    by_cases ea : a = i <;> by_cases eb : b = i
    · rw [ea, eb]
    · exfalso
      change (upd l.ν i v' a).ownBlock = some g at ga
      change (upd l.ν i v' b).ownBlock = some g at gb
      rw [ea, upd_same] at ga
      rw [upd_ne _ _ eb] at gb
      rcases hn g ga with e' | e'
      · exact eb (h.apart b i g hb' hi gb e')
      · have := hlt b hb' g gb; omega
    · exfalso
      change (upd l.ν i v' a).ownBlock = some g at ga
      change (upd l.ν i v' b).ownBlock = some g at gb
      rw [eb, upd_same] at gb
      rw [upd_ne _ _ ea] at ga
      rcases hn g gb with e' | e'
      · exact ea (h.apart a i g ha hi ga e')
      · have := hlt a ha g ga; omega
    · change (upd l.ν i v' a).ownBlock = some g at ga
      change (upd l.ν i v' b).ownBlock = some g at gb
      rw [upd_ne _ _ ea] at ga
      rw [upd_ne _ _ eb] at gb
      exact h.apart a b g ha hb' ga gb
  · refine ⟨hos, htp, hout, hsz, fun b hb' hn' => hb b hb' (fun e => hn' (.inr (.inr (.inr (.inr ⟨i, hi, .inl e⟩))))) (fun e => hn' (.inr (.inr (.inr (.inr ⟨i, hi, .inr e⟩))))), fun b hb' => ?_⟩
    rcases hb' with e | e | e | e | ⟨j, hj, e | e⟩
    · exact .inl (.inl e)
    · exact .inl (.inr (.inl e))
    · exact .inl (.inr (.inr (.inl e)))
    · exact .inl (.inr (.inr (.inr (.inl e))))
    · exact .inl (.inr (.inr (.inr (.inr ⟨j, hj, .inl e⟩))))
    · change (upd l.ν i v' j).ownBlock = some b at e
      by_cases ej : j = i
      · rw [ej, upd_same] at e
        rcases hn b e with e' | e'
        · exact .inl (.inr (.inr (.inr (.inr ⟨i, hi, .inr e'⟩))))
        · exact .inr e'
      · rw [upd_ne _ _ ej] at e
        exact .inl (.inr (.inr (.inr (.inr ⟨j, hj, .inr e⟩))))
/-- one file more, empty -/
theorem moreFile (h : IsFS w l S) :
    IsFS (w.alloc (.cells #[.slice none 0 0, .int .i64 0] 53)) { l with β := upd l.β S.F.length w.heap.size, ν := upd l.ν S.F.length (.slice none 0 0) } { S with F := S.F ++ [([], 0)] } ∧
      Step w (w.alloc (.cells #[.slice none 0 0, .int .i64 0] 53)) (l.at S.F.length) (Lay.at { l with β := upd l.β S.F.length w.heap.size, ν := upd l.ν S.F.length (.slice none 0 0) } (S.F.length + 1)) := by
  obtain ⟨N, hN⟩ : ∃ N, S.F.length = N := ⟨_, rfl⟩
  rw [hN]
  have hW := h.below ((Below.refl w.heap.size w).alloc (Nat.le_refl _) (.cells #[.slice none 0 0, .int .i64 0] 53))
  have hnew := Blk.new w 53 [.slice none 0 0, .int .i64 0]
  have hlt := h.lt
  rw [hN] at hlt
  have hob : ∀ j, j < N → upd l.β N w.heap.size j = l.β j := fun j hj => upd_ne _ _ (by omega)
  have hlen : (S.F ++ [(([] : List Nat), 0)]).length = N + 1 := by simp [hN]
  have hfile : ∀ j, St.file { S with F := S.F ++ [([], 0)] } j = S.file j := fun j => by
    unfold St.file
    simp only [List.getD_eq_getElem?_getD]
    by_cases hj : j < S.F.length
    · rw [List.getElem?_append_left hj]
    · rw [List.getElem?_append_right (by omega), List.getElem?_eq_none (by omega : S.F.length ≤ j)]
      cases hq : j - S.F.length with
      | zero => simp
      | succ m => simp
  refine ⟨⟨hW.blk, ?_, ?_, hW.ne, ?_, ?_, ?_, ?_, more_ok h.ok⟩, ?_⟩
  · exact hW.now.congr fun p hp => (hob p.2 (by have := h.ok.now p hp; omega)).symm
  · exact hW.last.congr fun p hp => (hob p.2 (by have := h.ok.last p hp; omega)).symm
  · have := hW.pend
    rw [chgs_congr (β' := upd l.β N w.heap.size) (fun c hc i hi => (hob i (by have := h.ok.pend c hc i hi; omega)).symm)] at this
    exact this
  · intro i hi
    change i < (S.F ++ [([], 0)]).length at hi
    rw [hlen] at hi
    show IsFile _ (upd l.β N w.heap.size i) (upd l.ν N (.slice none 0 0) i) _
    rw [hfile i]
    by_cases e : i = N
    · rw [e, upd_same, upd_same]
      have h0 : S.file N = ([], 0) := by
        unfold St.file
        rw [List.getD_eq_getElem?_getD, List.getElem?_eq_none (by omega)]; rfl
      rw [h0]
      exact ⟨hnew, World.ownsRow_nil _ _ _ _, by simp⟩
    · rw [hob i (by omega), upd_ne _ _ e]
      exact hW.file i (by omega)
  · intro a b ha hb e
    change a < (S.F ++ [([], 0)]).length at ha
    change b < (S.F ++ [([], 0)]).length at hb
    rw [hlen] at ha hb
    change upd l.β N w.heap.size a = upd l.β N w.heap.size b at e
    have hl : ∀ j, j < N → l.β j < w.heap.size := fun j hj => (h.file j (by omega)).lt.1
    by_cases ea : a = N <;> by_cases eb : b = N
    · rw [ea, eb]
    · rw [ea, upd_same, hob b (by omega)] at e
      have := hl b (by omega); omega
    · rw [eb, upd_same, hob a (by omega)] at e
      have := hl a (by omega); omega
    · rw [hob a (by omega), hob b (by omega)] at e
      exact h.inj a b (by omega) (by omega) e
  · intro a b g ha hb ga gb
    change a < (S.F ++ [([], 0)]).length at ha
    change b < (S.F ++ [([], 0)]).length at hb
    rw [hlen] at ha hb
    change (upd l.ν N (.slice none 0 0) a).ownBlock = some g at ga
    change (upd l.ν N (.slice none 0 0) b).ownBlock = some g at gb
    have hne : ∀ j, j < N + 1 → (upd l.ν N (.slice none 0 0) j).ownBlock = some g → j ≠ N := fun j hj hg e => by
      rw [e, upd_same] at hg; cases hg
    have ea := hne a ha ga
    have eb := hne b hb gb
    rw [upd_ne _ _ ea] at ga
    rw [upd_ne _ _ eb] at gb
    exact h.apart a b g (by omega) (by omega) ga gb
  · refine ⟨rfl, rfl, rfl, by simp, fun b hb' hn' => Below.heap_alloc w _ b hb', fun b hb' => ?_⟩
    rcases hb' with e | e | e | e | ⟨j, hj, e | e⟩
    · exact .inl (.inl e)
    · exact .inl (.inr (.inl e))
    · exact .inl (.inr (.inr (.inl e)))
    · exact .inl (.inr (.inr (.inr (.inl e))))
    · change b = upd l.β N w.heap.size j at e
      by_cases ej : j = N
      · rw [ej, upd_same] at e; right; omega
      · rw [hob j (by omega)] at e
        exact .inl (.inr (.inr (.inr (.inr ⟨j, by omega, .inl e⟩))))
    · change (upd l.ν N (.slice none 0 0) j).ownBlock = some b at e
      by_cases ej : j = N
      · rw [ej, upd_same] at e; cases e
      · rw [upd_ne _ _ ej] at e
        exact .inl (.inr (.inr (.inr (.inr ⟨j, by omega, .inr e⟩))))
end IsFS
end Go.Proofs.Ytdjcblboibbefaa.S13
