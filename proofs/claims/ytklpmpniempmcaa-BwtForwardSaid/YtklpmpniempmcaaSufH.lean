/- A row that loses what is no cut, step by step; a row whose tail is cleared: no walk. -/
import Derived.Test.YtklpmpniempmcaaSufE
import Derived.Lib.SliceRun
set_option linter.unusedSimpArgs false
set_option linter.unusedVariables false
namespace Go.Proofs.Ytklpmpniempmcaa
open Go.RowKit Pl
namespace Pl
/-- the place of the first that is no cut, or -1 -/
def FirstNo (T F : List Nat) (r : Int) : Prop := (r = -1 ∧ ∀ j, j < F.length → isc T (F.getD j 0) = true) ∨ ∃ k : Nat, k < F.length ∧ r = (k : Int) ∧ isc T (F.getD k 0) = false ∧ ∀ j, j < k → isc T (F.getD j 0) = true
theorem first_step {T F : List Nat} {i : Nat} (h : ∀ j, j < i → isc T (F.getD j 0) = true) (hx : isc T (F.getD i 0) = true) : ∀ j, j < i + 1 → isc T (F.getD j 0) = true := by
  intro j hj
  by_cases e : j = i
  · subst e; exact hx
  · exact h j (by omega)
theorem first_here {T F : List Nat} {i : Nat} (hi : i < F.length) (h : ∀ j, j < i → isc T (F.getD j 0) = true) (hx : isc T (F.getD i 0) = false) : FirstNo T F (i : Int) := .inr ⟨i, hi, rfl, hx, h⟩
theorem first_none {T F : List Nat} {m : Nat} (hm : F.length = m) (h : ∀ j, j < m → isc T (F.getD j 0) = true) : FirstNo T F (-1) := .inl ⟨rfl, by rw [hm]; exact h⟩
theorem first_all {T F : List Nat} (h : FirstNo T F (-1)) : F.filter (isc T) = F := by
  rcases h with ⟨_, h⟩ | ⟨k, _, e, _⟩
  · rw [List.filter_eq_self]
    intro x hx
    obtain ⟨j, hj, rfl⟩ := List.mem_iff_getElem.1 hx
    have := h j hj
    rwa [getD_get F 0 hj] at this
  · omega
theorem first_some {T F : List Nat} {r : Int} (h : FirstNo T F r) (hr : r ≠ -1) : ∃ k : Nat, r = (k : Int) ∧ k < F.length ∧ (isc T (F.getD k 0) = false ∧ (∀ j, j < k → isc T (F.getD j 0) = true) ∧ k < F.length) := by
  rcases h with ⟨e, _⟩ | ⟨k, h1, h2, h3, h4⟩
  · exact absurd e hr
  · exact ⟨k, h2, h1, h3, h4, h1⟩
theorem take_one {α : Type} (L : List α) (d : α) {i : Nat} (h : i < L.length) : L.take (i + 1) = L.take i ++ [L.getD i d] := by
  rw [List.take_succ_eq_append_getElem h, getD_get L d h]
/-- the first j are looked at, i of them kept -/
def DelInv (T F : List Nat) (L : List Int) (i j : Nat) : Prop := (L.take i = ((F.take j).filter (isc T)).map (fun (x : Nat) => (x : Int)) ∧ i = ((F.take j).filter (isc T)).length) ∧ ∀ x, j ≤ x → x < F.length → L.getD x 0 = (F.getD x 0 : Nat)
theorem mapD (F : List Nat) (x : Nat) : (F.map (fun (x : Nat) => (x : Int))).getD x 0 = (F.getD x 0 : Nat) := by
  by_cases h : x < F.length
  · simp [List.getD, h]
  · simp [List.getD, Nat.le_of_not_lt h]
theorem del_start {T F : List Nat} {k : Nat} (h : isc T (F.getD k 0) = false ∧ (∀ j, j < k → isc T (F.getD j 0) = true) ∧ k < F.length) : DelInv T F (F.map fun (x : Nat) => (x : Int)) k (k + 1) := by
  obtain ⟨h1, h2, h3⟩ := h
  have e : (F.take k).filter (isc T) = F.take k := by
    rw [List.filter_eq_self]
    intro x hx
    obtain ⟨j, hj, rfl⟩ := List.mem_iff_getElem.1 hx
    rw [List.length_take] at hj
    have := h2 j (by omega)
    rw [getD_get F 0 (by omega)] at this
    rw [List.getElem_take]; exact this
  have e2 : (F.take (k + 1)).filter (isc T) = F.take k := by
    rw [take_one F 0 h3, List.filter_append, e]
    rw [List.filter_cons, h1]; simp
  refine ⟨⟨?_, ?_⟩, fun x _ _ => mapD F x⟩
  · rw [e2, List.map_take]
  · rw [e2, List.length_take]; omega
theorem del_skip {T F : List Nat} {L : List Int} {i j : Nat} (hj : j < F.length) (h : DelInv T F L i j) (hx : isc T (F.getD j 0) = false) : DelInv T F L i (j + 1) := by
  have e : (F.take (j + 1)).filter (isc T) = (F.take j).filter (isc T) := by
    rw [take_one F 0 hj, List.filter_append, List.filter_cons, hx]; simp
  refine ⟨by rw [e]; exact h.1, fun x h1 h2 => h.2 x (by omega) h2⟩
theorem del_keep {T F : List Nat} {L : List Int} {i j : Nat} (hL : L.length = F.length) (hij : i < j) (hj : j < F.length) (h : DelInv T F L i j) (hx : isc T (F.getD j 0) = true) : DelInv T F (L.set i (F.getD j 0 : Nat)) (i + 1) (j + 1) := by
  have e : (F.take (j + 1)).filter (isc T) = (F.take j).filter (isc T) ++ [F.getD j 0] := by
    rw [take_one F 0 hj, List.filter_append, List.filter_cons, hx]; simp
  refine ⟨⟨?_, ?_⟩, fun x h1 h2 => ?_⟩
  · rw [e, List.map_append, ← h.1.1, take_one _ 0 (by rw [List.length_set]; omega), List.take_set_of_le (by omega)]
    congr 1
    rw [set_getD, if_pos ⟨rfl, by omega⟩]
    rfl
  · rw [e, List.length_append, ← h.1.2]; rfl
  · rw [set_getD, if_neg (by omega)]
    exact h.2 x (by omega) h2
theorem del_end {T F : List Nat} {L : List Int} {i m : Nat} (hm : F.length = m) (h : DelInv T F L i m) : (F.filter (isc T)).length = i ∧ (F.filter (isc T)).map (fun (x : Nat) => (x : Int)) = L.take i := by
  have e : F.take m = F := List.take_of_length_le (by omega)
  have h1 := h.1
  rw [e] at h1
  exact ⟨h1.2.symm, h1.1.symm⟩
end Pl
theorem OwnI.take {w : World} {g n cap : Nat} {L : List Int} (h : OwnI w g n cap L) {i : Nat} (hi : i ≤ n) : OwnI w g i cap (L.take i) := by
  have hl := h.length
  unfold OwnI at h ⊢
  obtain ⟨h0, ⟨he, hz⟩ | ⟨g', cap', cur, hv, hb, hh, hn, hm, hs, ht⟩⟩ := h
  · simp at he
  · simp at hv
    obtain ⟨rfl, rfl⟩ := hv
    refine ⟨by rw [i64s_length, List.length_take]; omega, .inr ⟨g, cap, cur, rfl, hb, hh, by omega, hm, hs, ?_⟩⟩
    have : i64s (L.take i) = (i64s L).take i := by simp [i64s, List.map_take]
    rw [this, ← ht, List.take_take]
    congr 1
    omega
theorem setCells_own : ∀ (k o : Nat) {w : World} {g n cap : Nat} {L : List Int}, OwnI w g n cap L → ∃ L', OwnI (w.setCells g o (List.replicate k (.int .i64 0))) g n cap L' ∧ L'.take o = L.take o ∧ Gr w (w.setCells g o (List.replicate k (.int .i64 0))) g := by
  intro k
  induction k with
  | zero => intro o w g n cap L h; exact ⟨L, h, rfl, Gr.refl _ _⟩
  | succ k ih =>
    intro o w g n cap L h
    obtain ⟨L', h1, h2, h3⟩ := ih (o + 1) (h.set o 0)
    refine ⟨L', h1, ?_, Gr.trans ((Gr.refl w g).setCell o (.int .i64 0)) h3⟩
    have := congrArg (List.take o) h2
    rw [List.take_take, List.take_take, Nat.min_eq_left (by omega)] at this
    rw [this, List.take_set_of_le (by omega)]
theorem zeroI (w : World) : (zeroValue 3).run Try.prog w = .ok (.int .i64 0) w := by
  obtain ⟨i0, hi, hz0, hz1, hz2⟩ := infoI_parts infoI
  simp [zeroValue, typeInfo, hi, hz0]
/-- clear(l[i:]) -/
theorem clear_tail {w : World} {g n cap : Nat} {L : List Int} (h : OwnI w g n cap L) {i : Nat} (hi : i < n) :
    ∃ W', (∀ ty, (Builtin.clear_ #[25] ty #[.slice (some ⟨g, i, none⟩) (n - i) (cap - i)]).run Try.prog w = .ok (.tuple #[]) W') ∧ OwnI W' g i cap (L.take i) ∧ Gr w W' g := by
  obtain ⟨L', h1, h2, h3⟩ := setCells_own (n - i) i h
  refine ⟨_, fun ty => Lib.run_clear_slice w 25 3 ty (.int .i64 0) Try.underlying25 zeroI rfl rfl g i (n - i) (cap - i) (by omega) (fun j hj => by rw [h.cell (by omega)]; rfl) (fun j _ => h.frozen _), ?_, h3⟩
  have := h1.take (i := i) (by omega)
  rwa [h2] at this
end Go.Proofs.Ytklpmpniempmcaa
