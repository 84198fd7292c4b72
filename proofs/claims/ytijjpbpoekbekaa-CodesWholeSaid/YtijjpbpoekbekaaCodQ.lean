/- Lengths whose sum is just whole: plain; a cell of an own row is set. -/
import Derived.Test.YtijjpbpoekbekaaCodM
import Derived.Test.YtijjpbpoekbekaaCodN
set_option linter.unusedSimpArgs false
set_option linter.unusedVariables false
namespace Go.Proofs.Ytijjpbpoekbekaa
open Go.RowKit Pl
theorem own_set {w : World} {base g n cap i : Nat} {e : TypeId} {xs : List Value} (h : w.ownsRow base e 1 (.slice (some ⟨g, 0, none⟩) n cap) n xs) (hi : i < n) (v : Value) : (w.setCell ⟨g, i, none⟩ v).ownsRow base e 1 (.slice (some ⟨g, 0, none⟩) n cap) n (xs.set i v) := by
  obtain ⟨hl, ⟨he, h0⟩ | ⟨g', cap', cur, hv, hb, hh, hn, hm, hs, ht⟩⟩ := h
  · simp at he
  · simp at hv
    obtain ⟨rfl, rfl⟩ := hv
    refine ⟨by simpa using hl, .inr ⟨g, cap, cur.setIfInBounds i v, rfl, hb, ?_, hn, hm, by simpa using hs, ?_⟩⟩
    · simp only [World.setCell]
      rw [Array.getElem?_modify]
      simp [hh]
    · rw [← ht]
      simp [List.take_set]
theorem own_cellJ {w : World} {base g n cap : Nat} {e : TypeId} {L : List Int} (h : w.ownsRow base e 1 (.slice (some ⟨g, 0, none⟩) n cap) n (i64s L)) {i : Nat} (hi : i < n) : w.cell? ⟨g, i, none⟩ = some (.int .i64 (L.getD i 0)) ∧ w.frozen? ⟨g, i, none⟩ = false := by
  have hl : L.length = n := by have := h.1; rw [i64s_length] at this; omega
  refine ⟨by have := h.cells (g := g) rfl i _ (i64s_get L i (by omega)); rw [add_none, Nat.zero_add] at this; exact this, ?_⟩
  obtain ⟨_, ⟨he, h0⟩ | ⟨g', cap', cur, hv, hb, hh, hn, hm, hs, ht⟩⟩ := h
  · simp at he
  · simp at hv
    obtain ⟨rfl, rfl⟩ := hv
    simp [World.frozen?, hh]
namespace Pl
def krF (x : Int) : Nat := if 1 ≤ x ∧ x ≤ 15 then 2 ^ (15 - x.toNat) else 0
theorem kr_sum (A : List Int) (k : Nat) (h : k ≤ A.length) : kr A k = ((A.take k).map krF).sum := by
  induction k with
  | zero => simp [kr]
  | succ k ih =>
    rw [List.take_succ_eq_append_getElem (show k < A.length by omega), List.map_append, List.sum_append, ← ih (by omega)]
    simp only [kr, List.map_cons, List.map_nil, List.sum_cons, List.sum_nil, krF]
    simp [List.getD, show k < A.length by omega]
theorem kr_all (A : List Int) : kr A A.length = (A.map krF).sum := by rw [kr_sum A A.length (Nat.le_refl _), List.take_length]
theorem sum_set (A : List Int) (k : Nat) (y : Int) (h : k < A.length) : ((A.set k y).map krF).sum + krF (A.getD k 0) = (A.map krF).sum + krF y := by
  induction A generalizing k with
  | nil => simp at h
  | cons x A ih =>
    cases k with
    | zero => simp; omega
    | succ k =>
      have := ih k (by simpa using h)
      simp at this ⊢
      omega
/-- lengths from 1 to 15, of a sum that is just whole -/
def Whole (A : List Int) : Prop := (∀ x ∈ A, 1 ≤ x ∧ x ≤ 15) ∧ (A.map krF).sum = 32768
theorem whole_start : Whole [1, 1] := ⟨by intro x hx; simp at hx; omega, by decide⟩
theorem whole_split {A : List Int} {k : Nat} (h : Whole A) (hk : k < A.length) (hx : A.getD k 0 < 15) : Whole (A.set k (A.getD k 0 + 1) ++ [A.getD k 0 + 1]) := by
  have hm : A.getD k 0 ∈ A := by rw [List.getD_eq_getElem?_getD, List.getElem?_eq_getElem hk]; exact List.getElem_mem hk
  have hx1 := (h.1 _ hm).1
  have hs := sum_set A k (A.getD k 0 + 1) hk
  generalize A.getD k 0 = x at *
  constructor
  · intro y hy
    rw [List.mem_append] at hy
    rcases hy with hy | hy
    · rcases List.mem_or_eq_of_mem_set hy with h1 | h1
      · exact h.1 y h1
      · omega
    · simp at hy; omega
  · rw [List.map_append, List.sum_append]
    have e1 : krF x = 2 * krF (x + 1) := by
      unfold krF
      rw [if_pos (by omega), if_pos (by omega), show 15 - x.toNat = (15 - (x + 1).toNat) + 1 by omega, Nat.pow_succ, Nat.mul_comm]
    have h2 := h.2
    simp only [List.map_cons, List.map_nil, List.sum_cons, List.sum_nil]
    omega
theorem whole_ok {A : List Int} (h : Whole A) (hl : A.length ≤ 300) : okL A ∧ kr A A.length = 32768 := by
  have e : kr A A.length = 32768 := by rw [kr_all]; exact h.2
  exact ⟨⟨hl, fun x hx => by have := h.1 x hx; omega, by omega⟩, e⟩
/-- a symbol is read, and then one more would be too many -/
theorem rd_one {A : List Int} {M : List Bool} (hk : kr A A.length = 32768) (hl : 15 ≤ M.length) : rdF A (-1) (1 : Int).toNat M [] 0 = ([], 2, 0) := by
  obtain ⟨s, m, h⟩ := stepL_whole hk (M := M.drop 0) (by simpa using hl)
  obtain ⟨_, _, _, i, hi, _⟩ := stepL_some h
  have e : (1 : Int).toNat = 0 + 1 := rfl
  rw [e, rdF_more h (by omega)]
  rfl
end Pl
end Go.Proofs.Ytijjpbpoekbekaa
