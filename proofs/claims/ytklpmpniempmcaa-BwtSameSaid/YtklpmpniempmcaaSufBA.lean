/- Where a word stands: plain. -/
import Derived.Test.YtklpmpniempmcaaSaB
import Derived.Test.YtklpmpniempmcaaSaH
set_option linter.unusedSimpArgs false
set_option linter.unusedVariables false
namespace Go.Proofs.Ytklpmpniempmcaa
open Pl
namespace Pl
/-- the word stands there -/
def hit (B W : List Nat) (i : Nat) : Bool := decide ((B.drop i).take W.length = W)
theorem hit_out {B W : List Nat} {i : Nat} (h : B.length < i + W.length) (hi : i ≤ B.length) : hit B W i = false := by
  unfold hit
  rw [decide_eq_false_iff_not]
  intro e
  have := congrArg List.length e
  rw [List.length_take, List.length_drop] at this
  omega
theorem lex_between : ∀ (W A B C : List Nat), lexB A B = true → lexB B C = true → A.take W.length = W → C.take W.length = W → B.take W.length = W := by
  intro W
  induction W with
  | nil => intro A B C _ _ _ _; simp
  | cons x W ih =>
    intro A B C h1 h2 ha hc
    cases A with
    | nil => simp at ha
    | cons a A =>
      cases C with
      | nil => simp at hc
      | cons c C =>
        rw [List.length_cons, List.take_succ_cons, List.cons.injEq] at ha hc
        obtain ⟨rfl, ha⟩ := ha
        obtain ⟨rfl, hc⟩ := hc
        cases B with
        | nil => simp [lexB] at h1
        | cons b B =>
          rcases Nat.lt_trichotomy c b with h | h | h
          · rw [lexB_gt h] at h2; simp at h2
          · subst h
            rw [lexB_same] at h1 h2
            rw [List.length_cons, List.take_succ_cons, ih A B C h1 h2 ha hc]
          · rw [lexB_gt h] at h1; simp at h1
theorem sa_between {B R : List Nat} (h : IsSA B R) {x y : Nat} (hxy : x < y) (hy : y < R.length) : sufB B (R.getD x 0) (R.getD y 0) = true := by
  have := List.pairwise_iff_getElem.1 h.1 x y (by omega) hy hxy
  rw [← getD_get R 0, ← getD_get R 0] at this
  exact this
theorem hit_between {B W R : List Nat} (h : IsSA B R) {x y z : Nat} (h1 : x < y) (h2 : y < z) (hz : z < R.length) (hx : hit B W (R.getD x 0) = true) (hzz : hit B W (R.getD z 0) = true) : hit B W (R.getD y 0) = true := by
  unfold hit at *
  rw [decide_eq_true_eq] at *
  exact lex_between W _ _ _ (sa_between h h1 (by omega)) (sa_between h h2 hz) hx hzz
theorem cnt_count (p : Nat → Bool) : ∀ n, cnt n p = (List.range n).countP p := by
  intro n
  induction n with
  | zero => rfl
  | succ n ih =>
    unfold cnt
    rw [ih, List.range_succ, List.countP_append, List.countP_singleton]
    cases p n <;> rfl
theorem cnt_list (p : Nat → Bool) (R : List Nat) : cnt R.length (fun t => p (R.getD t 0)) = R.countP p := by
  rw [cnt_count]
  have h : (List.range R.length).map (fun t => R.getD t 0) = R := List.ext_getElem (by simp) fun i h1 h2 => by
    rw [List.getElem_map, List.getElem_range, getD_get R 0 h2]
  have h2 := congrArg (List.countP p) h
  rw [List.countP_map] at h2
  exact h2
/-- as many hold in the order as in the text -/
theorem cnt_sa {B R : List Nat} (h : IsSA B R) (p : Nat → Bool) : cnt B.length (fun t => p (R.getD t 0)) = cnt B.length p := by
  have h1 := cnt_list p R
  rw [sa_length h] at h1
  rw [h1, cnt_count, (sa_perm h).countP_eq]
theorem cnt_succ (n : Nat) (p : Nat → Bool) : cnt (n + 1) p = cnt n p + (p n).toNat := rfl
theorem cnt_tail {p : Nat → Bool} {a : Nat} : ∀ b, a ≤ b → (∀ q, a ≤ q → q < b → p q = false) → cnt b p = cnt a p := by
  intro b
  induction b with
  | zero => intro h _; obtain rfl : a = 0 := by omega
            rfl
  | succ b ih =>
    intro h hq
    by_cases e : a = b + 1
    · rw [e]
    · rw [cnt_succ, hq b (by omega) (by omega), ih (by omega) fun q h1 h2 => hq q h1 (by omega)]
      rfl
/-- the places ahead of k where the word stands: f the first, l the last, n of them -/
def Span (B W R : List Nat) (k : Nat) (f l : Int) (n : Nat) : Prop :=
  n = cnt k (fun t => hit B W (R.getD t 0)) ∧ ((n = 0 ∧ f = -1 ∧ l = -1) ∨ ∃ x : Nat, x < k ∧ 1 ≤ n ∧ n ≤ x + 1 ∧ l = x ∧ f = (x : Int) + 1 - n ∧ hit B W (R.getD x 0) = true ∧ ∀ t, x < t → t < k → hit B W (R.getD t 0) = false)
theorem span_none (B W R : List Nat) : Span B W R 0 (-1) (-1) 0 := ⟨rfl, .inl ⟨rfl, rfl, rfl⟩⟩
theorem span_miss {B W R : List Nat} {k n : Nat} {f l : Int} (h : Span B W R k f l n) (hk : hit B W (R.getD k 0) = false) : Span B W R (k + 1) f l n := by
  obtain ⟨h1, h2⟩ := h
  refine ⟨by rw [cnt_succ]; simp only [hk]; rw [← h1]; rfl, ?_⟩
  rcases h2 with h2 | ⟨x, a, b, c, d, e, g, i⟩
  · exact .inl h2
  · refine .inr ⟨x, by omega, b, c, d, e, g, fun t ht ht2 => ?_⟩
    by_cases e : t = k
    · rw [e]; exact hk
    · exact i t ht (by omega)
theorem span_hit {B W R : List Nat} {k n : Nat} {f l : Int} (hR : IsSA B R) (hkl : k < R.length) (h : Span B W R k f l n) (hk : hit B W (R.getD k 0) = true) :
    (f < 0 ∧ Span B W R (k + 1) k k (n + 1)) ∨ (¬ f < 0 ∧ Span B W R (k + 1) f k (n + 1)) := by
  obtain ⟨h1, h2⟩ := h
  have h3 : n + 1 = cnt (k + 1) (fun t => hit B W (R.getD t 0)) := by rw [cnt_succ]; simp only [hk]; rw [← h1]; rfl
  rcases h2 with ⟨rfl, rfl, rfl⟩ | ⟨x, a, b, c, d, e, g, i⟩
  · exact .inl ⟨by omega, h3, .inr ⟨k, by omega, by omega, by omega, rfl, by omega, hk, fun t h5 h6 => by omega⟩⟩
  · have hxk : x + 1 = k := by
      apply Classical.byContradiction
      intro hne
      have h4 := hit_between hR (x := x) (y := x + 1) (z := k) (by omega) (by omega) hkl g hk
      rw [i (x + 1) (by omega) (by omega)] at h4
      simp at h4
    exact .inr ⟨by omega, h3, .inr ⟨k, by omega, by omega, by omega, rfl, by omega, hk, fun t h5 h6 => by omega⟩⟩
theorem span_end {B W R : List Nat} {k n : Nat} {f l : Int} (h : Span B W R k f l n) : n ≤ k ∧ -1 ≤ f ∧ f ≤ l ∧ l < k ∧ (n ≠ 0 → l - f + 1 = n) ∧ n = cnt k (fun t => hit B W (R.getD t 0)) := by
  obtain ⟨h1, h2⟩ := h
  rcases h2 with ⟨rfl, rfl, rfl⟩ | ⟨x, a, b, c, d, e, g, i⟩
  · refine ⟨by omega, by omega, by omega, by omega, by omega, h1⟩
  · refine ⟨by omega, by omega, by omega, by omega, by omega, h1⟩
end Pl
end Go.Proofs.Ytklpmpniempmcaa
