/- Texts put together: NumP. -/
set_option linter.unusedSimpArgs false
set_option linter.unusedVariables false
set_option maxRecDepth 100000
namespace Go.Proofs.YthgpdnffahmhjaaGreatDoor.S2.Pl

def vput (n : Nat) : List Nat := if n < 128 then [n] else (n % 128 + 128) :: vput (n / 128)
termination_by n
theorem vput_small {n : Nat} (h : n < 128) : vput n = [n] := by rw [vput, if_pos h]
theorem vput_big {n : Nat} (h : ¬ n < 128) : vput n = (n % 128 + 128) :: vput (n / 128) := by rw [vput, if_neg h]
theorem vput_lt (n : Nat) : ∀ x ∈ vput n, x < 256 := by
  induction n using Nat.strongRecOn with
  | ind n ih =>
    intro x hx
    by_cases h : n < 128
    · rw [vput_small h] at hx; simp at hx; omega
    · rw [vput_big h] at hx
      simp at hx
      rcases hx with rfl | hx
      · omega
      · exact ih (n / 128) (by omega) x hx
theorem vput_len (k n : Nat) (h : n < 128 ^ k) (hk : 0 < k) : (vput n).length ≤ k ∧ 0 < (vput n).length := by
  induction k generalizing n with
  | zero => omega
  | succ k ih =>
    by_cases h1 : n < 128
    · rw [vput_small h1]; simp
    · rw [vput_big h1]
      have h2 : n / 128 < 128 ^ k := by rw [Nat.pow_succ] at h; omega
      have hk0 : 0 < k := by
        cases k with
        | zero => simp at h2; omega
        | succ k => omega
      have := ih (n / 128) h2 hk0
      simp; omega
theorem vput_len64 (n : Nat) (h : n < 18446744073709551616) : (vput n).length ≤ 10 ∧ 0 < (vput n).length :=
  vput_len 10 n (by have : (128 : Nat) ^ 10 = 1180591620717411303424 := by decide
                    omega) (by omega)

def vval : List Nat → Nat
  | [] => 0
  | x :: t => x % 128 + 128 * vval t
theorem vval_lt (B : List Nat) : vval B < 128 ^ B.length := by
  induction B with
  | nil => simp [vval]
  | cons x t ih => simp only [vval, List.length_cons, Nat.pow_succ]; omega
theorem vval_snoc (B : List Nat) (x : Nat) : vval (B ++ [x]) = vval B + 128 ^ B.length * (x % 128) := by
  induction B with
  | nil => simp [vval]
  | cons y t ih =>
    simp only [List.cons_append, vval, ih, List.length_cons, Nat.pow_succ, Nat.mul_add]
    have : 128 * (128 ^ t.length * (x % 128)) = 128 ^ t.length * 128 * (x % 128) := by
      rw [Nat.mul_comm (128 ^ t.length) 128, Nat.mul_assoc]
    omega
theorem vval_take_succ (B : List Nat) (k : Nat) (h : k < B.length) : vval (B.take (k + 1)) = vval (B.take k) + 128 ^ k * (B.getD k 0 % 128) := by
  rw [List.take_succ_eq_append_getElem h, vval_snoc, List.length_take, Nat.min_eq_left (by omega), List.getD_eq_getElem?_getD, List.getElem?_eq_getElem h]
  rfl
def VBad (B : List Nat) (i : Nat) : Prop := 18446744073709551616 ≤ vval (B.take (i + 1)) ∨ (0 < i ∧ B.getD i 0 = 0)
instance (B : List Nat) (i : Nat) : Decidable (VBad B i) := by unfold VBad; exact inferInstance
def vget (B : List Nat) : Nat × Nat :=
  match (B.take 10).findIdx? (· < 128) with
  | none => (0, 0)
  | some i => if VBad B i then (0, 0) else (vval (B.take (i + 1)), i + 1)
def VOn (B : List Nat) (k : Nat) : Prop := ∀ j, j < k → 128 ≤ B.getD j 0
theorem VOn.zero (B : List Nat) : VOn B 0 := fun j h => by omega
theorem VOn.succ {B : List Nat} {k : Nat} (h : VOn B k) (h2 : 128 ≤ B.getD k 0) : VOn B (k + 1) := fun j hj => by
  by_cases e : j = k
  · subst e; exact h2
  · exact h j (by omega)
theorem getD_get {B : List Nat} {j : Nat} (h : j < B.length) : B.getD j 0 = B[j] := by
  rw [List.getD_eq_getElem?_getD, List.getElem?_eq_getElem h]; rfl
theorem vget_none {B : List Nat} {k : Nat} (h : VOn B k) (hk : 10 ≤ k ∨ B.length ≤ k) : vget B = (0, 0) := by
  unfold vget
  have : (B.take 10).findIdx? (· < 128) = none := by
    rw [List.findIdx?_eq_none_iff]
    intro x hx
    obtain ⟨j, hj, rfl⟩ := List.getElem_of_mem hx
    rw [List.length_take] at hj
    have := h j (by omega)
    rw [getD_get (by omega)] at this
    simp only [List.getElem_take]
    simp; omega
  rw [this]
theorem vget_some {B : List Nat} {i : Nat} (h : VOn B i) (hi : i < 10) (hl : i < B.length) (he : B.getD i 0 < 128) :
    vget B = if VBad B i then (0, 0) else (vval (B.take (i + 1)), i + 1) := by
  unfold vget
  have : (B.take 10).findIdx? (· < 128) = some i := by
    rw [List.findIdx?_eq_some_iff_getElem]
    refine ⟨by rw [List.length_take]; omega, ?_, ?_⟩
    · rw [getD_get hl] at he
      simp only [List.getElem_take]
      simpa using he
    · intro j hj
      have := h j hj
      rw [getD_get (by omega)] at this
      simp only [List.getElem_take]
      simp; omega
  rw [this]
theorem vget_bad {B : List Nat} {i : Nat} (h : VOn B i) (hi : i < 10) (hl : i < B.length) (he : B.getD i 0 < 128) (hb : VBad B i) : vget B = (0, 0) := by
  rw [vget_some h hi hl he, if_pos hb]
theorem vget_good {B : List Nat} {i : Nat} (h : VOn B i) (hi : i < 10) (hl : i < B.length) (he : B.getD i 0 < 128) (hb : ¬ VBad B i) : vget B = (vval (B.take (i + 1)), i + 1) := by
  rw [vget_some h hi hl he, if_neg hb]
theorem vget_le (B : List Nat) : (vget B).1 < 18446744073709551616 ∧ (vget B).2 ≤ B.length ∧ (vget B).2 ≤ 10 := by
  unfold vget
  split
  · simp
  · rename_i i hi
    rw [List.findIdx?_eq_some_iff_getElem] at hi
    obtain ⟨h1, _⟩ := hi
    rw [List.length_take] at h1
    split
    · simp
    · rename_i hb
      refine ⟨?_, by simp; omega, by simp; omega⟩
      show vval (B.take (i + 1)) < _
      apply Nat.lt_of_not_le
      intro h
      exact hb (.inl h)

theorem vput_on (n : Nat) (C : List Nat) : VOn (vput n ++ C) ((vput n).length - 1) ∧ (vput n ++ C).getD ((vput n).length - 1) 0 < 128 ∧ ((vput n).length = 1 ∨ (vput n ++ C).getD ((vput n).length - 1) 0 ≠ 0) ∧ vval (vput n) = n ∧ 0 < (vput n).length := by
  induction n using Nat.strongRecOn with
  | ind n ih =>
    by_cases h : n < 128
    · rw [vput_small h]
      refine ⟨VOn.zero _, by simpa using h, .inl rfl, by simp [vval]; omega, by simp⟩
    · rw [vput_big h]
      obtain ⟨h1, h2, h3, h4, h5⟩ := ih (n / 128) (by omega)
      obtain ⟨k, hk⟩ : ∃ k, (vput (n / 128)).length = k + 1 := ⟨(vput (n / 128)).length - 1, by omega⟩
      have hn : n / 128 ≠ 0 := by omega
      rw [hk] at h1 h2 h3
      simp only [List.length_cons, hk, List.cons_append, Nat.add_sub_cancel] at h1 h2 h3 ⊢
      refine ⟨?_, by simpa using h2, .inr ?_, by simp only [vval, h4]; omega, by omega⟩
      · intro j hj
        cases j with
        | zero => simp
        | succ j => simpa using h1 j (by omega)
      · rcases h3 with h3 | h3
        · have : k = 0 := by omega
          subst this
          obtain ⟨y, hy⟩ := List.length_eq_one_iff.1 hk
          rw [hy] at h4 ⊢
          simp [vval] at h4
          simp
          omega
        · simpa using h3
theorem vget_vput (n : Nat) (hn : n < 18446744073709551616) (C : List Nat) : vget (vput n ++ C) = (n, (vput n).length) := by
  obtain ⟨h1, h2, h3, h4, h5⟩ := vput_on n C
  have hl := vput_len64 n hn
  have ht : (vput n ++ C).take ((vput n).length - 1 + 1) = vput n := by
    rw [Nat.sub_add_cancel h5, List.take_left]
  rw [vget_good h1 (by omega) (by rw [List.length_append]; omega) h2 ?_, ht, h4, Nat.sub_add_cancel h5]
  rintro (hb | ⟨hb1, hb2⟩)
  · rw [ht, h4] at hb; omega
  · rcases h3 with h3 | h3
    · omega
    · exact h3 hb2
def four (n : Nat) : List Nat := [n % 256, n / 256 % 256, n / 65536 % 256, n / 16777216 % 256]
end Go.Proofs.YthgpdnffahmhjaaGreatDoor.S2.Pl
