/- Parity, plain: the exclusive or of byte strings, one extended by noughts to the longest. -/
import Derived.Test.YtacgaflhcmflbaaMade
set_option linter.unusedSimpArgs false
set_option linter.unusedVariables false
namespace Go.Proofs.Ytacgaflhcmflbaa
open Go.RowKit Pl
namespace Pl
/-- n numbers told by their places -/
def rng (n : Nat) (f : Nat → Nat) : List Nat := (List.range n).map f
theorem rng_length (n : Nat) (f : Nat → Nat) : (rng n f).length = n := by simp [rng]
theorem rng_get (n : Nat) (f : Nat → Nat) {i : Nat} (h : i < n) : (rng n f).getD i 0 = f i := by simp [rng, List.getD, h]
theorem rng_out (n : Nat) (f : Nat → Nat) {i : Nat} (h : n ≤ i) : (rng n f).getD i 0 = 0 := by
  rw [List.getD_eq_getElem?_getD, List.getElem?_eq_none (by rw [rng_length]; exact h)]; rfl
theorem rng_congr {n : Nat} {f g : Nat → Nat} (h : ∀ i, i < n → f i = g i) : rng n f = rng n g := by
  unfold rng
  exact List.map_congr_left fun i hi => h i (List.mem_range.1 hi)
theorem rng_lt {n m : Nat} {f : Nat → Nat} (h : ∀ i, i < n → f i < m) : ∀ x ∈ rng n f, x < m := by
  intro x hx
  simp only [rng, List.mem_map, List.mem_range] at hx
  obtain ⟨i, hi, rfl⟩ := hx
  exact h i hi
theorem rng_set {n : Nat} {f g : Nat → Nat} {i c : Nat} (h1 : c = g i) (h2 : ∀ j, j < n → j ≠ i → f j = g j) : (rng n f).set i c = rng n g := by
  apply List.ext_getElem?
  intro j
  by_cases hj : j < n
  · by_cases he : i = j
    · subst he
      rw [List.getElem?_set_self (by rw [rng_length]; exact hj)]
      simp [rng, hj, h1]
    · rw [List.getElem?_set_ne he]
      simp [rng, hj, h2 j hj (Ne.symm he)]
  · rw [List.getElem?_eq_none (by rw [List.length_set, rng_length]; omega), List.getElem?_eq_none (by rw [rng_length]; omega)]
theorem rng_eq (B : List Nat) : rng B.length (fun k => B.getD k 0) = B := by
  apply List.ext_getElem?
  intro j
  by_cases hj : j < B.length
  · simp [rng, hj, List.getD]
  · rw [List.getElem?_eq_none (by rw [rng_length]; omega), List.getElem?_eq_none (by omega)]
theorem rng_eq' {B : List Nat} {n : Nat} {f : Nat → Nat} (hl : B.length = n) (h : ∀ i, i < n → B.getD i 0 = f i) : B = rng n f := by
  subst hl
  rw [← rng_congr h, rng_eq]
theorem rng_zero (n : Nat) : rng n (fun _ => 0) = List.replicate n 0 := by
  unfold rng
  rw [List.map_const']
  simp
theorem byte_at {B : List Nat} (h : ∀ x ∈ B, x < 256) (k : Nat) : B.getD k 0 < 256 := getD_lt h k
/-- the greatest length -/
def mxL : List (List Nat) → Nat
  | [] => 0
  | B :: t => max B.length (mxL t)
theorem mxL_append (A B : List (List Nat)) : mxL (A ++ B) = max (mxL A) (mxL B) := by
  induction A with
  | nil => simp [mxL]
  | cons x t ih => simp only [List.cons_append, mxL, ih]; omega
theorem mxL_step (L : List (List Nat)) (i : Nat) (h : i < L.length) : mxL (L.take (i + 1)) = max (mxL (L.take i)) (L.getD i []).length := by
  rw [List.take_add_one, mxL_append, List.getElem?_eq_getElem h]
  simp [mxL, List.getD, h]
theorem mxL_ge {L : List (List Nat)} {B : List Nat} (h : B ∈ L) : B.length ≤ mxL L := by
  induction L with
  | nil => simp at h
  | cons x t ih =>
    rcases List.mem_cons.1 h with rfl | h
    · simp only [mxL]; omega
    · have := ih h; simp only [mxL]; omega
theorem mxL_le {L : List (List Nat)} {n : Nat} (h : ∀ B ∈ L, B.length ≤ n) : mxL L ≤ n := by
  induction L with
  | nil => simp [mxL]
  | cons x t ih =>
    have h1 := h x (by simp)
    have h2 := ih fun B hB => h B (by simp [hB])
    simp only [mxL]; omega
theorem getD_memL {L : List (List Nat)} {i : Nat} (h : i < L.length) : L.getD i [] ∈ L := by
  rw [List.getD_eq_getElem?_getD, List.getElem?_eq_getElem h]; exact List.getElem_mem h
theorem mxL_at {L : List (List Nat)} {i : Nat} (h : i < L.length) : (L.getD i []).length ≤ mxL L := mxL_ge (getD_memL h)
theorem mxL_take_le (L : List (List Nat)) (i : Nat) : mxL (L.take i) ≤ mxL L := mxL_le fun B hB => mxL_ge (List.mem_of_mem_take hB)
/-- the exclusive or of all bytes at k -/
def xorA : List (List Nat) → Nat → Nat
  | [], _ => 0
  | B :: t, k => B.getD k 0 ^^^ xorA t k
theorem xorA_append (A B : List (List Nat)) (k : Nat) : xorA (A ++ B) k = xorA A k ^^^ xorA B k := by
  induction A with
  | nil => simp [xorA]
  | cons x t ih => simp only [List.cons_append, xorA, ih, Nat.xor_assoc]
theorem xorA_step (L : List (List Nat)) (i k : Nat) (h : i < L.length) : xorA (L.take (i + 1)) k = xorA (L.take i) k ^^^ (L.getD i []).getD k 0 := by
  rw [List.take_add_one, xorA_append, List.getElem?_eq_getElem h]
  simp [xorA, List.getD, h]
theorem xorA_lt {L : List (List Nat)} (h : ∀ B ∈ L, ∀ x ∈ B, x < 256) (k : Nat) : xorA L k < 256 := by
  induction L with
  | nil => simp [xorA]
  | cons B t ih =>
    have h1 := byte_at (h B (by simp)) k
    have h2 := ih fun C hC => h C (by simp [hC])
    exact Nat.xor_lt_two_pow (n := 8) h1 h2
theorem xorA_out {L : List (List Nat)} {k : Nat} (h : mxL L ≤ k) : xorA L k = 0 := by
  induction L with
  | nil => rfl
  | cons B t ih =>
    simp only [mxL] at h
    simp only [xorA]
    rw [ih (by omega), List.getD_eq_getElem?_getD, List.getElem?_eq_none (by omega)]
    simp
/-- the parity -/
def parP (L : List (List Nat)) : List Nat := rng (mxL L) (xorA L)
theorem parP_length (L : List (List Nat)) : (parP L).length = mxL L := rng_length _ _
theorem parP_lt {L : List (List Nat)} (h : ∀ B ∈ L, ∀ x ∈ B, x < 256) : ∀ x ∈ parP L, x < 256 := rng_lt fun i _ => xorA_lt h i
theorem parP_get (L : List (List Nat)) (k : Nat) : (parP L).getD k 0 = xorA L k := by
  unfold parP
  by_cases h : k < mxL L
  · rw [rng_get _ _ h]
  · rw [rng_out _ _ (by omega), xorA_out (by omega)]
/-- S, each byte with B's -/
def addP (S B : List Nat) : List Nat := rng S.length fun k => S.getD k 0 ^^^ B.getD k 0
def addU (S B : List Nat) (i : Nat) : List Nat := rng S.length fun k => if k < i then S.getD k 0 ^^^ B.getD k 0 else S.getD k 0
theorem addP_length (S B : List Nat) : (addP S B).length = S.length := rng_length _ _
theorem addU_length (S B : List Nat) (i : Nat) : (addU S B i).length = S.length := rng_length _ _
theorem addU_zero (S B : List Nat) : addU S B 0 = S := by
  unfold addU
  simp only [Nat.not_lt_zero, if_false]
  exact rng_eq S
theorem addU_get (S B : List Nat) {i : Nat} (h : i < S.length) : (addU S B i).getD i 0 = S.getD i 0 := by
  unfold addU; rw [rng_get _ _ h, if_neg (by omega)]
theorem addU_step (S B : List Nat) {i : Nat} : (addU S B i).set i (S.getD i 0 ^^^ B.getD i 0) = addU S B (i + 1) := by
  unfold addU
  refine rng_set (by rw [if_pos (by omega)]) fun j _ hj => ?_
  by_cases h : j < i
  · rw [if_pos h, if_pos (by omega)]
  · rw [if_neg h, if_neg (by omega)]
theorem addU_all (S B : List Nat) : addU S B B.length = addP S B := by
  unfold addU addP
  refine rng_congr fun i _ => ?_
  split
  · rfl
  · rw [List.getD_eq_getElem?_getD (l := B), List.getElem?_eq_none (by omega)]
    simp
theorem addP_lt {S B : List Nat} (h1 : ∀ x ∈ S, x < 256) (h2 : ∀ x ∈ B, x < 256) : ∀ x ∈ addP S B, x < 256 :=
  rng_lt fun i _ => Nat.xor_lt_two_pow (n := 8) (byte_at h1 i) (byte_at h2 i)
/-- what lies in the sum when the first i are added -/
theorem addP_step (L : List (List Nat)) (n i : Nat) (h : i < L.length) : addP (rng n (xorA (L.take i))) (L.getD i []) = rng n (xorA (L.take (i + 1))) := by
  unfold addP
  rw [rng_length]
  refine rng_congr fun k hk => ?_
  rw [rng_get _ _ hk, xorA_step L i k h]
end Pl
end Go.Proofs.Ytacgaflhcmflbaa
