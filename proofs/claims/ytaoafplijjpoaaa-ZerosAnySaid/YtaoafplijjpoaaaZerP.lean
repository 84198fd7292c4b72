/- The encoding of runs of zeros, plain. -/
import Derived.Test.YtaoafplijjpoaaaBase
namespace Go.Proofs.Ytaoafplijjpoaaa
namespace Pl
/-- the digits of a run, less one each -/
def dig (n : Nat) : List Int := if n = 0 then [] else (1 - ((n % 2 : Nat) : Int)) :: dig ((n - 1) / 2)
termination_by n
decreasing_by omega
theorem dig_zero : dig 0 = [] := by rw [dig]; simp
theorem dig_pos {n : Nat} (h : 0 < n) : dig n = (1 - ((n % 2 : Nat) : Int)) :: dig ((n - 1) / 2) := by rw [dig, if_neg (by omega)]
theorem dig_length (n : Nat) : (dig n).length ≤ n := by
  induction n using Nat.strongRecOn with
  | ind n ih =>
    by_cases h : n = 0
    · subst h; simp [dig_zero]
    · rw [dig_pos (by omega)]
      have := ih ((n - 1) / 2) (by omega)
      simp only [List.length_cons]
      omega
/-- the symbols of the bytes B behind 'run' zeros -/
def enc : List Nat → Nat → List Int
  | [], run => dig run ++ [257]
  | c :: B, run => if c = 0 then enc B (run + 1) else dig run ++ ((c : Int) + 1) :: enc B 0
theorem enc_nil (run : Nat) : enc [] run = dig run ++ [257] := rfl
theorem enc_zero (B : List Nat) (run : Nat) : enc (0 :: B) run = enc B (run + 1) := by simp [enc]
theorem enc_byte {c : Nat} (h : c ≠ 0) (B : List Nat) (run : Nat) : enc (c :: B) run = dig run ++ ((c : Int) + 1) :: enc B 0 := by simp [enc, h]
theorem enc_length (B : List Nat) (run : Nat) : (enc B run).length ≤ B.length + run + 1 := by
  induction B generalizing run with
  | nil => have := dig_length run; simp [enc]; omega
  | cons c B ih =>
    by_cases h : c = 0
    · subst h
      have := ih (run + 1)
      rw [enc_zero]; simp; omega
    · have := ih 0
      have := dig_length run
      rw [enc_byte h]; simp; omega
theorem enc_pos (B : List Nat) (run : Nat) : 0 < (enc B run).length := by
  induction B generalizing run with
  | nil => simp [enc]
  | cons c B ih =>
    by_cases h : c = 0
    · subst h
      rw [enc_zero]; exact ih _
    · rw [enc_byte h]; simp; omega
theorem enc_join (A B : List Nat) (x : Nat) (hx : x ≠ 0) (run : Nat) : enc (A ++ x :: B) run = (enc A run).dropLast ++ ((x : Int) + 1) :: enc B 0 := by
  induction A generalizing run with
  | nil => rw [List.nil_append, enc_byte hx, enc_nil, List.dropLast_concat]
  | cons c A ih =>
    by_cases h : c = 0
    · subst h
      rw [List.cons_append, enc_zero, enc_zero, ih]
    · rw [List.cons_append, enc_byte h, enc_byte h, ih, List.dropLast_append_of_ne_nil (by simp), List.dropLast_cons_of_ne_nil (List.ne_nil_of_length_pos (enc_pos _ _)), List.append_assoc, List.cons_append]
theorem enc_zeros (n run : Nat) : enc (List.replicate n 0) run = dig (run + n) ++ [257] := by
  induction n generalizing run with
  | zero => rfl
  | succ n ih => rw [List.replicate_succ, enc_zero, ih]; congr 2; omega
/-- what a decoder answers that has 'acc' already, is at the digit p, and has room for 'left': the error's number, and the bytes -/
def ans : List Int → List Nat → Nat → Nat → Int × List Nat
  | [], _, _, _ => (6, [])
  | x :: t, acc, p, left =>
    if x < 0 ∨ 257 < x ∨ (x = 257 ∧ t ≠ []) then (6, [])
    else if x = 257 then (0, acc)
    else if x ≤ 1 then (if ((left >>> p : Nat) : Int) < x + 1 then (2, []) else ans t (acc ++ List.replicate ((x.toNat + 1) * 2 ^ p) 0) (p + 1) (left - (x.toNat + 1) * 2 ^ p))
    else if left = 0 then (2, []) else ans t (acc ++ [(x - 1).toNat]) 0 (left - 1)
theorem ans_nil (acc : List Nat) (p left : Nat) : ans [] acc p left = (6, []) := rfl
theorem ans_bad {x : Int} {t : List Int} (acc : List Nat) (p left : Nat) (h : x < 0 ∨ 257 < x ∨ (x = 257 ∧ t ≠ [])) : ans (x :: t) acc p left = (6, []) := by
  rw [ans, if_pos h]
theorem ans_end (acc : List Nat) (p left : Nat) : ans [257] acc p left = (0, acc) := by simp [ans]
theorem ans_digit {x : Int} {t : List Int} (acc : List Nat) (p left : Nat) (h0 : 0 ≤ x) (h1 : x ≤ 1) (h : (x.toNat + 1) * 2 ^ p ≤ left) : ans (x :: t) acc p left = ans t (acc ++ List.replicate ((x.toNat + 1) * 2 ^ p) 0) (p + 1) (left - (x.toNat + 1) * 2 ^ p) := by
  have hs : x.toNat + 1 ≤ left >>> p := by
    rw [Nat.shiftRight_eq_div_pow]
    exact (Nat.le_div_iff_mul_le (Nat.two_pow_pos p)).2 h
  rw [ans, if_neg (by omega), if_neg (by omega), if_pos h1, if_neg (by omega)]
theorem ans_much {x : Int} {t : List Int} (acc : List Nat) (p left : Nat) (h0 : 0 ≤ x) (h1 : x ≤ 1) (h : left < (x.toNat + 1) * 2 ^ p) : ans (x :: t) acc p left = (2, []) := by
  have hs : left >>> p < x.toNat + 1 := by
    rw [Nat.shiftRight_eq_div_pow]
    exact (Nat.div_lt_iff_lt_mul (Nat.two_pow_pos p)).2 h
  rw [ans, if_neg (by omega), if_neg (by omega), if_pos h1, if_pos (by omega)]
theorem ans_byte {x : Int} {t : List Int} (acc : List Nat) (p left : Nat) (h0 : 1 < x) (h1 : x < 257) (h : 0 < left) : ans (x :: t) acc p left = ans t (acc ++ [(x - 1).toNat]) 0 (left - 1) := by
  rw [ans, if_neg (by omega), if_neg (by omega), if_neg (by omega), if_neg (by omega)]
theorem ans_full {x : Int} {t : List Int} (acc : List Nat) (p : Nat) (h0 : 1 < x) (h1 : x < 257) : ans (x :: t) acc p 0 = (2, []) := by
  rw [ans, if_neg (by omega), if_neg (by omega), if_neg (by omega), if_pos rfl]
/-- what is told in an answer begins with what was there, and fits -/
theorem ans_ok {l : List Int} {acc X : List Nat} {p left : Nat} (h : ans l acc p left = (0, X)) : ∃ R, X = acc ++ R ∧ R.length ≤ left := by
  induction l generalizing acc p left with
  | nil => simp [ans] at h
  | cons x t ih =>
    by_cases h0 : x < 0 ∨ 257 < x ∨ (x = 257 ∧ t ≠ [])
    · rw [ans_bad _ _ _ h0] at h; simp at h
    · by_cases h1 : x = 257
      · subst h1
        have : t = [] := by
          cases t with
          | nil => rfl
          | cons a b => exact absurd (.inr (.inr ⟨rfl, by simp⟩)) h0
        subst this
        rw [ans_end] at h
        simp at h
        exact ⟨[], by simp [h], by simp⟩
      · by_cases h2 : x ≤ 1
        · by_cases h3 : (x.toNat + 1) * 2 ^ p ≤ left
          · rw [ans_digit _ _ _ (by omega) h2 h3] at h
            obtain ⟨R, rfl, hR⟩ := ih h
            refine ⟨_, by rw [List.append_assoc], ?_⟩
            simp; omega
          · rw [ans_much _ _ _ (by omega) h2 (by omega)] at h; simp at h
        · by_cases h3 : left = 0
          · subst h3
            rw [ans_full _ _ (by omega) (by omega)] at h; simp at h
          · rw [ans_byte _ _ _ (by omega) (by omega) (by omega)] at h
            obtain ⟨R, rfl, hR⟩ := ih h
            refine ⟨_, by rw [List.append_assoc], ?_⟩
            simp; omega
theorem ans_err {l : List Int} {acc : List Nat} {p left : Nat} (h : (ans l acc p left).1 ≠ 0) : (ans l acc p left).2 = [] := by
  induction l generalizing acc p left with
  | nil => rfl
  | cons x t ih =>
    unfold ans at h ⊢
    by_cases c1 : x < 0 ∨ 257 < x ∨ (x = 257 ∧ t ≠ [])
    · rw [if_pos c1]
    · rw [if_neg c1] at h ⊢
      by_cases c2 : x = 257
      · rw [if_pos c2] at h; simp at h
      · rw [if_neg c2] at h ⊢
        by_cases c3 : x ≤ 1
        · rw [if_pos c3] at h ⊢
          by_cases c4 : ((left >>> p : Nat) : Int) < x + 1
          · rw [if_pos c4]
          · rw [if_neg c4] at h ⊢; exact ih h
        · rw [if_neg c3] at h ⊢
          by_cases c4 : left = 0
          · rw [if_pos c4]
          · rw [if_neg c4] at h ⊢; exact ih h
theorem ans_lt {l : List Int} {acc : List Nat} {p left : Nat} (ha : ∀ x ∈ acc, x < 256) : ∀ x ∈ (ans l acc p left).2, x < 256 := by
  induction l generalizing acc p left with
  | nil => simp [ans]
  | cons x t ih =>
    unfold ans
    split
    · simp
    · split
      · exact ha
      · split
        · split
          · simp
          · refine ih fun y hy => ?_
            rcases List.mem_append.1 hy with hy | hy
            · exact ha y hy
            · have := List.eq_of_mem_replicate hy; omega
        · split
          · simp
          · refine ih fun y hy => ?_
            rcases List.mem_append.1 hy with hy | hy
            · exact ha y hy
            · simp at hy; omega
/-- a run's digits -/
theorem ans_dig (n : Nat) (R : List Int) (acc : List Nat) (p left : Nat) (h : n * 2 ^ p ≤ left) : ans (dig n ++ R) acc p left = ans R (acc ++ List.replicate (n * 2 ^ p) 0) (p + (dig n).length) (left - n * 2 ^ p) := by
  induction n using Nat.strongRecOn generalizing acc p left with
  | ind n ih =>
    by_cases h0 : n = 0
    · subst h0; simp [dig_zero]
    · rw [dig_pos (by omega), List.cons_append]
      have e : n = ((1 - ((n % 2 : Nat) : Int)).toNat + 1) + 2 * ((n - 1) / 2) := by omega
      have hm : n * 2 ^ p = ((1 - ((n % 2 : Nat) : Int)).toNat + 1) * 2 ^ p + (n - 1) / 2 * 2 ^ (p + 1) := by
        conv => lhs; rw [e]
        rw [Nat.add_mul, Nat.pow_succ, Nat.mul_comm 2 ((n - 1) / 2), Nat.mul_assoc, Nat.mul_comm 2 (2 ^ p)]
      rw [ans_digit _ _ _ (by omega) (by omega) (by omega), ih ((n - 1) / 2) (by omega) _ _ _ (by omega)]
      rw [hm, List.length_cons, List.append_assoc, List.replicate_append_replicate]
      congr 1
      · omega
      · omega
theorem ans_zeros (n most : Nat) (h : n ≤ most) : ans (dig n ++ [257]) [] 0 most = (0, List.replicate n 0) := by
  rw [ans_dig _ _ _ _ _ (by omega), ans_end]
  simp
/-- the digits' number: as many as n and one have bits, less one -/
theorem dig_bits (n : Nat) : 2 ^ (dig n).length ≤ n + 1 ∧ n + 1 < 2 ^ ((dig n).length + 1) := by
  induction n using Nat.strongRecOn with
  | ind n ih =>
    by_cases h : n = 0
    · subst h; simp [dig_zero]
    · rw [dig_pos (by omega)]
      have := ih ((n - 1) / 2) (by omega)
      simp only [List.length_cons, Nat.pow_succ] at *
      omega
/-- k twos -/
theorem ans_twos (k : Nat) (acc : List Nat) (p left : Nat) : ans (List.replicate k 1 ++ [257]) acc p left = if (2 * 2 ^ k - 2) * 2 ^ p ≤ left then (0, acc ++ List.replicate ((2 * 2 ^ k - 2) * 2 ^ p) 0) else (2, []) := by
  induction k generalizing acc p left with
  | zero => simp [ans_end]
  | succ k ih =>
    rw [List.replicate_succ, List.cons_append]
    have hk := Nat.two_pow_pos k
    have hp := Nat.two_pow_pos p
    have e : (2 * 2 ^ (k + 1) - 2) * 2 ^ p = 2 * 2 ^ p + (2 * 2 ^ k - 2) * 2 ^ (p + 1) := by
      rw [Nat.pow_succ, Nat.pow_succ]
      generalize 2 ^ p = P at *
      obtain ⟨j, hj⟩ : ∃ j, 2 ^ k = j + 1 := ⟨2 ^ k - 1, by omega⟩
      rw [hj, show 2 * ((j + 1) * 2) - 2 = 4 * j + 2 by omega, show 2 * (j + 1) - 2 = 2 * j by omega, Nat.add_mul, Nat.mul_comm P 2, ← Nat.mul_assoc (2 * j) 2 P, show 2 * j * 2 = 4 * j by omega, Nat.add_comm]
    by_cases h : 2 * 2 ^ p ≤ left
    · rw [ans_digit _ _ _ (by omega) (by omega) (by simpa using h), ih, e]
      simp only [show ((1 : Int).toNat + 1) = 2 from rfl]
      by_cases h2 : (2 * 2 ^ k - 2) * 2 ^ (p + 1) ≤ left - 2 * 2 ^ p
      · rw [if_pos h2, if_pos (by omega), List.append_assoc, List.replicate_append_replicate]
      · rw [if_neg h2, if_neg (by omega)]
    · rw [ans_much _ _ _ (by omega) (by omega) (by simpa using h), e, if_neg (by omega)]
theorem enc_begun : enc [0, 0, 0, 7] 0 = [0, 0, 8, 257] := by
  rw [enc_zero, enc_zero, enc_zero, enc_byte (by decide), enc_nil, dig_zero, dig_pos (by decide), dig_pos (by decide)]
  simp [dig_zero]
theorem ans_ten : ans [0, 0, 8, 257] [] 0 10 = (0, [0, 0, 0, 7]) := by decide +kernel
theorem ans_three : ans [0, 0, 8, 257] [] 0 3 = (2, []) := by decide +kernel
theorem ans_open : ans [0] [] 0 10 = (6, []) := by decide +kernel
end Pl
end Go.Proofs.Ytaoafplijjpoaaa
