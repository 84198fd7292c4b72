/- Canonical codes, plain: symbols by their length, the sum of Kraft, a code's number, what bits begin: no program. -/
import Derived.Test.YtijjpbpoekbekaaPlain
namespace Go.Proofs.Ytijjpbpoekbekaa.Pl

/-- the symbols below k whose length is n, in their order -/
def symK (lens : List Int) (n : Nat) : Nat → List Int
  | 0 => []
  | k + 1 => if lens.getD k 0 = n then symK lens n k ++ [(k : Int)] else symK lens n k
def row (lens : List Int) (n : Nat) : List Int := symK lens n lens.length
/-- behind the last code of length n -/
def nx (lens : List Int) : Nat → Nat
  | 0 => 0
  | n + 1 => 2 * nx lens n + (row lens (n + 1)).length
/-- of the words of 15 bits, those that begin with a code of the first k symbols -/
def kr (lens : List Int) : Nat → Nat
  | 0 => 0
  | k + 1 => kr lens k + (if 1 ≤ lens.getD k 0 ∧ lens.getD k 0 ≤ 15 then 2 ^ (15 - (lens.getD k 0).toNat) else 0)
/-- of these, those that begin with a code of at most n bits -/
def upT (lens : List Int) (k : Nat) : Nat → Nat
  | 0 => 0
  | n + 1 => upT lens k n + (symK lens (n + 1) k).length * 2 ^ (14 - n)
def inB (lens : List Int) : Prop := ∀ x ∈ lens, 0 ≤ x ∧ x ≤ 15
def okL (lens : List Int) : Prop := lens.length ≤ 300 ∧ inB lens ∧ kr lens lens.length ≤ 32768
/-- the code's number of symbol i -/
def codeN (lens : List Int) (i : Nat) : Nat := 2 * nx lens ((lens.getD i 0).toNat - 1) + (symK lens (lens.getD i 0).toNat i).length

theorem getD_in {lens : List Int} (h : inB lens) (k : Nat) : 0 ≤ lens.getD k 0 ∧ lens.getD k 0 ≤ 15 := by
  by_cases hk : k < lens.length
  · rw [List.getD_eq_getElem?_getD, List.getElem?_eq_getElem hk]; exact h _ (List.getElem_mem hk)
  · rw [List.getD_eq_getElem?_getD, List.getElem?_eq_none (by omega)]; simp
theorem symK_le (lens : List Int) (n k : Nat) : (symK lens n k).length ≤ k := by
  induction k with
  | zero => simp [symK]
  | succ k ih =>
    simp only [symK]
    split
    · rw [List.length_append, List.length_singleton]; omega
    · omega
theorem symK_mono (lens : List Int) (n : Nat) {k m : Nat} (h : k ≤ m) : ∃ T, symK lens n m = symK lens n k ++ T := by
  induction m with
  | zero => obtain rfl : k = 0 := by omega
            exact ⟨[], by simp⟩
  | succ m ih =>
    by_cases hk : k = m + 1
    · subst hk; exact ⟨[], by simp⟩
    · obtain ⟨T, hT⟩ := ih (by omega)
      simp only [symK]
      split
      · exact ⟨T ++ [(m : Int)], by rw [hT, List.append_assoc]⟩
      · exact ⟨T, hT⟩
theorem symK_at {lens : List Int} {n i : Nat} (h : lens.getD i 0 = n) {m : Nat} (hm : i < m) : (symK lens n i).length < (symK lens n m).length ∧ (symK lens n m)[(symK lens n i).length]? = some (i : Int) := by
  obtain ⟨T, hT⟩ := symK_mono lens n (show i + 1 ≤ m by omega)
  have e : symK lens n (i + 1) = symK lens n i ++ [(i : Int)] := by simp only [symK, if_pos h]
  rw [e] at hT
  rw [hT]
  constructor
  · simp only [List.length_append, List.length_cons, List.length_nil]; omega
  · rw [List.append_assoc, List.getElem?_append_right (Nat.le_refl _), Nat.sub_self]; rfl
theorem symK_mem {lens : List Int} {n : Nat} {k : Nat} {r : Nat} {x : Int} (h : (symK lens n k)[r]? = some x) : ∃ i : Nat, x = i ∧ i < k ∧ lens.getD i 0 = n ∧ (symK lens n i).length = r := by
  induction k with
  | zero => simp [symK] at h
  | succ k ih =>
    simp only [symK] at h
    split at h
    · rename_i hk
      by_cases hr : r < (symK lens n k).length
      · rw [List.getElem?_append_left hr] at h
        obtain ⟨i, h1, h2, h3⟩ := ih h
        exact ⟨i, h1, by omega, h3⟩
      · rw [List.getElem?_append_right (by omega)] at h
        have hr0 : r - (symK lens n k).length = 0 := by
          cases hq : r - (symK lens n k).length with
          | zero => rfl
          | succ q => rw [hq] at h; simp at h
        rw [hr0] at h
        simp at h
        exact ⟨k, h.symm, by omega, hk, by omega⟩
    · obtain ⟨i, h1, h2, h3⟩ := ih h
      exact ⟨i, h1, by omega, h3⟩
theorem row_len (lens : List Int) (n : Nat) : (row lens n).length ≤ lens.length := symK_le _ _ _

theorem upT_succ (lens : List Int) (k n : Nat) (hn : n ≤ 15) : upT lens (k + 1) n = upT lens k n + (if 1 ≤ lens.getD k 0 ∧ lens.getD k 0 ≤ n then 2 ^ (15 - (lens.getD k 0).toNat) else 0) := by
  induction n with
  | zero => simp only [upT]; split <;> omega
  | succ n ih =>
    simp only [upT]
    rw [ih (by omega)]
    simp only [symK]
    by_cases h : lens.getD k 0 = ((n + 1 : Nat) : Int)
    · rw [if_pos h, if_neg (by omega), if_pos (by omega), h]
      simp only [List.length_append, List.length_singleton, Nat.add_mul]
      rw [show 15 - ((n + 1 : Nat) : Int).toNat = 14 - n by omega]
      omega
    · rw [if_neg h]
      by_cases h2 : 1 ≤ lens.getD k 0 ∧ lens.getD k 0 ≤ (n : Int)
      · rw [if_pos h2, if_pos (by omega)]; omega
      · rw [if_neg h2, if_neg (by omega)]; omega
theorem upT_zero (lens : List Int) (n : Nat) : upT lens 0 n = 0 := by
  induction n with
  | zero => rfl
  | succ n ih => simp [upT, ih, symK]
theorem pw15 : (2 : Nat) ^ 15 = 32768 := by decide
theorem kr_upT (lens : List Int) (k : Nat) : kr lens k = upT lens k 15 := by
  induction k with
  | zero => simp [kr, upT_zero]
  | succ k ih => rw [upT_succ _ _ _ (by omega), ← ih]; rfl
theorem kr_le (lens : List Int) (k : Nat) : kr lens k ≤ k * 16384 := by
  induction k with
  | zero => simp [kr]
  | succ k ih =>
    simp only [kr]
    split
    · rename_i h
      have h1 : 2 ^ (15 - (lens.getD k 0).toNat) ≤ 2 ^ 14 := Nat.pow_le_pow_right (by omega) (by omega)
      have h2 : (2 : Nat) ^ 14 = 16384 := by decide
      rw [h2] at h1
      rw [Nat.add_mul, Nat.one_mul]
      exact Nat.add_le_add ih h1
    · rw [Nat.add_mul, Nat.one_mul]
      exact Nat.le_trans ih (Nat.le_add_right _ _)
theorem upT_mono (lens : List Int) (k : Nat) {n m : Nat} (h : n ≤ m) : upT lens k n ≤ upT lens k m := by
  induction m with
  | zero => obtain rfl : n = 0 := by omega
            exact Nat.le_refl _
  | succ m ih =>
    by_cases e : n = m + 1
    · subst e; exact Nat.le_refl _
    · have := ih (by omega)
      simp only [upT]; omega
theorem nx_up (lens : List Int) {n : Nat} (hn : n ≤ 15) : nx lens n * 2 ^ (15 - n) = upT lens lens.length n := by
  induction n with
  | zero => simp [nx, upT]
  | succ n ih =>
    simp only [nx, upT, row]
    rw [← ih (by omega), show 15 - (n + 1) = 14 - n by omega, show 15 - n = (14 - n) + 1 by omega, Nat.pow_succ, Nat.add_mul, Nat.mul_comm 2, Nat.mul_assoc, Nat.mul_comm 2]
theorem pow_split {a b : Nat} (h : a ≤ b) : (2 : Nat) ^ b = 2 ^ a * 2 ^ (b - a) := by rw [← Nat.pow_add]; congr 1; omega
theorem nx_le {lens : List Int} (h : kr lens lens.length ≤ 32768) {n : Nat} (hn : n ≤ 15) : nx lens n ≤ 2 ^ n := by
  have h1 := nx_up lens hn
  have h2 := upT_mono lens lens.length hn
  rw [kr_upT] at h
  have h3 : nx lens n * 2 ^ (15 - n) ≤ 2 ^ n * 2 ^ (15 - n) := by rw [h1, ← pow_split hn, pw15]; omega
  exact Nat.le_of_mul_le_mul_right h3 (Nat.two_pow_pos _)
theorem nx_small {lens : List Int} (h : kr lens lens.length ≤ 32768) {n : Nat} (hn : n ≤ 15) : nx lens n ≤ 32768 :=
  Nat.le_trans (nx_le h hn) (by rw [← pw15]; exact Nat.pow_le_pow_right (n := 2) (by omega) hn)
/-- the words of 15 bits that begin with the code of i lie from here up to there -/
theorem code_lo {lens : List Int} {i n : Nat} (hn : lens.getD i 0 = n) (h0 : 0 < n) (h15 : n ≤ 15) : upT lens lens.length (n - 1) ≤ codeN lens i * 2 ^ (15 - n) := by
  rw [← nx_up lens (show n - 1 ≤ 15 by omega), show 15 - (n - 1) = (15 - n) + 1 by omega, Nat.pow_succ, ← Nat.mul_assoc, Nat.mul_comm _ 2, ← Nat.mul_assoc]
  apply Nat.mul_le_mul_right
  unfold codeN
  rw [hn]
  simp
theorem code_hi {lens : List Int} {i n : Nat} (hi : i < lens.length) (hn : lens.getD i 0 = n) (h0 : 0 < n) (h15 : n ≤ 15) : (codeN lens i + 1) * 2 ^ (15 - n) ≤ upT lens lens.length n := by
  rw [← nx_up lens h15]
  apply Nat.mul_le_mul_right
  unfold codeN
  rw [hn]
  have h1 := (symK_at hn hi).1
  obtain ⟨m, rfl⟩ : ∃ m, n = m + 1 := ⟨n - 1, by omega⟩
  simp only [nx, row, Int.toNat_natCast, Nat.add_sub_cancel]
  omega
theorem code_lt_nx {lens : List Int} {i n : Nat} (hi : i < lens.length) (hn : lens.getD i 0 = n) (h0 : 0 < n) (h15 : n ≤ 15) : codeN lens i < nx lens n := by
  have h := code_hi hi hn h0 h15
  rw [← nx_up lens h15] at h
  exact Nat.lt_of_succ_le (Nat.le_of_mul_le_mul_right h (Nat.two_pow_pos _))
theorem code_lt {lens : List Int} (hk : kr lens lens.length ≤ 32768) {i n : Nat} (hi : i < lens.length) (hn : lens.getD i 0 = n) (h0 : 0 < n) (h15 : n ≤ 15) : codeN lens i < 2 ^ n :=
  Nat.lt_of_lt_of_le (code_lt_nx hi hn h0 h15) (nx_le hk h15)
/-- of codes of one length the later symbol's is the greater -/
theorem code_same {lens : List Int} {i k n : Nat} (hik : i < k) (hi : lens.getD i 0 = n) (hk : lens.getD k 0 = n) : codeN lens i < codeN lens k := by
  unfold codeN
  rw [hi, hk]
  have := (symK_at hi hik).1
  simp only [Int.toNat_natCast]
  omega
/-- a longer one lies behind -/
theorem code_longer {lens : List Int} {i k n m : Nat} (hi : i < lens.length) (hn : lens.getD i 0 = n) (hm : lens.getD k 0 = m) (h0 : 0 < n) (hnm : n < m) (hm15 : m ≤ 15) :
    (codeN lens i + 1) * 2 ^ (15 - n) ≤ codeN lens k * 2 ^ (15 - m) :=
  Nat.le_trans (code_hi hi hn h0 (by omega)) (Nat.le_trans (upT_mono _ _ (by omega)) (code_lo hm (by omega) hm15))

/-! what bits begin -/
/-- the symbol that the bits begin with, and its length: no code has n bits or less -/
def stepF (lens : List Int) (M : List Bool) : Nat → Nat → Option (Int × Nat)
  | 0, _ => none
  | f + 1, n => if M.length ≤ n then none else if val (M.take (n + 1)) < nx lens (n + 1) then some ((row lens (n + 1)).getD (val (M.take (n + 1)) - 2 * nx lens n) 0, n + 1) else stepF lens M f (n + 1)
def stepL (lens : List Int) (M : List Bool) : Option (Int × Nat) := stepF lens M 15 0
theorem val_take_succ (M : List Bool) (n : Nat) (h : n < M.length) : val (M.take (n + 1)) = 2 * val (M.take n) + (M.getD n false).toNat := by
  rw [List.take_succ_eq_append_getElem h, val_snoc]
  simp [List.getD, h, Nat.mul_comm]
theorem stepF_some {lens : List Int} {M : List Bool} : ∀ (f n : Nat) {s : Int} {m : Nat}, nx lens n ≤ val (M.take n) → n + f = 15 → stepF lens M f n = some (s, m) →
    n < m ∧ m ≤ 15 ∧ m ≤ M.length ∧ ∃ i : Nat, s = i ∧ i < lens.length ∧ lens.getD i 0 = m ∧ codeN lens i = val (M.take m) := by
  intro f
  induction f with
  | zero => intro n s m _ _ h; simp [stepF] at h
  | succ f ih =>
    intro n s m hv hf h
    simp only [stepF] at h
    split at h
    · simp at h
    · rename_i hl
      have e := val_take_succ M n (by omega)
      split at h
      · rename_i hlt
        simp only [Option.some.injEq, Prod.mk.injEq] at h
        obtain ⟨h1, h2⟩ := h
        refine ⟨by omega, by omega, by omega, ?_⟩
        have hr : val (M.take (n + 1)) - 2 * nx lens n < (row lens (n + 1)).length := by simp only [nx] at hlt; omega
        have hg : (row lens (n + 1))[val (M.take (n + 1)) - 2 * nx lens n]? = some s := by
          rw [← h1, List.getD_eq_getElem?_getD, List.getElem?_eq_getElem hr]; rfl
        obtain ⟨i, hi1, hi2, hi3, hi4⟩ := symK_mem hg
        refine ⟨i, hi1, hi2, by rw [← h2]; exact hi3, ?_⟩
        unfold codeN
        rw [hi3, ← h2]
        simp only [Int.toNat_natCast, Nat.add_sub_cancel]
        omega
      · rename_i hge
        obtain ⟨h1, h2⟩ := ih (n + 1) (by omega) (by omega) h
        exact ⟨by omega, h2⟩
theorem stepL_some {lens : List Int} {M : List Bool} {s : Int} {m : Nat} (h : stepL lens M = some (s, m)) :
    0 < m ∧ m ≤ 15 ∧ m ≤ M.length ∧ ∃ i : Nat, s = i ∧ i < lens.length ∧ lens.getD i 0 = m ∧ codeN lens i = val (M.take m) :=
  stepF_some 15 0 (by simp [nx]) rfl h
/-- bits that begin with a code -/
theorem stepF_code {lens : List Int} {M : List Bool} {i m : Nat} (hi : i < lens.length) (hm : lens.getD i 0 = m) (h15 : m ≤ 15) (hl : m ≤ M.length) (hc : codeN lens i = val (M.take m)) :
    ∀ (f n : Nat), n < m → n + f = 15 → (∀ j, j ≤ m → codeN lens i / 2 ^ (m - j) = val (M.take j)) → stepF lens M f n = some ((i : Int), m) := by
  intro f
  induction f with
  | zero => intro n h1 h2; omega
  | succ f ih =>
    intro n hn hf hj
    simp only [stepF]
    rw [if_neg (by omega), ← hj (n + 1) (by omega)]
    by_cases h : n + 1 = m
    · have e : codeN lens i / 2 ^ (m - (n + 1)) = codeN lens i := by rw [h, Nat.sub_self]; simp
      rw [e, h, if_pos (code_lt_nx hi hm (by omega) h15)]
      congr 2
      have e2 : codeN lens i - 2 * nx lens n = (symK lens m i).length := by
        unfold codeN
        rw [hm]
        simp only [Int.toNat_natCast]
        rw [show m - 1 = n by omega]
        omega
      rw [e2]
      have := (symK_at hm hi).2
      unfold row
      rw [List.getD_eq_getElem?_getD, this]; rfl
    · have hlo := code_lo hm (by omega) h15
      have h2 := upT_mono lens lens.length (show n + 1 ≤ m - 1 by omega)
      rw [← nx_up lens (show n + 1 ≤ 15 by omega)] at h2
      have h3 : nx lens (n + 1) * 2 ^ (m - (n + 1)) * 2 ^ (15 - m) ≤ codeN lens i * 2 ^ (15 - m) := by
        rw [Nat.mul_assoc, ← Nat.pow_add, show m - (n + 1) + (15 - m) = 15 - (n + 1) by omega]; omega
      have h4 := Nat.le_of_mul_le_mul_right h3 (Nat.two_pow_pos _)
      have h5 : nx lens (n + 1) ≤ codeN lens i / 2 ^ (m - (n + 1)) := (Nat.le_div_iff_mul_le (Nat.two_pow_pos _)).2 h4
      rw [if_neg (by omega)]
      exact ih (n + 1) (by omega) (by omega) hj
theorem stepL_code {lens : List Int} (hk : kr lens lens.length ≤ 32768) {i m : Nat} (hi : i < lens.length) (hm : lens.getD i 0 = m) (h0 : 0 < m) (h15 : m ≤ 15) (R : List Bool) :
    stepL lens (bitsOf (codeN lens i) m ++ R) = some ((i : Int), m) := by
  have hlt := code_lt hk hi hm h0 h15
  have hj : ∀ j, j ≤ m → codeN lens i / 2 ^ (m - j) = val ((bitsOf (codeN lens i) m ++ R).take j) := by
    intro j hj
    rw [bitsOf_split _ m j hj, List.append_assoc, List.take_append_of_le_length (by rw [bitsOf_length]; omega), List.take_of_length_le (by rw [bitsOf_length]; omega), val_bitsOf, Nat.shiftRight_eq_div_pow, Nat.mod_eq_of_lt]
    apply Nat.div_lt_of_lt_mul
    rw [← Nat.pow_add, show m - j + j = m by omega]; exact hlt
  have e : codeN lens i = val ((bitsOf (codeN lens i) m ++ R).take m) := by
    have := hj m (Nat.le_refl _)
    rw [Nat.sub_self] at this
    simpa using this
  exact stepF_code hi hm h15 (by simp [bitsOf_length]) e 15 0 h0 rfl hj
/-- where the sum is whole, 15 bits begin a code -/
theorem stepF_whole {lens : List Int} {M : List Bool} (hk : kr lens lens.length = 32768) (hl : 15 ≤ M.length) : ∀ f n, 0 < f → n + f = 15 → stepF lens M f n ≠ none := by
  intro f
  induction f with
  | zero => intro n h; omega
  | succ f ih =>
    intro n _ hf
    simp only [stepF]
    rw [if_neg (by omega)]
    split
    · simp
    · rename_i hge
      by_cases hf0 : f = 0
      · exfalso
        have hn : n + 1 = 15 := by omega
        rw [hn] at hge
        have h1 := nx_up lens (Nat.le_refl 15)
        rw [← kr_upT, hk] at h1
        have h2 := val_lt (M.take 15)
        rw [List.length_take, Nat.min_eq_left hl] at h2
        simp at h1
        omega
      · exact ih (n + 1) (by omega) (by omega)
theorem stepL_whole {lens : List Int} {M : List Bool} (hk : kr lens lens.length = 32768) (hl : 15 ≤ M.length) : ∃ s m, stepL lens M = some (s, m) := by
  have := stepF_whole hk hl 15 0 (by omega) rfl
  unfold stepL
  cases h : stepF lens M 15 0 with
  | none => exact absurd h this
  | some p => exact ⟨p.1, p.2, rfl⟩

/-! the verifier's search -/
def fndK (lens : List Int) (n v : Nat) : Nat → Int
  | 0 => -1
  | k + 1 => if lens.getD k 0 = n ∧ codeN lens k = v then (k : Int) else fndK lens n v k
theorem fndK_eq (lens : List Int) (n v k : Nat) (hv : 2 * nx lens n ≤ v) : fndK lens (n + 1) v k = if v - 2 * nx lens n < (symK lens (n + 1) k).length then (symK lens (n + 1) k).getD (v - 2 * nx lens n) 0 else -1 := by
  induction k with
  | zero => simp [fndK, symK]
  | succ k ih =>
    by_cases h : lens.getD k 0 = ((n + 1 : Nat) : Int)
    · have es : symK lens (n + 1) (k + 1) = symK lens (n + 1) k ++ [(k : Int)] := by rw [symK, if_pos h]
      have ec : codeN lens k = 2 * nx lens n + (symK lens (n + 1) k).length := by
        unfold codeN
        rw [h]
        simp only [Int.toNat_natCast, Nat.add_sub_cancel]
      rw [es]
      have el : (symK lens (n + 1) k ++ [(k : Int)]).length = (symK lens (n + 1) k).length + 1 := by simp
      by_cases h2 : codeN lens k = v
      · have ef : fndK lens (n + 1) v (k + 1) = k := by rw [fndK, if_pos ⟨h, h2⟩]
        rw [ef, show v - 2 * nx lens n = (symK lens (n + 1) k).length by omega, if_pos (by rw [el]; omega)]
        simp
      · have ef : fndK lens (n + 1) v (k + 1) = fndK lens (n + 1) v k := by rw [fndK, if_neg (fun hh => h2 hh.2)]
        rw [ef, ih]
        by_cases h3 : v - 2 * nx lens n < (symK lens (n + 1) k).length
        · rw [if_pos h3, if_pos (by rw [el]; omega), List.getD_eq_getElem?_getD, List.getD_eq_getElem?_getD, List.getElem?_append_left h3]
        · rw [if_neg h3, if_neg (by rw [el]; omega)]
    · have es : symK lens (n + 1) (k + 1) = symK lens (n + 1) k := by rw [symK, if_neg h]
      have ef : fndK lens (n + 1) v (k + 1) = fndK lens (n + 1) v k := by rw [fndK, if_neg (fun hh => h hh.1)]
      rw [es, ef, ih]

/-! reading -/
/-- the symbols, the error's number, the bits that were read -/
def rdF (lens : List Int) (en : Int) : Nat → List Bool → List Int → Nat → List Int × Int × Nat
  | 0, _, _, _ => ([], 2, 0)
  | m + 1, M, acc, at_ => match stepL lens (M.drop at_) with
    | none => ([], 6, 0)
    | some (s, n) => if s = en then (acc ++ [s], 0, at_ + n) else rdF lens en m M (acc ++ [s]) (at_ + n)
theorem rdF_none {lens : List Int} {en : Int} {m : Nat} {M : List Bool} {acc : List Int} {at_ : Nat} (h : stepL lens (M.drop at_) = none) : rdF lens en (m + 1) M acc at_ = ([], 6, 0) := by
  simp only [rdF, h]
theorem rdF_end {lens : List Int} {en : Int} {m : Nat} {M : List Bool} {acc : List Int} {at_ : Nat} {n : Nat} (h : stepL lens (M.drop at_) = some (en, n)) : rdF lens en (m + 1) M acc at_ = (acc ++ [en], 0, at_ + n) := by
  simp [rdF, h]
theorem rdF_more {lens : List Int} {en : Int} {m : Nat} {M : List Bool} {acc : List Int} {at_ : Nat} {s : Int} {n : Nat} (h : stepL lens (M.drop at_) = some (s, n)) (hs : s ≠ en) : rdF lens en (m + 1) M acc at_ = rdF lens en m M (acc ++ [s]) (at_ + n) := by
  simp [rdF, h, hs]
end Go.Proofs.Ytijjpbpoekbekaa.Pl
