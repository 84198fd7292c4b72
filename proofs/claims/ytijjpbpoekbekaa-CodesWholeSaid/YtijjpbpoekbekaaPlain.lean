/- Bits as lists of Bool and as numbers: plain arithmetic, no program. -/
namespace Go.Proofs.Ytijjpbpoekbekaa.Pl

/-- the number whose bits are M, the first of them the greatest -/
def val (M : List Bool) : Nat := M.foldl (fun a b => a * 2 + b.toNat) 0
/-- the lowest n bits of v, the greatest first -/
def bitsOf (v n : Nat) : List Bool := (List.range n).map fun i => v.testBit (n - 1 - i)
/-- byte i of the bits L, filled up with noughts -/
def byteAt (L : List Bool) (i : Nat) : Nat := val ((List.range 8).map fun j => L.getD (8 * i + j) false)

theorem val_snoc (M : List Bool) (b : Bool) : val (M ++ [b]) = val M * 2 + b.toNat := by simp [val, List.foldl_append]
theorem val_nil : val [] = 0 := rfl

theorem snoc_cases {α : Type} (M : List α) : M = [] ∨ ∃ A b, M = A ++ [b] := by
  cases h : M.reverse with
  | nil => left; simpa using h
  | cons b A => right; exact ⟨A.reverse, b, by have := congrArg List.reverse h; simpa using this⟩

theorem val_lt (M : List Bool) : val M < 2 ^ M.length := by
  induction hn : M.length generalizing M with
  | zero => have : M = [] := List.eq_nil_of_length_eq_zero hn; subst this; simp [val]
  | succ n ih =>
    rcases snoc_cases M with rfl | ⟨A, b, rfl⟩
    · simp at hn
    · have hA : A.length = n := by simpa using hn
      have := ih A hA
      rw [val_snoc, Nat.pow_succ]
      cases b <;> simp <;> omega

theorem val_testBit (M : List Bool) (k : Nat) : (val M).testBit k = (decide (k < M.length) && M.getD (M.length - 1 - k) false) := by
  induction k generalizing M with
  | zero =>
    rcases snoc_cases M with rfl | ⟨A, b, rfl⟩
    · simp [val]
    · rw [val_snoc, Nat.testBit_zero]
      have e : (val A * 2 + b.toNat) % 2 = b.toNat := by cases b <;> simp <;> omega
      rw [e]
      simp
  | succ k ih =>
    rcases snoc_cases M with rfl | ⟨A, b, rfl⟩
    · simp [val]
    · rw [val_snoc, Nat.testBit_succ]
      have e : (val A * 2 + b.toNat) / 2 = val A := by cases b <;> simp <;> omega
      rw [e, ih]
      by_cases hk : k < A.length
      · have h1 : k + 1 < A.length + 1 := by omega
        have h2 : A.length + 1 - 1 - (k + 1) < A.length := by omega
        have h3 : A.length + 1 - 1 - (k + 1) = A.length - 1 - k := by omega
        have h4 : A.length - (k + 1) = A.length - 1 - k := by omega
        simp [List.getD, hk, h4]
        rw [List.getElem?_append_left (by omega)]
      · simp [hk]

theorem val_append (A M : List Bool) : val (A ++ M) = val A * 2 ^ M.length + val M := by
  induction hn : M.length generalizing M with
  | zero => have : M = [] := List.eq_nil_of_length_eq_zero hn; subst this; simp [val_nil]
  | succ n ih =>
    rcases snoc_cases M with rfl | ⟨B, b, rfl⟩
    · simp at hn
    · have hB : B.length = n := by simpa using hn
      have h := ih B hB
      rw [← List.append_assoc, val_snoc, val_snoc, h, Nat.pow_succ]
      have : val A * (2 ^ n * 2) = val A * 2 ^ n * 2 := (Nat.mul_assoc _ _ _).symm
      omega

theorem bitsOf_length (v n : Nat) : (bitsOf v n).length = n := by simp [bitsOf]
theorem bitsOf_zero (v : Nat) : bitsOf v 0 = [] := by simp [bitsOf]

theorem val_bitsOf (v n : Nat) : val (bitsOf v n) = v % 2 ^ n := by
  apply Nat.eq_of_testBit_eq
  intro k
  rw [val_testBit, Nat.testBit_mod_two_pow, bitsOf_length]
  by_cases hk : k < n
  · have h1 : n - 1 - k < n := by omega
    have h2 : n - 1 - (n - 1 - k) = k := by omega
    simp [bitsOf, hk, List.getD, h1, h2]
  · simp [hk]

theorem bitsOf_split (v n c : Nat) (h : c ≤ n) : bitsOf v n = bitsOf (v >>> (n - c)) c ++ bitsOf v (n - c) := by
  apply List.ext_getElem
  · simp [bitsOf_length]; omega
  · intro i h1 h2
    rw [bitsOf_length] at h1
    by_cases hi : i < c
    · rw [List.getElem_append_left (by simpa [bitsOf_length] using hi)]
      simp [bitsOf, Nat.testBit_shiftRight]
      congr 1; omega
    · rw [List.getElem_append_right (by simp [bitsOf_length]; omega)]
      simp [bitsOf, bitsOf_length]
      congr 1; omega

theorem bitsOf_val (M : List Bool) : bitsOf (val M) M.length = M := by
  apply List.ext_getElem
  · simp [bitsOf_length]
  · intro i h1 h2
    simp only [bitsOf, List.getElem_map, List.getElem_range, val_testBit]
    have h3 : M.length - 1 - i < M.length := by omega
    have h4 : M.length - 1 - (M.length - 1 - i) = i := by omega
    rw [h4]
    simp [h3, List.getD, h2]

theorem byteAt_lt (L : List Bool) (i : Nat) : byteAt L i < 256 := by
  have := val_lt ((List.range 8).map fun j => L.getD (8 * i + j) false)
  simpa [byteAt] using this

theorem byteAt_testBit (L : List Bool) (i k : Nat) : (byteAt L i).testBit k = (decide (k < 8) && L.getD (8 * i + (7 - k)) false) := by
  rw [byteAt, val_testBit]
  by_cases hk : k < 8
  · have h1 : 8 - 1 - k < 8 := by omega
    have h2 : 8 - 1 - k = 7 - k := by omega
    have h3 : 7 - k < 8 := by omega
    simp [hk, List.getD, h2, h3]
  · simp [hk]

theorem byteAt_beyond (L : List Bool) (i : Nat) (h : L.length ≤ 8 * i) : byteAt L i = 0 := by
  apply Nat.eq_of_testBit_eq
  intro k
  rw [byteAt_testBit]
  have : L[8 * i + (7 - k)]? = none := List.getElem?_eq_none (by omega)
  simp [List.getD, this]

theorem byteAt_append_old (L M : List Bool) (i : Nat) (h : 8 * i + 8 ≤ L.length) : byteAt (L ++ M) i = byteAt L i := by
  apply Nat.eq_of_testBit_eq
  intro k
  rw [byteAt_testBit, byteAt_testBit]
  have : (L ++ M).getD (8 * i + (7 - k)) false = L.getD (8 * i + (7 - k)) false := by
    simp only [List.getD]; rw [List.getElem?_append_left (by omega)]
  rw [this]

theorem byteAt_append_far (L M : List Bool) (i : Nat) (h : L.length + M.length ≤ 8 * i) : byteAt (L ++ M) i = 0 :=
  byteAt_beyond _ _ (by simpa using h)

/-- c bits more in the byte that is being filled -/
theorem byteAt_fill (L M : List Bool) (h : L.length % 8 + M.length ≤ 8) :
    byteAt (L ++ M) (L.length / 8) = byteAt L (L.length / 8) ||| (val M * 2 ^ (8 - L.length % 8 - M.length)) := by
  apply Nat.eq_of_testBit_eq
  intro k
  rw [Nat.testBit_or, byteAt_testBit, byteAt_testBit, Nat.mul_comm (val M), Nat.testBit_two_pow_mul, val_testBit]
  have hq : 8 * (L.length / 8) = L.length - L.length % 8 := by omega
  have hp : L.length % 8 ≤ L.length := Nat.mod_le _ _
  by_cases hk : k < 8
  · simp only [hk, decide_true, Bool.true_and]
    simp only [List.getD]
    by_cases h1 : 8 * (L.length / 8) + (7 - k) < L.length
    · rw [List.getElem?_append_left h1]
      have : ¬ k - (8 - L.length % 8 - M.length) < M.length ∨ ¬ k ≥ 8 - L.length % 8 - M.length := by omega
      rcases this with e | e <;> simp [e]
    · rw [List.getElem?_append_right (by omega), List.getElem?_eq_none (l := L) (by omega)]
      by_cases h2 : k ≥ 8 - L.length % 8 - M.length
      · have h3 : k - (8 - L.length % 8 - M.length) < M.length := by omega
        have h4 : 8 * (L.length / 8) + (7 - k) - L.length = M.length - 1 - (k - (8 - L.length % 8 - M.length)) := by omega
        simp [h2, h3, h4]
      · have h3 : M.length ≤ 8 * (L.length / 8) + (7 - k) - L.length := by omega
        simp [h2, List.getElem?_eq_none h3]
  · have : ¬ k - (8 - L.length % 8 - M.length) < M.length := by omega
    simp [hk, this]

/-- the bits of bytes -/
def bitsB (B : List Nat) : List Bool := B.flatMap fun x => bitsOf x 8
theorem bitsB_length (B : List Nat) : (bitsB B).length = 8 * B.length := by
  induction B with
  | nil => rfl
  | cons x r ih => simp only [bitsB, List.flatMap_cons, List.length_append, bitsOf_length, List.length_cons] at ih ⊢; omega
theorem bitsB_get (B : List Nat) (i j : Nat) (hi : i < B.length) (hj : j < 8) : (bitsB B)[8 * i + j]? = some ((B.getD i 0).testBit (7 - j)) := by
  induction B generalizing i with
  | nil => simp at hi
  | cons x r ih =>
    simp only [bitsB, List.flatMap_cons]
    cases i with
    | zero =>
      rw [List.getElem?_append_left (by rw [bitsOf_length]; omega)]
      simp [bitsOf, hj]
    | succ i =>
      rw [List.getElem?_append_right (by rw [bitsOf_length]; omega), bitsOf_length]
      have e : 8 * (i + 1) + j - 8 = 8 * i + j := by omega
      rw [e]
      have := ih i (by simpa using hi)
      simpa [bitsB] using this

/-- the bytes of bits -/
def bytesOf (L : List Bool) : List Nat := (List.range ((L.length + 7) / 8)).map (byteAt L)
theorem bytesOf_length (L : List Bool) : (bytesOf L).length = (L.length + 7) / 8 := by simp [bytesOf]
theorem bitsB_bytesOf (L : List Bool) : bitsB (bytesOf L) = L ++ List.replicate (8 * ((L.length + 7) / 8) - L.length) false := by
  apply List.ext_getElem?
  intro k
  by_cases hk : k < 8 * ((L.length + 7) / 8)
  · have hd : k = 8 * (k / 8) + k % 8 := by omega
    have hl : k / 8 < (bytesOf L).length := by rw [bytesOf_length]; omega
    have h1 := bitsB_get (bytesOf L) (k / 8) (k % 8) hl (Nat.mod_lt _ (by omega))
    rw [← hd] at h1
    rw [h1]
    have h2 : (bytesOf L).getD (k / 8) 0 = byteAt L (k / 8) := by
      rw [bytesOf_length] at hl
      simp [bytesOf, List.getD, hl]
    rw [h2, byteAt_testBit]
    have hm : k % 8 < 8 := Nat.mod_lt _ (by omega)
    have h3 : 8 * (k / 8) + (7 - (7 - k % 8)) = k := by omega
    have h4 : 7 - k % 8 < 8 := by omega
    rw [h3]
    simp only [h4, decide_true, Bool.true_and]
    by_cases hkl : k < L.length
    · rw [List.getElem?_append_left hkl]; simp [List.getD, hkl]
    · rw [List.getElem?_append_right (by omega), List.getElem?_replicate, if_pos (by omega)]
      have hn : L[k]? = none := List.getElem?_eq_none (by omega)
      simp [List.getD, hn]
  · rw [List.getElem?_eq_none (by rw [bitsB_length, bytesOf_length]; omega), List.getElem?_eq_none (by simp; omega)]

/-- a step of a reader: c bits of one byte -/
theorem read_step (B : List Nat) (at_ c : Nat) (hB : at_ / 8 < B.length) (hc : c ≤ 8 - at_ % 8) :
    (B.getD (at_ / 8) 0 >>> (8 - at_ % 8 - c)) % 2 ^ c = val (((bitsB B).drop at_).take c) := by
  have e : ((bitsB B).drop at_).take c = bitsOf (B.getD (at_ / 8) 0 >>> (8 - at_ % 8 - c)) c := by
    apply List.ext_getElem?
    intro k
    by_cases hk : k < c
    · rw [List.getElem?_take_of_lt hk, List.getElem?_drop]
      have h1 : at_ + k = 8 * (at_ / 8) + (at_ % 8 + k) := by omega
      rw [h1, bitsB_get B _ _ hB (by omega)]
      simp [bitsOf, hk, Nat.testBit_shiftRight]
      congr 1; omega
    · rw [List.getElem?_eq_none (by simp; omega), List.getElem?_eq_none (by simp [bitsOf_length]; omega)]
  rw [e, val_bitsOf]
end Go.Proofs.Ytijjpbpoekbekaa.Pl
