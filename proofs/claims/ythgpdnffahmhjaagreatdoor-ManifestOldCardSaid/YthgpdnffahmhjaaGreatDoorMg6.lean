/- Texts put together: CrcP. -/
set_option linter.unusedSimpArgs false
set_option linter.unusedVariables false
set_option maxRecDepth 100000
namespace Go.Proofs.YthgpdnffahmhjaaGreatDoor.S3.Pl

def cpoly : Nat := 3988292384
def cstep (c : Nat) : Nat := if c % 2 = 1 then c / 2 ^^^ cpoly else c / 2
theorem xor_half (a b : Nat) : (a ^^^ b) / 2 = a / 2 ^^^ b / 2 := by
  apply Nat.eq_of_testBit_eq
  intro i
  rw [Nat.testBit_xor, Nat.testBit_div_two, Nat.testBit_div_two, Nat.testBit_div_two, Nat.testBit_xor]
theorem xor_par (a b : Nat) : (a ^^^ b) % 2 = (a % 2 + b % 2) % 2 := by
  have h := Nat.testBit_xor (x := a) (y := b) (i := 0)
  simp only [Nat.testBit_zero] at h
  have ha := Nat.mod_two_eq_zero_or_one a
  have hb := Nat.mod_two_eq_zero_or_one b
  have hc := Nat.mod_two_eq_zero_or_one (a ^^^ b)
  rcases ha with ha | ha <;> rcases hb with hb | hb <;> rcases hc with hc | hc <;> simp [ha, hb, hc] at h ⊢
theorem xor_xor_same (a b c : Nat) : (a ^^^ c) ^^^ (b ^^^ c) = a ^^^ b := by
  rw [Nat.xor_assoc, Nat.xor_comm b c, ← Nat.xor_assoc c c b, Nat.xor_self, Nat.zero_xor]
theorem xor_right_comm (a b c : Nat) : (a ^^^ b) ^^^ c = (a ^^^ c) ^^^ b := by
  rw [Nat.xor_assoc, Nat.xor_comm b c, ← Nat.xor_assoc]
theorem cstep_xor (a b : Nat) : cstep (a ^^^ b) = cstep a ^^^ cstep b := by
  unfold cstep
  rw [xor_half, xor_par]
  have ha := Nat.mod_two_eq_zero_or_one a
  have hb := Nat.mod_two_eq_zero_or_one b
  rcases ha with ha | ha <;> rcases hb with hb | hb <;> simp [ha, hb]
  · rw [Nat.xor_assoc]
  · rw [xor_right_comm]
  · rw [xor_xor_same]
theorem cstep_even {c : Nat} (h : c % 2 = 0) : cstep c = c / 2 := by unfold cstep; rw [if_neg (by omega)]
theorem cpoly_lt : cpoly < 2 ^ 32 := by decide
theorem cstep_lt {c : Nat} (h : c < 2 ^ 32) : cstep c < 2 ^ 32 := by
  unfold cstep
  split
  · exact Nat.xor_lt_two_pow (by omega) cpoly_lt
  · omega
def cbits : Nat → Nat → Nat
  | 0, c => c
  | n + 1, c => cbits n (cstep c)
theorem cbits_add (m n c : Nat) : cbits (m + n) c = cbits n (cbits m c) := by
  induction m generalizing c with
  | zero => simp [cbits]
  | succ m ih => rw [show m + 1 + n = (m + n) + 1 by omega]; exact ih (cstep c)
theorem cbits_xor (n a b : Nat) : cbits n (a ^^^ b) = cbits n a ^^^ cbits n b := by
  induction n generalizing a b with
  | zero => rfl
  | succ n ih => simp only [cbits]; rw [cstep_xor, ih]
theorem cbits_lt (n : Nat) {c : Nat} (h : c < 2 ^ 32) : cbits n c < 2 ^ 32 := by
  induction n generalizing c with
  | zero => exact h
  | succ n ih => exact ih (cstep_lt h)
theorem cbits_shift (n x : Nat) : cbits n (x * 2 ^ n) = x := by
  induction n generalizing x with
  | zero => simp [cbits]
  | succ n ih =>
    have e : x * 2 ^ (n + 1) = (x * 2 ^ n) * 2 := by rw [Nat.pow_succ, Nat.mul_assoc]
    simp only [cbits]
    rw [e, cstep_even (by omega), Nat.mul_div_cancel _ (by omega)]
    exact ih x

def cbyte (c x : Nat) : Nat := cbits 8 (c ^^^ x)
def cregs (c : Nat) (B : List Nat) : Nat := B.foldl cbyte c
def csum (B : List Nat) : Nat := cregs 4294967295 B ^^^ 4294967295
theorem cregs_append (c : Nat) (A B : List Nat) : cregs c (A ++ B) = cregs (cregs c A) B := by simp [cregs, List.foldl_append]
theorem cregs_snoc (c : Nat) (A : List Nat) (x : Nat) : cregs c (A ++ [x]) = cbyte (cregs c A) x := by rw [cregs_append]; rfl
theorem cbyte_lt {c x : Nat} (hc : c < 2 ^ 32) (hx : x < 256) : cbyte c x < 2 ^ 32 := cbits_lt 8 (Nat.xor_lt_two_pow hc (by omega))
theorem cregs_lt {c : Nat} (hc : c < 2 ^ 32) {B : List Nat} (hB : ∀ x ∈ B, x < 256) : cregs c B < 2 ^ 32 := by
  induction B generalizing c with
  | nil => exact hc
  | cons x t ih => exact ih (cbyte_lt hc (hB x (by simp))) (fun y hy => hB y (by simp [hy]))
theorem csum_lt {B : List Nat} (hB : ∀ x ∈ B, x < 256) : csum B < 2 ^ 32 := Nat.xor_lt_two_pow (cregs_lt (by decide) hB) (by decide)
end Go.Proofs.YthgpdnffahmhjaaGreatDoor.S3.Pl
