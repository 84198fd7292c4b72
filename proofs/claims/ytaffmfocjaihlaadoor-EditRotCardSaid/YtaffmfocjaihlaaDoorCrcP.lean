/- The sum CRC-32, bit by bit: plain arithmetic, no program. -/
set_option linter.unusedSimpArgs false
set_option linter.unusedVariables false
set_option maxRecDepth 100000
namespace Go.Proofs.YtaffmfocjaihlaaDoor.S3.Pl

def cpoly : Nat := 3988292384
/-- one bit -/
def cstep (c : Nat) : Nat := if c % 2 = 1 then c / 2 ^^^ cpoly else c / 2
theorem xor_half (a b : Nat) : (a ^^^ b) / 2 = a / 2 ^^^ b / 2 := by
  apply Nat.eq_of_testBit_eq
  intro i
  rw [Nat.testBit_xor, Nat.testBit_div_two, Nat.testBit_div_two, Nat.testBit_div_two, Nat.testBit_xor]
theorem xor_par (a b : Nat) : (a ^^^ b) % 2 = (a % 2 + b % 2) % 2 := by
  have h := Nat.testBit_xor (x := a) (y := b) (i := 0)
  simp only [Nat.testBit_zero] at h
  have ha := Nat.mod_two_eq_zero_or_one a
  have hb := Nat.mod_two_eq_zero_or_one b
  have hc := Nat.mod_two_eq_zero_or_one (a ^^^ b)
  rcases ha with ha | ha <;> rcases hb with hb | hb <;> rcases hc with hc | hc <;> simp [ha, hb, hc] at h ⊢
theorem xor_xor_same (a b c : Nat) : (a ^^^ c) ^^^ (b ^^^ c) = a ^^^ b := by
  rw [Nat.xor_assoc, Nat.xor_comm b c, ← Nat.xor_assoc c c b, Nat.xor_self, Nat.zero_xor]
theorem xor_right_comm (a b c : Nat) : (a ^^^ b) ^^^ c = (a ^^^ c) ^^^ b := by
  rw [Nat.xor_assoc, Nat.xor_comm b c, ← Nat.xor_assoc]
theorem cstep_xor (a b : Nat) : cstep (a ^^^ b) = cstep a ^^^ cstep b := by
  unfold cstep
  rw [xor_half, xor_par]
  have ha := Nat.mod_two_eq_zero_or_one a
  have hb := Nat.mod_two_eq_zero_or_one b
  rcases ha with ha | ha <;> rcases hb with hb | hb <;> simp [ha, hb]
  · rw [Nat.xor_assoc]
  · rw [xor_right_comm]
  · rw [xor_xor_same]
theorem cstep_even {c : Nat} (h : c % 2 = 0) : cstep c = c / 2 := by unfold cstep; rw [if_neg (by omega)]
theorem cpoly_lt : cpoly < 2 ^ 32 := by decide
theorem cstep_lt {c : Nat} (h : c < 2 ^ 32) : cstep c < 2 ^ 32 := by
  unfold cstep
  split
  · exact Nat.xor_lt_two_pow (by omega) cpoly_lt
  · omega
theorem cstep_zero {c : Nat} (h : c < 2 ^ 32) (h0 : cstep c = 0) : c = 0 := by
  unfold cstep at h0
  split at h0
  · exfalso
    have h1 : (c / 2 ^^^ cpoly).testBit 31 = true := by
      rw [Nat.testBit_xor, Nat.testBit_lt_two_pow (by omega : c / 2 < 2 ^ 31)]
      decide
    rw [h0] at h1
    simp at h1
  · omega
theorem xor_eq_zero {a b : Nat} (h : a ^^^ b = 0) : a = b := by
  have := Nat.xor_assoc a b b
  rw [h, Nat.xor_self, Nat.xor_zero, Nat.zero_xor] at this
  exact this.symm
theorem cstep_inj {a b : Nat} (ha : a < 2 ^ 32) (hb : b < 2 ^ 32) (h : cstep a = cstep b) : a = b := by
  apply xor_eq_zero
  apply cstep_zero (Nat.xor_lt_two_pow ha hb)
  rw [cstep_xor, h, Nat.xor_self]

/-- n bits -/
def cbits : Nat → Nat → Nat
  | 0, c => c
  | n + 1, c => cbits n (cstep c)
theorem cbits_succ' (n c : Nat) : cbits (n + 1) c = cstep (cbits n c) := by
  induction n generalizing c with
  | zero => rfl
  | succ n ih => show cbits (n + 1) (cstep c) = _; rw [ih]; rfl
theorem cbits_add (m n c : Nat) : cbits (m + n) c = cbits n (cbits m c) := by
  induction m generalizing c with
  | zero => simp [cbits]
  | succ m ih => rw [show m + 1 + n = (m + n) + 1 by omega]; exact ih (cstep c)
theorem cbits_xor (n a b : Nat) : cbits n (a ^^^ b) = cbits n a ^^^ cbits n b := by
  induction n generalizing a b with
  | zero => rfl
  | succ n ih => simp only [cbits]; rw [cstep_xor, ih]
theorem cbits_lt (n : Nat) {c : Nat} (h : c < 2 ^ 32) : cbits n c < 2 ^ 32 := by
  induction n generalizing c with
  | zero => exact h
  | succ n ih => exact ih (cstep_lt h)
theorem cbits_inj (n : Nat) {a b : Nat} (ha : a < 2 ^ 32) (hb : b < 2 ^ 32) (h : cbits n a = cbits n b) : a = b := by
  induction n generalizing a b with
  | zero => exact h
  | succ n ih => exact cstep_inj ha hb (ih (cstep_lt ha) (cstep_lt hb) h)
theorem cbits_zero (n : Nat) : cbits n 0 = 0 := by
  induction n with
  | zero => rfl
  | succ n ih => simp only [cbits]; exact ih
/-- low bits that are noughts fall off -/
theorem cbits_shift (n x : Nat) : cbits n (x * 2 ^ n) = x := by
  induction n generalizing x with
  | zero => simp [cbits]
  | succ n ih =>
    have e : x * 2 ^ (n + 1) = (x * 2 ^ n) * 2 := by rw [Nat.pow_succ, Nat.mul_assoc]
    simp only [cbits]
    rw [e, cstep_even (by omega), Nat.mul_div_cancel _ (by omega)]
    exact ih x

/-- one byte -/
def cbyte (c x : Nat) : Nat := cbits 8 (c ^^^ x)
/-- bytes, from a register c on -/
def cregs (c : Nat) (B : List Nat) : Nat := B.foldl cbyte c
/-- the sum of B -/
def csum (B : List Nat) : Nat := cregs 4294967295 B ^^^ 4294967295
theorem cregs_nil (c : Nat) : cregs c [] = c := rfl
theorem cregs_cons (c x : Nat) (B : List Nat) : cregs c (x :: B) = cregs (cbyte c x) B := rfl
theorem cregs_append (c : Nat) (A B : List Nat) : cregs c (A ++ B) = cregs (cregs c A) B := by simp [cregs, List.foldl_append]
theorem cregs_snoc (c : Nat) (A : List Nat) (x : Nat) : cregs c (A ++ [x]) = cbyte (cregs c A) x := by rw [cregs_append]; rfl
theorem cbyte_lt {c x : Nat} (hc : c < 2 ^ 32) (hx : x < 256) : cbyte c x < 2 ^ 32 := cbits_lt 8 (Nat.xor_lt_two_pow hc (by omega))
theorem cregs_lt {c : Nat} (hc : c < 2 ^ 32) {B : List Nat} (hB : ∀ x ∈ B, x < 256) : cregs c B < 2 ^ 32 := by
  induction B generalizing c with
  | nil => exact hc
  | cons x t ih => exact ih (cbyte_lt hc (hB x (by simp))) (fun y hy => hB y (by simp [hy]))
theorem csum_lt {B : List Nat} (hB : ∀ x ∈ B, x < 256) : csum B < 2 ^ 32 := Nat.xor_lt_two_pow (cregs_lt (by decide) hB) (by decide)
/-- another register stays another -/
theorem cregs_inj {B : List Nat} (hB : ∀ x ∈ B, x < 256) {c d : Nat} (hc : c < 2 ^ 32) (hd : d < 2 ^ 32) (h : cregs c B = cregs d B) : c = d := by
  induction B generalizing c d with
  | nil => exact h
  | cons x t ih =>
    have hx := hB x (by simp)
    have h1 := ih (fun y hy => hB y (by simp [hy])) (cbyte_lt hc hx) (cbyte_lt hd hx) h
    have h2 := cbits_inj 8 (Nat.xor_lt_two_pow hc (by omega)) (Nat.xor_lt_two_pow hd (by omega)) h1
    apply xor_eq_zero
    rw [← xor_xor_same c d x, h2, Nat.xor_self]
theorem xor_cancel_left {a b c : Nat} (h : a ^^^ b = a ^^^ c) : b = c := by
  have : a ^^^ (a ^^^ b) = a ^^^ (a ^^^ c) := by rw [h]
  rw [← Nat.xor_assoc, ← Nat.xor_assoc, Nat.xor_self, Nat.zero_xor, Nat.zero_xor] at this
  exact this
theorem csum_inj_regs {A B : List Nat} (h : csum A = csum B) : cregs 4294967295 A = cregs 4294967295 B := by
  unfold csum at h
  rw [Nat.xor_comm, Nat.xor_comm (cregs _ B)] at h
  exact xor_cancel_left h

/-- the word of up to four bytes, the first the lowest -/
def cword : List Nat → Nat
  | [] => 0
  | x :: t => x + 256 * cword t
theorem cword_lt {B : List Nat} (hB : ∀ x ∈ B, x < 256) : cword B < 2 ^ (8 * B.length) := by
  induction B with
  | nil => simp [cword]
  | cons x t ih =>
    have h1 := ih (fun y hy => hB y (by simp [hy]))
    have h2 := hB x (by simp)
    have e : (2 : Nat) ^ (8 * (x :: t).length) = 256 * 2 ^ (8 * t.length) := by
      rw [List.length_cons, show 8 * (t.length + 1) = 8 + 8 * t.length by omega, Nat.pow_add]
    rw [e]
    simp only [cword]
    omega
theorem cword_inj {A B : List Nat} (hA : ∀ x ∈ A, x < 256) (hB : ∀ x ∈ B, x < 256) (hl : A.length = B.length) (h : cword A = cword B) : A = B := by
  induction A generalizing B with
  | nil => cases B with
    | nil => rfl
    | cons => simp at hl
  | cons x t ih => cases B with
    | nil => simp at hl
    | cons y u =>
      have h1 := hA x (by simp)
      have h2 := hB y (by simp)
      simp only [cword] at h
      have e : x = y := by omega
      have e2 : cword t = cword u := by omega
      rw [e, ih (fun z hz => hA z (by simp [hz])) (fun z hz => hB z (by simp [hz])) (by simpa using hl) e2]
theorem cword_xor (x y : Nat) (hx : x < 256) : x ^^^ (256 * y) = x + 256 * y := by
  have h := Nat.two_pow_add_eq_or_of_lt (i := 8) (b := x) (by omega) y
  have e : (2 : Nat) ^ 8 * y = 256 * y := by omega
  rw [e] at h
  rw [Nat.add_comm, h, Nat.xor_comm]
  apply Nat.eq_of_testBit_eq
  intro i
  rw [Nat.testBit_xor, Nat.testBit_or]
  by_cases hi : i < 8
  · have : (256 * y).testBit i = false := by
      rw [← e, Nat.testBit_two_pow_mul]; simp; intro h8; omega
    simp [this]
  · have : x.testBit i = false := Nat.testBit_lt_two_pow (Nat.lt_of_lt_of_le hx (by
      have := Nat.pow_le_pow_right (n := 2) (by omega) (show 8 ≤ i by omega)
      simpa using this))
    simp [this]
/-- bytes taken at once -/
theorem cregs_word (c : Nat) (B : List Nat) (hB : ∀ x ∈ B, x < 256) : cregs c B = cbits (8 * B.length) (c ^^^ cword B) := by
  induction B generalizing c with
  | nil => simp [cregs, cword, cbits]
  | cons x t ih =>
    have hx := hB x (by simp)
    rw [cregs_cons, ih _ (fun y hy => hB y (by simp [hy])), List.length_cons, show 8 * (t.length + 1) = 8 + 8 * t.length by omega, cbits_add]
    congr 1
    simp only [cword]
    rw [← cword_xor x _ hx, ← Nat.xor_assoc, cbits_xor 8 _ (256 * cword t)]
    have := cbits_shift 8 (cword t)
    rw [show cword t * 2 ^ 8 = 256 * cword t by omega] at this
    rw [this]
    rfl
/-- up to four bytes that are others make another register -/
theorem cregs_burst {c : Nat} (hc : c < 2 ^ 32) {A B : List Nat} (hA : ∀ x ∈ A, x < 256) (hB : ∀ x ∈ B, x < 256) (hl : A.length = B.length) (h4 : A.length ≤ 4) (h : cregs c A = cregs c B) : A = B := by
  rw [cregs_word _ _ hA, cregs_word _ _ hB, hl] at h
  have b1 : cword A < 2 ^ 32 := Nat.lt_of_lt_of_le (cword_lt hA) (Nat.pow_le_pow_right (by omega) (by omega))
  have b2 : cword B < 2 ^ 32 := Nat.lt_of_lt_of_le (cword_lt hB) (Nat.pow_le_pow_right (by omega) (by omega))
  have := cbits_inj _ (Nat.xor_lt_two_pow hc b1) (Nat.xor_lt_two_pow hc b2) h
  exact cword_inj hA hB hl (xor_cancel_left this)
/-- bytes in the midst that are others make another sum -/
theorem csum_burst {L M M' R : List Nat} (hL : ∀ x ∈ L, x < 256) (hM : ∀ x ∈ M, x < 256) (hM' : ∀ x ∈ M', x < 256) (hR : ∀ x ∈ R, x < 256) (hl : M.length = M'.length) (h4 : M.length ≤ 4) (h : csum (L ++ (M ++ R)) = csum (L ++ (M' ++ R))) : M = M' := by
  have h1 := csum_inj_regs h
  rw [cregs_append, cregs_append, cregs_append, cregs_append] at h1
  have hc := cregs_lt (c := 4294967295) (by decide) hL
  exact cregs_burst hc hM hM' hl h4 (cregs_inj hR (cregs_lt hc hM) (cregs_lt hc hM') h1)

/-- three texts of one length -/
def xor3 (A B C : List Nat) : List Nat := (A.zip (B.zip C)).map fun p => p.1 ^^^ p.2.1 ^^^ p.2.2
theorem xor4 (a b c x y z : Nat) : (a ^^^ b ^^^ c) ^^^ (x ^^^ y ^^^ z) = (a ^^^ x) ^^^ (b ^^^ y) ^^^ (c ^^^ z) := by
  rw [← Nat.xor_assoc, ← Nat.xor_assoc, xor_right_comm (a ^^^ b) c x, xor_right_comm a b x, xor_right_comm ((a ^^^ x) ^^^ b) c y, ← Nat.xor_assoc, ← Nat.xor_assoc]
theorem cregs_xor3 (a b c : Nat) (A B C : List Nat) (h1 : A.length = B.length) (h2 : B.length = C.length) :
    cregs (a ^^^ b ^^^ c) (xor3 A B C) = cregs a A ^^^ cregs b B ^^^ cregs c C := by
  induction A generalizing a b c B C with
  | nil =>
    obtain rfl : B = [] := List.eq_nil_of_length_eq_zero h1.symm
    obtain rfl : C = [] := List.eq_nil_of_length_eq_zero h2.symm
    rfl
  | cons x t ih =>
    cases B with
    | nil => simp at h1
    | cons y u =>
      cases C with
      | nil => simp at h2
      | cons z v =>
        have h := ih (cbyte a x) (cbyte b y) (cbyte c z) u v (by simpa using h1) (by simpa using h2)
        rw [cregs_cons, cregs_cons, cregs_cons, ← h]
        show cregs (cbyte (a ^^^ b ^^^ c) (x ^^^ y ^^^ z)) (xor3 t u v) = _
        congr 1
        unfold cbyte
        rw [xor4, cbits_xor, cbits_xor]
theorem csum_xor3 (A B C : List Nat) (h1 : A.length = B.length) (h2 : B.length = C.length) : csum (xor3 A B C) = csum A ^^^ csum B ^^^ csum C := by
  have h := cregs_xor3 4294967295 4294967295 4294967295 A B C h1 h2
  rw [Nat.xor_self, Nat.zero_xor] at h
  unfold csum
  rw [h, ← xor4, Nat.xor_self, Nat.zero_xor]
end Go.Proofs.YtaffmfocjaihlaaDoor.S3.Pl
