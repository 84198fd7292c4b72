/- Floats, plain: the order of words, what an operation may answer, ratios of whole numbers. No program. -/
import Derived.Laws.FloatArith
set_option linter.unusedSimpArgs false
set_option linter.unusedVariables false
namespace Go.Proofs.Ytaeolkkbakdlbaa.S12.Pl

theorem cmp_same {a b c d : Int} (h1 : a < b ↔ c < d) (h2 : a = b ↔ c = d) : compare a b = compare c d := by
  simp only [compare, compareOfLessAndEq]
  by_cases x : a < b
  · rw [if_pos x, if_pos (h1.1 x)]
  · have y := fun h => x (h1.2 h)
    rw [if_neg x, if_neg y]
    by_cases z : a = b
    · rw [if_pos z, if_pos (h2.1 z)]
    · rw [if_neg z, if_neg (fun h => z (h2.2 h))]

/-- a float's rung; below 2^52 it is subnormal -/
def fm (r : Nat) : Nat := if r < 4503599627370496 then r else 4503599627370496 + r % 4503599627370496
def fe (r : Nat) : Nat := r / 4503599627370496 - 1
def fV (r : Nat) : Nat := fm r * 2 ^ fe r
def fs (x : Nat) : Bool := decide (9223372036854775808 ≤ x)
def fr (x : Nat) : Nat := if 9223372036854775808 ≤ x then x - 9223372036854775808 else x
def fN (x : Nat) : Bool := decide (9218868437227405312 < fr x)
/-- an order that takes both zeros for one -/
def fv (x : Nat) : Int := if fs x then -(fr x : Int) else fr x
/-- the order with -0 below +0 -/
def fk (x : Nat) : Int := if fs x then -(fr x : Int) - 1 else fr x
def fless (x y : Nat) : Bool := (fN x && !fN y) || (!fN x && !fN y && decide (fk x < fk y))

theorem fr_lt {x : Nat} (h : x < 18446744073709551616) : fr x < 9223372036854775808 := by unfold fr; split <;> omega

theorem fV_mono {a b : Nat} (h : a < b) : fV a < fV b := by
  unfold fV fm fe
  by_cases ha : a < 4503599627370496
  · rw [if_pos ha]
    have e : a / 4503599627370496 = 0 := by omega
    rw [e, Nat.zero_sub, Nat.pow_zero, Nat.mul_one]
    by_cases hb : b < 4503599627370496
    · rw [if_pos hb]
      have e : b / 4503599627370496 = 0 := by omega
      rw [e, Nat.zero_sub, Nat.pow_zero, Nat.mul_one]
      exact h
    · rw [if_neg hb]
      have h1 : 1 ≤ 2 ^ (b / 4503599627370496 - 1) := Nat.one_le_two_pow
      have h2 : (4503599627370496 + b % 4503599627370496) * 1 ≤ (4503599627370496 + b % 4503599627370496) * 2 ^ (b / 4503599627370496 - 1) := Nat.mul_le_mul_left _ h1
      omega
  · have hb : ¬ b < 4503599627370496 := by omega
    rw [if_neg ha, if_neg hb]
    by_cases he : a / 4503599627370496 = b / 4503599627370496
    · rw [he]
      have : a % 4503599627370496 < b % 4503599627370496 := by omega
      exact Nat.mul_lt_mul_of_pos_right (by omega) (Nat.two_pow_pos _)
    · have hlt : a / 4503599627370496 < b / 4503599627370496 := by omega
      have h1 : (4503599627370496 + a % 4503599627370496) * 2 ^ (a / 4503599627370496 - 1) < 9007199254740992 * 2 ^ (a / 4503599627370496 - 1) := Nat.mul_lt_mul_of_pos_right (by omega) (Nat.two_pow_pos _)
      have h2 : 9007199254740992 * 2 ^ (a / 4503599627370496 - 1) = 4503599627370496 * 2 ^ (a / 4503599627370496) := by
        obtain ⟨k, hk⟩ : ∃ k, a / 4503599627370496 = k + 1 := ⟨a / 4503599627370496 - 1, by omega⟩
        rw [hk, Nat.add_sub_cancel, Nat.pow_succ]; omega
      have h3 : 4503599627370496 * 2 ^ (a / 4503599627370496) ≤ 4503599627370496 * 2 ^ (b / 4503599627370496 - 1) := Nat.mul_le_mul_left _ (Nat.pow_le_pow_right (by omega) (by omega))
      have h4 : 4503599627370496 * 2 ^ (b / 4503599627370496 - 1) ≤ (4503599627370496 + b % 4503599627370496) * 2 ^ (b / 4503599627370496 - 1) := Nat.mul_le_mul_right _ (by omega)
      omega
theorem fV_zero : fV 0 = 0 := by decide
theorem fV_lt {a b : Nat} : fV a < fV b ↔ a < b := by
  constructor
  · intro h
    apply Classical.byContradiction
    intro hn
    rcases Nat.lt_or_eq_of_le (Nat.le_of_not_lt hn) with h' | h'
    · have := fV_mono h'; omega
    · subst h'; omega
  · exact fV_mono
theorem fV_eq {a b : Nat} : fV a = fV b ↔ a = b := by
  constructor
  · intro h
    rcases Nat.lt_trichotomy a b with h' | h' | h'
    · have := fV_mono h'; omega
    · exact h'
    · have := fV_mono h'; omega
  · rintro rfl; rfl

section
open Go Ieee
theorem d_sw : double.signWeight = 9223372036854775808 := by decide
theorem d_bin : double.binade = 4503599627370496 := by decide
theorem d_inf : double.infRung = 9218868437227405312 := by decide
theorem d_lp : double.leastPlace = -1074 := by decide

theorem sgn_read {x : Nat} (h : x < 18446744073709551616) : (x / 9223372036854775808 % 2 == 1) = fs x := by
  unfold fs
  by_cases c : 9223372036854775808 ≤ x
  · have : x / 9223372036854775808 = 1 := by omega
    rw [this]; simp [c]
  · have : x / 9223372036854775808 = 0 := by omega
    rw [this]; simp [c]
theorem rung_read {x : Nat} (h : x < 18446744073709551616) : x % 9223372036854775808 = fr x := by
  unfold fr; split <;> omega
theorem read_num {x : Nat} (h : x < 18446744073709551616) (hn : fr x < 9218868437227405312) : double.read x = .number (fs x) (fm (fr x)) (-1074 + (fe (fr x) : Nat)) := by
  unfold Format.read
  simp only [d_sw, d_bin, d_inf, d_lp]
  rw [sgn_read h, rung_read h]
  unfold fm fe
  by_cases c : fr x < 4503599627370496
  · rw [if_pos c, if_pos c]
    have : fr x / 4503599627370496 = 0 := by omega
    rw [this]; simp
  · rw [if_neg c, if_pos hn, if_neg c]
theorem read_inf {x : Nat} (h : x < 18446744073709551616) (hn : fr x = 9218868437227405312) : double.read x = .infinity (fs x) := by
  unfold Format.read
  simp only [d_sw, d_bin, d_inf, d_lp]
  rw [sgn_read h, rung_read h, if_neg (by omega), if_neg (by omega), if_pos hn]
theorem read_nan {x : Nat} (h : x < 18446744073709551616) (hn : fN x = true) : ∃ t, double.read x = .nan (fs x) t := by
  have hn : 9218868437227405312 < fr x := by simpa [fN] using hn
  unfold Format.read
  simp only [d_sw, d_bin, d_inf, d_lp]
  rw [sgn_read h, rung_read h, if_neg (by omega), if_neg (by omega), if_neg (by omega)]
  exact ⟨_, rfl⟩
theorem read_cases {x : Nat} (h : x < 18446744073709551616) (hn : fN x = false) : fr x < 9218868437227405312 ∨ fr x = 9218868437227405312 := by
  have : ¬ 9218868437227405312 < fr x := by simpa [fN] using hn
  omega

theorem sg_eq (s : Bool) (m k : Nat) : signed s m k = if s then -((m * 2 ^ k : Nat) : Int) else ((m * 2 ^ k : Nat) : Int) := by
  unfold signed; rw [Nat.shiftLeft_eq]
theorem sg_mul (s : Bool) (m k c : Nat) : signed s m k * (2 ^ c : Nat) = signed s m (k + c) := by
  rw [sg_eq, sg_eq, Nat.pow_add, ← Nat.mul_assoc]
  cases s
  · simp
  · simp only [if_true, Int.neg_mul, ← Int.natCast_mul]
def fS (x : Nat) : Int := if fs x then -(fV (fr x) : Int) else fV (fr x)
theorem fS_lt {x y : Nat} : fS x < fS y ↔ fv x < fv y := by
  have h0 := fV_zero
  have a1 := @fV_lt (fr x) (fr y)
  have a2 := @fV_lt (fr y) (fr x)
  have a3 := @fV_lt 0 (fr x)
  have a4 := @fV_lt 0 (fr y)
  rw [h0] at a3 a4
  unfold fS fv
  split <;> split <;> omega
theorem fS_eq {x y : Nat} : fS x = fS y ↔ fv x = fv y := by
  have a := @fS_lt x y
  have b := @fS_lt y x
  omega
theorem order_num {x y : Nat} (hx : x < 18446744073709551616) (hy : y < 18446744073709551616) (nx : fN x = false) (ny : fN y = false) : double.order x y = some (compare (fv x) (fv y)) := by
  unfold Format.order
  rcases read_cases hx nx with cx | cx <;> rcases read_cases hy ny with cy | cy
  · rw [read_num hx cx, read_num hy cy]
    unfold Datum.order
    simp only [Option.some.injEq]
    generalize hp : fe (fr x) = p
    generalize hq : fe (fr y) = q
    have e1 : ((-1074 + (p : Int)) - min (-1074 + (p : Int)) (-1074 + (q : Int))).toNat + min p q = p := by omega
    have e2 : ((-1074 + (q : Int)) - min (-1074 + (p : Int)) (-1074 + (q : Int))).toNat + min p q = q := by omega
    generalize ha : ((-1074 + (p : Int)) - min (-1074 + (p : Int)) (-1074 + (q : Int))).toNat = a at e1
    generalize hb : ((-1074 + (q : Int)) - min (-1074 + (p : Int)) (-1074 + (q : Int))).toNat = b at e2
    have f1 : signed (fs x) (fm (fr x)) a * (2 ^ min p q : Nat) = fS x := by
      rw [sg_mul, e1, sg_eq, ← hp]; unfold fS fV; rfl
    have f2 : signed (fs y) (fm (fr y)) b * (2 ^ min p q : Nat) = fS y := by
      rw [sg_mul, e2, sg_eq, ← hq]; unfold fS fV; rfl
    have hpos : (0 : Int) < ((2 ^ min p q : Nat) : Int) := by exact_mod_cast Nat.two_pow_pos _
    refine cmp_same ?_ ?_
    · rw [← fS_lt, ← f1, ← f2]
      exact ⟨fun h => Int.mul_lt_mul_of_pos_right h hpos, fun h => Int.lt_of_mul_lt_mul_right h (Int.le_of_lt hpos)⟩
    · rw [← fS_eq, ← f1, ← f2]
      exact ⟨fun h => by rw [h], fun h => Int.eq_of_mul_eq_mul_right (by omega) h⟩
  · rw [read_num hx cx, read_inf hy cy]
    unfold Datum.order fv
    cases e : fs y
    · simp only [if_false, Bool.false_eq_true, Option.some.injEq]
      symm
      have hl : (if fs x = true then -(fr x : Int) else (fr x : Int)) < (fr y : Int) := by split <;> omega
      simp [compare, compareOfLessAndEq, hl]
    · simp only [if_true, Option.some.injEq]
      symm
      have hl : -(fr y : Int) < (if fs x = true then -(fr x : Int) else (fr x : Int)) := by split <;> omega
      have h2 : ¬ ((if fs x = true then -(fr x : Int) else (fr x : Int)) < -(fr y : Int)) := by omega
      have h3 : ¬ ((if fs x = true then -(fr x : Int) else (fr x : Int)) = -(fr y : Int)) := by omega
      simp only [compare, compareOfLessAndEq, if_neg h2, if_neg h3]
  · rw [read_inf hx cx, read_num hy cy]
    unfold Datum.order fv
    cases e : fs x
    · simp only [if_false, Bool.false_eq_true, Option.some.injEq]
      symm
      have hl : (if fs y = true then -(fr y : Int) else (fr y : Int)) < (fr x : Int) := by split <;> omega
      have h2 : ¬ ((fr x : Int) < (if fs y = true then -(fr y : Int) else (fr y : Int))) := by omega
      have h3 : ¬ ((fr x : Int) = (if fs y = true then -(fr y : Int) else (fr y : Int))) := by omega
      simp only [compare, compareOfLessAndEq, if_neg h2, if_neg h3]
    · simp only [if_true, Option.some.injEq]
      symm
      have hl : -(fr x : Int) < (if fs y = true then -(fr y : Int) else (fr y : Int)) := by split <;> omega
      simp [compare, compareOfLessAndEq, hl]
  · rw [read_inf hx cx, read_inf hy cy]
    unfold Datum.order fv
    rw [cx, cy]
    cases fs x <;> cases fs y <;> decide
theorem order_nan {x y : Nat} (hx : x < 18446744073709551616) (hy : y < 18446744073709551616) (h : fN x = true ∨ fN y = true) : double.order x y = none := by
  unfold Format.order
  rcases h with h | h
  · obtain ⟨t, e⟩ := read_nan hx h
    rw [e]; rfl
  · obtain ⟨t, e⟩ := read_nan hy h
    rw [e]
    cases double.read x <;> rfl
/-! what an operation may answer: the exact answer's word, or, of one that has none, any NaN -/
def OpR (op : BinOp) (x y r : Nat) : Prop := r < 18446744073709551616 ∧ ∀ b, (floatBits op .f64 x y = some b → r = b) ∧ (floatBits op .f64 x y = none → fN r = true)
theorem OpR.lt {op : BinOp} {x y r : Nat} (h : OpR op x y r) : r < 18446744073709551616 := h.1
theorem OpR.of {op : BinOp} {x y r b : Nat} (h : OpR op x y r) (e : floatBits op .f64 x y = some b) : r = b := (h.2 b).1 e
theorem OpR.nan {op : BinOp} {x y r : Nat} (h : OpR op x y r) (e : floatBits op .f64 x y = none) : fN r = true := (h.2 0).2 e
theorem sum_nan_l (s : Bool) (t : Nat) (d : Datum) : (Datum.nan s t).sum d = none := by cases d <;> rfl
theorem sum_nan_r (s : Bool) (t : Nat) (d : Datum) : d.sum (Datum.nan s t) = none := by cases d <;> rfl
theorem product_nan_l (s : Bool) (t : Nat) (d : Datum) : (Datum.nan s t).product d = none := by cases d <;> rfl
theorem product_nan_r (s : Bool) (t : Nat) (d : Datum) : d.product (Datum.nan s t) = none := by cases d <;> rfl
theorem quotient_nan_l (n : Nat) (s : Bool) (t : Nat) (d : Datum) : Datum.quotient n (Datum.nan s t) d = none := by cases d <;> rfl
theorem quotient_nan_r (n : Nat) (s : Bool) (t : Nat) (d : Datum) : Datum.quotient n d (Datum.nan s t) = none := by cases d <;> rfl
theorem bits_nan_l (op : BinOp) {x y : Nat} (hx : x < 18446744073709551616) (h : fN x = true) : floatBits op .f64 x y = none := by
  obtain ⟨t, e⟩ := read_nan hx h
  unfold floatBits
  have ef : FloatKind.f64.format = double := rfl
  rw [ef]
  cases op <;> simp only [Format.add, Format.sub, Format.mul, Format.div, e, sum_nan_l, product_nan_l, quotient_nan_l, Option.map_none]
theorem bits_nan_r (op : BinOp) {x y : Nat} (hy : y < 18446744073709551616) (h : fN y = true) : floatBits op .f64 x y = none := by
  obtain ⟨t, e⟩ := read_nan hy h
  unfold floatBits
  have ef : FloatKind.f64.format = double := rfl
  rw [ef]
  cases op <;> simp only [Format.add, Format.sub, Format.mul, Format.div, e, sum_nan_r, product_nan_r, quotient_nan_r, Option.map_none, Datum.opposite]
/-- the same, or both a NaN -/
def NR (x y : Nat) : Prop := x = y ∨ (fN x = true ∧ fN y = true)
theorem NR.rfl' (x : Nat) : NR x x := .inl rfl
theorem OpR.same {op : BinOp} {x y r x' y' r' : Nat} (hx : x < 18446744073709551616) (hy : y < 18446744073709551616) (hx' : x' < 18446744073709551616) (hy' : y' < 18446744073709551616)
    (h : OpR op x y r) (h' : OpR op x' y' r') (ex : NR x x') (ey : NR y y') : NR r r' := by
  rcases ex with rfl | ⟨n, n'⟩
  · rcases ey with rfl | ⟨n, n'⟩
    · cases e : floatBits op .f64 x y with
      | none => exact .inr ⟨h.nan e, h'.nan e⟩
      | some b => exact .inl ((h.of e).trans (h'.of e).symm)
    · exact .inr ⟨h.nan (bits_nan_r op hy n), h'.nan (bits_nan_r op hy' n')⟩
  · exact .inr ⟨h.nan (bits_nan_l op hx n), h'.nan (bits_nan_l op hx' n')⟩
/-- a word, of all NaNs one -/
def fB (x : Nat) : Nat := if fN x then 9221120237041090561 else x
theorem NR.bits {x y : Nat} (h : NR x y) : fB x = fB y := by
  rcases h with rfl | ⟨n, n'⟩
  · rfl
  · unfold fB; rw [if_pos n, if_pos n']
theorem ofInt_lt (n : Int) : floatOfInt .f64 n < 18446744073709551616 := by
  have := floatOfInt_wf .f64 n
  simpa [Lit.wf] using this
/-- the answers of Ratio and Gain -/
def RatR (d a : Int) (r : Nat) : Prop := OpR .quo (floatOfInt .f64 d) (floatOfInt .f64 a) r
def GainR (d a : Int) (age wt g : Nat) : Prop := ∃ r x y z u, RatR d a r ∧ OpR .add 4607182418800017408 age x ∧ OpR .mul r x y ∧ OpR .sub 4607182418800017408 r z ∧ OpR .mul wt z u ∧ OpR .sub y u g
theorem RatR.same {d a : Int} {r r' : Nat} (h : RatR d a r) (h' : RatR d a r') : NR r r' := OpR.same (ofInt_lt _) (ofInt_lt _) (ofInt_lt _) (ofInt_lt _) h h' (.inl rfl) (.inl rfl)
theorem GainR.same {d a : Int} {age wt g g' : Nat} (ha : age < 18446744073709551616) (hw : wt < 18446744073709551616) (h : GainR d a age wt g) (h' : GainR d a age wt g') : NR g g' := by
  obtain ⟨r, x, y, z, u, h1, h2, h3, h4, h5, h6⟩ := h
  obtain ⟨r', x', y', z', u', k1, k2, k3, k4, k5, k6⟩ := h'
  have e1 := h1.same k1
  have e2 := h2.same (by decide) ha (by decide) ha k2 (.inl rfl) (.inl rfl)
  have e3 := h3.same h1.lt h2.lt k1.lt k2.lt k3 e1 e2
  have e4 := h4.same (by decide) h1.lt (by decide) k1.lt k4 (.inl rfl) e1
  have e5 := h5.same hw h4.lt hw k4.lt k5 (.inl rfl) e4
  exact h6.same h3.lt h5.lt k3.lt k5.lt k6 e3 e5
/-! order, again -/
theorem order_self {x : Nat} (h : x < 18446744073709551616) : (double.order x x == some .eq) = !fN x := by
  cases e : fN x
  · rw [order_num h h e e]; simp [compare, compareOfLessAndEq]
  · rw [order_nan h h (.inl e)]; rfl
theorem order_eq {x y : Nat} (hx : x < 18446744073709551616) (hy : y < 18446744073709551616) : (double.order x y == some .eq) = (!fN x && !fN y && decide (fv x = fv y)) := by
  cases e : fN x
  · cases e' : fN y
    · rw [order_num hx hy e e']
      by_cases c : fv x = fv y
      · rw [c]; simp [compare, compareOfLessAndEq]
      · simp only [compare, compareOfLessAndEq, c]
        split <;> simp
    · rw [order_nan hx hy (.inr e')]; simp
  · rw [order_nan hx hy (.inl e)]; simp
theorem order_lt {x y : Nat} (hx : x < 18446744073709551616) (hy : y < 18446744073709551616) : (double.order x y == some .lt) = (!fN x && !fN y && decide (fv x < fv y)) := by
  cases e : fN x
  · cases e' : fN y
    · rw [order_num hx hy e e']
      by_cases c : fv x < fv y
      · simp [compare, compareOfLessAndEq, c]
      · simp only [compare, compareOfLessAndEq, c]
        by_cases c' : fv x = fv y <;> simp [c']
    · rw [order_nan hx hy (.inr e')]; simp
  · rw [order_nan hx hy (.inl e)]; simp
theorem order_gt {x y : Nat} (hx : x < 18446744073709551616) (hy : y < 18446744073709551616) : (double.order x y == some .gt) = (!fN x && !fN y && decide (fv y < fv x)) := by
  cases e : fN x
  · cases e' : fN y
    · rw [order_num hx hy e e']
      by_cases c : fv x < fv y
      · have c2 : ¬ fv y < fv x := by omega
        simp [compare, compareOfLessAndEq, c, c2]
      · simp only [compare, compareOfLessAndEq, c]
        by_cases c' : fv x = fv y
        · simp [c']
        · have c2 : fv y < fv x := by omega
          simp [c', c2]
    · rw [order_nan hx hy (.inr e')]; simp
  · rw [order_nan hx hy (.inl e)]; simp
/-- the program's Less: where both are equal by worth, the sign tells -/
theorem less_same {x y : Nat} (h : (double.order x y == some .eq) = true) (hx : x < 18446744073709551616) (hy : y < 18446744073709551616) : (fs x && !fs y) = fless x y := by
  rw [order_eq hx hy] at h
  simp at h
  obtain ⟨⟨nx, ny⟩, e⟩ := h
  unfold fless fk
  rw [nx, ny]
  unfold fv at e
  cases hsx : fs x <;> cases hsy : fs y <;> simp_all <;> omega
theorem less_apart {x y : Nat} (h : (double.order x y == some .eq) = false) (hx : x < 18446744073709551616) (hy : y < 18446744073709551616) :
    ((fN x && !fN y) || (double.order x y == some .lt)) = fless x y := by
  rw [order_lt hx hy]
  rw [order_eq hx hy] at h
  unfold fless
  cases nx : fN x <;> cases ny : fN y <;> simp
  simp [nx, ny] at h
  unfold fk
  unfold fv at h ⊢
  cases hsx : fs x <;> cases hsy : fs y <;> simp_all <;> omega
/-! what ScoreWhole asks -/
theorem log2_mul (m a : Nat) (h : m ≠ 0) : (m * 2 ^ a).log2 = m.log2 + a := by
  have h1 := Nat.log2_self_le h
  have h2 := @Nat.lt_log2_self m
  have e : (2 : Nat) ^ (m.log2 + a) = 2 ^ m.log2 * 2 ^ a := Nat.pow_add ..
  refine (Nat.log2_eq_iff (Nat.mul_ne_zero h (Nat.pos_iff_ne_zero.1 (Nat.two_pow_pos _)))).2 ⟨?_, ?_⟩
  · rw [e]; exact Nat.mul_le_mul_right _ h1
  · have : (2 : Nat) ^ (m.log2 + a + 1) = 2 ^ (m.log2 + 1) * 2 ^ a := by rw [← Nat.pow_add]; congr 1; omega
    rw [this]; exact Nat.mul_lt_mul_of_pos_right h2 (Nat.two_pow_pos _)
theorem fm_log {r : Nat} (h : 4503599627370496 ≤ r) : (fm r).log2 = 52 := by
  unfold fm
  rw [if_neg (by omega)]
  refine (Nat.log2_eq_iff (by omega)).2 ⟨by omega, by omega⟩
theorem fm_log_small {r : Nat} (h : r < 4503599627370496) (h0 : r ≠ 0) : (fm r).log2 ≤ 51 := by
  unfold fm
  rw [if_pos h]
  have := (Nat.log2_lt h0 (k := 52)).2 (by omega)
  omega
theorem even_cut (s : Bool) (m a k : Nat) (h : a ≤ k) (e : (m * 2 ^ a).log2 + 2 = k) : Toward.even.cut s (m * 2 ^ a) a = m := by
  unfold Toward.cut
  rw [e, Nat.min_eq_left h]
  simp only [Nat.shiftLeft_eq, Nat.one_mul, Nat.mul_mod_left, Nat.mul_zero]
  rw [Nat.mul_div_cancel _ (Nat.two_pow_pos _)]
  have := Nat.two_pow_pos a
  have h1 : decide (2 ^ a < 0) = false := by simp
  have h2 : (2 ^ a == 0) = false := by simp
  rw [h1, h2]; rfl
theorem nearest_same (s : Bool) {r a : Nat} (h : r < 9218868437227405312) : double.nearest s (fm r * 2 ^ a) (-1074 + (fe r : Nat) - (a : Nat)) = double.word s r := by
  unfold Format.nearest
  simp only [d_bin, d_inf, d_lp]
  by_cases h0 : r = 0
  · subst h0
    rw [if_pos (by unfold fm; simp)]
  · have hm : fm r ≠ 0 := by unfold fm; split <;> omega
    rw [if_neg (Nat.mul_ne_zero hm (Nat.pos_iff_ne_zero.1 (Nat.two_pow_pos _))), log2_mul _ _ hm]
    have e52 : double.fractionBits = 52 := rfl
    have hlast : max (-1074 + (fe r : Int) - (a : Int) + ((fm r).log2 + a : Nat) - (double.fractionBits : Int)) (-1074) = -1074 + (fe r : Int) := by
      rw [e52]
      by_cases c : r < 4503599627370496
      · have := fm_log_small c h0
        have : fe r = 0 := by unfold fe; omega
        omega
      · have := fm_log (r := r) (by omega)
        omega
    rw [hlast]
    have e1 : (-1074 + (fe r : Int) - (a : Int) - (-1074 + (fe r : Int))).toNat = 0 := by omega
    have e2 : (-1074 + (fe r : Int) - (-1074 + (fe r : Int) - (a : Int))).toNat = a := by omega
    have e3 : (-1074 + (fe r : Int) - -1074).toNat = fe r := by omega
    rw [e1, e2, e3, Nat.shiftLeft_zero, even_cut s (fm r) a _ (by rw [log2_mul _ _ hm]; omega) rfl]
    congr 1
    unfold fe fm
    split <;> omega
theorem word_fr {x : Nat} (h : x < 18446744073709551616) : double.word (fs x) (fr x) = x := by
  unfold Format.word fs fr
  rw [d_sw]
  by_cases c : 9223372036854775808 ≤ x
  · simp [c]
  · simp [c]
theorem one_read : double.read 4607182418800017408 = .number false 4503599627370496 (-52) := by decide
theorem zero_read : double.read 0 = .number false 0 (-1074) := by decide
theorem mul_one' {x : Nat} (h : x < 18446744073709551616) (n : fN x = false) : floatBits .mul .f64 4607182418800017408 x = some x := by
  show double.mul 4607182418800017408 x = some x
  unfold Format.mul
  rw [one_read]
  rcases read_cases h n with c | c
  · rw [read_num h c]
    show some (double.nearest (false ^^ fs x) (4503599627370496 * fm (fr x)) (-52 + (-1074 + (fe (fr x) : Nat)))) = some x
    have := nearest_same (fs x) (a := 52) c
    rw [Bool.false_xor, Nat.mul_comm, show (-52 + (-1074 + ((fe (fr x) : Nat) : Int))) = -1074 + ((fe (fr x) : Nat) : Int) - (52 : Nat) by omega]
    show some (double.nearest (fs x) (fm (fr x) * 2 ^ 52) _) = _
    rw [this, word_fr h]
  · rw [read_inf h c]
    have e : (Datum.number false 4503599627370496 (-52)).product (.infinity (fs x)) = some (.infinity (fs x)) := by simp [Datum.product]
    rw [e]
    show some (double.word (fs x) double.infRung) = some x
    rw [d_inf, ← c, word_fr h]
theorem sub_zero' {x : Nat} (h : x < 18446744073709551616) (n : fN x = false) : floatBits .sub .f64 x 0 = some x := by
  show double.sub x 0 = some x
  unfold Format.sub
  rw [zero_read]
  rcases read_cases h n with c | c
  · rw [read_num h c]
    show some (double.nearest _ _ _) = some x
    have e1 : min (-1074 + ((fe (fr x) : Nat) : Int)) (-1074) = -1074 := by omega
    have e2 : (-1074 + ((fe (fr x) : Nat) : Int) - -1074).toNat = fe (fr x) := by omega
    rw [e1, e2]
    have e3 : signed (!false) 0 ((-1074 : Int) - -1074).toNat = 0 := by decide
    rw [e3, Int.add_zero, sg_eq]
    have hnear := nearest_same (fs x) (a := fe (fr x)) c
    rw [word_fr h, show (-1074 + ((fe (fr x) : Nat) : Int) - ((fe (fr x) : Nat) : Int)) = -1074 by omega] at hnear
    refine congrArg some ?_
    by_cases h0 : fm (fr x) * 2 ^ fe (fr x) = 0
    · rw [h0]
      have hf : fr x = 0 := by
        have hp := Nat.two_pow_pos (fe (fr x))
        have : fm (fr x) = 0 := by
          rcases Nat.mul_eq_zero.1 h0 with h | h
          · exact h
          · omega
        unfold fm at this
        split at this <;> omega
      have hx := word_fr h
      rw [hf] at hx
      cases hs : fs x
      · rw [hs] at hx; rw [← hx]; decide
      · rw [hs] at hx; rw [← hx]; decide
    · refine Eq.trans ?_ hnear
      clear hnear
      generalize fm (fr x) * 2 ^ fe (fr x) = M at *
      cases hs : fs x
      · show double.nearest (if (M : Int) = 0 then _ else decide ((M : Int) < 0)) (M : Int).natAbs (-1074) = _
        rw [if_neg (by omega)]
        have : decide ((M : Int) < 0) = false := by simp
        rw [this]; rfl
      · show double.nearest (if -(M : Int) = 0 then _ else decide (-(M : Int) < 0)) (-(M : Int)).natAbs (-1074) = _
        rw [if_neg (by omega)]
        have : decide (-(M : Int) < 0) = true := by simp; omega
        rw [this, Int.natAbs_neg]; rfl
  · rw [read_inf h c]
    show some (double.word (fs x) double.infRung) = some x
    rw [d_inf, ← c, word_fr h]
theorem cut_le (s : Bool) (n d : Nat) : Toward.even.cut s n d ≤ n / 2 ^ min d (n.log2 + 2) + 1 := by
  unfold Toward.cut
  simp only [Nat.shiftLeft_eq, Nat.one_mul]
  have (b : Bool) : b.toNat ≤ 1 := by cases b <;> decide
  exact Nat.add_le_add_left (this _) _
theorem near_read {n : Nat} (h0 : n ≠ 0) (h : n ≤ 9223372036854775808) (s : Bool) : ∃ m p, m ≠ 0 ∧ double.read (double.nearest s n 0) = .number s m p := by
  have hl : n.log2 ≤ 63 := by have := (Nat.log2_lt h0 (k := 64)).2 (by omega); omega
  obtain ⟨q, hq, hq1, hq2⟩ : ∃ q, double.nearest s n 0 = double.word s q ∧ q ≠ 0 ∧ q < 9218868437227405312 := by
    unfold Format.nearest
    simp only [d_bin, d_inf, d_lp]
    rw [if_neg h0]
    have hlast : max (0 + (n.log2 : Int) - (double.fractionBits : Int)) (-1074) = (n.log2 : Int) - 52 := by
      have e52 : double.fractionBits = 52 := rfl
      rw [e52]; omega
    rw [hlast]
    have e3 : ((n.log2 : Int) - 52 - -1074).toNat = n.log2 + 1022 := by omega
    rw [e3]
    have hk : Toward.even.cut s (n <<< (0 - ((n.log2 : Int) - 52)).toNat) ((n.log2 : Int) - 52 - 0).toNat ≤ 9007199254740992 := by
      by_cases c : n.log2 ≤ 52
      · have e1 : (0 - ((n.log2 : Int) - 52)).toNat = 52 - n.log2 := by omega
        have e2 : ((n.log2 : Int) - 52 - 0).toNat = 0 := by omega
        rw [e1, e2]
        refine Nat.le_trans (cut_le ..) ?_
        have h2 := @Nat.lt_log2_self n
        have h3 : n * 2 ^ (52 - n.log2) < 2 ^ (n.log2 + 1) * 2 ^ (52 - n.log2) := Nat.mul_lt_mul_of_pos_right h2 (Nat.two_pow_pos _)
        rw [← Nat.pow_add, show n.log2 + 1 + (52 - n.log2) = 53 by omega] at h3
        rw [Nat.shiftLeft_eq, Nat.zero_min, Nat.pow_zero, Nat.div_one]
        omega
      · have e1 : (0 - ((n.log2 : Int) - 52)).toNat = 0 := by omega
        have e2 : ((n.log2 : Int) - 52 - 0).toNat = n.log2 - 52 := by omega
        rw [e1, e2]
        refine Nat.le_trans (cut_le ..) ?_
        rw [Nat.shiftLeft_zero, Nat.min_eq_left (by omega)]
        have h2 := @Nat.lt_log2_self n
        have h3 : n / 2 ^ (n.log2 - 52) < 2 ^ 53 := by
          rw [Nat.div_lt_iff_lt_mul (Nat.two_pow_pos _), ← Nat.pow_add, show 53 + (n.log2 - 52) = n.log2 + 1 by omega]
          exact h2
        omega
    generalize Toward.even.cut s (n <<< (0 - ((n.log2 : Int) - 52)).toNat) ((n.log2 : Int) - 52 - 0).toNat = K at hk
    exact ⟨_, rfl, by omega, by omega⟩
  rw [hq]
  have hx : double.word s q < 18446744073709551616 := by unfold Format.word; rw [d_sw]; split <;> omega
  have hf : fr (double.word s q) = q := by
    unfold Format.word fr; rw [d_sw]
    cases s
    · simp only [Bool.false_eq_true, if_false]; rw [if_neg (by omega)]
    · simp only [if_true]; rw [if_pos (by omega)]; omega
  have hs : fs (double.word s q) = s := by
    unfold Format.word fs; rw [d_sw]
    cases s
    · simp only [Bool.false_eq_true, if_false]; simp; omega
    · simp
  rw [read_num hx (by rw [hf]; exact hq2), hs, hf]
  refine ⟨_, _, ?_, rfl⟩
  unfold fm; split <;> omega
theorem ofInt_read {n : Int} (h0 : n ≠ 0) (h1 : -9223372036854775808 ≤ n) (h2 : n < 9223372036854775808) : ∃ s m p, m ≠ 0 ∧ double.read (floatOfInt .f64 n) = .number s m p := by
  obtain ⟨m, p, hm, e⟩ := near_read (n := n.natAbs) (by omega) (by omega) (decide (n < 0))
  exact ⟨_, m, p, hm, e⟩
theorem ratio_one {n : Int} {r : Nat} (h0 : n ≠ 0) (h1 : -9223372036854775808 ≤ n) (h2 : n < 9223372036854775808) (h : RatR n n r) : r = 4607182418800017408 := by
  obtain ⟨s, m, p, hm, e⟩ := ofInt_read h0 h1 h2
  refine h.of ?_
  show double.div _ _ = _
  unfold Format.div
  rw [e]
  unfold Datum.quotient
  simp only [hm, if_false, Option.map_some]
  have e52 : double.fractionBits + 2 + m.log2 - m.log2 = 54 := by have : double.fractionBits = 52 := rfl; omega
  rw [e52, Nat.shiftLeft_eq, Nat.mul_mod_right, Nat.mul_div_cancel_left _ (Nat.pos_of_ne_zero hm), Bool.xor_self, show p - p - ((54 : Nat) : Int) - 1 = -55 by omega]
  decide
theorem ratio_zero {n : Int} {r : Nat} (h0 : n ≠ 0) (h1 : -9223372036854775808 ≤ n) (h2 : n < 9223372036854775808) (h : RatR 0 n r) : (double.order r 0 == some .eq) = true := by
  obtain ⟨s, m, p, hm, e⟩ := ofInt_read h0 h1 h2
  have hz : floatOfInt .f64 0 = 0 := by decide
  have hr : r = double.word s 0 := by
    refine h.of ?_
    show double.div _ _ = _
    unfold Format.div
    rw [e, hz, zero_read]
    unfold Datum.quotient
    simp only [hm, if_false, Option.map_some]
    rw [Nat.shiftLeft_eq, Nat.zero_mul, Nat.zero_div, Nat.zero_mod, Bool.false_xor]
    rfl
  rw [hr]
  cases s <;> decide
theorem add_finite {x b : Nat} (h : double.add 4607182418800017408 x = some b) : fN b = false := by
  unfold Format.add at h
  cases e : (double.read 4607182418800017408).sum (double.read x) with
  | none => rw [e] at h; cases h
  | some d =>
    rw [e] at h
    simp only [Option.map_some, Option.some.injEq] at h
    have hw : ∀ (s : Bool) (q : Nat), q ≤ 9218868437227405312 → fN (double.word s q) = false := by
      intro s q hq
      unfold Format.word fN fr; rw [d_sw]
      cases s
      · simp only [Bool.false_eq_true, if_false]; rw [if_neg (by omega)]; simp; omega
      · simp only [if_true]; rw [if_pos (by omega)]; simp; omega
    cases d with
    | number s m p =>
      subst h
      show fN (double.nearest s m p) = false
      unfold Format.nearest
      simp only [d_inf]
      split
      · exact hw _ _ (by omega)
      · exact hw _ _ (Nat.min_le_right ..)
    | infinity s => subst h; exact hw _ _ (by rw [d_inf]; omega)
    | nan s t =>
      exfalso
      rw [one_read] at e
      cases hx : double.read x <;> rw [hx] at e <;> simp [Datum.sum] at e
theorem add_there {x : Nat} (h : x < 18446744073709551616) (n : fN x = false) : ∃ b, double.add 4607182418800017408 x = some b := by
  unfold Format.add
  rw [one_read]
  rcases read_cases h n with c | c
  · rw [read_num h c]; exact ⟨_, rfl⟩
  · rw [read_inf h c]
    have e : (Datum.number false 4503599627370496 (-52)).sum (.infinity (fs x)) = some (.infinity (fs x)) := by simp [Datum.sum]
    rw [e]; exact ⟨_, rfl⟩
theorem gain_whole {n : Int} {age g x' : Nat} (h0 : n ≠ 0) (h1 : -9223372036854775808 ≤ n) (h2 : n < 9223372036854775808) (ha : age < 18446744073709551616) (na : fN age = false)
    (h : GainR n n age 4617315517961601024 g) (hx : OpR .add 4607182418800017408 age x') : (double.order g x' == some .eq) = true := by
  obtain ⟨r, x, y, z, u, k1, k2, k3, k4, k5, k6⟩ := h
  obtain ⟨b, hb⟩ := add_there ha na
  have nb := add_finite hb
  obtain rfl := ratio_one h0 h1 h2 k1
  obtain rfl := k2.of hb
  obtain rfl := hx.of hb
  obtain rfl := k3.of (mul_one' k2.lt nb)
  obtain rfl := k4.of (b := 0) (by decide)
  obtain rfl := k5.of (b := 0) (by decide)
  obtain rfl := k6.of (sub_zero' k2.lt nb)
  rw [order_self k2.lt, nb]; rfl
end
end Go.Proofs.Ytaeolkkbakdlbaa.S12.Pl
