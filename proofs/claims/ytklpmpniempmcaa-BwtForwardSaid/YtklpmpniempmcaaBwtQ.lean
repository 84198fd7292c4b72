/- The tables by which the way back goes, plain: no program. -/
import Derived.Test.YtklpmpniempmcaaBwtP
set_option linter.unusedSimpArgs false
set_option linter.unusedVariables false
namespace Go.Proofs.Ytklpmpniempmcaa.Pl
/-- how many x stand ahead of i -/
def cN (l : List Nat) (i x : Nat) : Nat := cnt i fun j => decide (l.getD j 0 = x)
/-- the first row of x -/
def stN (l : List Nat) (x : Nat) : Nat := 1 + cnt l.length fun j => decide (l.getD j 0 < x)
theorem cN_zero (l : List Nat) (x : Nat) : cN l 0 x = 0 := rfl
theorem cN_same (l : List Nat) (i : Nat) : cN l (i + 1) (l.getD i 0) = cN l i (l.getD i 0) + 1 := by
  show cnt i _ + (decide (l.getD i 0 = l.getD i 0)).toNat = _
  simp [cN]
theorem cN_other (l : List Nat) {i x : Nat} (h : x ≠ l.getD i 0) : cN l (i + 1) x = cN l i x := by
  show cnt i _ + (decide (l.getD i 0 = x)).toNat = _
  have : decide (l.getD i 0 = x) = false := by simpa using fun e : l.getD i 0 = x => h e.symm
  rw [this]
  simp [cN]
theorem cN_le (l : List Nat) (i x : Nat) : cN l i x ≤ i := cnt_le _ _
theorem stN_zero (l : List Nat) : stN l 0 = 1 := by unfold stN; rw [cnt_zero fun i _ => by simp]
theorem stN_succ (l : List Nat) (x : Nat) : stN l (x + 1) = stN l x + cN l l.length x := by
  unfold stN cN
  rw [cnt_or (n := l.length) (p := fun j => decide (l.getD j 0 < x + 1)) (q := fun j => decide (l.getD j 0 < x)) (r := fun j => decide (l.getD j 0 = x))]
  · omega
  · intro i _
    rw [Bool.eq_iff_iff]
    simp
    omega
  · intro i _ h
    simp at h
    simp
    omega
theorem stN_le (l : List Nat) (x : Nat) : stN l x ≤ l.length + 1 := by unfold stN; have := cnt_le l.length fun j => decide (l.getD j 0 < x); omega
theorem cnt_front {n k : Nat} {p : Nat → Bool} (hk : k ≤ n) (h : ∀ i, k ≤ i → i < n → p i = false) : cnt n p = cnt k p := by
  induction n with
  | zero => rw [show k = 0 by omega]
  | succ n ih =>
    by_cases e : k = n + 1
    · rw [e]
    · show cnt n p + (p n).toNat = _
      rw [h n (by omega) (by omega), ih (by omega) fun i h1 h2 => h i h1 (by omega)]
      rfl
theorem lf_split {l : List Nat} {k : Nat} (hk : k < l.length) : lf l k = stN l (l.getD k 0) + cN l k (l.getD k 0) := by
  unfold lf stN cN
  have h1 := cnt_or (n := l.length) (p := lt2 l k) (q := fun j => decide (l.getD j 0 < l.getD k 0)) (r := fun j => decide (l.getD j 0 = l.getD k 0) && decide (j < k)) (fun i _ => rfl) fun i _ h => by
    simp at h
    simp
    omega
  have h2 := cnt_front (n := l.length) (k := k) (p := fun j => decide (l.getD j 0 = l.getD k 0) && decide (j < k)) (by omega) fun i h _ => by simp; omega
  have h3 := cnt_congr (n := k) (p := fun j => decide (l.getD j 0 = l.getD k 0) && decide (j < k)) (q := fun j => decide (l.getD j 0 = l.getD k 0)) fun i h => by simp [h]
  omega
end Go.Proofs.Ytklpmpniempmcaa.Pl
