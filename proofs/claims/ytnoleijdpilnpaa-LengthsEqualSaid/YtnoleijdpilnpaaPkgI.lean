/- Powers of two; equal frequencies: plain. -/
import Derived.Test.YtnoleijdpilnpaaPkgH
set_option linter.unusedSimpArgs false
set_option linter.unusedVariables false
namespace Go.Proofs.Ytnoleijdpilnpaa
open Go.RowKit
namespace Pl
theorem chord : ∀ l : Nat, l < 16 → ∀ L : Nat, L < 16 → ((2 ^ (15 - L) : Nat) : Int) * (1 + (L : Int) - (l : Int)) ≤ ((2 ^ (15 - l) : Nat) : Int) ∧ (((2 ^ (15 - L) : Nat) : Int) * (1 + (L : Int) - (l : Int)) = ((2 ^ (15 - l) : Nat) : Int) → l = L ∨ l + 1 = L) := by decide +kernel
theorem sm_eq_each {g h : Coin → Int} : ∀ {A : List Coin}, (∀ c ∈ A, g c ≤ h c) → sm h A ≤ sm g A → ∀ c ∈ A, g c = h c
  | [], _, _, c, hc => by simp at hc
  | a :: A, hle, hs, c, hc => by
    have h1 := hle a (by simp)
    have h2 := sm_le (A := A) fun c hc => hle c (by simp [hc])
    simp only [sm] at hs
    rcases List.mem_cons.1 hc with rfl | hc
    · omega
    · exact sm_eq_each (fun c hc => hle c (by simp [hc])) (by omega) c hc
/-- weights that are powers of two have just one code -/
theorem dyadic {C : List Coin} {l T : Int → Nat} {M : Int} (hM : 0 < M) (hp : Pos C) (O : OptA C l) (hT : ∀ c ∈ C, 1 ≤ T c.2 ∧ T c.2 ≤ 15) (hw : ∀ c ∈ C, c.1 * M = ((2 ^ (15 - T c.2) : Nat) : Int)) (hk : sm (fun c => ((2 ^ (15 - T c.2) : Nat) : Int)) C = 32768) : ∀ c ∈ C, l c.2 = T c.2 := by
  have ho := O.opt T hT (by omega)
  have hch : ∀ c ∈ C, ((2 ^ (15 - T c.2) : Nat) : Int) * (1 + (T c.2 : Int) - (l c.2 : Int)) ≤ ((2 ^ (15 - l c.2) : Nat) : Int) := fun c hc => by
    have h1 := O.ok c hc
    have h2 := hT c hc
    exact (chord (l c.2) (by omega) (T c.2) (by omega)).1
  have e1 : sm (fun c => ((2 ^ (15 - T c.2) : Nat) : Int) * (1 + (T c.2 : Int) - (l c.2 : Int))) C = 32768 + M * (sm (fun c => c.1 * ((T c.2 : Nat) : Int)) C - sm (fun c => c.1 * ((l c.2 : Nat) : Int)) C) := by
    rw [← hk, Int.mul_sub, ← sm_mul, ← sm_mul]
    have : sm (fun c => ((2 ^ (15 - T c.2) : Nat) : Int) * (1 + (T c.2 : Int) - (l c.2 : Int))) C + sm (fun c => M * (c.1 * ((l c.2 : Nat) : Int))) C = sm (fun c => ((2 ^ (15 - T c.2) : Nat) : Int)) C + sm (fun c => M * (c.1 * ((T c.2 : Nat) : Int))) C := by
      rw [← sm_add, ← sm_add]
      refine sm_congr fun c hc => ?_
      have e := hw c hc
      rw [← e, ← Int.mul_assoc, ← Int.mul_assoc, Int.mul_comm M c.1, Int.mul_sub, Int.mul_add, Int.mul_one]
      omega
    omega
  have e2 : sm (fun c => ((2 ^ (15 - l c.2) : Nat) : Int)) C ≤ sm (fun c => ((2 ^ (15 - T c.2) : Nat) : Int) * (1 + (T c.2 : Int) - (l c.2 : Int))) C := by
    rw [e1]
    have := Int.mul_nonneg (show 0 ≤ M by omega) (show 0 ≤ sm (fun c => c.1 * ((T c.2 : Nat) : Int)) C - sm (fun c => c.1 * ((l c.2 : Nat) : Int)) C by omega)
    have := O.kraft
    omega
  have heq := sm_eq_each hch e2
  have hor : ∀ c ∈ C, l c.2 = T c.2 ∨ l c.2 + 1 = T c.2 := fun c hc => by
    have h1 := O.ok c hc
    have h2 := hT c hc
    exact (chord (l c.2) (by omega) (T c.2) (by omega)).2 (heq c hc)
  -- the costs are the same
  have hle : sm (fun c => ((2 ^ (15 - T c.2) : Nat) : Int) * (1 + (T c.2 : Int) - (l c.2 : Int))) C ≤ 32768 := Int.le_trans (sm_le hch) O.kraft
  have hcost : sm (fun c => c.1 * ((T c.2 : Nat) : Int)) C ≤ sm (fun c => c.1 * ((l c.2 : Nat) : Int)) C := by
    rw [e1] at hle
    apply Classical.byContradiction
    intro hh
    have := Int.mul_pos hM (show 0 < sm (fun c => c.1 * ((T c.2 : Nat) : Int)) C - sm (fun c => c.1 * ((l c.2 : Nat) : Int)) C by omega)
    omega
  have hfin := sm_eq_each (g := fun c => c.1 * ((l c.2 : Nat) : Int)) (h := fun c => c.1 * ((T c.2 : Nat) : Int)) (A := C) (fun c hc => by
    have := hor c hc
    exact Int.mul_le_mul_of_nonneg_left (by omega) (Int.le_of_lt (hp c hc))) hcost
  intro c hc
  have h1 := hfin c hc
  have h2 := Int.eq_of_mul_eq_mul_left (show c.1 ≠ 0 by have := hp c hc; omega) h1
  omega
/-! 1, 1, 2, 4, 8 .. -/
def twosL (n : Nat) : List Int := 1 :: (List.range (n - 1)).map fun i => (2 : Int) ^ i
def twosT (n : Nat) (x : Int) : Nat := if x = 0 then n - 1 else n - x.toNat
theorem twos_snoc (n : Nat) (h : 1 ≤ n) : twosL (n + 1) = twosL n ++ [2 ^ (n - 1)] := by
  obtain ⟨m, rfl⟩ : ∃ m, n = m + 1 := ⟨n - 1, by omega⟩
  simp [twosL, List.range_succ]
theorem twos_len (n : Nat) (h : 1 ≤ n) : (twosL n).length = n := by simp [twosL]; omega
def twosCheck (n : Nat) : Bool := (coinsFrom 0 (twosL n)).all (fun c => decide (c.1 * 2 ^ (16 - n) = ((2 ^ (15 - twosT n c.2) : Nat) : Int) ∧ 1 ≤ twosT n c.2 ∧ twosT n c.2 ≤ 15 ∧ c.1 ≤ 1073741824)) && decide (sm (fun c => ((2 ^ (15 - twosT n c.2) : Nat) : Int)) (coinsFrom 0 (twosL n)) = 32768)
theorem twos_check : ∀ n, n < 17 → 2 ≤ n → twosCheck n = true := by decide +kernel
theorem twos_pos (n : Nat) : ∀ v ∈ twosL n, 1 ≤ v := by
  intro v hv
  simp only [twosL, List.mem_cons, List.mem_map] at hv
  rcases hv with rfl | ⟨i, _, rfl⟩
  · omega
  · have e : (2 : Int) ^ i = ((2 ^ i : Nat) : Int) := by simp
    have := Nat.one_le_two_pow (n := i)
    rw [e]; exact Int.ofNat_le.2 this
theorem twos_lens {n : Nat} (h2 : 2 ≤ n) (h16 : n ≤ 16) {L : List Int} {S : List Coin} (h : LensOk (twosL n) L S) : ∀ x, x < n → L.getD x 0 = if x = 0 then (n : Int) - 1 else (n : Int) - x := by
  have hc := twos_check n (by omega) h2
  rw [twosCheck, Bool.and_eq_true, List.all_eq_true] at hc
  have hall := fun c hcc => of_decide_eq_true (hc.1 c hcc)
  have hl := twos_len n (by omega)
  have O := (optA h.good (S_len h (by omega))).perm h.perm
  have hM : (0 : Int) < 2 ^ (16 - n) := by
    have e : (2 : Int) ^ (16 - n) = ((2 ^ (16 - n) : Nat) : Int) := by simp
    rw [e]; exact Int.ofNat_lt.2 (Nat.one_le_two_pow (n := 16 - n))
  have hd := dyadic hM (fun c hcc => (coins_mem _ 0 c hcc).1) O (fun c hcc => ⟨(hall c hcc).2.1, (hall c hcc).2.2.1⟩) (fun c hcc => (hall c hcc).1) (of_decide_eq_true hc.2)
  intro x hx
  have hxl : x < (twosL n).length := by omega
  have hpos : 0 < (twosL n).getD x 0 := by
    have := twos_pos n ((twosL n).getD x 0) (by rw [List.getD_eq_getElem?_getD, List.getElem?_eq_getElem hxl]; exact List.getElem_mem _)
    omega
  have h1 := hd _ (coin_in (twosL n) 0 x hxl hpos)
  simp only [Nat.zero_add] at h1
  rw [lenA_val h hxl, h1, twosT]
  by_cases e : x = 0
  · subst e; rw [if_pos (by omega), if_pos rfl]; omega
  · rw [if_neg (by omega), if_neg e, Int.toNat_natCast]; omega
theorem twos_ok {n : Nat} (h2 : 2 ≤ n) (h16 : n ≤ 16) : (twosL n).length ≤ 300 ∧ allOk (twosL n) := by
  have hc := twos_check n (by omega) h2
  rw [twosCheck, Bool.and_eq_true, List.all_eq_true] at hc
  refine ⟨by rw [twos_len n (by omega)]; omega, fun v hv => ?_⟩
  have h1 := twos_pos n v hv
  obtain ⟨x, hx, rfl⟩ := List.getElem_of_mem hv
  have e : (twosL n).getD x 0 = (twosL n)[x] := by simp [List.getD, hx]
  have hci := coin_in (twosL n) 0 x hx (by rw [e]; omega)
  have := (of_decide_eq_true (hc.1 _ hci)).2.2.2
  simp only [e] at this
  exact ⟨by omega, this⟩
end Pl
end Go.Proofs.Ytnoleijdpilnpaa
