/- Equal frequencies: plain. -/
import Derived.Test.YtnoleijdpilnpaaPkgI
set_option linter.unusedSimpArgs false
set_option linter.unusedVariables false
namespace Go.Proofs.Ytnoleijdpilnpaa
open Go.RowKit
namespace Pl
def ns (g : Nat → Int) : Nat → Int
  | 0 => 0
  | n + 1 => ns g n + g n
theorem ns_step (s : Nat) (a b : Int) : ∀ n, ns (fun x => if x < s then a else b) n = if n ≤ s then a * n else a * s + b * ((n : Int) - s)
  | 0 => by simp [ns]
  | n + 1 => by
    rw [ns, ns_step s a b n]
    by_cases h : n < s
    · rw [if_pos h, if_pos (show n ≤ s by omega), if_pos (show n + 1 ≤ s by omega), Int.natCast_add, Int.mul_add]; simp
    · rw [if_neg h, if_neg (show ¬ n + 1 ≤ s by omega)]
      by_cases h' : n ≤ s
      · obtain rfl : n = s := by omega
        rw [if_pos (Nat.le_refl n), show (((n + 1 : Nat) : Int) - n) = 1 by omega, Int.mul_one]
      · rw [if_neg h', show (((n + 1 : Nat) : Int) - s) = ((n : Int) - s) + 1 by omega, Int.mul_add, Int.mul_one]
        omega
theorem ns_coins {f : Int} (hf : 1 ≤ f) (g : Nat → Int) : ∀ n, sm (fun c => g c.2.toNat) (coinsFrom 0 (List.replicate n f)) = ns g n
  | 0 => by simp [coinsFrom, sm, ns]
  | n + 1 => by
    rw [List.replicate_succ', coins_more, sm_append, ns_coins hf g n, ns]
    have h0 : 0 < f := by omega
    simp [coinsFrom, sm, h0]
theorem coins_rep_len {f : Int} (hf : 1 ≤ f) : ∀ n, (coinsFrom 0 (List.replicate n f)).length = n
  | 0 => by simp [coinsFrom]
  | n + 1 => by
    rw [List.replicate_succ', coins_more, List.length_append, coins_rep_len hf n]
    have h0 : 0 < f := by omega
    simp [coinsFrom, h0]
theorem eight {k : Nat} (h1 : 1 ≤ k) (h2 : k < 9) : k = 1 ∨ k = 2 ∨ k = 3 ∨ k = 4 ∨ k = 5 ∨ k = 6 ∨ k = 7 ∨ k = 8 := by omega
theorem eq_num1 {k n s : Nat} {sl : Int} (h1 : 1 ≤ k) (h9 : k < 9) (hs : s + n = 2 ^ (k + 1)) (h : sl ≤ (k : Int) * s + ((k : Int) + 1) * ((n : Int) - s)) : 32768 ≤ ((2 ^ (15 - (k + 1)) : Nat) : Int) * (((k : Int) + 2) * n - sl) := by
  rcases eight h1 h9 with rfl | rfl | rfl | rfl | rfl | rfl | rfl | rfl <;> (simp only [Nat.reduceAdd, Nat.reduceSub, Nat.reducePow] at *; omega)
theorem eq_num2 {k n s : Nat} {sl : Int} (h1 : 1 ≤ k) (h9 : k < 9) (hs : s + n = 2 ^ (k + 1)) (h : sl ≤ (k : Int) * s + ((k : Int) + 1) * ((n : Int) - s)) (h' : ((2 ^ (15 - (k + 1)) : Nat) : Int) * (((k : Int) + 2) * n - sl) ≤ 32768) : ((k : Int) + 1) * n - sl = s := by
  rcases eight h1 h9 with rfl | rfl | rfl | rfl | rfl | rfl | rfl | rfl <;> (simp only [Nat.reduceAdd, Nat.reduceSub, Nat.reducePow] at *; omega)
theorem eq_num3 {k n s : Nat} (h1 : 1 ≤ k) (h9 : k < 9) (hs : s + n = 2 ^ (k + 1)) : ((2 ^ (15 - k) : Nat) : Int) * s + ((2 ^ (15 - (k + 1)) : Nat) : Int) * ((n : Int) - s) ≤ 32768 := by
  rcases eight h1 h9 with rfl | rfl | rfl | rfl | rfl | rfl | rfl | rfl <;> (simp only [Nat.reduceAdd, Nat.reduceSub, Nat.reducePow] at *; omega)
theorem k_small {k n : Nat} (h : 2 ^ k ≤ n) (h3 : n ≤ 300) : k < 9 := by
  apply Classical.byContradiction
  intro hh
  have := Nat.pow_le_pow_right (n := 2) (by omega) (show 9 ≤ k by omega)
  omega
theorem equal_ok {n k : Nat} {f : Int} {L : List Int} {S : List Coin} (hf : 1 ≤ f) (h2 : 2 ≤ n) (h3 : n ≤ 300) (hk1 : 2 ^ k ≤ n) (hk2 : n < 2 ^ (k + 1)) (h : LensOk (List.replicate n f) L S) :
    (∀ x, x < n → L.getD x 0 = k ∨ L.getD x 0 = (k : Int) + 1) ∧ ns (fun x => if L.getD x 0 = k then 1 else 0) n = ((2 ^ (k + 1) : Nat) : Int) - n := by
  have hk9 := k_small hk1 h3
  have hk0 : 1 ≤ k := by
    rcases Nat.eq_zero_or_pos k with rfl | h
    · simp at hk2; omega
    · exact h
  obtain ⟨s, hs⟩ : ∃ s, s + n = 2 ^ (k + 1) := ⟨2 ^ (k + 1) - n, by omega⟩
  have hsn : s ≤ n := by have : 2 ^ (k + 1) = 2 ^ k * 2 := Nat.pow_succ .. ; omega
  have hrl : (List.replicate n f).length = n := by simp
  have O := (optA h.good (S_len h (by omega))).perm h.perm
  have hcl := coins_rep_len hf n
  have hval : ∀ x, x < n → L.getD x 0 = (lenA S (x : Int) : Nat) := fun x hx => lenA_val h (by omega)
  have hcm : ∀ c ∈ coinsFrom 0 (List.replicate n f), c.1 = f ∧ c.2 = (c.2.toNat : Int) ∧ c.2.toNat < n := fun c hc => by
    have := coins_mem _ 0 c hc
    rw [hrl] at this
    exact ⟨(List.mem_replicate.1 this.2.2.2).2, by omega, by omega⟩
  have hin : ∀ x, x < n → (f, (x : Int)) ∈ coinsFrom 0 (List.replicate n f) := fun x hx => by
    have e : (List.replicate n f).getD x 0 = f := by simp [List.getD, List.getElem?_replicate, hx]
    have := coin_in (List.replicate n f) 0 x (by omega) (by rw [e]; omega)
    rw [e, Nat.zero_add] at this
    exact this
  have hcn := fun g => ns_coins hf g n
  generalize coinsFrom 0 (List.replicate n f) = C at *
  generalize lenA S = l at *
  -- the balanced code
  have hT := O.opt (fun x => if x.toNat < s then k else k + 1) (fun c hc => by split <;> omega) (by
    have e : sm (fun c => ((2 ^ (15 - (if c.2.toNat < s then k else k + 1)) : Nat) : Int)) C = sm (fun c => (fun x : Nat => if x < s then ((2 ^ (15 - k) : Nat) : Int) else ((2 ^ (15 - (k + 1)) : Nat) : Int)) c.2.toNat) C := sm_congr fun c hc => by show ((2 ^ (15 - (if c.2.toNat < s then k else k + 1)) : Nat) : Int) = if c.2.toNat < s then ((2 ^ (15 - k) : Nat) : Int) else ((2 ^ (15 - (k + 1)) : Nat) : Int); split <;> rfl
    rw [e]
    refine Int.le_trans (Int.le_of_eq (hcn (fun x : Nat => if x < s then ((2 ^ (15 - k) : Nat) : Int) else ((2 ^ (15 - (k + 1)) : Nat) : Int)))) ?_
    rw [ns_step]
    have := eq_num3 hk0 hk9 hs
    split
    · obtain rfl : n = s := by omega
      simpa using this
    · exact this)
  have eT : sm (fun c => c.1 * (((if c.2.toNat < s then k else k + 1) : Nat) : Int)) C = f * ((k : Int) * s + ((k : Int) + 1) * ((n : Int) - s)) := by
    have e : sm (fun c => c.1 * (((if c.2.toNat < s then k else k + 1) : Nat) : Int)) C = sm (fun c => f * ((fun x : Nat => if x < s then (k : Int) else (k : Int) + 1) c.2.toNat)) C := sm_congr fun c hc => by
      show c.1 * (((if c.2.toNat < s then k else k + 1) : Nat) : Int) = f * (if c.2.toNat < s then (k : Int) else (k : Int) + 1)
      rw [(hcm c hc).1]; split <;> simp
    rw [e, sm_mul]
    refine (congrArg (f * ·) (hcn (fun x : Nat => if x < s then (k : Int) else (k : Int) + 1))).trans ?_
    show f * _ = _
    rw [ns_step]
    split
    · obtain rfl : n = s := by omega
      simp
    · rfl
  have el : sm (fun c => c.1 * ((l c.2 : Nat) : Int)) C = f * sm (fun c => ((l c.2 : Nat) : Int)) C := by
    rw [← sm_mul]; exact sm_congr fun c hc => by rw [(hcm c hc).1]
  rw [eT, el] at hT
  have hsl := Int.le_of_mul_le_mul_left hT (by omega)
  have hch : ∀ c ∈ C, ((2 ^ (15 - (k + 1)) : Nat) : Int) * (((k : Int) + 2) - (l c.2 : Int)) ≤ ((2 ^ (15 - l c.2) : Nat) : Int) := fun c hc => by
    have h1 := O.ok c hc
    have := (chord (l c.2) (by omega) (k + 1) (by omega)).1
    rwa [show (1 + ((k + 1 : Nat) : Int) - (l c.2 : Int)) = ((k : Int) + 2) - (l c.2 : Int) by omega] at this
  have eg : sm (fun c => ((2 ^ (15 - (k + 1)) : Nat) : Int) * (((k : Int) + 2) - (l c.2 : Int))) C = ((2 ^ (15 - (k + 1)) : Nat) : Int) * (((k : Int) + 2) * n - sm (fun c => ((l c.2 : Nat) : Int)) C) := by
    rw [sm_mul]
    have : sm (fun c => ((k : Int) + 2) - (l c.2 : Int)) C + sm (fun c => ((l c.2 : Nat) : Int)) C = sm (fun _ => (k : Int) + 2) C := by
      rw [← sm_add]; exact sm_congr fun c hc => by omega
    rw [sm_const, hcl] at this
    rw [show sm (fun c => ((k : Int) + 2) - (l c.2 : Int)) C = ((k : Int) + 2) * n - sm (fun c => ((l c.2 : Nat) : Int)) C by omega]
  have hbig := eq_num1 hk0 hk9 hs hsl
  rw [← eg] at hbig
  have heq := sm_eq_each hch (Int.le_trans O.kraft hbig)
  have hle := Int.le_trans (sm_le hch) O.kraft
  rw [eg] at hle
  have hsum := eq_num2 hk0 hk9 hs hsl hle
  have hor : ∀ c ∈ C, l c.2 = k ∨ l c.2 = k + 1 := fun c hc => by
    have h1 := O.ok c hc
    have := (chord (l c.2) (by omega) (k + 1) (by omega)).2
    rw [show (1 + ((k + 1 : Nat) : Int) - (l c.2 : Int)) = ((k : Int) + 2) - (l c.2 : Int) by omega] at this
    have := this (heq c hc)
    omega
  have hone : ∀ c ∈ C, (fun x : Nat => if L.getD x 0 = k then (1 : Int) else 0) c.2.toNat = ((k : Int) + 1) - (l c.2 : Int) := fun c hc => by
    obtain ⟨_, e, hx⟩ := hcm c hc
    have h1 := hval _ hx
    rw [← e] at h1
    show (if L.getD c.2.toNat 0 = k then (1 : Int) else 0) = _
    rw [h1]
    rcases hor c hc with e | e <;> rw [e]
    · rw [if_pos rfl]; omega
    · rw [if_neg (by omega)]; omega
  refine ⟨fun x hx => ?_, ?_⟩
  · have hci := hin x hx
    rw [hval x hx]
    have := hor _ hci
    simp only at this
    omega
  · rw [← hcn (fun x : Nat => if L.getD x 0 = k then (1 : Int) else 0), sm_congr hone]
    have : sm (fun c => ((k : Int) + 1) - (l c.2 : Int)) C + sm (fun c => ((l c.2 : Nat) : Int)) C = sm (fun _ => (k : Int) + 1) C := by
      rw [← sm_add]; exact sm_congr fun c hc => by omega
    rw [sm_const, hcl] at this
    omega
end Pl
end Go.Proofs.Ytnoleijdpilnpaa
