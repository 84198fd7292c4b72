/- Nothing is left over: Kraft is whole: plain. -/
import Derived.Test.YtnoleijdpilnpaaPkgG
set_option linter.unusedSimpArgs false
set_option linter.unusedVariables false
namespace Go.Proofs.Ytnoleijdpilnpaa
open Go.RowKit
namespace Pl
theorem max_len (l : Int → Nat) : ∀ (C : List Coin), C ≠ [] → ∃ s ∈ C, ∀ c ∈ C, l c.2 ≤ l s.2
  | [], h => absurd rfl h
  | [s], _ => ⟨s, by simp, by simp⟩
  | s :: t :: C, _ => by
    obtain ⟨m, hm, h⟩ := max_len l (t :: C) (by simp)
    by_cases e : l m.2 ≤ l s.2
    · exact ⟨s, by simp, fun c hc => by
        rcases List.mem_cons.1 hc with rfl | hc
        · exact Nat.le_refl _
        · exact Nat.le_trans (h c hc) e⟩
    · exact ⟨m, by simp [List.mem_cons.1 hm], fun c hc => by
        rcases List.mem_cons.1 hc with rfl | hc
        · omega
        · exact h c hc⟩
theorem kraft_mult (l : Int → Nat) (lm : Nat) (hlm : lm ≤ 15) : ∀ (C : List Coin), (∀ c ∈ C, l c.2 ≤ lm) → ∃ q : Int, sm (fun s => ((2 ^ (15 - l s.2) : Nat) : Int)) C = ((2 ^ (15 - lm) : Nat) : Int) * q
  | [], _ => ⟨0, by simp [sm]⟩
  | s :: C, h => by
    obtain ⟨q, hq⟩ := kraft_mult l lm hlm C fun c hc => h c (by simp [hc])
    have hs := h s (by simp)
    refine ⟨((2 ^ (lm - l s.2) : Nat) : Int) + q, ?_⟩
    have e : (2 : Nat) ^ (15 - l s.2) = 2 ^ (15 - lm) * 2 ^ (lm - l s.2) := by rw [← Nat.pow_add]; congr 1; omega
    rw [sm, hq, e, Int.mul_add]
    push_cast
    rfl
theorem tight {C : List Coin} (hn : C.Pairwise fun a b => a.2 ≠ b.2) (hp : Pos C) {l : Int → Nat} (O : OptA C l) (h2 : 2 ≤ C.length) : sm (fun s => ((2 ^ (15 - l s.2) : Nat) : Int)) C = 32768 := by
  apply Classical.byContradiction
  intro hne
  have hK := O.kraft
  obtain ⟨s0, hs0, hmax⟩ := max_len l C (by intro e; rw [e] at h2; simp at h2)
  have ok0 := O.ok s0 hs0
  obtain ⟨q, hq⟩ := kraft_mult l (l s0.2) ok0.2 C hmax
  obtain ⟨lm, hlm⟩ : ∃ lm, l s0.2 = lm := ⟨_, rfl⟩
  rw [hlm] at hq ok0 hmax
  have hu : ((2 ^ (15 - lm) : Nat) : Int) * ((2 ^ lm : Nat) : Int) = 32768 := by
    have e : (2 : Nat) ^ (15 - lm) * 2 ^ lm = 2 ^ 15 := by rw [← Nat.pow_add]; congr 1; omega
    have e2 : (2 : Nat) ^ 15 = 32768 := by decide
    rw [← Int.natCast_mul, e, e2]
    rfl
  have hu1 : 1 ≤ (2 ^ (15 - lm) : Nat) := Nat.one_le_two_pow
  by_cases h1 : lm = 1
  · have e : sm (fun s => ((2 ^ (15 - l s.2) : Nat) : Int)) C = sm (fun _ => 16384) C := sm_congr fun s hs => by
      have a1 := (O.ok s hs).1
      have a2 := hmax s hs
      rw [show l s.2 = 1 by omega]
      rfl
    rw [e, sm_const] at hK hne
    omega
  · have hq2 : q < ((2 ^ lm : Nat) : Int) := by
      apply Classical.byContradiction
      intro hge
      have := Int.mul_le_mul_of_nonneg_left (show ((2 ^ lm : Nat) : Int) ≤ q by omega) (show (0 : Int) ≤ ((2 ^ (15 - lm) : Nat) : Int) by omega)
      omega
    have hq3 := Int.mul_le_mul_of_nonneg_left (show q + 1 ≤ ((2 ^ lm : Nat) : Int) by omega) (show (0 : Int) ≤ ((2 ^ (15 - lm) : Nat) : Int) by omega)
    rw [Int.mul_add, Int.mul_one, hu] at hq3
    have hm : ∀ x : Int, (if x = s0.2 then lm - 1 else l x) = (fun x : Int => if x = s0.2 then lm - 1 else l x) x := fun _ => rfl
    generalize (fun x : Int => if x = s0.2 then lm - 1 else l x) = m at hm
    have m0 : m s0.2 = lm - 1 := by rw [← hm]; simp
    have mo : ∀ x, x ≠ s0.2 → m x = l x := fun x h => by rw [← hm, if_neg h]
    have k1 := sm_point hn hs0 (g := fun s => ((2 ^ (15 - l s.2) : Nat) : Int)) (g' := fun s => ((2 ^ (15 - m s.2) : Nat) : Int)) fun c _ h => by simp only [mo _ h]
    have k2 := sm_point hn hs0 (g := fun s => s.1 * ((l s.2 : Nat) : Int)) (g' := fun s => s.1 * ((m s.2 : Nat) : Int)) fun c _ h => by simp only [mo _ h]
    simp only [m0, hlm] at k1 k2
    have ed : (2 : Nat) ^ (15 - (lm - 1)) = 2 ^ (15 - lm) * 2 := by rw [show 15 - (lm - 1) = (15 - lm) + 1 by omega, Nat.pow_succ]
    rw [ed] at k1
    have ho := O.opt m (fun s hs => by
      by_cases e : s.2 = s0.2
      · rw [e, m0]; omega
      · rw [mo _ e]; exact O.ok s hs) (by rw [k1, hq]; push_cast at hq3 ⊢; omega)
    rw [k2] at ho
    have hw := hp s0 hs0
    have e3 : s0.1 * (((lm - 1 : Nat)) : Int) = s0.1 * (lm : Int) - s0.1 := by
      rw [show (((lm - 1 : Nat)) : Int) = (lm : Int) - 1 by omega, Int.mul_sub, Int.mul_one]
    rw [e3] at ho
    omega
def kraftP : List Int → Int
  | [] => 0
  | n :: l => (if 1 ≤ n ∧ n ≤ 15 then 2 ^ (15 - n).toNat else 0) + kraftP l
theorem pow_small (n : Int) (h : 1 ≤ n ∧ n ≤ 15) : 0 ≤ (2 : Int) ^ (15 - n).toNat ∧ (2 : Int) ^ (15 - n).toNat ≤ 16384 := by
  have h1 : 2 ^ (15 - n).toNat ≤ 2 ^ 14 := Nat.pow_le_pow_right (by omega) (by omega)
  have e : (2 : Int) ^ (15 - n).toNat = ((2 ^ (15 - n).toNat : Nat) : Int) := by simp
  have e2 : (2 : Nat) ^ 14 = 16384 := by decide
  rw [e2] at h1
  rw [e]
  exact ⟨Int.natCast_nonneg _, Int.ofNat_le.2 h1⟩
theorem kraftW_eq : ∀ (L : List Int) (s : Int), 0 ≤ s → s + 16384 * L.length < 9223372036854775808 → kraftW s L = s + kraftP L
  | [], s, _, _ => by simp [kraftW, kraftP]
  | n :: L, s, h0, h1 => by
    rw [List.length_cons] at h1
    push_cast at h1
    by_cases h : 1 ≤ n ∧ n ≤ 15
    · have hp := pow_small n h
      rw [kraft_in h, kraftP, if_pos h, wrap_ok (by omega) (by omega), kraftW_eq L _ (by omega) (by omega)]
      omega
    · rw [kraft_out h, kraftP, if_neg h, kraftW_eq L s h0 (by omega)]
      omega
theorem kraftP_coins : ∀ (F L : List Int) (i : Nat), L.length = F.length → (∀ x, x < F.length → (0 < F.getD x 0 → 1 ≤ L.getD x 0 ∧ L.getD x 0 ≤ 15) ∧ (¬ 0 < F.getD x 0 → L.getD x 0 = 0)) → kraftP L = sm (fun c => ((2 ^ (15 - (L.getD (c.2.toNat - i) 0).toNat) : Nat) : Int)) (coinsFrom i F)
  | [], [], i, _, _ => by simp [kraftP, coinsFrom, sm]
  | [], _ :: _, _, h, _ => by simp at h
  | _ :: _, [], _, h, _ => by simp at h
  | f :: F, b :: L, i, hl, h => by
    have ih := kraftP_coins F L (i + 1) (by simpa using hl) fun x hx => by
      have := h (x + 1) (by simp only [List.length_cons]; omega)
      simpa [List.getD] using this
    have e : sm (fun c => ((2 ^ (15 - ((b :: L).getD (c.2.toNat - i) 0).toNat) : Nat) : Int)) (coinsFrom (i + 1) F) = sm (fun c => ((2 ^ (15 - (L.getD (c.2.toNat - (i + 1)) 0).toNat) : Nat) : Int)) (coinsFrom (i + 1) F) := sm_congr fun c hc => by
      have := (coins_mem F (i + 1) c hc).2.1
      rw [show c.2.toNat - i = (c.2.toNat - (i + 1)) + 1 by omega]
      simp [List.getD]
    have h0 := h 0 (by simp)
    simp only [List.getD_cons_zero] at h0
    rw [kraftP, ih, coinsFrom]
    by_cases hf : 0 < f
    · have hb := h0.1 hf
      rw [if_pos hf, sm, e, if_pos hb]
      congr 1
      simp only [Int.toNat_natCast, Nat.sub_self, List.getD_cons_zero]
      rw [show (15 - b).toNat = 15 - b.toNat by omega]
      simp
    · have hb := h0.2 hf
      rw [if_neg hf, e, if_neg (by omega)]
      omega
theorem len_zero {F L : List Int} {S : List Coin} (h : LensOk F L S) {x : Nat} (hx : x < F.length) (h0 : ¬ 0 < F.getD x 0) : L.getD x 0 = 0 := by
  have hno : ∀ s ∈ S, s.2 ≠ (x : Int) := fun s hs e => by
    have hc := h.perm.mem_iff.1 hs
    have key : ∀ (F : List Int) (i : Nat) (c : Coin), c ∈ coinsFrom i F → c.1 = F.getD (c.2.toNat - i) 0 := by
      intro F
      induction F with
      | nil => intro i c hc; simp [coinsFrom] at hc
      | cons f F ih =>
        intro i c hc
        rw [coinsFrom] at hc
        have tl : c ∈ coinsFrom (i + 1) F → c.1 = (f :: F).getD (c.2.toNat - i) 0 := fun hc => by
          have := (coins_mem F (i + 1) c hc).2.1
          rw [show c.2.toNat - i = (c.2.toNat - (i + 1)) + 1 by omega, ih (i + 1) c hc]
          simp [List.getD]
        split at hc
        · rcases List.mem_cons.1 hc with rfl | hc
          · simp [List.getD]
          · exact tl hc
        · exact tl hc
    have h1 := key F 0 s hc
    rw [e, Int.toNat_natCast, Nat.sub_zero] at h1
    have := (coins_mem F 0 s hc).1
    omega
  rw [h.val x hx]
  rcases S with _ | ⟨s, _ | ⟨b, R⟩⟩
  · rfl
  · rw [finLen, if_neg (hno s (by simp))]
  · rw [finLen_many (by simp), lenOf, lenK_zero (by omega) hno]
    rfl
theorem kraft_val {F L : List Int} {S : List Coin} (h : LensOk F L S) (h3 : F.length ≤ 300) : kraftW 0 L = if S.length = 0 then 0 else if S.length = 1 then 16384 else 32768 := by
  have hl := h.len
  rw [kraftW_eq L 0 (by omega) (by omega), Int.zero_add, kraftP_coins F L 0 hl fun x hx => ⟨fun h0 => len_pos h h3 hx h0, fun h0 => len_zero h hx h0⟩]
  have e : sm (fun c => ((2 ^ (15 - (L.getD (c.2.toNat - 0) 0).toNat) : Nat) : Int)) (coinsFrom 0 F) = sm (fun c => ((2 ^ (15 - lenA S c.2) : Nat) : Int)) S := by
    rw [sm_perm h.perm]
    refine sm_congr fun c hc => ?_
    have hm := coins_mem F 0 c hc
    rw [Nat.sub_zero, lenA_val h (by omega), Int.toNat_natCast, Int.toNat_of_nonneg (by omega)]
  rw [e]
  have hS := S_len h h3
  by_cases h2 : 2 ≤ S.length
  · rw [if_neg (by omega), if_neg (by omega)]
    exact tight h.good.nodup h.good.pos (optA h.good hS) h2
  · have hg := h.good
    rcases S with _ | ⟨s, _ | ⟨b, R⟩⟩
    · simp [sm]
    · have hs := hg.sym s (by simp)
      have h1 : lenA [s] s.2 = 1 := by
        rw [lenA, finLen, if_pos (by omega)]
        rfl
      simp [sm, h1]
    · simp at h2
end Pl
end Go.Proofs.Ytnoleijdpilnpaa
