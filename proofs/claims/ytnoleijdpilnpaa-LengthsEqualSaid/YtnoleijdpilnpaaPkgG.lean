/- Each symbol's length; the more frequent symbol's is no longer: plain. -/
import Derived.Test.YtnoleijdpilnpaaPkgF
set_option linter.unusedSimpArgs false
set_option linter.unusedVariables false
namespace Go.Proofs.Ytnoleijdpilnpaa
namespace Pl
theorem coin_in : ∀ (F : List Int) (i x : Nat), x < F.length → 0 < F.getD x 0 → (F.getD x 0, ((i + x : Nat) : Int)) ∈ coinsFrom i F
  | [], _, _, h, _ => by simp at h
  | f :: F, i, 0, _, h => by
    have h' : 0 < f := by simpa [List.getD] using h
    rw [coinsFrom, if_pos h']
    simp [List.getD]
  | f :: F, i, x + 1, hx, h => by
    have e : (f :: F).getD (x + 1) 0 = F.getD x 0 := by simp [List.getD]
    rw [e] at h ⊢
    have ih := coin_in F (i + 1) x (by simpa using hx) h
    rw [show i + (x + 1) = i + 1 + x by omega, coinsFrom]
    split
    · exact List.mem_cons_of_mem _ ih
    · exact ih
theorem lenA_val {F L : List Int} {S : List Coin} (h : LensOk F L S) {x : Nat} (hx : x < F.length) : L.getD x 0 = (lenA S (x : Int) : Nat) := by
  rw [h.val x hx, lenA, Int.toNat_natCast, Int.toNat_of_nonneg (finLen_nonneg _ _)]
theorem len_pos {F L : List Int} {S : List Coin} (h : LensOk F L S) (h3 : F.length ≤ 300) {x : Nat} (hx : x < F.length) (h0 : 0 < F.getD x 0) : 1 ≤ L.getD x 0 ∧ L.getD x 0 ≤ 15 := by
  have O := (optA h.good (S_len h h3)).perm h.perm
  have hc := coin_in F 0 x hx h0
  have := O.ok _ hc
  simp only [Nat.zero_add] at this
  rw [lenA_val h hx]
  omega
theorem sm_point {C : List Coin} (hn : C.Pairwise fun a b => a.2 ≠ b.2) {a : Coin} (ha : a ∈ C) {g g' : Coin → Int} (he : ∀ c ∈ C, c.2 ≠ a.2 → g' c = g c) : sm g' C = sm g C + (g' a - g a) := by
  induction C with
  | nil => simp at ha
  | cons c C ih =>
    have hp := List.pairwise_cons.1 hn
    simp only [sm]
    rcases List.mem_cons.1 ha with rfl | ha
    · rw [sm_congr (g := g') (h := g) fun x hx => he x (by simp [hx]) (Ne.symm (hp.1 x hx))]
      omega
    · rw [ih hp.2 ha fun x hx => he x (by simp [hx]), he c (by simp) (hp.1 a ha)]
      omega
theorem sm_two {C : List Coin} (hn : C.Pairwise fun a b => a.2 ≠ b.2) {a b : Coin} (ha : a ∈ C) (hb : b ∈ C) (hab : a.2 ≠ b.2) {g g' : Coin → Int} (he : ∀ c ∈ C, c.2 ≠ a.2 → c.2 ≠ b.2 → g' c = g c) : sm g' C = sm g C + (g' a - g a) + (g' b - g b) := by
  have h1 := sm_point hn ha (g := g) (g' := fun c => if c.2 = a.2 then g' c else g c) fun c _ hc => by simp [hc]
  have h2 := sm_point hn hb (g := fun c => if c.2 = a.2 then g' c else g c) (g' := g') fun c hc hcb => by
    by_cases e : c.2 = a.2
    · simp [e]
    · simp only [if_neg e]; exact he c hc e hcb
  rw [h2, h1]
  simp only [if_pos, if_neg (Ne.symm hab)]
theorem opt_order {C : List Coin} (hn : C.Pairwise fun a b => a.2 ≠ b.2) {l : Int → Nat} (O : OptA C l) {a b : Coin} (ha : a ∈ C) (hb : b ∈ C) (hw : b.1 < a.1) : l a.2 ≤ l b.2 := by
  apply Classical.byContradiction
  intro hlt
  have hab : a.2 ≠ b.2 := fun e => by rw [e] at hlt; omega
  have hm : ∀ x : Int, (if x = a.2 then l b.2 else if x = b.2 then l a.2 else l x) = (fun x : Int => if x = a.2 then l b.2 else if x = b.2 then l a.2 else l x) x := fun _ => rfl
  generalize hmm : (fun x : Int => if x = a.2 then l b.2 else if x = b.2 then l a.2 else l x) = m at hm
  have ma : m a.2 = l b.2 := by rw [← hm]; simp
  have mb : m b.2 = l a.2 := by rw [← hm, if_neg (Ne.symm hab)]; simp
  have mo : ∀ x, x ≠ a.2 → x ≠ b.2 → m x = l x := fun x h1 h2 => by rw [← hm, if_neg h1, if_neg h2]
  have hok : ∀ s ∈ C, 1 ≤ m s.2 ∧ m s.2 ≤ 15 := fun s hs => by
    by_cases e1 : s.2 = a.2
    · rw [e1, ma]; exact O.ok b hb
    · by_cases e2 : s.2 = b.2
      · rw [e2, mb]; exact O.ok a ha
      · rw [mo _ e1 e2]; exact O.ok s hs
  have k1 := sm_two hn ha hb hab (g := fun s => ((2 ^ (15 - l s.2) : Nat) : Int)) (g' := fun s => ((2 ^ (15 - m s.2) : Nat) : Int)) fun c _ h1 h2 => by simp only [mo _ h1 h2]
  have k2 := sm_two hn ha hb hab (g := fun s => s.1 * ((l s.2 : Nat) : Int)) (g' := fun s => s.1 * ((m s.2 : Nat) : Int)) fun c _ h1 h2 => by simp only [mo _ h1 h2]
  simp only [ma, mb] at k1 k2
  have ho := O.opt m hok (by have := O.kraft; omega)
  rw [k2] at ho
  have hd : 0 < (a.1 - b.1) * (((l a.2 : Nat) : Int) - ((l b.2 : Nat) : Int)) := Int.mul_pos (by omega) (by omega)
  rw [Int.sub_mul, Int.mul_sub, Int.mul_sub] at hd
  omega
theorem len_order {F L : List Int} {S : List Coin} (h : LensOk F L S) (h3 : F.length ≤ 300) {i k : Nat} (hi : i < F.length) (hk : k < F.length) (h0 : 0 < F.getD k 0) (hw : F.getD k 0 < F.getD i 0) : L.getD i 0 ≤ L.getD k 0 := by
  have O := (optA h.good (S_len h h3)).perm h.perm
  have h1 := opt_order (coins_nodup F 0) O (coin_in F 0 i hi (by omega)) (coin_in F 0 k hk h0) hw
  simp only [Nat.zero_add] at h1
  rw [lenA_val h hi, lenA_val h hk]
  omega
end Pl
end Go.Proofs.Ytnoleijdpilnpaa
