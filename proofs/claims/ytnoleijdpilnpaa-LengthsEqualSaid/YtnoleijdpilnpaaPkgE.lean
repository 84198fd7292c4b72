/- Costs of lists: the least of all; scaled frequencies; one symbol more: plain. -/
import Derived.Test.YtnoleijdpilnpaaLenI
set_option linter.unusedSimpArgs false
set_option linter.unusedVariables false
namespace Go.Proofs.Ytnoleijdpilnpaa
open Go.RowKit
namespace Pl
def costP : List Int → List Int → Int
  | a :: f, b :: l => a * b + costP f l
  | _, _ => 0
theorem costP_nonneg : ∀ (F L : List Int), (∀ v ∈ F, 0 ≤ v) → (∀ v ∈ L, 0 ≤ v) → 0 ≤ costP F L
  | [], _, _, _ => by simp [costP]
  | _ :: _, [], _, _ => by simp [costP]
  | a :: f, b :: l, h1, h2 => by
    have := costP_nonneg f l (fun v hv => h1 v (by simp [hv])) (fun v hv => h2 v (by simp [hv]))
    have := Int.mul_nonneg (h1 a (by simp)) (h2 b (by simp))
    rw [costP]; omega
theorem costP_le (m : Int) (hm : 0 ≤ m) : ∀ (F L : List Int), (∀ v ∈ F, 0 ≤ v ∧ v ≤ m) → (∀ v ∈ L, 0 ≤ v ∧ v ≤ 15) → costP F L ≤ 15 * m * F.length
  | [], _, _, _ => by simp [costP]
  | _ :: _, [], _, _ => by
    rw [costP]
    · exact Int.mul_nonneg (by omega) (by omega)
    · intros; simp_all
  | a :: f, b :: l, h1, h2 => by
    have ih := costP_le m hm f l (fun v hv => h1 v (by simp [hv])) (fun v hv => h2 v (by simp [hv]))
    have ha := h1 a (by simp)
    have hb := h2 b (by simp)
    have e1 : a * b ≤ m * 15 := Int.mul_le_mul ha.2 hb.2 hb.1 hm
    rw [costP, List.length_cons]
    push_cast
    rw [Int.mul_add]
    omega
theorem wrap_ok {x : Int} (h0 : 0 ≤ x) (h1 : x < 9223372036854775808) : wrap64 x = x := by unfold wrap64; omega
theorem costW_eq : ∀ (F L : List Int) (s : Int), 0 ≤ s → (∀ v ∈ F, 0 ≤ v) → (∀ v ∈ L, 0 ≤ v) → s + costP F L < 9223372036854775808 → costW s F L = s + costP F L
  | [], _, s, _, _, _, _ => by simp [costW, costP]
  | _ :: _, [], s, _, _, _, _ => by simp [costW, costP]
  | a :: f, b :: l, s, hs, h1, h2, hb => by
    have p1 := costP_nonneg f l (fun v hv => h1 v (by simp [hv])) (fun v hv => h2 v (by simp [hv]))
    have p2 := Int.mul_nonneg (h1 a (by simp)) (h2 b (by simp))
    rw [costP] at hb
    rw [costW, costP, wrap_ok (x := a * b) p2 (by omega), wrap_ok (by omega) (by omega), costW_eq f l (s + a * b) (by omega) (fun v hv => h1 v (by simp [hv])) (fun v hv => h2 v (by simp [hv])) (by omega)]
    omega
theorem costP_coins : ∀ (F L : List Int) (i : Nat), (∀ v ∈ F, 0 ≤ v) → costP F L = sm (fun c => c.1 * L.getD (c.2.toNat - i) 0) (coinsFrom i F)
  | [], L, i, _ => by simp [costP, coinsFrom, sm]
  | f :: F, [], i, _ => by
    have : sm (fun c : Coin => c.1 * ([] : List Int).getD (c.2.toNat - i) 0) (coinsFrom i (f :: F)) = sm (fun _ => 0) (coinsFrom i (f :: F)) := sm_congr fun c _ => by simp [List.getD]
    rw [this, sm_const]; simp [costP]
  | f :: F, b :: L, i, h => by
    have ih := costP_coins F L (i + 1) fun v hv => h v (by simp [hv])
    have e : sm (fun c => c.1 * (b :: L).getD (c.2.toNat - i) 0) (coinsFrom (i + 1) F) = sm (fun c => c.1 * L.getD (c.2.toNat - (i + 1)) 0) (coinsFrom (i + 1) F) := sm_congr fun c hc => by
      have := (coins_mem F (i + 1) c hc).2.1
      rw [show c.2.toNat - i = (c.2.toNat - (i + 1)) + 1 by omega]
      simp [List.getD]
    rw [costP, ih, coinsFrom]
    by_cases h0 : 0 < f
    · rw [if_pos h0, sm, e]
      simp [List.getD]
    · rw [if_neg h0, e]
      have := h f (by simp)
      rw [show f = 0 by omega]
      simp
/-- the lengths that Of gives, of symbols -/
def lenA (S : List Coin) (x : Int) : Nat := (finLen S x.toNat).toNat
structure OptA (S : List Coin) (l : Int → Nat) : Prop where
  ok : ∀ s ∈ S, 1 ≤ l s.2 ∧ l s.2 ≤ 15
  kraft : sm (fun s => ((2 ^ (15 - l s.2) : Nat) : Int)) S ≤ 32768
  opt : ∀ m : Int → Nat, (∀ s ∈ S, 1 ≤ m s.2 ∧ m s.2 ≤ 15) → sm (fun s => ((2 ^ (15 - m s.2) : Nat) : Int)) S ≤ 32768 → sm (fun s => s.1 * (l s.2 : Nat)) S ≤ sm (fun s => s.1 * (m s.2 : Nat)) S
theorem OptA.perm {S S' : List Coin} {l : Int → Nat} (h : OptA S l) (p : S.Perm S') : OptA S' l :=
  ⟨fun s hs => h.ok s (p.mem_iff.2 hs), by rw [← sm_perm p]; exact h.kraft, fun m h15 hk => by
    rw [← sm_perm p, ← sm_perm p]
    exact h.opt m (fun s hs => h15 s (p.mem_iff.1 hs)) (by rw [sm_perm p]; exact hk)⟩
theorem lenA_many {S : List Coin} (G : Good S) (h2 : 2 ≤ S.length) {s : Coin} (hs : s ∈ S) : lenA S s.2 = lenOf S s.2 := by
  have := G.sym s hs
  rw [lenA, finLen_many h2, show ((s.2.toNat : Nat) : Int) = s.2 by omega]
  simp
theorem optA {S : List Coin} (G : Good S) (h3 : S.length ≤ 300) : OptA S (lenA S) := by
  by_cases h2 : 2 ≤ S.length
  · have O := optLen G h2 h3
    have e := fun s (hs : s ∈ S) => lenA_many G h2 hs
    refine ⟨fun s hs => by rw [e s hs]; exact O.ok s hs, ?_, fun m hm hk => ?_⟩
    · rw [sm_congr (h := fun s => ((2 ^ (15 - lenOf S s.2) : Nat) : Int)) fun s hs => by rw [e s hs]]
      exact O.kraft
    · rw [sm_congr (h := fun s => s.1 * ((lenOf S s.2 : Nat) : Int)) fun s hs => by rw [e s hs]]
      exact O.opt m (fun s hs => (hm s hs).2) hk
  · rcases S with _ | ⟨s, _ | ⟨b, R⟩⟩
    · exact ⟨by simp, by simp [sm], by simp [sm]⟩
    · have hs := G.sym s (by simp)
      have h1 : lenA [s] s.2 = 1 := by
        rw [lenA, finLen, if_pos (by omega)]
        rfl
      refine ⟨fun x hx => by simp at hx; subst hx; omega, by simp [sm, h1], fun m hm _ => ?_⟩
      have := (hm s (by simp)).1
      have hw := G.pos s (by simp)
      simp only [sm, h1]
      have := Int.mul_le_mul_of_nonneg_left (show (1 : Int) ≤ ((m s.2 : Nat) : Int) by omega) (Int.le_of_lt hw)
      simp at this ⊢
      exact this
    · simp at h2
theorem finLen_nonneg (S : List Coin) (x : Nat) : 0 ≤ finLen S x := by
  rcases S with _ | ⟨s, _ | ⟨b, R⟩⟩
  · simp [finLen]
  · rw [finLen]; split <;> omega
  · rw [finLen_many (by simp)]; omega
/-- what Of's lengths cost -/
theorem cost_of {F L : List Int} {S : List Coin} (h : LensOk F L S) (hF : ∀ v ∈ F, 0 ≤ v) : costP F L = sm (fun s => s.1 * (lenA S s.2 : Nat)) (coinsFrom 0 F) := by
  rw [costP_coins F L 0 hF]
  refine sm_congr fun c hc => ?_
  have hm := coins_mem F 0 c hc
  rw [Nat.sub_zero, h.val _ (by omega), lenA, Int.toNat_of_nonneg (finLen_nonneg _ _)]
theorem lens_le {F L : List Int} {S : List Coin} (h : LensOk F L S) (h3 : F.length ≤ 300) : ∀ v ∈ L, 0 ≤ v ∧ v ≤ 15 := by
  intro v hv
  obtain ⟨x, hx, rfl⟩ := List.getElem_of_mem hv
  have hxF : x < F.length := by rw [← h.len]; exact hx
  have e := h.val x hxF
  rw [List.getD_eq_getElem?_getD, List.getElem?_eq_getElem hx] at e
  simp only [Option.getD_some] at e
  rw [e]
  refine ⟨finLen_nonneg _ _, ?_⟩
  have hS : S.length ≤ 300 := by rw [h.perm.length_eq]; have := coins_len 0 F; omega
  rcases S with _ | ⟨s, _ | ⟨b, R⟩⟩
  · simp [finLen]
  · rw [finLen]; split <;> omega
  · rw [finLen_many (by simp)]
    have := lenOf_le h.good hS (x : Int) (by omega)
    omega
theorem S_len {F L : List Int} {S : List Coin} (h : LensOk F L S) (h3 : F.length ≤ 300) : S.length ≤ 300 := by
  rw [h.perm.length_eq]; have := coins_len 0 F; omega
theorem cost_val {F L : List Int} {S : List Coin} (h : LensOk F L S) (h3 : F.length ≤ 300) (hF : allOk F) : costW 0 F L = costP F L ∧ 0 ≤ costP F L ∧ costP F L ≤ 4831838208000 := by
  have hL := lens_le h h3
  have h1 := costP_nonneg F L (fun v hv => (hF v hv).1) (fun v hv => (hL v hv).1)
  have h2 := costP_le 1073741824 (by omega) F L hF hL
  have h4 : costP F L ≤ 4831838208000 := by omega
  refine ⟨?_, h1, h4⟩
  rw [costW_eq F L 0 (by omega) (fun v hv => (hF v hv).1) (fun v hv => (hL v hv).1) (by omega)]
  omega
theorem coins_scale (k : Int) (hk : 1 ≤ k) : ∀ (F : List Int) (i : Nat), coinsFrom i (F.map (· * k)) = (coinsFrom i F).map fun c => (c.1 * k, c.2)
  | [], i => rfl
  | f :: F, i => by
    rw [List.map_cons, coinsFrom, coinsFrom, coins_scale k hk F]
    by_cases h : 0 < f
    · rw [if_pos h, if_pos (Int.mul_pos h (by omega))]
      rfl
    · rw [if_neg h, if_neg]
      have := Int.mul_le_mul_of_nonneg_right (show f ≤ 0 by omega) (show 0 ≤ k by omega)
      omega
theorem sm_map (g : Coin → Int) (f : Coin → Coin) (A : List Coin) : sm g (A.map f) = sm (fun c => g (f c)) A := by
  induction A with
  | nil => rfl
  | cons a A ih => simp only [List.map_cons, sm, ih]
/-- frequencies that are all k times as great -/
theorem scale_cost {F L M : List Int} {S T : List Coin} {k : Int} (hk : 1 ≤ k) (h : LensOk F L S) (h' : LensOk (F.map (· * k)) M T) (h3 : F.length ≤ 300) (hF : ∀ v ∈ F, 0 ≤ v) : costP F L * k = costP (F.map (· * k)) M := by
  have hG : ∀ v ∈ F.map (· * k), 0 ≤ v := fun v hv => by
    obtain ⟨a, ha, rfl⟩ := List.mem_map.1 hv
    exact Int.mul_nonneg (hF a ha) (by omega)
  have O := (optA h.good (S_len h h3)).perm h.perm
  have O' := (optA h'.good (S_len h' (by simpa using h3))).perm h'.perm
  rw [cost_of h hF, cost_of h' hG]
  rw [coins_scale k hk] at O' ⊢
  rw [sm_map]
  have e : ∀ m : Int → Nat, sm (fun c => (c.1 * k) * ((m c.2 : Nat) : Int)) (coinsFrom 0 F) = k * sm (fun c => c.1 * ((m c.2 : Nat) : Int)) (coinsFrom 0 F) := fun m => by
    rw [← sm_mul]
    exact sm_congr fun c _ => by rw [Int.mul_comm c.1 k, Int.mul_assoc]
  have a1 := O.opt (lenA T) (fun s hs => O'.ok (s.1 * k, s.2) (List.mem_map.2 ⟨s, hs, rfl⟩)) (by have := O'.kraft; rw [sm_map] at this; exact this)
  have a2 := O'.opt (lenA S) (fun s hs => by obtain ⟨c, hc, rfl⟩ := List.mem_map.1 hs; exact O.ok c hc) (by rw [sm_map]; exact O.kraft)
  rw [sm_map, sm_map] at a2
  simp only at a2 ⊢
  rw [e, e] at a2
  rw [e, Int.mul_comm]
  have a3 := Int.mul_le_mul_of_nonneg_left a1 (show 0 ≤ k by omega)
  omega
theorem coins_more (x : Int) : ∀ (F : List Int) (i : Nat), coinsFrom i (F ++ [x]) = coinsFrom i F ++ coinsFrom (i + F.length) [x]
  | [], i => by simp [coinsFrom]
  | f :: F, i => by
    rw [List.cons_append, coinsFrom, coinsFrom, coins_more x F (i + 1), List.length_cons, show i + 1 + F.length = i + (F.length + 1) by omega]
    split <;> rfl
/-- one symbol more -/
theorem more_cost {F L M : List Int} {S T : List Coin} {x : Int} (h : LensOk F L S) (h' : LensOk (F ++ [x]) M T) (h3 : F.length < 300) (hF : ∀ v ∈ F, 0 ≤ v) (hx : 0 ≤ x) : costP F L ≤ costP (F ++ [x]) M := by
  have hG : ∀ v ∈ F ++ [x], 0 ≤ v := fun v hv => by
    rcases List.mem_append.1 hv with hv | hv
    · exact hF v hv
    · simp at hv; omega
  have O := (optA h.good (S_len h (by omega))).perm h.perm
  have O' := (optA h'.good (S_len h' (by simp; omega))).perm h'.perm
  rw [cost_of h hF, cost_of h' hG]
  rw [coins_more] at O' ⊢
  rw [sm_append]
  have p1 : 0 ≤ sm (fun s => s.1 * ((lenA T s.2 : Nat) : Int)) (coinsFrom (0 + F.length) [x]) := sm_nonneg fun c hc => Int.mul_nonneg (by have := (coins_mem [x] _ c hc).1; omega) (by omega)
  have p2 : 0 ≤ sm (fun s => ((2 ^ (15 - lenA T s.2) : Nat) : Int)) (coinsFrom (0 + F.length) [x]) := sm_nonneg fun c hc => Int.natCast_nonneg _
  have a1 := O.opt (lenA T) (fun s hs => O'.ok s (List.mem_append.2 (.inl hs))) (by have := O'.kraft; rw [sm_append] at this; omega)
  omega
end Pl
end Go.Proofs.Ytnoleijdpilnpaa
