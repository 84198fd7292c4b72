/- Lengths out of coins that were spent: what they cost, what they are worth, and that nothing costs less: plain. -/
import Derived.Test.YtnoleijdpilnpaaPkgA
set_option linter.unusedSimpArgs false
set_option linter.unusedVariables false
namespace Go.Proofs.Ytnoleijdpilnpaa
namespace Pl
def cntS (x : Int) : List Coin → Nat
  | [] => 0
  | c :: L => (if c.2 = x then 1 else 0) + cntS x L
theorem cntS_append (x : Int) (A B : List Coin) : cntS x (A ++ B) = cntS x A + cntS x B := by
  induction A with
  | nil => simp [cntS]
  | cons a A ih => simp only [List.cons_append, cntS, ih]; omega
theorem cntS_perm {x : Int} {A B : List Coin} (h : A.Perm B) : cntS x A = cntS x B := by
  induction h with
  | nil => rfl
  | cons x _ ih => simp only [cntS, ih]
  | swap x y l => simp only [cntS]; omega
  | trans _ _ h1 h2 => rw [h1, h2]
theorem cntS_none {x : Int} {L : List Coin} (h : ∀ c ∈ L, c.2 ≠ x) : cntS x L = 0 := by
  induction L with
  | nil => rfl
  | cons a L ih => simp only [cntS]; rw [if_neg (h a (by simp)), ih fun c hc => h c (by simp [hc])]
theorem cntS_all {x : Int} {L : List Coin} (h : ∀ c ∈ L, c.2 = x) : cntS x L = L.length := by
  induction L with
  | nil => rfl
  | cons a L ih => simp only [cntS, List.length_cons]; rw [if_pos (h a (by simp)), ih fun c hc => h c (by simp [hc])]; omega
/-- what the first c coins of row k come to: for each symbol how often -/
def lenK (S : List Coin) : Nat → Nat → Int → Nat
  | 0, c, x => cntS x (S.take c)
  | k + 1, c, x => cntS x ((rowC S (k + 1)).take c) + lenK S k (2 * cntS (-1) ((rowC S (k + 1)).take c)) x
/-- .. and what they are worth -/
def worK (S : List Coin) : Nat → Nat → Int → Nat
  | 0, c, x => cntS x (S.take c)
  | k + 1, c, x => 2 ^ (k + 1) * cntS x ((rowC S (k + 1)).take c) + worK S k (2 * cntS (-1) ((rowC S (k + 1)).take c)) x
structure Good (S : List Coin) : Prop where
  asc : Asc S
  pos : Pos S
  sym : ∀ c ∈ S, 0 ≤ c.2
  nodup : S.Pairwise fun a b => a.2 ≠ b.2
theorem take_parts {S : List Coin} (G : Good S) (k c : Nat) (hc : c ≤ (rowC S (k + 1)).length) : ∃ s p, s + p = c ∧ s ≤ S.length ∧ 2 * p ≤ (rowC S k).length ∧ cntS (-1) ((rowC S (k + 1)).take c) = p ∧
    (∀ x, 0 ≤ x → cntS x ((rowC S (k + 1)).take c) = cntS x (S.take s)) ∧ wt ((rowC S (k + 1)).take c) = wt (S.take s) + wt ((rowC S k).take (2 * p)) := by
  rw [rowC, merge_length] at hc
  obtain ⟨s, p, h1, h2, h3, h4⟩ := merge_take S (pairsOf (rowC S k)) c hc
  have h5 : 2 * p ≤ (rowC S k).length := by rw [pairs_length] at h3; omega
  have hall : ∀ q ∈ (pairsOf (rowC S k)).take p, q.2 = -1 := fun q hq => pairs_sym _ q (List.mem_of_mem_take hq)
  refine ⟨s, p, h1, h2, h5, ?_, fun x hx => ?_, ?_⟩
  · rw [rowC, cntS_perm h4, cntS_append, cntS_none fun q hq => by have := G.sym q (List.mem_of_mem_take hq); omega, cntS_all hall, List.length_take]
    omega
  · rw [rowC, cntS_perm h4, cntS_append, cntS_none (L := (pairsOf (rowC S k)).take p) fun q hq => by have := hall q hq; omega]
    rfl
  · rw [rowC]
    show sm _ _ = _
    rw [sm_perm h4, sm_append]
    show wt _ + wt _ = _
    rw [pairs_wt _ _ h3]
theorem sm_cnt (g : Coin → Int) : ∀ (S : List Coin), (S.Pairwise fun a b => a.2 ≠ b.2) → ∀ i, sm (fun c => g c * cntS c.2 (S.take i)) S = sm g (S.take i)
  | [], _, i => by simp [sm]
  | s :: S, h, 0 => by
    have : sm (fun c => g c * (cntS c.2 ((s :: S).take 0) : Nat)) (s :: S) = sm (fun _ => 0) (s :: S) := sm_congr fun c _ => by simp [cntS]
    rw [this, sm_const]; simp [sm]
  | s :: S, h, i + 1 => by
    have hp := List.pairwise_cons.1 h
    simp only [List.take_succ_cons, sm]
    have h1 : cntS s.2 (S.take i) = 0 := cntS_none fun c hc => Ne.symm (hp.1 c (List.mem_of_mem_take hc))
    have h2 : sm (fun c => g c * (cntS c.2 (s :: S.take i) : Nat)) S = sm (fun c => g c * (cntS c.2 (S.take i) : Nat)) S := sm_congr fun c hc => by
      simp only [cntS]; rw [if_neg (hp.1 c hc)]; simp
    rw [h2, sm_cnt g S hp.2 i]
    simp only [cntS]
    rw [if_pos trivial, h1]
    simp
theorem cost_row {S : List Coin} (G : Good S) : ∀ k c, c ≤ (rowC S k).length → sm (fun s => s.1 * lenK S k c s.2) S = wt ((rowC S k).take c)
  | 0, c, _ => sm_cnt Prod.fst S G.nodup c
  | k + 1, c, hc => by
    obtain ⟨s, p, h1, h2, h3, h4, h5, h6⟩ := take_parts G k c hc
    rw [h6, ← cost_row G k (2 * p) h3]
    show _ = sm Prod.fst (S.take s) + _
    rw [← sm_cnt Prod.fst S G.nodup s, ← sm_add]
    refine sm_congr fun x hx => ?_
    simp only [lenK, h4]
    rw [h5 x.2 (G.sym x hx)]
    push_cast
    rw [Int.mul_add]
theorem worth_row {S : List Coin} (G : Good S) : ∀ k c, c ≤ (rowC S k).length → sm (fun s => (worK S k c s.2 : Nat)) S = c * 2 ^ k
  | 0, c, hc => by
    have h := sm_cnt (fun _ => 1) S G.nodup c
    have e : sm (fun s => ((worK S 0 c s.2 : Nat) : Int)) S = sm (fun s => 1 * ((cntS s.2 (S.take c) : Nat) : Int)) S := sm_congr fun x _ => by simp [worK]
    rw [e, h, sm_const]
    simp only [rowC] at hc
    rw [List.length_take, Nat.min_eq_left hc]
    simp
  | k + 1, c, hc => by
    obtain ⟨s, p, h1, h2, h3, h4, h5, h6⟩ := take_parts G k c hc
    have e : sm (fun x => ((worK S (k + 1) c x.2 : Nat) : Int)) S = sm (fun x => (2 ^ (k + 1) : Int) * ((fun _ => (1 : Int)) x * ((cntS x.2 (S.take s) : Nat) : Int)) + ((worK S k (2 * p) x.2 : Nat) : Int)) S := sm_congr fun x hx => by
      simp only [worK, h4]
      rw [h5 x.2 (G.sym x hx)]
      push_cast
      rw [Int.one_mul]
    rw [e, sm_add, sm_mul, sm_cnt _ S G.nodup s, sm_const, worth_row G k (2 * p) h3, List.length_take, Nat.min_eq_left h2, ← h1, Int.pow_succ]
    push_cast
    rw [Int.one_mul, Int.add_mul, Int.mul_comm (2 ^ k * 2 : Int) (s : Int)]
    congr 1
    rw [Int.mul_comm 2 (p : Int), Int.mul_assoc, Int.mul_comm 2 (2 ^ k : Int)]
theorem cnt_one {S : List Coin} (h : S.Pairwise fun a b => a.2 ≠ b.2) (x : Int) : cntS x S ≤ 1 := by
  induction S with
  | nil => simp [cntS]
  | cons s S ih =>
    have hp := List.pairwise_cons.1 h
    simp only [cntS]
    by_cases e : s.2 = x
    · rw [if_pos e, cntS_none fun c hc => by rw [← e]; exact Ne.symm (hp.1 c hc)]
      omega
    · rw [if_neg e]; have := ih hp.2; omega
theorem wor_le {S : List Coin} (G : Good S) (x : Int) (hx : 0 ≤ x) : ∀ k c, c ≤ (rowC S k).length → lenK S k c x ≤ k + 1 ∧ worK S k c x + 2 ^ (k + 1 - lenK S k c x) ≤ 2 ^ (k + 1)
  | 0, c, _ => by
    have h := cnt_one (G.nodup.sublist (List.take_sublist c S)) x
    simp only [lenK, worK]
    generalize cntS x (S.take c) = a at *
    rcases (show a = 0 ∨ a = 1 by omega) with rfl | rfl <;> simp
  | k + 1, c, hc => by
    obtain ⟨s, p, h1, h2, h3, h4, h5, h6⟩ := take_parts G k c hc
    have h := cnt_one (G.nodup.sublist (List.take_sublist s S)) x
    obtain ⟨i1, i2⟩ := wor_le G x hx k (2 * p) h3
    simp only [lenK, worK, h4, h5 x hx]
    generalize cntS x (S.take s) = a at *
    generalize lenK S k (2 * p) x = L at *
    generalize worK S k (2 * p) x = W at *
    have e2 : 2 ^ (k + 1 + 1) = 2 * 2 ^ (k + 1) := by rw [Nat.pow_succ, Nat.mul_comm]
    rcases (show a = 0 ∨ a = 1 by omega) with rfl | rfl
    · have e : k + 1 + 1 - (0 + L) = (k + 1 - L) + 1 := by omega
      have hm : 2 ^ (k + 1 - L) ≤ 2 ^ (k + 1) := Nat.pow_le_pow_right (by omega) (by omega)
      rw [e, Nat.pow_succ, e2]
      refine ⟨by omega, ?_⟩
      rw [Nat.mul_zero]
      omega
    · have e : k + 1 + 1 - (1 + L) = k + 1 - L := by omega
      rw [e, e2, Nat.mul_one]
      exact ⟨by omega, by omega⟩
theorem sm_drop {g : Coin → Int} {M : Int} (hM : 0 ≤ M) {S : List Coin} {s0 : Coin} (h0 : s0 ∈ S) (h1 : g s0 ≤ 0) (h2 : ∀ c ∈ S, g c ≤ M) : sm g S ≤ M * ((S.length : Int) - 1) := by
  induction S with
  | nil => simp at h0
  | cons s S ih =>
    have e : M * (((s :: S).length : Nat) - 1 : Int) = M * S.length := by simp
    rw [e]
    simp only [sm]
    rcases List.mem_cons.1 h0 with rfl | h0
    · have : sm g S ≤ sm (fun _ => M) S := sm_le fun c hc => h2 c (by simp [hc])
      rw [sm_const] at this
      omega
    · have h3 := ih h0 fun c hc => h2 c (by simp [hc])
      have h4 := h2 s (by simp)
      rw [Int.mul_sub, Int.mul_one] at h3
      omega
/-- the lengths -/
def lenOf (S : List Coin) (x : Int) : Nat := lenK S 14 (2 * S.length - 2) x
/-- the least cost -/
def leastOf (S : List Coin) : Int := wt ((rowC S 14).take (2 * S.length - 2))
theorem lenOf_cost {S : List Coin} (G : Good S) (h300 : S.length ≤ 300) : sm (fun s => s.1 * lenOf S s.2) S = leastOf S := cost_row G 14 _ (row_big h300)
theorem lenOf_le {S : List Coin} (G : Good S) (h300 : S.length ≤ 300) (x : Int) (hx : 0 ≤ x) : lenOf S x ≤ 15 := (wor_le G x hx 14 _ (row_big h300)).1
theorem lenOf_kraft {S : List Coin} (G : Good S) (h2 : 2 ≤ S.length) (h300 : S.length ≤ 300) : sm (fun s => ((2 ^ (15 - lenOf S s.2) : Nat) : Int)) S ≤ 32768 := by
  have h1 := worth_row G 14 _ (row_big h300)
  have h3 : sm (fun s => ((worK S 14 (2 * S.length - 2) s.2 : Nat) : Int) + ((2 ^ (15 - lenOf S s.2) : Nat) : Int)) S ≤ sm (fun _ => 32768) S := sm_le fun s hs => by
    have := (wor_le G s.2 (G.sym s hs) 14 _ (row_big h300)).2
    unfold lenOf
    simp only [Nat.reduceAdd] at this
    have e : (2 : Nat) ^ 15 = 32768 := by decide
    omega
  rw [sm_add, h1, sm_const] at h3
  have e : (((2 * S.length - 2 : Nat) : Int)) * 2 ^ 14 = 32768 * S.length - 32768 := by
    have e14 : (2 : Int) ^ 14 = 16384 := by decide
    rw [e14]; omega
  rw [e] at h3
  omega
theorem lenOf_pos {S : List Coin} (G : Good S) (h2 : 2 ≤ S.length) (h300 : S.length ≤ 300) {s : Coin} (hs : s ∈ S) : 1 ≤ lenOf S s.2 := by
  apply Classical.byContradiction
  intro hn
  have h0 : lenOf S s.2 = 0 := by omega
  have hb := fun c (hc : c ∈ S) => wor_le G c.2 (G.sym c hc) 14 _ (row_big h300)
  have hw : ((worK S 14 (2 * S.length - 2) s.2 : Nat) : Int) ≤ 0 := by
    have := (hb s hs).2
    unfold lenOf at h0
    rw [h0] at this
    simp only [Nat.reduceAdd, Nat.sub_zero] at this
    omega
  have h := sm_drop (g := fun c => ((worK S 14 (2 * S.length - 2) c.2 : Nat) : Int)) (M := 32767) (by omega) hs hw fun c hc => by
    have h1 := (hb c hc).2
    have h2 : 1 ≤ 2 ^ (14 + 1 - lenK S 14 (2 * S.length - 2) c.2) := Nat.one_le_two_pow
    have e : (2 : Nat) ^ (14 + 1) = 32768 := by decide
    omega
  rw [worth_row G 14 _ (row_big h300)] at h
  have e14 : (2 : Int) ^ 14 = 16384 := by decide
  rw [e14] at h
  omega
/-! nothing costs less -/
def vK : Nat → Nat → Nat
  | 0, m => if 15 ≤ m then 1 else 0
  | k + 1, m => 2 ^ (k + 1) * (if 15 ≤ m + (k + 1) then 1 else 0) + vK k m
def nK : Nat → Nat → Nat
  | 0, m => if 15 ≤ m then 1 else 0
  | k + 1, m => (if 15 ≤ m + (k + 1) then 1 else 0) + nK k m
theorem vK_all : ∀ m, m < 16 → vK 14 m + 2 ^ (15 - m) = 32768 := by decide
theorem nK_all : ∀ m, m < 16 → nK 14 m = m := by decide
theorem sub_least {X S : List Coin} (h : X.Sublist S) : Asc S → Pos S → wt (S.take X.length) ≤ wt X := by
  induction h with
  | slnil => intro _ _; exact Int.le_refl _
  | @cons X S s h ih =>
    intro ha hp
    have hc := List.pairwise_cons.1 ha
    have h1 := ih hc.2 hp.tail
    cases hX : X.length with
    | zero => rw [List.length_eq_zero_iff] at hX; subst hX; simp
    | succ n =>
      have hl := h.length_le
      have h2 := wt_first (x := s.1) (L := S) hc.1 n (by omega)
      rw [hX] at h1
      rw [List.take_succ_cons, wt_cons]
      omega
  | @cons_cons X S s h ih =>
    intro ha hp
    have hc := List.pairwise_cons.1 ha
    have := ih hc.2 hp.tail
    rw [List.length_cons, List.take_succ_cons, wt_cons, wt_cons]
    omega
theorem sm_pick (p : Coin → Bool) (g : Coin → Int) (S : List Coin) : sm (fun c => g c * (if p c then 1 else 0)) S = sm g (S.filter p) := by
  induction S with
  | nil => rfl
  | cons s S ih =>
    simp only [sm, ih]
    cases h : p s with
    | true => rw [List.filter_cons_of_pos h]; simp [sm]
    | false => rw [List.filter_cons_of_neg (by simp [h])]; simp
theorem opt_row {S : List Coin} (G : Good S) (m : Int → Nat) : ∀ (k q : Nat), (q : Int) * 2 ^ k ≤ sm (fun s => ((vK k (m s.2) : Nat) : Int)) S → q ≤ (rowC S k).length ∧ wt ((rowC S k).take q) ≤ sm (fun s => s.1 * ((nK k (m s.2) : Nat) : Int)) S
  | 0, q, h => by
    have e1 : sm (fun s => ((vK 0 (m s.2) : Nat) : Int)) S = sm (fun s => (1 : Int) * (if decide (15 ≤ m s.2) then 1 else 0)) S := sm_congr fun s _ => by by_cases c : 15 ≤ m s.2 <;> simp [vK, c]
    have e2 : sm (fun s => s.1 * ((nK 0 (m s.2) : Nat) : Int)) S = sm (fun s => s.1 * (if decide (15 ≤ m s.2) then 1 else 0)) S := sm_congr fun s _ => by by_cases c : 15 ≤ m s.2 <;> simp [nK, c]
    have f1 := sm_pick (fun s : Coin => decide (15 ≤ m s.2)) (fun _ => 1) S
    have f2 := sm_pick (fun s : Coin => decide (15 ≤ m s.2)) Prod.fst S
    rw [e1, f1, sm_const] at h
    rw [e2, f2]
    have hsub := List.filter_sublist (p := fun s : Coin => decide (15 ≤ m s.2)) (l := S)
    generalize S.filter (fun s : Coin => decide (15 ≤ m s.2)) = X at *
    have hl := hsub.length_le
    have hq : q ≤ X.length := by simp at h; omega
    refine ⟨by rw [rowC]; omega, ?_⟩
    rw [rowC, show S.take q = (S.take X.length).take q by rw [List.take_take, Nat.min_eq_left hq]]
    exact Int.le_trans (wt_take_le (G.pos.take _) _) (sub_least hsub G.asc G.pos)
  | k + 1, q, h => by
    have e1 : sm (fun s => ((vK (k + 1) (m s.2) : Nat) : Int)) S = sm (fun s => (2 ^ (k + 1) : Int) * ((1 : Int) * (if decide (15 ≤ m s.2 + (k + 1)) then 1 else 0)) + ((vK k (m s.2) : Nat) : Int)) S := sm_congr fun s _ => by
      simp only [vK]; push_cast; by_cases c : 15 ≤ m s.2 + (k + 1) <;> simp [c]
    have e2 : sm (fun s => s.1 * ((nK (k + 1) (m s.2) : Nat) : Int)) S = sm (fun s => s.1 * (if decide (15 ≤ m s.2 + (k + 1)) then 1 else 0) + s.1 * ((nK k (m s.2) : Nat) : Int)) S := sm_congr fun s _ => by
      simp only [nK]; push_cast; rw [← Int.mul_add]; by_cases c : 15 ≤ m s.2 + (k + 1) <;> simp [c]
    have f1 := sm_pick (fun s : Coin => decide (15 ≤ m s.2 + (k + 1))) (fun _ => 1) S
    have f2 := sm_pick (fun s : Coin => decide (15 ≤ m s.2 + (k + 1))) Prod.fst S
    rw [e1, sm_add, sm_mul, f1, sm_const] at h
    rw [e2, sm_add, f2]
    have hsub := List.filter_sublist (p := fun s : Coin => decide (15 ≤ m s.2 + (k + 1))) (l := S)
    generalize S.filter (fun s : Coin => decide (15 ≤ m s.2 + (k + 1))) = X at *
    have hl := hsub.length_le
    have hih := opt_row G m k (2 * (q - X.length)) (by
      by_cases c : q ≤ X.length
      · rw [Nat.sub_eq_zero_of_le c]
        have : 0 ≤ sm (fun s => ((vK k (m s.2) : Nat) : Int)) S := sm_nonneg fun s _ => by omega
        simpa using this
      · have e : (((2 * (q - X.length) : Nat)) : Int) * 2 ^ k = (q : Int) * 2 ^ (k + 1) - 2 ^ (k + 1) * (X.length : Int) := by
          rw [show (((2 * (q - X.length) : Nat)) : Int) = 2 * ((q : Int) - X.length) by omega, Int.pow_succ, Int.mul_comm ((2 : Int) ^ k * 2) (X.length : Int), ← Int.sub_mul, Int.mul_comm (2 ^ k) 2, ← Int.mul_assoc, Int.mul_comm 2]
        rw [e, Int.one_mul] at *
        omega)
    have hp : q - X.length ≤ (pairsOf (rowC S k)).length := by rw [pairs_length]; omega
    have hm := merge_least S (pairsOf (rowC S k)) G.asc (pairs_asc _ (row_asc G.asc k)) G.pos (pairs_pos (row_pos G.pos k)) X.length (q - X.length) q hl hp (by omega)
    rw [pairs_wt _ _ hp] at hm
    have hx := sub_least hsub G.asc G.pos
    have hx' : wt (S.take X.length) ≤ sm Prod.fst X := hx
    refine ⟨by rw [rowC, merge_length]; omega, ?_⟩
    rw [rowC]
    omega
theorem optimal {S : List Coin} (G : Good S) (m : Int → Nat) (h15 : ∀ s ∈ S, m s.2 ≤ 15) (hk : sm (fun s => ((2 ^ (15 - m s.2) : Nat) : Int)) S ≤ 32768) (h2 : 1 ≤ S.length) : leastOf S ≤ sm (fun s => s.1 * (m s.2 : Nat)) S := by
  have e1 : sm (fun s => ((vK 14 (m s.2) : Nat) : Int)) S + sm (fun s => ((2 ^ (15 - m s.2) : Nat) : Int)) S = 32768 * S.length := by
    rw [← sm_add, ← sm_const]
    refine sm_congr fun s hs => ?_
    have := vK_all (m s.2) (by have := h15 s hs; omega)
    omega
  have e2 : sm (fun s => s.1 * ((nK 14 (m s.2) : Nat) : Int)) S = sm (fun s => s.1 * (m s.2 : Nat)) S := sm_congr fun s hs => by
    rw [nK_all (m s.2) (by have := h15 s hs; omega)]
  rw [← e2]
  refine (opt_row G m 14 (2 * S.length - 2) ?_).2
  have e14 : (2 : Int) ^ 14 = 16384 := by decide
  rw [e14]
  omega
end Pl
end Go.Proofs.Ytnoleijdpilnpaa
