/- The parts of a text as they are laid, step by step, plain: no program. -/
import Derived.Test.YtklpmpniempmcaaSaD
namespace Go.Proofs.Ytklpmpniempmcaa.Pl
theorem set_getB (O : List Bool) (q p : Nat) (v : Bool) : (O.set q v).getD p false = if p = q ∧ q < O.length then v else O.getD p false := by
  by_cases h : p = q
  · subst h
    by_cases h2 : p < O.length
    · simp [List.getD, h2]
    · simp [List.getD, h2]
  · simp [List.getD, h, List.getElem?_set_ne (Ne.symm h)]
/-- rises at the places from a on are laid -/
def RisInv (T : List Nat) (R : List Bool) (a : Nat) : Prop := R.length = T.length ∧ ∀ i, a ≤ i → i < T.length → R.getD i false = ris T i
theorem ris_start (T : List Nat) (a : Nat) (ha : T.length ≤ a + 1) : RisInv T (List.replicate T.length false) a :=
  ⟨by simp, fun i h1 h2 => by rw [ris_last (by omega)]; simp [List.getD, h2]⟩
theorem ris_put {T : List Nat} {R : List Bool} {a : Nat} (h : RisInv T R (a + 1)) (ha : a + 1 < T.length) : RisInv T (R.set a (ris T a)) a :=
  ⟨by rw [List.length_set]; exact h.1, fun i h1 h2 => by
    rw [set_getB, h.1]
    by_cases e : i = a
    · subst e; rw [if_pos ⟨rfl, h2⟩]
    · rw [if_neg (fun x => e x.1)]; exact h.2 i (by omega) h2⟩
/-- how many of the first i letters are l -/
def occ (T : List Nat) (l : Nat) : Nat → Nat
  | 0 => 0
  | i + 1 => occ T l i + (if T.getD i 0 = l then 1 else 0)
/-- the first i letters are counted, each one place behind its own -/
def CntInv (T : List Nat) (K : Nat) (S : List Int) (i : Nat) : Prop := S.length = K + 1 ∧ S.getD 0 0 = 0 ∧ ∀ l, l < K → S.getD (l + 1) 0 = (occ T l i : Int)
theorem cnt_start (T : List Nat) (K : Nat) : CntInv T K (List.replicate (K + 1) 0) 0 :=
  ⟨by simp, by simp [List.getD], fun l hl => by simp [List.getD, hl, occ]⟩
theorem cnt_put {T : List Nat} {K i : Nat} {S : List Int} (h : CntInv T K S i) (hK : T.getD i 0 < K) : CntInv T K (S.set (T.getD i 0 + 1) (S.getD (T.getD i 0 + 1) 0 + 1)) (i + 1) := by
  obtain ⟨h1, h2, h3⟩ := h
  refine ⟨by rw [List.length_set]; exact h1, by rw [set_getD, if_neg (by omega)]; exact h2, fun l hl => ?_⟩
  rw [set_getD, h1]
  unfold occ
  by_cases e : T.getD i 0 = l
  · subst e
    rw [if_pos ⟨rfl, by omega⟩, h3 _ hK, if_pos rfl]; omega
  · rw [if_neg (fun x => e (by omega)), h3 l hl, if_neg e]; rfl
theorem occ_le (T : List Nat) (l i : Nat) : occ T l i ≤ i := by
  induction i with
  | zero => exact Nat.le_refl _
  | succ i ih => unfold occ; split <;> omega
theorem cnt_le' {T : List Nat} {K i l : Nat} {S : List Int} (h : CntInv T K S i) (hl : l < K + 1) : 0 ≤ S.getD l 0 ∧ S.getD l 0 ≤ i := by
  rcases l with _ | l
  · rw [h.2.1]; omega
  · rw [h.2.2 l (by omega)]; have := occ_le T l i; omega
theorem occ_cnt (T : List Nat) (l n : Nat) : occ T l n = cnt n fun j => T.getD j 0 == l := by
  induction n with
  | zero => rfl
  | succ n ih =>
    unfold occ cnt
    rw [ih]
    by_cases h : T.getD n 0 = l
    · show _ = _ + (T.getD n 0 == l).toNat
      rw [if_pos h, h]; simp
    · show _ = _ + (T.getD n 0 == l).toNat
      rw [if_neg h, beq_eq_false_iff_ne.2 h]; rfl
/-- starts are summed up to place k -/
def SumInv (T : List Nat) (K : Nat) (S : List Int) (k : Nat) : Prop := S.length = K + 1 ∧ (∀ l, l ≤ k → l < K + 1 → S.getD l 0 = (bst T l : Int)) ∧ ∀ l, k ≤ l → l < K → S.getD (l + 1) 0 = (occ T l T.length : Int)
theorem bst_zero (T : List Nat) : bst T 0 = 0 := cnt_zero fun i _ => by simp
theorem bst_occ (T : List Nat) (l : Nat) : bst T (l + 1) = bst T l + occ T l T.length := by
  rw [occ_cnt]
  exact cnt_or (fun i _ => by
    by_cases h : T.getD i 0 < l
    · simp only [h, decide_true, Bool.true_or, decide_eq_true_eq]; omega
    · by_cases h2 : T.getD i 0 = l
      · rw [h2]; simp
      · rw [decide_eq_false (by omega), decide_eq_false (by omega), beq_eq_false_iff_ne.2 h2]; rfl) (fun i _ h => by
    simp only [decide_eq_true_eq] at h
    exact beq_eq_false_iff_ne.2 (by omega))
theorem sum_start {T : List Nat} {K : Nat} {S : List Int} (h : CntInv T K S T.length) : SumInv T K S 0 :=
  ⟨h.1, fun l h1 h2 => by obtain rfl : l = 0 := by omega
                          rw [h.2.1, bst_zero]; rfl, fun l _ h2 => h.2.2 l h2⟩
theorem sum_put {T : List Nat} {K k : Nat} {S : List Int} (h : SumInv T K S k) (hk : k < K) : S.getD (k + 1) 0 + S.getD k 0 = (bst T (k + 1) : Int) ∧ SumInv T K (S.set (k + 1) (bst T (k + 1) : Int)) (k + 1) := by
  obtain ⟨h1, h2, h3⟩ := h
  refine ⟨by rw [h2 k (Nat.le_refl _) (by omega), h3 k (Nat.le_refl _) hk, bst_occ]; omega, by rw [List.length_set]; exact h1, fun l hl hl2 => ?_, fun l hl hl2 => ?_⟩
  · rw [set_getD, h1]
    by_cases e : l = k + 1
    · subst e; rw [if_pos ⟨rfl, by omega⟩]
    · rw [if_neg (fun x => e x.1)]; exact h2 l (by omega) hl2
  · rw [set_getD, if_neg (by omega)]
    exact h3 l (by omega) hl2
theorem list_ext {α : Type} {A B : List α} (d : α) (hl : A.length = B.length) (h : ∀ i, i < A.length → A.getD i d = B.getD i d) : A = B := by
  refine List.ext_getElem hl fun i h1 h2 => ?_
  have := h i h1
  rwa [getD_get A d h1, getD_get B d h2] at this
end Go.Proofs.Ytklpmpniempmcaa.Pl
