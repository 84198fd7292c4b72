/- Rows of weights, sorted: plain. -/
import Derived.Test.YtnoleijdpilnpaaLeaA
import Derived.Test.YtnoleijdpilnpaaPkgE
set_option linter.unusedSimpArgs false
set_option linter.unusedVariables false
namespace Go.Proofs.Ytnoleijdpilnpaa
namespace Pl
theorem sorted_unique : ∀ {A B : List Int}, A.Perm B → SrtI A → SrtI B → A = B
  | [], B, h, _, _ => by rw [List.nil_perm] at h; exact h.symm
  | a :: A, [], h, _, _ => by simp at h
  | a :: A, b :: B, h, ha, hb => by
    have pa := List.pairwise_cons.1 ha
    have pb := List.pairwise_cons.1 hb
    have e : a = b := by
      have h1 : a ∈ b :: B := h.mem_iff.1 (by simp)
      have h2 : b ∈ a :: A := h.mem_iff.2 (by simp)
      rcases List.mem_cons.1 h1 with h1 | h1
      · exact h1
      · rcases List.mem_cons.1 h2 with h2 | h2
        · exact h2.symm
        · exact Int.le_antisymm (pa.1 b h2) (pb.1 a h1)
    subst e
    rw [sorted_unique (List.Perm.cons_inv h) pa.2 pb.2]
theorem srt_map {S : List Coin} (h : Asc S) : SrtI (S.map Prod.fst) := List.pairwise_map.2 h
def posF (F : List Int) : List Int := F.filter (0 < ·)
theorem coins_fst : ∀ (F : List Int) (i : Nat), (coinsFrom i F).map Prod.fst = posF F
  | [], _ => rfl
  | f :: F, i => by
    rw [coinsFrom, posF]
    by_cases h : 0 < f
    · rw [if_pos h, List.filter_cons_of_pos (by simpa using h), List.map_cons, coins_fst F]
      rfl
    · rw [if_neg h, List.filter_cons_of_neg (by simpa using h), coins_fst F]
      rfl
theorem fst_of {F C : List Int} {S : List Coin} (hp : S.Perm (coinsFrom 0 F)) (ha : Asc S) (hC : C.Perm (posF F)) (hs : SrtI C) : C = S.map Prod.fst := by
  refine sorted_unique (hC.trans ?_) hs (srt_map ha)
  rw [← coins_fst F 0]
  exact (hp.map Prod.fst).symm
theorem posF_snoc {F : List Int} {i : Nat} (h : i < F.length) (h0 : 0 < F.getD i 0) : posF (F.take (i + 1)) = posF (F.take i) ++ [F.getD i 0] := by
  rw [List.take_succ_eq_append_getElem h, posF, List.filter_append, posF]
  have e : F.getD i 0 = F[i] := by simp [List.getD, h]
  rw [e] at h0 ⊢
  simp [h0]
theorem posF_skip {F : List Int} {i : Nat} (h : i < F.length) (h0 : ¬ 0 < F.getD i 0) : posF (F.take (i + 1)) = posF (F.take i) := by
  rw [List.take_succ_eq_append_getElem h, posF, List.filter_append, posF]
  have e : F.getD i 0 = F[i] := by simp [List.getD, h]
  rw [e] at h0
  simp [h0]
/-- pairs of neighbours, of weights -/
def pairsI : List Int → List Int
  | a :: b :: r => (a + b) :: pairsI r
  | _ => []
theorem pairs_fst : ∀ B : List Coin, (pairsOf B).map Prod.fst = pairsI (B.map Prod.fst)
  | [] => rfl
  | [_] => rfl
  | a :: b :: r => by simp only [pairsOf, pairsI, List.map_cons, pairs_fst r]
theorem pairsI_step {L : List Int} {k : Nat} (h : k + 1 < L.length) : pairsI (L.drop k) = (L.getD k 0 + L.getD (k + 1) 0) :: pairsI (L.drop (k + 2)) := by
  rw [drop_cons (by omega), drop_cons (i := k + 1) h]; rfl
theorem pairsI_end {L : List Int} {k : Nat} (h : ¬ k + 1 < L.length) : pairsI (L.drop k) = [] := by
  have : (L.drop k).length ≤ 1 := by rw [List.length_drop]; omega
  match hB : L.drop k with
  | [] => rfl
  | [_] => rfl
  | _ :: _ :: _ => rw [hB] at this; simp at this
/-- a row is what is sorted of coins and pairs -/
theorem row_fst {S : List Coin} (ha : Asc S) {A : List Int} (k : Nat) (hA : A.Perm ((S.map Prod.fst) ++ (pairsOf (match k with | 0 => [] | k + 1 => rowC S k)).map Prod.fst)) (hs : SrtI A) : A = (rowC S k).map Prod.fst := by
  refine sorted_unique (hA.trans ?_) hs (srt_map (row_asc ha k))
  cases k with
  | zero => simp [pairsOf, rowC]
  | succ k =>
    rw [← List.map_append]
    exact ((merge_perm S (pairsOf (rowC S k))).map Prod.fst).symm
/-- the sum of the first ones -/
def sumI : List Int → Int
  | [] => 0
  | a :: L => a + sumI L
theorem sumI_snoc (L : List Int) (a : Int) : sumI (L ++ [a]) = sumI L + a := by
  induction L with
  | nil => simp [sumI]
  | cons b L ih => simp only [List.cons_append, sumI, ih]; omega
theorem sumI_fst (L : List Coin) : sumI (L.map Prod.fst) = wt L := by
  induction L with
  | nil => rfl
  | cons c L ih => rw [List.map_cons, sumI, ih]; rfl
def leastV (S : List Coin) : Int :=
  match S with
  | [] => 0
  | [s] => s.1
  | S => leastOf S
theorem leastV_many {S : List Coin} (h : 2 ≤ S.length) : leastV S = leastOf S := by
  rcases S with _ | ⟨a, _ | ⟨b, R⟩⟩
  · simp at h
  · simp at h
  · rw [leastV]
    all_goals (intros; first | (intro h; simp at h) | simp_all)
/-- what Of's lengths cost is the least -/
theorem cost_least {F L : List Int} {S : List Coin} (h : LensOk F L S) (hF : ∀ v ∈ F, 0 ≤ v) (h3 : F.length ≤ 300) : costP F L = leastV S := by
  have hS := S_len h h3
  rw [cost_of h hF, ← sm_perm h.perm]
  by_cases h2 : 2 ≤ S.length
  · rw [leastV_many h2, ← lenOf_cost h.good hS]
    exact sm_congr fun s hs => by rw [lenA_many h.good h2 hs]
  · have hg := h.good
    rcases S with _ | ⟨s, _ | ⟨b, R⟩⟩
    · rfl
    · have hs := hg.sym s (by simp)
      have h1 : lenA [s] s.2 = 1 := by
        rw [lenA, finLen, if_pos (by omega)]
        rfl
      simp only [sm, h1, leastV]
      omega
    · simp at h2
end Pl
end Go.Proofs.Ytnoleijdpilnpaa
