/- What the parity says of bad sectors and lost members: plain. -/
import Derived.Test.YtacgaflhcmflbaaParI
set_option linter.unusedSimpArgs false
set_option linter.unusedVariables false
namespace Go.Proofs.Ytacgaflhcmflbaa
open Go.RowKit Pl
namespace Pl
/-- the exclusive or of the first n -/
def xorR (f : Nat → Nat) : Nat → Nat
  | 0 => 0
  | n + 1 => xorR f n ^^^ f n
theorem xorR_congr {f g : Nat → Nat} : ∀ {n : Nat}, (∀ j, j < n → f j = g j) → xorR f n = xorR g n
  | 0, _ => rfl
  | n + 1, h => by
    simp only [xorR]
    rw [xorR_congr (fun j hj => h j (by omega)), h n (by omega)]
theorem xorA_take (L : List (List Nat)) (q : Nat) : ∀ i, i ≤ L.length → xorA (L.take i) q = xorR (fun j => (L.getD j []).getD q 0) i
  | 0, _ => by simp [xorA, xorR]
  | i + 1, h => by
    rw [xorA_step L i q (by omega), xorA_take L q i (by omega)]
    rfl
theorem xorA_R (L : List (List Nat)) (q : Nat) : xorA L q = xorR (fun j => (L.getD j []).getD q 0) L.length := by
  have := xorA_take L q L.length (Nat.le_refl _)
  rwa [List.take_length] at this
theorem xorA_wips (L : List (List Nat)) (E : List (List Bool)) (q : Nat) : ∀ n, xorA (wips L E n) q = xorR (fun j => (wip L E j).getD q 0) n
  | 0 => by simp [wips, xorA, xorR]
  | n + 1 => by
    have ih := xorA_wips L E q n
    unfold wips at ih ⊢
    rw [List.range_succ, List.map_append, xorA_append, ih]
    simp [xorA, xorR]
theorem xorR_one {f g : Nat → Nat} {i : Nat} (hg : g i = 0) (h : ∀ j, j ≠ i → f j = g j) : ∀ {n : Nat}, i < n → xorR f n ^^^ xorR g n = f i
  | 0, hi => by omega
  | n + 1, hi => by
    simp only [xorR]
    by_cases hin : n = i
    · subst hin
      rw [hg, xorR_congr (fun j hj => h j (by omega)), Nat.xor_zero, Nat.xor_comm (xorR g n), Nat.xor_assoc, Nat.xor_self, Nat.xor_zero]
    · have ih := xorR_one hg h (n := n) (by omega)
      rw [h n hin, ← Nat.xor_assoc, Nat.xor_assoc (xorR f n), Nat.xor_comm (g n), ← Nat.xor_assoc, Nat.xor_assoc, Nat.xor_self, Nat.xor_zero]
      exact ih
theorem rc_of {L : List (List Nat)} {E : List (List Bool)} {i q : Nat} (hq : q < (L.getD i []).length) : rc L E i (q / 64) = bd E i (q / 64) := by
  unfold rc
  rw [decide_eq_true (by omega), Bool.and_true]
theorem wip_get (L : List (List Nat)) (E : List (List Bool)) (i q : Nat) : (wip L E i).getD q 0 = if bd E i (q / 64) = true then 0 else (L.getD i []).getD q 0 := by
  unfold wip
  by_cases h : q < (L.getD i []).length
  · rw [rng_get _ _ h]
  · rw [rng_out _ _ (by omega), List.getD_eq_getElem?_getD, List.getElem?_eq_none (by omega)]
    simp
/-- with the members' parity, what is bad is made again -/
theorem sec_parity {L L0 : List (List Nat)} {E : List (List Bool)} (hl : L.length = L0.length) (hlen : ∀ i, (L.getD i []).length = (L0.getD i []).length) (hg : ∀ i q, bd E i (q / 64) = false → (L.getD i []).getD q 0 = (L0.getD i []).getD q 0) (ha : Apart L E) : secL L E (parP L0) = L0 := by
  apply List.ext_getElem?
  intro i
  by_cases hi : i < L.length
  · rw [secL_get hi, List.getElem?_eq_getElem (by omega)]
    have e0 : L0[i]'(by omega) = L0.getD i [] := by rw [List.getD_eq_getElem?_getD, List.getElem?_eq_getElem (by omega)]; rfl
    rw [e0]
    congr 1
    refine (rng_eq' (hlen i).symm fun q hq => ?_).symm
    split
    · rename_i hb
      unfold lef
      rw [parP_get, xorA_R, xorA_wips, ← hl]
      symm
      refine xorR_one (f := fun j => (L0.getD j []).getD q 0) (g := fun j => (wip L E j).getD q 0) (i := i) ?_ (fun j hj => ?_) hi
      · show (wip L E i).getD q 0 = 0
        rw [wip_get, if_pos hb]
      · show (L0.getD j []).getD q 0 = (wip L E j).getD q 0
        rw [wip_get]
        by_cases hqj : q < (L.getD j []).length
        · have hbj : bd E j (q / 64) = false := by
            by_cases hjl : j < L.length
            · rcases Nat.lt_or_gt_of_ne hj with h | h
              · have := (ha i (q / 64) hi (by rw [rc_of hq]; exact hb)).2 j h
                rwa [rc_of hqj] at this
              · cases hx : bd E j (q / 64) with
                | false => rfl
                | true =>
                  have := (ha j (q / 64) hjl (by rw [rc_of hqj]; exact hx)).2 i h
                  rw [rc_of hq, hb] at this
                  cases this
            · rw [List.getD_eq_getElem?_getD, List.getElem?_eq_none (by omega)] at hqj
              simp at hqj
          rw [hbj]
          exact (hg j q hbj).symm
        · have h1 : (L.getD j []).getD q 0 = 0 := by rw [List.getD_eq_getElem?_getD, List.getElem?_eq_none (by omega)]; rfl
          have h2 : (L0.getD j []).getD q 0 = 0 := by rw [List.getD_eq_getElem?_getD, List.getElem?_eq_none (by rw [← hlen]; omega)]; rfl
          rw [h1, h2]
          split <;> rfl
    · rename_i hb
      exact (hg i q (by simpa using hb)).symm
  · rw [List.getElem?_eq_none (by rw [secL_length]; omega), List.getElem?_eq_none (by omega)]
theorem nils_bd (n i s : Nat) : bd (nils n) i s = false := by
  unfold bd nils
  have : ((List.replicate n ([] : List Bool)).getD i []) = [] := by
    rw [List.getD_eq_getElem?_getD, List.getElem?_replicate]
    split <;> rfl
  rw [this]; rfl
theorem apart_nils (L : List (List Nat)) (n : Nat) : Apart L (nils n) := fun i s _ h => by
  unfold rc at h
  rw [nils_bd] at h
  simp at h
theorem set_bd {n k t : Nat} (hk : k < n) (i s : Nat) : bd ((nils n).set k (List.replicate t true)) i s = (decide (i = k) && decide (s < t)) := by
  by_cases hi : i = k
  · subst hi
    unfold bd nils
    have : (((List.replicate n ([] : List Bool)).set i (List.replicate t true)).getD i []) = List.replicate t true := by
      rw [List.getD_eq_getElem?_getD, List.getElem?_set_self (by simp; exact hk)]; rfl
    rw [this, List.getD_eq_getElem?_getD, List.getElem?_replicate]
    by_cases hs : s < t
    · simp [hs]
    · simp [hs]
  · have h0 : bd ((nils n).set k (List.replicate t true)) i s = bd (nils n) i s := by
      have e : ((nils n).set k (List.replicate t true)).getD i [] = (nils n).getD i [] := by rw [List.getD_eq_getElem?_getD, List.getElem?_set_ne (Ne.symm hi), ← List.getD_eq_getElem?_getD]
      unfold bd
      rw [e]
    rw [h0, nils_bd, decide_eq_false hi, Bool.false_and]
theorem apart_set (L : List (List Nat)) {k t : Nat} (hk : k < L.length) : Apart L ((nils (L.length + 1)).set k (List.replicate t true)) := fun i s hi h => by
  unfold rc at h
  rw [set_bd (by omega)] at h
  simp only [Bool.and_eq_true, decide_eq_true_eq] at h
  obtain ⟨⟨rfl, _⟩, _⟩ := h
  refine ⟨?_, fun j hj => ?_⟩
  · rw [set_bd (by omega), decide_eq_false (by omega), Bool.false_and]
  · unfold rc
    rw [set_bd (by omega), decide_eq_false (by omega), Bool.false_and, Bool.false_and]
/-- the sizes -/
def lens (L : List (List Nat)) : List Int := L.map fun B => ((B.length : Nat) : Int)
theorem lens_length (L : List (List Nat)) : (lens L).length = L.length := by simp [lens]
theorem lens_get (L : List (List Nat)) (i : Nat) : (lens L).getD i 0 = ((L.getD i []).length : Nat) := by
  by_cases h : i < L.length
  · simp [lens, List.getD, h]
  · rw [List.getD_eq_getElem?_getD, List.getElem?_eq_none (by rw [lens_length]; omega), List.getD_eq_getElem?_getD (l := L), List.getElem?_eq_none (by omega)]
    rfl
theorem mxL_lens {L L0 : List (List Nat)} (hl : L.length = L0.length) (h : ∀ i, (L.getD i []).length = (L0.getD i []).length) : mxL L = mxL L0 := by
  apply Nat.le_antisymm
  · refine mxL_le fun B hB => ?_
    obtain ⟨i, hi, rfl⟩ := List.getElem_of_mem hB
    have := h i
    rw [List.getD_eq_getElem?_getD, List.getElem?_eq_getElem hi] at this
    have h2 := mxL_at (L := L0) (i := i) (by omega)
    simp only [Option.getD_some] at this
    omega
  · refine mxL_le fun B hB => ?_
    obtain ⟨i, hi, rfl⟩ := List.getElem_of_mem hB
    have := h i
    rw [List.getD_eq_getElem?_getD (l := L0), List.getElem?_eq_getElem hi] at this
    have h2 := mxL_at (L := L) (i := i) (by omega)
    simp only [Option.getD_some] at this
    omega
theorem par_turn (A B : List (List Nat)) : parP (B ++ A) = parP (A ++ B) := by
  unfold parP
  rw [mxL_append, mxL_append, Nat.max_comm]
  exact rng_congr fun k _ => by rw [xorA_append, xorA_append, Nat.xor_comm]
theorem par_twice (L : List (List Nat)) : parP (L ++ [parP L]) = List.replicate (mxL L) 0 := by
  have hm : mxL (L ++ [parP L]) = mxL L := by
    rw [mxL_append]
    simp only [mxL, parP_length]
    omega
  unfold parP at hm ⊢
  rw [hm, ← rng_zero]
  refine rng_congr fun k hk => ?_
  rw [xorA_append]
  have := parP_get L k
  unfold parP at this
  simp only [xorA, this, Nat.xor_zero, Nat.xor_self]
end Pl
theorem fitOk_lens {L L0 : List (List Nat)} (hl : L.length = L0.length) (h : ∀ i, (L.getD i []).length = (L0.getD i []).length) : FitOk L (parP L0).length (lens L0) :=
  ⟨by rw [lens_length, hl], fun i hi => by rw [lens_get, h], by rw [parP_length, mxL_lens hl h]⟩
/-- what Repair answers where the parity is the members', and at most one is lost -/
theorem repair_same {X L0 : List (List Nat)} {D : List Bool} {w w' : World} {e : Ending} (hl : X.length = L0.length) (hD : D.length = L0.length) (h1 : ∀ i j, D.getD i false = true → D.getD j false = true → i = j) (hX : ∀ i, D.getD i false = false → X.getD i [] = L0.getD i [])
    (h : RepaPost X (parP L0) (lens L0) D w e w') : Below w.heap.size w w' ∧ ∃ G, e = .returned (.tuple #[.slice (some ⟨G, 0, none⟩) L0.length L0.length, .bool true]) ∧ IsRows w' (.slice (some ⟨G, 0, none⟩) L0.length L0.length) L0 := by
  rcases h with ⟨_, _, hno, hs⟩ | ⟨_, _, k, z, ⟨hk1, hk2, hk3⟩, hz, hzp, hs⟩ | ⟨hbad, _⟩
  · have hx : X = L0 := by
      apply List.ext_getElem?
      intro i
      by_cases hi : i < X.length
      · have := hX i (hno i)
        rw [List.getD_eq_getElem?_getD, List.getD_eq_getElem?_getD, List.getElem?_eq_getElem hi, List.getElem?_eq_getElem (by omega)] at this
        rw [List.getElem?_eq_getElem hi, List.getElem?_eq_getElem (by omega)]
        exact congrArg some this
      · rw [List.getElem?_eq_none (by omega), List.getElem?_eq_none (by omega)]
    subst hx
    have hok : SecOk X (parP X).length (lens X) (nils (X.length + 1)) := ⟨by simp [nils], fitOk_lens rfl (fun _ => rfl), apart_nils _ _⟩
    obtain ⟨hb, ⟨_, G, rfl, hr⟩ | ⟨hno2, _⟩⟩ := hs
    · rw [sec_parity rfl (fun _ => rfl) (fun _ _ _ => rfl) (apart_nils _ _)] at hr
      exact ⟨hb, G, rfl, hr⟩
    · exact absurd hok hno2
  · have hkl : k < X.length := by omega
    rw [lens_get] at hz
    have hzz : z = (L0.getD k []).length := by omega
    have hset : ∀ i, (X.set k (List.replicate z 0)).getD i [] = if i = k then List.replicate z 0 else L0.getD i [] := fun i => by
      by_cases hi : i = k
      · subst hi
        rw [if_pos rfl, List.getD_eq_getElem?_getD, List.getElem?_set_self hkl]; rfl
      · rw [if_neg hi, List.getD_eq_getElem?_getD, List.getElem?_set_ne (Ne.symm hi), ← List.getD_eq_getElem?_getD, hX i (hk3 i hi)]
    have hlen : ∀ i, ((X.set k (List.replicate z 0)).getD i []).length = (L0.getD i []).length := fun i => by
      rw [hset]
      split
      · rename_i h; subst h; simp [hzz]
      · rfl
    have hll : (X.set k (List.replicate z 0)).length = L0.length := by rw [List.length_set, hl]
    have hap : Apart (X.set k (List.replicate z 0)) ((nils (X.length + 1)).set k (List.replicate ((z + 63) / 64) true)) := by
      have := apart_set (X.set k (List.replicate z 0)) (k := k) (t := (z + 63) / 64) (by rw [List.length_set]; exact hkl)
      rwa [List.length_set] at this
    have hok : SecOk (X.set k (List.replicate z 0)) (parP L0).length (lens L0) ((nils (X.length + 1)).set k (List.replicate ((z + 63) / 64) true)) := ⟨by simp [nils], fitOk_lens hll hlen, hap⟩
    obtain ⟨hb, ⟨_, G, rfl, hr⟩ | ⟨hno2, _⟩⟩ := hs
    · rw [hll] at hr ⊢
      rw [sec_parity hll hlen (fun i q hbd => ?_) hap] at hr
      · exact ⟨hb, G, rfl, hr⟩
      · rw [set_bd (by omega)] at hbd
        rw [hset]
        split
        · rename_i h
          subst h
          simp only [decide_true, Bool.true_and, decide_eq_false_iff_not] at hbd
          rw [List.getD_eq_getElem?_getD, List.getElem?_eq_none (by simp; omega), List.getD_eq_getElem?_getD, List.getElem?_eq_none (by omega)]
        · rfl
    · exact absurd hok hno2
  · exfalso
    rcases hbad with h | h | ⟨i, j, hij, hi, hj⟩ | ⟨k, hk, h | h⟩
    · rw [lens_length] at h; omega
    · omega
    · exact hij (h1 i j hi hj)
    · rw [lens_get] at h; omega
    · rw [lens_get, parP_length] at h
      have hkl : k < L0.length := by
        apply Classical.byContradiction
        intro hn
        rw [getD_outB (by omega)] at hk
        cases hk
      have := mxL_at hkl
      omega
end Go.Proofs.Ytacgaflhcmflbaa
