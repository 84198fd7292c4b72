/- Suffixes that rise or fall, cuts, and what stands from a place up to the next cut, plain: no program. -/
import Derived.Test.YtklpmpniempmcaaSufP
namespace Go.Proofs.Ytklpmpniempmcaa.Pl
/-- does the suffix at i stand ahead of the one a letter later? -/
def ris (T : List Nat) (i : Nat) : Bool := sufB T i (i + 1)
theorem ris_step {T : List Nat} {i : Nat} (h : i + 1 < T.length) : ris T i = (decide (T.getD i 0 < T.getD (i + 1) 0) || (decide (T.getD i 0 = T.getD (i + 1) 0) && ris T (i + 1))) := by
  unfold ris
  rcases Nat.lt_trichotomy (T.getD i 0) (T.getD (i + 1) 0) with h1 | h1 | h1
  · rw [suf_lt (by omega) h h1, decide_eq_true h1]; rfl
  · rw [suf_same (by omega) h h1, decide_eq_true h1, decide_eq_false (by omega)]; simp
  · rw [suf_gt (by omega) h h1, decide_eq_false (by omega), decide_eq_false (by omega)]; rfl
theorem ris_last {T : List Nat} {i : Nat} (h : T.length ≤ i + 1) : ris T i = false := suf_out h
theorem ris_in {T : List Nat} {i : Nat} (h : ris T i = true) : i + 1 < T.length := by
  apply Classical.byContradiction
  intro h2
  rw [ris_last (by omega)] at h
  simp at h
theorem ris_le {T : List Nat} {i : Nat} (h : ris T i = true) : T.getD i 0 ≤ T.getD (i + 1) 0 := by
  have := ris_in h
  exact suf_le (by omega) this h
theorem fall_le {T : List Nat} {i : Nat} (hi : i + 1 < T.length) (h : ris T i = false) : T.getD (i + 1) 0 ≤ T.getD i 0 := by
  apply Classical.byContradiction
  intro h2
  unfold ris at h
  rw [suf_lt (by omega) hi (by omega)] at h
  simp at h
theorem ris_eq {T : List Nat} {i : Nat} (hi : i + 1 < T.length) (h : T.getD i 0 = T.getD (i + 1) 0) : ris T i = ris T (i + 1) := suf_same (by omega) hi h
/-- a piece begins at i -/
def isc (T : List Nat) (i : Nat) : Bool := decide (0 < i) && ris T i && !ris T (i - 1)
theorem isc_parts {T : List Nat} {i : Nat} (h : isc T i = true) : 0 < i ∧ ris T i = true ∧ ris T (i - 1) = false ∧ i + 1 < T.length := by
  unfold isc at h
  simp only [Bool.and_eq_true, decide_eq_true_eq, Bool.not_eq_true'] at h
  exact ⟨h.1.1, h.1.2, h.2, ris_in h.1.2⟩
theorem isc_succ (T : List Nat) (i : Nat) : isc T (i + 1) = (ris T (i + 1) && !ris T i) := by
  unfold isc; simp
theorem isc_not {T : List Nat} {i : Nat} (h : ris T i = false) : isc T i = false := by unfold isc; rw [h]; simp
theorem isc_after {T : List Nat} {i : Nat} (h : ris T i = true) : isc T (i + 1) = false := by rw [isc_succ, h]; simp
theorem isc_gt {T : List Nat} {i : Nat} (h : isc T (i + 1) = true) : T.getD (i + 1) 0 < T.getD i 0 := by
  obtain ⟨_, h1, h2, h3⟩ := isc_parts h
  simp only [Nat.add_sub_cancel] at h2
  have h4 := fall_le (by omega) h2
  apply Classical.byContradiction
  intro h5
  rw [ris_eq (by omega) (by omega), h1] at h2
  simp at h2
/-- of one letter what falls stands ahead of what rises -/
theorem fall_rise (T : List Nat) : ∀ m i j, T.length - i = m → i < T.length → j < T.length → T.getD i 0 = T.getD j 0 → ris T i = false → ris T j = true → sufB T i j = true := by
  intro m
  induction m with
  | zero => intro i j h1 h2; omega
  | succ m ih =>
    intro i j hm hi hj he h1 h2
    have hj2 := ris_in h2
    have hj3 := ris_le h2
    rw [suf_same hi hj he]
    by_cases hi2 : i + 1 < T.length
    · have hi3 := fall_le hi2 h1
      by_cases hlt : T.getD (i + 1) 0 < T.getD (j + 1) 0
      · exact suf_lt hi2 hj2 hlt
      · refine ih (i + 1) (j + 1) (by omega) hi2 hj2 (by omega) ?_ ?_
        · rw [← ris_eq hi2 (by omega)]; exact h1
        · rw [← ris_eq hj2 (by omega)]; exact h2
    · exact suf_in (by omega) hj2
/-- a letter, and whether its suffix rises -/
def W (T : List Nat) (i : Nat) : Nat := 2 * T.getD i 0 + (ris T i).toNat + 1
theorem W_eq {T : List Nat} {i j : Nat} (h : W T i = W T j) : T.getD i 0 = T.getD j 0 ∧ ris T i = ris T j := by
  unfold W at h
  have h1 := Bool.toNat_le (ris T i)
  have h2 := Bool.toNat_le (ris T j)
  refine ⟨by omega, ?_⟩
  have h3 : (ris T i).toNat = (ris T j).toNat := by omega
  cases h4 : ris T i <;> cases h5 : ris T j <;> simp_all
theorem W_of {T : List Nat} {i j : Nat} (h : T.getD i 0 = T.getD j 0) (h2 : ris T i = ris T j) : W T i = W T j := by unfold W; rw [h, h2]
theorem W_lt {T : List Nat} {i j : Nat} (h : W T i < W T j) : T.getD i 0 < T.getD j 0 ∨ (T.getD i 0 = T.getD j 0 ∧ ris T i = false ∧ ris T j = true) := by
  unfold W at h
  have h1 := Bool.toNat_le (ris T i)
  have h2 := Bool.toNat_le (ris T j)
  by_cases h3 : T.getD i 0 < T.getD j 0
  · exact .inl h3
  · refine .inr ?_
    cases h4 : ris T i <;> cases h5 : ris T j <;> rw [h4, h5] at h <;> simp only [Bool.toNat_false, Bool.toNat_true] at h <;> first | exact ⟨by omega, rfl, rfl⟩ | (exfalso; omega)
theorem W_letter {T : List Nat} {i j : Nat} (h : T.getD i 0 < T.getD j 0) : W T i < W T j := by
  unfold W
  have h1 := Bool.toNat_le (ris T i)
  omega
theorem W_kind {T : List Nat} {i j : Nat} (h : T.getD i 0 = T.getD j 0) (h1 : ris T i = false) (h2 : ris T j = true) : W T i < W T j := by
  unfold W
  rw [h, h1, h2]
  simp
theorem suf_W {T : List Nat} {i j : Nat} (hi : i < T.length) (hj : j < T.length) (h : W T i < W T j) : sufB T i j = true := by
  rcases W_lt h with h | ⟨h1, h2, h3⟩
  · exact suf_lt hi hj h
  · exact fall_rise T _ i j rfl hi hj h1 h2 h3
theorem W_pos (T : List Nat) (i : Nat) : 0 < W T i := by unfold W; omega
/-! keys: the letters up to the next cut, and there whatever h tells of it -/
def kf (T : List Nat) (h : Nat → List Nat) : Nat → Nat → List Nat
  | 0, _ => [0]
  | m + 1, i => W T i :: (if isc T i then h i else kf T h m (i + 1))
def key (T : List Nat) (h : Nat → List Nat) (i : Nat) : List Nat := kf T h (T.length - i) i
def keyG (T : List Nat) (h : Nat → List Nat) (i : Nat) : List Nat := W T i :: key T h (i + 1)
theorem key_end {T : List Nat} {i : Nat} (h : Nat → List Nat) (hi : T.length ≤ i) : key T h i = [0] := by
  unfold key
  rw [Nat.sub_eq_zero_of_le hi]
  rfl
theorem key_in {T : List Nat} {i : Nat} (h : Nat → List Nat) (hi : i < T.length) : key T h i = W T i :: (if isc T i then h i else key T h (i + 1)) := by
  unfold key
  obtain ⟨m, hm⟩ : ∃ m, T.length - i = m + 1 := ⟨T.length - i - 1, by omega⟩
  rw [hm, show T.length - (i + 1) = m by omega]
  rfl
theorem key_no {T : List Nat} {i : Nat} (h : Nat → List Nat) (hi : i < T.length) (hc : isc T i = false) : key T h i = keyG T h i := by
  rw [key_in h hi, hc]; rfl
theorem lexB_pre (P A B : List Nat) : lexB (P ++ A) (P ++ B) = lexB A B := by
  induction P with
  | nil => rfl
  | cons p P ih => rw [List.cons_append, List.cons_append, lexB_same]; exact ih
/-- from i and from j the same letters come, up to a cut on either side -/
def Meet (T : List Nat) (i j d : Nat) : Prop := (∀ e, e ≤ d → W T (i + e) = W T (j + e)) ∧ isc T (i + d) = true ∧ isc T (j + d) = true ∧ ∀ e, e < d → isc T (i + e) = false ∧ isc T (j + e) = false
theorem meet_succ {T : List Nat} {i j d : Nat} (h0 : W T i = W T j) (h1 : isc T i = false) (h2 : isc T j = false) (h : Meet T (i + 1) (j + 1) d) : Meet T i j (d + 1) := by
  obtain ⟨a, b, c, e⟩ := h
  refine ⟨fun x hx => ?_, by rw [← b]; congr 1; omega, by rw [← c]; congr 1; omega, fun x hx => ?_⟩
  · rcases x with _ | x
    · exact h0
    · have := a x (by omega)
      rwa [show i + (x + 1) = i + 1 + x by omega, show j + (x + 1) = j + 1 + x by omega]
  · rcases x with _ | x
    · exact ⟨h1, h2⟩
    · have := e x (by omega)
      rwa [show i + (x + 1) = i + 1 + x by omega, show j + (x + 1) = j + 1 + x by omega]
def Met (T : List Nat) (i j d : Nat) : Prop := Meet T i j d ∧ (∃ P, ∀ h, key T h i = P ++ h (i + d) ∧ key T h j = P ++ h (j + d)) ∧ sufB T i j = sufB T (i + d) (j + d) ∧ sufB T j i = sufB T (j + d) (i + d)
theorem key_cmp (T : List Nat) : ∀ m i j, T.length - i = m → i ≤ T.length → j ≤ T.length → i ≠ j → (i < T.length → j < T.length → W T i = W T j → isc T i = isc T j) →
    (∃ d, Met T i j d) ∨ ((∀ h h', lexB (key T h i) (key T h' j) = true) ∧ sufB T i j = true) ∨ ((∀ h h', lexB (key T h' j) (key T h i) = true) ∧ sufB T j i = true) := by
  intro m
  induction m with
  | zero =>
    intro i j hm hi hj hne _
    refine .inr (.inl ⟨fun h h' => ?_, suf_in (by omega) (by omega)⟩)
    rw [key_end h (by omega), key_in h' (by omega)]
    exact lexB_lt (W_pos _ _) _ _
  | succ m ih =>
    intro i j hm hi hj hne hc
    have hi' : i < T.length := by omega
    by_cases hj' : j < T.length
    · rcases Nat.lt_trichotomy (W T i) (W T j) with hw | hw | hw
      · refine .inr (.inl ⟨fun h h' => ?_, suf_W hi' hj' hw⟩)
        rw [key_in h hi', key_in h' hj']
        exact lexB_lt hw _ _
      · obtain ⟨h1, h2⟩ := W_eq hw
        have hc' := hc hi' hj' hw
        cases hci : isc T i with
        | true =>
          rw [hci] at hc'
          refine .inl ⟨0, ⟨fun e he => by obtain rfl : e = 0 := by omega
                                          exact hw, hci, hc'.symm, fun e he => by omega⟩, ⟨[W T i], fun h => ?_⟩, rfl, rfl⟩
          rw [key_in h hi', key_in h hj', hci, ← hc', hw]
          simp
        | false =>
          rw [hci] at hc'
          have hs1 := suf_same hi' hj' h1
          have hs2 := suf_same hj' hi' h1.symm
          have hk : ∀ h, key T h i = W T i :: key T h (i + 1) := fun h => key_no h hi' hci
          have hk2 : ∀ h, key T h j = W T j :: key T h (j + 1) := fun h => key_no h hj' hc'.symm
          rcases ih (i + 1) (j + 1) (by omega) (by omega) (by omega) (by omega) (fun _ _ hw2 => by rw [isc_succ, isc_succ, h2, (W_eq hw2).2]) with ⟨d, hm1, ⟨P, hP⟩, hm3, hm4⟩ | ⟨ha, hb⟩ | ⟨ha, hb⟩
          · refine .inl ⟨d + 1, meet_succ hw hci hc'.symm hm1, ⟨W T i :: P, fun h => ?_⟩, ?_, ?_⟩
            · rw [hk, hk2, (hP h).1, (hP h).2, hw, show i + 1 + d = i + (d + 1) by omega, show j + 1 + d = j + (d + 1) by omega]
              simp
            · rw [hs1, hm3, show i + 1 + d = i + (d + 1) by omega, show j + 1 + d = j + (d + 1) by omega]
            · rw [hs2, hm4, show i + 1 + d = i + (d + 1) by omega, show j + 1 + d = j + (d + 1) by omega]
          · refine .inr (.inl ⟨fun h h' => ?_, by rw [hs1]; exact hb⟩)
            rw [hk, hk2, hw, lexB_same]; exact ha h h'
          · refine .inr (.inr ⟨fun h h' => ?_, by rw [hs2]; exact hb⟩)
            rw [hk, hk2, hw, lexB_same]; exact ha h h'
      · refine .inr (.inr ⟨fun h h' => ?_, suf_W hj' hi' hw⟩)
        rw [key_in h hi', key_in h' hj']
        exact lexB_lt hw _ _
    · refine .inr (.inr ⟨fun h h' => ?_, suf_in (by omega) hi'⟩)
      rw [key_in h hi', key_end h' (by omega)]
      exact lexB_lt (W_pos _ _) _ _
/-- two pieces are the same, up to the next cut -/
def Same (T : List Nat) (i j : Nat) : Prop := W T i = W T j ∧ ∃ d, Met T (i + 1) (j + 1) d
theorem keyG_cmp (T : List Nat) {i j : Nat} (hi : i < T.length) (hj : j < T.length) (hne : i ≠ j) :
    Same T i j ∨ ((∀ h h', lexB (keyG T h i) (keyG T h' j) = true) ∧ sufB T i j = true) ∨ ((∀ h h', lexB (keyG T h' j) (keyG T h i) = true) ∧ sufB T j i = true) := by
  rcases Nat.lt_trichotomy (W T i) (W T j) with hw | hw | hw
  · exact .inr (.inl ⟨fun h h' => lexB_lt hw _ _, suf_W hi hj hw⟩)
  · obtain ⟨h1, h2⟩ := W_eq hw
    rcases key_cmp T _ (i + 1) (j + 1) rfl (by omega) (by omega) (by omega) (fun _ _ hw2 => by rw [isc_succ, isc_succ, h2, (W_eq hw2).2]) with ⟨d, hd⟩ | ⟨ha, hb⟩ | ⟨ha, hb⟩
    · exact .inl ⟨hw, d, hd⟩
    · refine .inr (.inl ⟨fun h h' => ?_, by rw [suf_same hi hj h1]; exact hb⟩)
      unfold keyG; rw [hw, lexB_same]; exact ha h h'
    · refine .inr (.inr ⟨fun h h' => ?_, by rw [suf_same hj hi h1.symm]; exact hb⟩)
      unfold keyG; rw [hw, lexB_same]; exact ha h h'
  · exact .inr (.inr ⟨fun h h' => lexB_lt hw _ _, suf_W hj hi hw⟩)
theorem same_suf {T : List Nat} {i j : Nat} (hi : i < T.length) (hj : j < T.length) (h : Same T i j) : ∃ d, Meet T (i + 1) (j + 1) d ∧ (∃ P, ∀ h, keyG T h i = P ++ h (i + 1 + d) ∧ keyG T h j = P ++ h (j + 1 + d)) ∧ sufB T i j = sufB T (i + 1 + d) (j + 1 + d) := by
  obtain ⟨hw, d, h1, ⟨P, hP⟩, h3, _⟩ := h
  refine ⟨d, h1, ⟨W T i :: P, fun h => ?_⟩, by rw [suf_same hi hj (W_eq hw).1, h3]⟩
  unfold keyG
  rw [(hP h).1, (hP h).2, hw]
  simp
end Go.Proofs.Ytklpmpniempmcaa.Pl
