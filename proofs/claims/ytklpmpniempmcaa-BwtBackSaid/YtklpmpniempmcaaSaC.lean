/- Induced sorting, step by step, plain: no program. -/
import Derived.Test.YtklpmpniempmcaaSaB
namespace Go.Proofs.Ytklpmpniempmcaa.Pl
theorem set_getD (O : List Int) (q p : Nat) (v : Int) : (O.set q v).getD p 0 = if p = q ∧ q < O.length then v else O.getD p 0 := by
  by_cases h : p = q
  · subst h
    by_cases h2 : p < O.length
    · simp [List.getD, h2]
    · simp [List.getD, h2]
  · simp [List.getD, h, List.getElem?_set_ne (Ne.symm h)]
section
variable {T C : List Nat}
/-! the places at the time when what falls is put: a cut stands at the end of its letter's places -/
def qAt (T C : List Nat) (l a : Nat) : Nat := cnt T.length fun c => isc T c && T.getD c 0 == l && decide (a ≤ C.idxOf c)
def qc (T C : List Nat) (c : Nat) : Nat := bst T (T.getD c 0 + 1) - qAt T C (T.getD c 0) (C.idxOf c)
def pf (T C : List Nat) (j : Nat) : Nat := if ris T j then qc T C j else pos T C j
def p1 (T C : List Nat) (j : Nat) : Nat := if j = T.length then 0 else pf T C j + 1
def Dom (T : List Nat) (j : Nat) : Prop := isc T j = true ∨ ris T j = false
theorem qAt_le (l a : Nat) : qAt T C l a ≤ nR T l := cnt_mono fun i _ h => by
  simp only [Bool.and_eq_true, beq_iff_eq] at h
  rw [(isc_parts h.1.1).2.1, h.1.2]; simp
theorem qAt_pos {c : Nat} (hc : isc T c = true) : 0 < qAt T C (T.getD c 0) (C.idxOf c) := by
  have h := (isc_parts hc).2.2.2
  have := cnt_lt (n := T.length) (i := c) (p := fun _ => false) (q := fun c' => isc T c' && T.getD c' 0 == T.getD c 0 && decide (C.idxOf c ≤ C.idxOf c')) (by omega) rfl (by simp [hc]) (fun _ _ h => by simp at h)
  unfold qAt
  omega
theorem pf_lo {j : Nat} (hd : Dom T j) : bst T (T.getD j 0) ≤ pf T C j := by
  unfold pf
  cases h : ris T j with
  | false => simp only [Bool.false_eq_true, if_false]; rw [pos_fall h]; omega
  | true =>
    simp only [if_true]
    unfold qc
    have h1 := bst_succ T (T.getD j 0)
    have h2 := qAt_le (T := T) (C := C) (T.getD j 0) (C.idxOf j)
    omega
theorem fall_hi {j : Nat} (hj : j < T.length) (h : ris T j = false) : pos T C j < bst T (T.getD j 0) + nF T (T.getD j 0) := by
  rw [pos_fall h]
  have : cnt T.length (fun i => !ris T i && T.getD i 0 == T.getD j 0 && gl T C i j) < nF T (T.getD j 0) := cnt_lt hj (by rw [gl_irrefl]; simp) (by simp [h]) fun i _ h => by
    rw [Bool.and_eq_true] at h; exact h.1
  omega
theorem pf_hi {j : Nat} (hj : j < T.length) (hd : Dom T j) : pf T C j < bst T (T.getD j 0 + 1) := by
  unfold pf
  have h1 := bst_succ T (T.getD j 0)
  cases h : ris T j with
  | false => simp only [Bool.false_eq_true, if_false]; have := fall_hi (C := C) hj h; omega
  | true =>
    simp only [if_true]
    have hc : isc T j = true := by rcases hd with hd | hd; exact hd; rw [h] at hd; simp at hd
    unfold qc
    have h2 := qAt_le (T := T) (C := C) (T.getD j 0) (C.idxOf j)
    have h3 := qAt_pos (C := C) hc
    omega
theorem pf_lt {j : Nat} (hj : j < T.length) (hd : Dom T j) : pf T C j < T.length :=
  Nat.lt_of_lt_of_le (pf_hi hj hd) (bst_le _ _)
theorem key_head {i : Nat} (h : Nat → List Nat) (hi : i < T.length) : ∃ r, key T h i = W T i :: r := ⟨_, key_in h hi⟩
theorem fl_total (hC : IsCuts T C) {i j : Nat} (hi : i < T.length) (hj : j < T.length) (di : Dom T i) (dj : Dom T j) (hne : i ≠ j) : fl T C i j = true ∨ fl T C j i = true := by
  rcases Nat.lt_trichotomy (W T i) (W T j) with hw | hw | hw
  · left; unfold fl; rw [key_in _ hi, key_in _ hj]; exact lexB_lt hw _ _
  · obtain ⟨h1, h2⟩ := W_eq hw
    cases hr : ris T i with
    | false =>
      rw [fl_fall hi hj hr (by rw [← h2, hr]), fl_fall hj hi (by rw [← h2, hr]) hr]
      exact gl_total hC hi hj hne
    | true =>
      have c1 : isc T i = true := by rcases di with d | d; exact d; rw [hr] at d; simp at d
      have c2 : isc T j = true := by rcases dj with d | d; exact d; rw [← h2, hr] at d; simp at d
      unfold fl
      rw [key_in _ hi, key_in _ hj, c1, c2, hw, lexB_same, lexB_same]
      simp only [if_true, ix, lexB_single, decide_eq_true_eq]
      have : C.idxOf i ≠ C.idxOf j := fun e => hne (idx_inj ((hC.2 _).2 c1) ((hC.2 _).2 c2) e)
      omega
  · right; unfold fl; rw [key_in _ hi, key_in _ hj]; exact lexB_lt hw _ _
theorem pf_mono (hC : IsCuts T C) {i j : Nat} (hi : i < T.length) (hj : j < T.length) (di : Dom T i) (dj : Dom T j) (h : fl T C i j = true) : pf T C i < pf T C j := by
  rcases Nat.lt_trichotomy (W T i) (W T j) with hw | hw | hw
  · rcases W_lt hw with h1 | ⟨h1, h2, h3⟩
    · have a := pf_hi (C := C) hi di
      have b := pf_lo (C := C) dj
      have c := bst_mono T (l := T.getD i 0 + 1) (m := T.getD j 0) (by omega)
      omega
    · have a := fall_hi (C := C) hi h2
      unfold pf
      rw [h2, h3]
      simp only [Bool.false_eq_true, if_false, if_true]
      unfold qc
      have b := bst_succ T (T.getD j 0)
      have c := qAt_le (T := T) (C := C) (T.getD j 0) (C.idxOf j)
      rw [h1] at a
      omega
  · obtain ⟨h1, h2⟩ := W_eq hw
    cases hr : ris T i with
    | false =>
      rw [fl_fall hi hj hr (by rw [← h2, hr])] at h
      unfold pf
      rw [← h2, hr]
      simp only [Bool.false_eq_true, if_false]
      exact pos_mono hi h
    | true =>
      have c1 : isc T i = true := by rcases di with d | d; exact d; rw [hr] at d; simp at d
      have c2 : isc T j = true := by rcases dj with d | d; exact d; rw [← h2, hr] at d; simp at d
      unfold fl at h
      rw [key_in _ hi, key_in _ hj, c1, c2, hw, lexB_same] at h
      simp only [if_true, ix, lexB_single, decide_eq_true_eq] at h
      unfold pf
      rw [← h2, hr]
      simp only [if_true]
      unfold qc
      rw [h1]
      have a := bst_succ T (T.getD j 0)
      have b := qAt_le (T := T) (C := C) (T.getD j 0) (C.idxOf i)
      have c : qAt T C (T.getD j 0) (C.idxOf j) < qAt T C (T.getD j 0) (C.idxOf i) := cnt_lt hi (by
        rw [c1, h1, decide_eq_false (by omega)]; simp) (by rw [c1, h1]; simp) (fun k _ hk => by
        simp only [Bool.and_eq_true, decide_eq_true_eq] at hk ⊢
        exact ⟨hk.1, by omega⟩)
      omega
  · unfold fl at h
    rw [key_in _ hi, key_in _ hj, lexB_gt hw] at h
    simp at h
theorem p1_end : p1 T C T.length = 0 := by unfold p1; simp
theorem p1_in {j : Nat} (hj : j < T.length) : p1 T C j = pf T C j + 1 := by unfold p1; rw [if_neg (by omega)]
theorem p1_iff (hC : IsCuts T C) {i j : Nat} (hi : i ≤ T.length) (hj : j ≤ T.length) (di : i = T.length ∨ Dom T i) (dj : j = T.length ∨ Dom T j) : fl T C i j = decide (p1 T C i < p1 T C j) := by
  by_cases hi' : i = T.length
  · subst hi'
    rw [p1_end]
    by_cases hj' : j = T.length
    · subst hj'; rw [p1_end]; exact lexB_irrefl _
    · rw [p1_in (by omega)]
      unfold fl
      rw [key_end _ (Nat.le_refl _), key_in _ (by omega), lexB_lt (W_pos _ _)]
      simp
  · have hi2 : i < T.length := by omega
    have di2 : Dom T i := by rcases di with d | d; omega; exact d
    rw [p1_in hi2]
    by_cases hj' : j = T.length
    · subst hj'
      rw [p1_end]
      unfold fl
      rw [key_end _ (Nat.le_refl _), key_in _ (by omega), lexB_gt (W_pos _ _)]
      simp
    · have hj2 : j < T.length := by omega
      have dj2 : Dom T j := by rcases dj with d | d; omega; exact d
      rw [p1_in hj2]
      cases h : fl T C i j with
      | true => have := pf_mono hC hi2 hj2 di2 dj2 h; rw [decide_eq_true (by omega)]
      | false =>
        by_cases hne : i = j
        · subst hne; simp
        · rcases fl_total hC hi2 hj2 di2 dj2 hne with h1 | h1
          · rw [h] at h1; simp at h1
          · have := pf_mono hC hj2 hi2 dj2 di2 h1; rw [decide_eq_false (by omega)]
theorem p1_inj (hC : IsCuts T C) {i j : Nat} (hi : i ≤ T.length) (hj : j ≤ T.length) (di : i = T.length ∨ Dom T i) (dj : j = T.length ∨ Dom T j) (h : p1 T C i = p1 T C j) : i = j := by
  apply Classical.byContradiction
  intro hne
  by_cases hi' : i = T.length
  · rw [hi', p1_end, p1_in (by omega)] at h; omega
  · by_cases hj' : j = T.length
    · rw [hj', p1_end, p1_in (by omega)] at h; omega
    · have di2 : Dom T i := by rcases di with d | d; omega; exact d
      have dj2 : Dom T j := by rcases dj with d | d; omega; exact d
      rw [p1_in (by omega), p1_in (by omega)] at h
      rcases fl_total hC (by omega) (by omega) di2 dj2 hne with h1 | h1
      · have := pf_mono hC (by omega) (by omega) di2 dj2 h1; omega
      · have := pf_mono hC (by omega) (by omega) dj2 di2 h1; omega
/-- what comes behind what falls -/
theorem dom_next {i : Nat} (hi : i < T.length) (h : ris T i = false) : i + 1 = T.length ∨ Dom T (i + 1) := by
  by_cases h1 : i + 1 = T.length
  · exact .inl h1
  · refine .inr ?_
    unfold Dom
    rw [isc_succ, h]
    cases ris T (i + 1) <;> simp
/-! what falls is put -/
structure FInv (T C : List Nat) (K k : Nat) (O S : List Int) : Prop where
  lenO : O.length = T.length
  lenS : S.length = K + 1
  starts : ∀ l, l < K → S.getD l 0 = ((bst T l + cnt T.length fun i => !ris T i && T.getD i 0 == l && decide (p1 T C (i + 1) < k) : Nat) : Int)
  put : ∀ j, j < T.length → (isc T j = true ∨ (ris T j = false ∧ p1 T C (j + 1) < k)) → O.getD (pf T C j) 0 = (j : Int)
  rest : ∀ p, p < T.length → (∀ j, j < T.length → Dom T j → pf T C j ≠ p) → O.getD p 0 = -1
def FAt (T C : List Nat) (k : Nat) (later : Int) : Prop :=
  (∃ j : Nat, j ≤ T.length ∧ (j = T.length ∨ Dom T j) ∧ p1 T C j = k ∧ later = (j : Int)) ∨ ((∀ j, j ≤ T.length → (j = T.length ∨ Dom T j) → p1 T C j ≠ k) ∧ later = -1)
theorem fAt_first (hT : T.length = T.length) : FAt T C 0 (T.length : Int) := .inl ⟨T.length, Nat.le_refl _, .inl rfl, p1_end, rfl⟩
theorem fAt_next {K k : Nat} {O S : List Int} (hC : IsCuts T C) (h : FInv T C K (k + 1) O S) (hk : k < T.length) : FAt T C (k + 1) (O.getD k 0) := by
  by_cases he : ∃ j, j < T.length ∧ Dom T j ∧ pf T C j = k
  · obtain ⟨j, hj, hd, hp⟩ := he
    refine .inl ⟨j, by omega, .inr hd, by rw [p1_in hj, hp], ?_⟩
    rw [← hp]
    refine h.put j hj ?_
    rcases hd with hd | hd
    · exact .inl hd
    · refine .inr ⟨hd, ?_⟩
      have h1 := fl_next (C := C) _ j rfl hj hd
      rw [p1_iff hC (by omega) (by omega) (dom_next hj hd) (.inr (.inr hd))] at h1
      simp only [decide_eq_true_eq] at h1
      rw [p1_in hj, hp] at h1
      exact h1
  · refine .inr ⟨fun j hj hd hp => ?_, h.rest k hk fun j hj hd hp => he ⟨j, hj, hd, hp⟩⟩
    by_cases hj' : j = T.length
    · rw [hj', p1_end] at hp; omega
    · rw [p1_in (by omega)] at hp
      refine he ⟨j, by omega, ?_, by omega⟩
      rcases hd with d | d
      · omega
      · exact d
theorem fAt_range {k : Nat} {later : Int} (h : FAt T C k later) : -1 ≤ later ∧ later ≤ T.length := by
  rcases h with ⟨j, h1, _, _, rfl⟩ | ⟨_, rfl⟩ <;> omega
theorem fall_put (hC : IsCuts T C) {K k : Nat} {O S : List Int} (h : FInv T C K k O S) {i : Nat} (ha : FAt T C k ((i + 1 : Nat) : Int)) (hr : ris T i = false) (hK : T.getD i 0 < K) :
    i < T.length ∧ S.getD (T.getD i 0) 0 = (pos T C i : Int) ∧ pos T C i < T.length ∧ FInv T C K (k + 1) (O.set (pos T C i) i) (S.set (T.getD i 0) ((pos T C i : Int) + 1)) := by
  obtain ⟨hj, hd, hp⟩ : i + 1 ≤ T.length ∧ (i + 1 = T.length ∨ Dom T (i + 1)) ∧ p1 T C (i + 1) = k := by
    rcases ha with ⟨j, h1, h2, h3, h4⟩ | ⟨_, h4⟩
    · obtain rfl : j = i + 1 := by omega
      exact ⟨h1, h2, h3⟩
    · omega
  have hi : i < T.length := by omega
  have hpl := pos_lt (C := C) hi
  have hpf : pf T C i = pos T C i := by unfold pf; rw [hr]; rfl
  have hS : S.getD (T.getD i 0) 0 = (pos T C i : Int) := by
    rw [h.starts _ hK, pos_fall hr]
    congr 2
    refine cnt_congr fun j hj => ?_
    cases hrj : ris T j with
    | true => rfl
    | false =>
      by_cases hl : T.getD j 0 = T.getD i 0
      · rw [gl_fall hl hrj hr, p1_iff hC (by omega) (by omega) (dom_next hj hrj) hd, hp]
      · rw [beq_eq_false_iff_ne.2 hl]; rfl
  refine ⟨hi, hS, hpl, ⟨by rw [List.length_set]; exact h.lenO, by rw [List.length_set]; exact h.lenS, fun l hl => ?_, fun j hj2 hc => ?_, fun p hp2 hn => ?_⟩⟩
  · rw [set_getD, h.lenS]
    by_cases hli : l = T.getD i 0
    · subst hli
      rw [if_pos ⟨rfl, by omega⟩, ← hS, h.starts _ hl]
      have : cnt T.length (fun j => !ris T j && T.getD j 0 == T.getD i 0 && decide (p1 T C (j + 1) < k + 1)) = cnt T.length (fun j => !ris T j && T.getD j 0 == T.getD i 0 && decide (p1 T C (j + 1) < k)) + 1 := cnt_more hi (by simp [hr, hp]) (by simp [hp]) fun j hj2 hne => by
        cases hrj : ris T j with
        | true => rfl
        | false =>
          congr 1
          have : p1 T C (j + 1) ≠ k := fun e => hne (by have := p1_inj hC (by omega) hj (dom_next hj2 hrj) hd (by rw [e, hp]); omega)
          simp only [decide_eq_decide]
          omega
      rw [this]
      omega
    · rw [if_neg (fun e => hli e.1), h.starts _ hl]
      congr 2
      refine cnt_congr fun j hj2 => ?_
      cases hrj : ris T j with
      | true => rfl
      | false =>
        by_cases hlj : T.getD j 0 = l
        · congr 1
          have : p1 T C (j + 1) ≠ k := fun e => by
            have := p1_inj hC (by omega) hj (dom_next hj2 hrj) hd (by rw [e, hp])
            obtain rfl : j = i := by omega
            exact hli hlj.symm
          simp only [decide_eq_decide]
          omega
        · rw [beq_eq_false_iff_ne.2 hlj]; rfl
  · rw [set_getD, h.lenO]
    by_cases hji : j = i
    · subst hji
      rw [if_pos ⟨hpf, by omega⟩]
    · have hdj : Dom T j := by rcases hc with hc | hc; exact .inl hc; exact .inr hc.1
      have hne : pf T C j ≠ pos T C i := fun e => hji (p1_inj hC (by omega) (by omega) (.inr hdj) (.inr (.inr hr)) (by rw [p1_in hj2, p1_in hi, e, hpf]))
      rw [if_neg (fun e => hne e.1)]
      refine h.put j hj2 ?_
      rcases hc with hc | hc
      · exact .inl hc
      · refine .inr ⟨hc.1, ?_⟩
        have : p1 T C (j + 1) ≠ k := fun e => hji (by have := p1_inj hC (by omega) hj (dom_next hj2 hc.1) hd (by rw [e, hp]); omega)
        omega
  · rw [set_getD, if_neg (fun e => hn i hi (.inr hr) (by rw [hpf]; exact e.1.symm))]
    exact h.rest p hp2 hn
theorem fall_skip {K k : Nat} {O S : List Int} (hC : IsCuts T C) (h : FInv T C K k O S) {later : Int} (ha : FAt T C k later) (hno : ∀ i : Nat, later = ((i + 1 : Nat) : Int) → ris T i = true) : FInv T C K (k + 1) O S := by
  have hne : ∀ j, j < T.length → ris T j = false → p1 T C (j + 1) ≠ k := by
    intro j hj hr e
    rcases ha with ⟨x, h1, h2, h3, h4⟩ | ⟨h1, _⟩
    · have := p1_inj hC (by omega) h1 (dom_next hj hr) h2 (by rw [e, h3])
      have := hno j (by rw [h4, ← this])
      rw [hr] at this
      simp at this
    · exact h1 (j + 1) (by omega) (dom_next hj hr) e
  refine ⟨h.lenO, h.lenS, fun l hl => ?_, fun j hj hc => h.put j hj ?_, h.rest⟩
  · rw [h.starts l hl]
    congr 2
    refine cnt_congr fun j hj => ?_
    cases hrj : ris T j with
    | true => rfl
    | false =>
      congr 1
      have := hne j hj hrj
      simp only [decide_eq_decide]
      omega
  · rcases hc with hc | hc
    · exact .inl hc
    · have := hne j hj hc.1
      exact .inr ⟨hc.1, by omega⟩
theorem fall_end {K : Nat} {O S : List Int} (h : FInv T C K (T.length + 1) O S) : ∀ i, i < T.length → ris T i = false → O.getD (pos T C i) 0 = (i : Int) := by
  intro i hi hr
  have hpf : pf T C i = pos T C i := by unfold pf; rw [hr]; rfl
  rw [← hpf]
  refine h.put i hi (.inr ⟨hr, ?_⟩)
  by_cases h1 : i + 1 = T.length
  · rw [h1, p1_end]; omega
  · rw [p1_in (by omega)]
    have hd : Dom T (i + 1) := by rcases dom_next hi hr with d | d; omega; exact d
    have := pf_lt (C := C) (by omega : i + 1 < T.length) hd
    omega
/-! what rises is put -/
structure RInv (T C : List Nat) (K k : Nat) (O E : List Int) : Prop where
  lenO : O.length = T.length
  lenE : E.length = K
  ends : ∀ l, l < K → E.getD l 0 = (bst T (l + 1) : Int) - (cnt T.length fun i => ris T i && T.getD i 0 == l && decide (k ≤ pos T C (i + 1)) : Nat)
  put : ∀ i, i < T.length → (ris T i = false ∨ k ≤ pos T C (i + 1)) → O.getD (pos T C i) 0 = (i : Int)
theorem rise_start {K : Nat} {O E : List Int} (hO : O.length = T.length) (hE : E.length = K) (hs : ∀ l, l < K → E.getD l 0 = (bst T (l + 1) : Int)) (hf : ∀ i, i < T.length → ris T i = false → O.getD (pos T C i) 0 = (i : Int)) : RInv T C K T.length O E := by
  refine ⟨hO, hE, fun l hl => ?_, fun i hi h => hf i hi ?_⟩
  · rw [hs l hl, cnt_zero]
    · simp
    · intro i _
      cases hr : ris T i with
      | false => rfl
      | true =>
        have := pos_lt (C := C) (ris_in hr)
        rw [decide_eq_false (by omega)]; simp
  · rcases h with h | h
    · exact h
    · cases hr : ris T i with
      | false => rfl
      | true => have := pos_lt (C := C) (ris_in hr); omega
theorem rise_at (hC : IsCuts T C) {K k : Nat} {O E : List Int} (h : RInv T C K (k + 1) O E) (hk : k < T.length) : ∃ j, j < T.length ∧ pos T C j = k ∧ O.getD k 0 = (j : Int) := by
  obtain ⟨j, hj, hp⟩ := pos_onto hC hk
  refine ⟨j, hj, hp, ?_⟩
  rw [← hp]
  refine h.put j hj ?_
  cases hr : ris T j with
  | false => exact .inl rfl
  | true =>
    have := pos_mono hj (gl_next (C := C) _ j rfl hr)
    exact .inr (by omega)
theorem rise_skip (hC : IsCuts T C) {K k : Nat} {O E : List Int} (h : RInv T C K (k + 1) O E) {j : Nat} (hj : j < T.length) (hp : pos T C j = k) (hno : ∀ i, j = i + 1 → ris T i = false) : RInv T C K k O E := by
  have hne : ∀ i, i < T.length → ris T i = true → pos T C (i + 1) ≠ k := by
    intro i hi hr e
    have := hno i (pos_inj hC hj (ris_in hr) (by rw [e, hp]))
    rw [hr] at this
    simp at this
  refine ⟨h.lenO, h.lenE, fun l hl => ?_, fun i hi hc => h.put i hi ?_⟩
  · rw [h.ends l hl]
    congr 2
    refine cnt_congr fun i hi => ?_
    cases hr : ris T i with
    | false => rfl
    | true =>
      congr 1
      have := hne i hi hr
      simp only [decide_eq_decide]
      omega
  · rcases hc with hc | hc
    · exact .inl hc
    · cases hr : ris T i with
      | false => exact .inl rfl
      | true => have := hne i hi hr; exact .inr (by omega)
theorem rise_put (hC : IsCuts T C) {K k : Nat} {O E : List Int} (h : RInv T C K (k + 1) O E) {i : Nat} (hj : i + 1 < T.length) (hp : pos T C (i + 1) = k) (hr : ris T i = true) (hK : T.getD i 0 < K) :
    E.getD (T.getD i 0) 0 = (pos T C i : Int) + 1 ∧ pos T C i < T.length ∧ RInv T C K k (O.set (pos T C i) i) (E.set (T.getD i 0) (pos T C i : Int)) := by
  have hi : i < T.length := by omega
  have hpl := pos_lt (C := C) hi
  have hE : E.getD (T.getD i 0) 0 = (pos T C i : Int) + 1 := by
    rw [h.ends _ hK, pos_rise hC hi hr]
    have : cnt T.length (fun j => ris T j && T.getD j 0 == T.getD i 0 && decide (k + 1 ≤ pos T C (j + 1))) = cnt T.length (fun j => ris T j && T.getD j 0 == T.getD i 0 && gl T C i j) := cnt_congr fun j hj2 => by
      cases hrj : ris T j with
      | false => rfl
      | true =>
        by_cases hl : T.getD j 0 = T.getD i 0
        · rw [gl_rise hl.symm hr hrj, pos_iff hC hj (ris_in hrj), hp]
          congr 1
        · rw [beq_eq_false_iff_ne.2 hl]; rfl
    rw [this]
    omega
  refine ⟨hE, hpl, ⟨by rw [List.length_set]; exact h.lenO, by rw [List.length_set]; exact h.lenE, fun l hl => ?_, fun x hx hc => ?_⟩⟩
  · rw [set_getD, h.lenE]
    by_cases hli : l = T.getD i 0
    · subst hli
      rw [if_pos ⟨rfl, by omega⟩]
      have h1 := h.ends _ hl
      rw [hE] at h1
      have : cnt T.length (fun j => ris T j && T.getD j 0 == T.getD i 0 && decide (k ≤ pos T C (j + 1))) = cnt T.length (fun j => ris T j && T.getD j 0 == T.getD i 0 && decide (k + 1 ≤ pos T C (j + 1))) + 1 := cnt_more hi (by simp [hr, hp]) (by simp [hp]) fun j hj2 hne => by
        cases hrj : ris T j with
        | false => rfl
        | true =>
          congr 1
          have : pos T C (j + 1) ≠ k := fun e => hne (by have := pos_inj hC (ris_in hrj) hj (by rw [e, hp]); omega)
          simp only [decide_eq_decide]
          omega
      rw [this]
      omega
    · rw [if_neg (fun e => hli e.1), h.ends _ hl]
      congr 2
      refine cnt_congr fun j hj2 => ?_
      cases hrj : ris T j with
      | false => rfl
      | true =>
        by_cases hlj : T.getD j 0 = l
        · congr 1
          have : pos T C (j + 1) ≠ k := fun e => by
            have := pos_inj hC (ris_in hrj) hj (by rw [e, hp])
            obtain rfl : j = i := by omega
            exact hli hlj.symm
          simp only [decide_eq_decide]
          omega
        · rw [beq_eq_false_iff_ne.2 hlj]; rfl
  · rw [set_getD, h.lenO]
    by_cases hxi : x = i
    · subst hxi; rw [if_pos ⟨rfl, by omega⟩]
    · rw [if_neg (fun e => hxi (pos_inj hC hx hi e.1))]
      refine h.put x hx ?_
      rcases hc with hc | hc
      · exact .inl hc
      · cases hrx : ris T x with
        | false => exact .inl rfl
        | true =>
          have : pos T C (x + 1) ≠ k := fun e => hxi (by have := pos_inj hC (ris_in hrx) hj (by rw [e, hp]); omega)
          exact .inr (by omega)
theorem rise_end {K : Nat} {O E : List Int} (h : RInv T C K 0 O E) : ∀ i, i < T.length → O.getD (pos T C i) 0 = (i : Int) :=
  fun i hi => h.put i hi (.inr (Nat.zero_le _))
/-! the cuts are put, the last of them first -/
structure IInv (T C : List Nat) (K a : Nat) (O E : List Int) : Prop where
  lenO : O.length = T.length
  lenE : E.length = K
  ends : ∀ l, l < K → E.getD l 0 = (bst T (l + 1) : Int) - (qAt T C l a : Nat)
  put : ∀ c, isc T c = true → a ≤ C.idxOf c → O.getD (qc T C c) 0 = (c : Int)
  rest : ∀ p, p < T.length → (∀ c, isc T c = true → a ≤ C.idxOf c → qc T C c ≠ p) → O.getD p 0 = -1
theorem cuts_start {K : Nat} {O E : List Int} (hC : IsCuts T C) (hO : O.length = T.length) (hE : E.length = K) (hs : ∀ l, l < K → E.getD l 0 = (bst T (l + 1) : Int)) (hn : ∀ p, p < T.length → O.getD p 0 = -1) : IInv T C K C.length O E := by
  have hlt : ∀ c, isc T c = true → C.idxOf c < C.length := fun c hc => List.idxOf_lt_length_iff.2 ((hC.2 c).2 hc)
  refine ⟨hO, hE, fun l hl => ?_, fun c hc h => by have := hlt c hc; omega, fun p hp _ => hn p hp⟩
  have : qAt T C l C.length = 0 := cnt_zero fun i _ => by
    cases hi : isc T i with
    | false => rfl
    | true => have := hlt i hi; rw [decide_eq_false (by omega)]; simp
  rw [hs l hl, this]
  simp
theorem idx_of {a : Nat} (hC : IsCuts T C) (ha : a < C.length) : C.idxOf (C.getD a 0) = a := by
  rw [List.getD_eq_getElem?_getD, List.getElem?_eq_getElem ha, Option.getD_some]
  exact List.Nodup.idxOf_getElem hC.1 a ha
theorem cuts_put (hC : IsCuts T C) {K a : Nat} {O E : List Int} (h : IInv T C K (a + 1) O E) (ha : a < C.length) (hK : T.getD (C.getD a 0) 0 < K) :
    isc T (C.getD a 0) = true ∧ E.getD (T.getD (C.getD a 0) 0) 0 = (qc T C (C.getD a 0) : Int) + 1 ∧ qc T C (C.getD a 0) < T.length ∧ IInv T C K a (O.set (qc T C (C.getD a 0)) (C.getD a 0 : Nat)) (E.set (T.getD (C.getD a 0) 0) (qc T C (C.getD a 0) : Int)) := by
  have hidx := idx_of hC ha
  have hcm : C.getD a 0 ∈ C := by rw [List.getD_eq_getElem?_getD, List.getElem?_eq_getElem ha]; exact List.getElem_mem ha
  generalize C.getD a 0 = c at *
  have hc := (hC.2 c).1 hcm
  have hcl := (isc_parts hc).2.2.2
  have hcr := (isc_parts hc).2.1
  have hpf : pf T C c = qc T C c := by unfold pf; rw [hcr]; rfl
  have hqn := pf_lt (C := C) (by omega : c < T.length) (.inl hc)
  rw [hpf] at hqn
  have hmore : qAt T C (T.getD c 0) a = qAt T C (T.getD c 0) (a + 1) + 1 := cnt_more (by omega : c < T.length) (by simp [hc, hidx]) (by simp [hidx]) fun j _ hne => by
    cases hj : isc T j with
    | false => rfl
    | true =>
      congr 1
      have : C.idxOf j ≠ a := fun e => hne (idx_inj ((hC.2 j).2 hj) hcm (by rw [e, hidx]))
      simp only [decide_eq_decide]
      omega
  have hle := qAt_le (T := T) (C := C) (T.getD c 0) a
  have hbs := bst_succ T (T.getD c 0)
  have hE : E.getD (T.getD c 0) 0 = (qc T C c : Int) + 1 := by
    rw [h.ends _ hK]
    unfold qc
    rw [hidx]
    omega
  refine ⟨hc, hE, hqn, ⟨by rw [List.length_set]; exact h.lenO, by rw [List.length_set]; exact h.lenE, fun l hl => ?_, fun j hj hja => ?_, fun p hp hn => ?_⟩⟩
  · rw [set_getD, h.lenE]
    by_cases hli : l = T.getD c 0
    · subst hli
      rw [if_pos ⟨rfl, by omega⟩]
      unfold qc
      rw [hidx]
      omega
    · rw [if_neg (fun e => hli e.1), h.ends _ hl]
      congr 2
      refine cnt_congr fun j _ => ?_
      cases hj : isc T j with
      | false => rfl
      | true =>
        by_cases hlj : T.getD j 0 = l
        · congr 1
          have : C.idxOf j ≠ a := fun e => by
            have := idx_inj ((hC.2 j).2 hj) hcm (by rw [e, hidx])
            rw [this] at hlj
            exact hli hlj.symm
          simp only [decide_eq_decide]
          omega
        · rw [beq_eq_false_iff_ne.2 hlj]; rfl
  · rw [set_getD, h.lenO]
    by_cases hjc : j = c
    · subst hjc; rw [if_pos ⟨rfl, by omega⟩]
    · have hjl := (isc_parts hj).2.2.2
      have hpj : pf T C j = qc T C j := by unfold pf; rw [(isc_parts hj).2.1]; rfl
      rw [if_neg (fun e => hjc (p1_inj hC (by omega) (by omega) (.inr (.inl hj)) (.inr (.inl hc)) (by rw [p1_in (by omega), p1_in (by omega), hpj, hpf, e.1])))]
      refine h.put j hj ?_
      have : C.idxOf j ≠ a := fun e => hjc (idx_inj ((hC.2 j).2 hj) hcm (by rw [e, hidx]))
      omega
  · rw [set_getD, if_neg (fun e => hn c hc (by omega) e.1.symm)]
    exact h.rest p hp fun j hj hja => hn j hj (by omega)
theorem fall_start {K : Nat} {O E S : List Int} (h : IInv T C K 0 O E) (hS : S.length = K + 1) (hs : ∀ l, l < K → S.getD l 0 = (bst T l : Int)) : FInv T C K 0 O S := by
  refine ⟨h.lenO, hS, fun l hl => ?_, fun j hj hc => ?_, fun p hp hn => h.rest p hp fun c hc _ e => ?_⟩
  · rw [hs l hl, cnt_zero fun i _ => by simp]
    simp
  · have hc : isc T j = true := by rcases hc with hc | hc; exact hc; omega
    have hpj : pf T C j = qc T C j := by unfold pf; rw [(isc_parts hc).2.1]; rfl
    rw [hpj]
    exact h.put j hc (Nat.zero_le _)
  · have hpj : pf T C c = qc T C c := by unfold pf; rw [(isc_parts hc).2.1]; rfl
    exact hn c (by have := (isc_parts hc).2.2.2; omega) (.inl hc) (by rw [hpj, e])
end
end Go.Proofs.Ytklpmpniempmcaa.Pl
