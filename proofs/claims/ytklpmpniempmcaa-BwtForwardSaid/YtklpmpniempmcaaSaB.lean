/- How many below n; the places that an order of keys gives, plain: no program. -/
import Derived.Test.YtklpmpniempmcaaSaA
namespace Go.Proofs.Ytklpmpniempmcaa.Pl
def cnt : Nat → (Nat → Bool) → Nat
  | 0, _ => 0
  | n + 1, p => cnt n p + (p n).toNat
theorem cnt_congr {n : Nat} {p q : Nat → Bool} (h : ∀ i, i < n → p i = q i) : cnt n p = cnt n q := by
  induction n with
  | zero => rfl
  | succ n ih => unfold cnt; rw [ih fun i hi => h i (by omega), h n (by omega)]
theorem cnt_mono {n : Nat} {p q : Nat → Bool} (h : ∀ i, i < n → p i = true → q i = true) : cnt n p ≤ cnt n q := by
  induction n with
  | zero => exact Nat.le_refl _
  | succ n ih =>
    unfold cnt
    have h1 := ih fun i hi => h i (by omega)
    have h2 := h n (by omega)
    have h3 := Bool.toNat_le (p n)
    cases hp : p n with
    | false => simp; omega
    | true => rw [h2 hp]; omega
theorem cnt_or {n : Nat} {p q r : Nat → Bool} (h : ∀ i, i < n → p i = (q i || r i)) (hd : ∀ i, i < n → q i = true → r i = false) : cnt n p = cnt n q + cnt n r := by
  induction n with
  | zero => rfl
  | succ n ih =>
    unfold cnt
    rw [ih (fun i hi => h i (by omega)) (fun i hi => hd i (by omega)), h n (by omega)]
    have h2 := hd n (by omega)
    cases hq : q n with
    | false => simp; omega
    | true => rw [h2 hq]; simp; omega
theorem cnt_zero {n : Nat} {p : Nat → Bool} (h : ∀ i, i < n → p i = false) : cnt n p = 0 := by
  induction n with
  | zero => rfl
  | succ n ih => unfold cnt; rw [ih fun i hi => h i (by omega), h n (by omega)]; rfl
theorem cnt_le (n : Nat) (p : Nat → Bool) : cnt n p ≤ n := by
  induction n with
  | zero => exact Nat.le_refl _
  | succ n ih => unfold cnt; have := Bool.toNat_le (p n); omega
theorem cnt_all {n : Nat} {p : Nat → Bool} (h : ∀ i, i < n → p i = true) : cnt n p = n := by
  induction n with
  | zero => rfl
  | succ n ih => unfold cnt; rw [ih fun i hi => h i (by omega), h n (by omega)]; rfl
theorem cnt_one {n i : Nat} (hi : i < n) : cnt n (fun j => j == i) = 1 := by
  induction n with
  | zero => omega
  | succ n ih =>
    unfold cnt
    by_cases h : i = n
    · subst h
      rw [cnt_zero fun j hj => by simp; omega]
      simp
    · rw [ih (by omega)]
      have : (n == i) = false := by simp; omega
      show 1 + (n == i).toNat = 1
      rw [this]; rfl
/-- one more -/
theorem cnt_more {n i : Nat} {p q : Nat → Bool} (hi : i < n) (hp : p i = true) (hq : q i = false) (h : ∀ j, j < n → j ≠ i → p j = q j) : cnt n p = cnt n q + 1 := by
  rw [cnt_or (p := p) (q := q) (r := fun j => j == i), cnt_one hi]
  · intro j hj
    by_cases hji : j = i
    · subst hji; rw [hp, hq]; simp
    · rw [h j hj hji]; simp [hji]
  · intro j hj hqj
    have : j ≠ i := fun e => by rw [e, hq] at hqj; simp at hqj
    simp [this]
theorem cnt_lt {n i : Nat} {p q : Nat → Bool} (hi : i < n) (hp : p i = false) (hq : q i = true) (h : ∀ j, j < n → p j = true → q j = true) : cnt n p < cnt n q := by
  have h1 : cnt n (fun j => p j || j == i) = cnt n p + 1 := cnt_more hi (by simp) hp fun j _ hne => by simp [hne]
  have h2 : cnt n (fun j => p j || j == i) ≤ cnt n q := cnt_mono fun j hj hh => by
    simp only [Bool.or_eq_true, beq_iff_eq] at hh
    rcases hh with hh | hh
    · exact h j hj hh
    · rw [hh]; exact hq
  omega
/-! pigeons -/
theorem no_inj : ∀ (m n : Nat) (f : Nat → Nat), m < n → (∀ i, i < n → f i < m) → ¬ ∀ i j, i < n → j < n → f i = f j → i = j := by
  intro m
  induction m with
  | zero => intro n f hn hf _; have := hf 0 hn; omega
  | succ m ih =>
    intro n f hn hf hi
    obtain ⟨k, rfl⟩ : ∃ k, n = k + 1 := ⟨n - 1, by omega⟩
    refine ih k (fun i => if f k < f i then f i - 1 else f i) (by omega) ?_ ?_
    · intro i hik
      have h1 := hf i (by omega)
      have h2 := hf k (by omega)
      have h3 : f i ≠ f k := fun e => by have := hi i k (by omega) (by omega) e; omega
      show (if f k < f i then f i - 1 else f i) < m
      split <;> omega
    · intro i j hik hjk he
      have h3 : f i ≠ f k := fun e => by have := hi i k (by omega) (by omega) e; omega
      have h4 : f j ≠ f k := fun e => by have := hi j k (by omega) (by omega) e; omega
      refine hi i j (by omega) (by omega) ?_
      revert he
      show (if f k < f i then f i - 1 else f i) = (if f k < f j then f j - 1 else f j) → f i = f j
      split <;> split <;> intro he <;> omega
theorem inj_onto {n : Nat} {f : Nat → Nat} (hf : ∀ i, i < n → f i < n) (hi : ∀ i j, i < n → j < n → f i = f j → i = j) : ∀ k, k < n → ∃ i, i < n ∧ f i = k := by
  intro k hk
  apply Classical.byContradiction
  intro hno
  have hno' : ∀ i, i < n → f i ≠ k := fun i hin e => hno ⟨i, hin, e⟩
  refine no_inj (n - 1) n (fun i => if k < f i then f i - 1 else f i) (by omega) ?_ ?_
  · intro i hin
    have h1 := hf i hin
    have h2 := hno' i hin
    show (if k < f i then f i - 1 else f i) < n - 1
    split <;> omega
  · intro i j hin hjn he
    have h1 := hno' i hin
    have h2 := hno' j hjn
    refine hi i j hin hjn ?_
    revert he
    show (if k < f i then f i - 1 else f i) = (if k < f j then f j - 1 else f j) → f i = f j
    split <;> split <;> intro he <;> omega
/-! the cuts, in an order -/
def IsCuts (T C : List Nat) : Prop := C.Nodup ∧ ∀ c, c ∈ C ↔ isc T c = true
def ix (C : List Nat) (c : Nat) : List Nat := [C.idxOf c]
def gl (T C : List Nat) (i j : Nat) : Bool := lexB (keyG T (ix C) i) (keyG T (ix C) j)
def fl (T C : List Nat) (i j : Nat) : Bool := lexB (key T (ix C) i) (key T (ix C) j)
theorem idx_inj {C : List Nat} {c c' : Nat} (h : c ∈ C) (h' : c' ∈ C) (e : C.idxOf c = C.idxOf c') : c = c' := by
  have h1 := List.getElem_idxOf (List.idxOf_lt_length_iff.2 h)
  have h2 := List.getElem_idxOf (List.idxOf_lt_length_iff.2 h')
  rw [← h1, ← h2]
  congr 1
theorem lexB_single (a b : Nat) : lexB [a] [b] = decide (a < b) := by
  rcases Nat.lt_trichotomy a b with h | h | h
  · rw [lexB_lt h]; simp [h]
  · subst h; rw [lexB_same]; simp [lexB]
  · rw [lexB_gt h]; simp; omega
section
variable {T C : List Nat}
theorem gl_total (hC : IsCuts T C) {i j : Nat} (hi : i < T.length) (hj : j < T.length) (hne : i ≠ j) : gl T C i j = true ∨ gl T C j i = true := by
  rcases keyG_cmp T hi hj hne with h | ⟨h, _⟩ | ⟨h, _⟩
  · obtain ⟨d, h1, ⟨P, hP⟩, _⟩ := same_suf hi hj h
    have hc1 := (hC.2 _).2 h1.2.1
    have hc2 := (hC.2 _).2 h1.2.2.1
    unfold gl
    rw [(hP (ix C)).1, (hP (ix C)).2, lexB_pre, lexB_pre]
    unfold ix
    rw [lexB_single, lexB_single]
    have : C.idxOf (i + 1 + d) ≠ C.idxOf (j + 1 + d) := fun e => by have := idx_inj hc1 hc2 e; omega
    simp only [decide_eq_true_eq]
    omega
  · exact .inl (h _ _)
  · exact .inr (h _ _)
theorem gl_irrefl (i : Nat) : gl T C i i = false := lexB_irrefl _
theorem gl_asymm {i j : Nat} (h : gl T C i j = true) : gl T C j i = false := lexB_asymm _ _ h
theorem gl_trans {i j k : Nat} (h : gl T C i j = true) (h2 : gl T C j k = true) : gl T C i k = true := lexB_trans _ _ _ h h2
theorem gl_letter {i j : Nat} (h : T.getD i 0 < T.getD j 0) : gl T C i j = true := lexB_lt (W_letter h) _ _
theorem gl_kind {i j : Nat} (h : T.getD i 0 = T.getD j 0) (h1 : ris T i = false) (h2 : ris T j = true) : gl T C i j = true := lexB_lt (W_kind h h1 h2) _ _
theorem gl_rise {i j : Nat} (h : T.getD i 0 = T.getD j 0) (h1 : ris T i = true) (h2 : ris T j = true) : gl T C i j = gl T C (i + 1) (j + 1) := by
  unfold gl
  have e1 : keyG T (ix C) i = W T i :: keyG T (ix C) (i + 1) := by
    show W T i :: key T (ix C) (i + 1) = _
    rw [key_no _ (ris_in h1) (isc_after h1)]
  have e2 : keyG T (ix C) j = W T j :: keyG T (ix C) (j + 1) := by
    show W T j :: key T (ix C) (j + 1) = _
    rw [key_no _ (ris_in h2) (isc_after h2)]
  rw [e1, e2, W_of h (by rw [h1, h2]), lexB_same]
theorem gl_fall {i j : Nat} (h : T.getD i 0 = T.getD j 0) (h1 : ris T i = false) (h2 : ris T j = false) : gl T C i j = fl T C (i + 1) (j + 1) := by
  unfold gl fl keyG
  rw [W_of h (by rw [h1, h2]), lexB_same]
theorem gl_next : ∀ m i, T.length - i = m → ris T i = true → gl T C i (i + 1) = true := by
  intro m
  induction m with
  | zero => intro i hm h; have := ris_in h; omega
  | succ m ih =>
    intro i hm h
    have h1 := ris_in h
    have h2 := ris_le h
    by_cases h3 : T.getD i 0 < T.getD (i + 1) 0
    · exact gl_letter h3
    · have h4 : ris T (i + 1) = true := by rw [← ris_eq h1 (by omega)]; exact h
      rw [gl_rise (by omega) h h4]
      exact ih (i + 1) (by omega) h4
theorem fl_next : ∀ m i, T.length - i = m → i < T.length → ris T i = false → fl T C (i + 1) i = true := by
  intro m
  induction m with
  | zero => intro i hm h; omega
  | succ m ih =>
    intro i hm hi h
    unfold fl
    rw [key_in _ hi]
    by_cases h1 : i + 1 < T.length
    · have h2 := fall_le h1 h
      rw [key_in _ h1]
      by_cases h3 : T.getD (i + 1) 0 < T.getD i 0
      · exact lexB_lt (W_letter h3) _ _
      · have h4 : ris T (i + 1) = false := by rw [← ris_eq h1 (by omega)]; exact h
        have h5 := ih (i + 1) (by omega) h1 h4
        unfold fl at h5
        rw [isc_not h, isc_not h4, W_of (j := i) (by omega) (by rw [h4, h]), lexB_same]
        rw [key_in _ h1, isc_not h4, W_of (j := i) (by omega) (by rw [h4, h])] at h5
        exact h5
    · rw [key_end _ (by omega)]
      exact lexB_lt (W_pos _ _) _ _
theorem fl_fall {i j : Nat} (hi : i < T.length) (hj : j < T.length) (h1 : ris T i = false) (h2 : ris T j = false) : fl T C i j = gl T C i j := by
  unfold fl gl
  rw [key_no _ hi (isc_not h1), key_no _ hj (isc_not h2)]
/-- the place of i in the order of the keys -/
def pos (T C : List Nat) (i : Nat) : Nat := cnt T.length fun j => gl T C j i
theorem pos_mono {i j : Nat} (hi : i < T.length) (h : gl T C i j = true) : pos T C i < pos T C j :=
  cnt_lt hi (gl_irrefl i) h fun _ _ hk => gl_trans hk h
theorem pos_lt {i : Nat} (hi : i < T.length) : pos T C i < T.length := by
  have := cnt_lt (p := fun j => gl T C j i) (q := fun _ => true) hi (gl_irrefl i) rfl fun _ _ _ => rfl
  rw [cnt_all (p := fun _ => true) fun _ _ => rfl] at this
  exact this
theorem pos_inj (hC : IsCuts T C) {i j : Nat} (hi : i < T.length) (hj : j < T.length) (h : pos T C i = pos T C j) : i = j := by
  apply Classical.byContradiction
  intro hne
  rcases gl_total hC hi hj hne with h1 | h1
  · have := pos_mono hi h1; omega
  · have := pos_mono hj h1; omega
theorem pos_iff (hC : IsCuts T C) {i j : Nat} (hi : i < T.length) (hj : j < T.length) : gl T C i j = decide (pos T C i < pos T C j) := by
  cases h : gl T C i j with
  | true => simp [pos_mono hi h]
  | false =>
    by_cases hne : i = j
    · subst hne; simp
    · rcases gl_total hC hi hj hne with h1 | h1
      · rw [h] at h1; simp at h1
      · have := pos_mono hj h1
        simp; omega
theorem pos_onto (hC : IsCuts T C) {k : Nat} (hk : k < T.length) : ∃ i, i < T.length ∧ pos T C i = k :=
  inj_onto (fun _ hi => pos_lt hi) (fun _ _ hi hj h => pos_inj hC hi hj h) k hk
/-! where the suffixes of a letter begin -/
def bst (T : List Nat) (l : Nat) : Nat := cnt T.length fun j => decide (T.getD j 0 < l)
def nF (T : List Nat) (l : Nat) : Nat := cnt T.length fun j => !ris T j && T.getD j 0 == l
def nR (T : List Nat) (l : Nat) : Nat := cnt T.length fun j => ris T j && T.getD j 0 == l
theorem bst_succ (T : List Nat) (l : Nat) : bst T (l + 1) = bst T l + nF T l + nR T l := by
  have h1 : bst T (l + 1) = bst T l + cnt T.length (fun j => T.getD j 0 == l) := cnt_or (fun i _ => by
    by_cases h : T.getD i 0 < l
    · simp only [h, decide_true, Bool.true_or, decide_eq_true_eq]; omega
    · by_cases h2 : T.getD i 0 = l
      · rw [h2]; simp
      · rw [decide_eq_false (by omega), decide_eq_false (by omega), beq_eq_false_iff_ne.2 h2]; rfl) (fun i _ h => by
    simp only [decide_eq_true_eq] at h
    exact beq_eq_false_iff_ne.2 (by omega))
  have h2 : cnt T.length (fun j => T.getD j 0 == l) = nF T l + nR T l := cnt_or (fun i _ => by cases ris T i <;> simp) (fun i _ h => by
    simp only [Bool.and_eq_true, Bool.not_eq_true'] at h
    rw [h.1]; rfl)
  omega
theorem bst_mono (T : List Nat) {l m : Nat} (h : l ≤ m) : bst T l ≤ bst T m := cnt_mono fun i _ hi => by
  simp only [decide_eq_true_eq] at hi ⊢; omega
theorem bst_le (T : List Nat) (l : Nat) : bst T l ≤ T.length := cnt_le _ _
/-- the place of what falls -/
theorem pos_fall {i : Nat} (h : ris T i = false) : pos T C i = bst T (T.getD i 0) + cnt T.length (fun j => !ris T j && T.getD j 0 == T.getD i 0 && gl T C j i) :=
  cnt_or (fun j _ => by
    rcases Nat.lt_trichotomy (T.getD j 0) (T.getD i 0) with h1 | h1 | h1
    · rw [gl_letter h1, decide_eq_true h1]; rfl
    · cases h2 : ris T j with
      | false => rw [h1]; simp
      | true => rw [gl_asymm (gl_kind h1.symm h h2), decide_eq_false (by omega)]; rfl
    · rw [gl_asymm (gl_letter h1), decide_eq_false (by omega)]; simp) (fun j _ h1 => by
    simp only [decide_eq_true_eq] at h1
    rw [beq_eq_false_iff_ne.2 (by omega)]; simp)
/-- the place of what rises, told from the end -/
theorem pos_rise (hC : IsCuts T C) {i : Nat} (hi : i < T.length) (h : ris T i = true) : bst T (T.getD i 0 + 1) = pos T C i + 1 + cnt T.length (fun j => ris T j && T.getD j 0 == T.getD i 0 && gl T C i j) := by
  have h0 : cnt T.length (fun j => gl T C j i || j == i) = pos T C i + 1 := cnt_more hi (by simp) (gl_irrefl i) fun j _ hne => by simp [hne]
  rw [← h0]
  exact cnt_or (fun j hj => by
    rcases Nat.lt_trichotomy (T.getD j 0) (T.getD i 0) with h1 | h1 | h1
    · rw [gl_letter h1, decide_eq_true (by omega)]; rfl
    · rw [decide_eq_true (by omega)]
      by_cases hne : j = i
      · subst hne; simp
      · rcases gl_total hC hj hi hne with h2 | h2
        · rw [h2]; rfl
        · cases h3 : ris T j with
          | true => rw [h2, h1]; simp
          | false => rw [gl_kind h1 h3 h] ; rfl
    · rw [decide_eq_false (by omega), gl_asymm (gl_letter h1), beq_eq_false_iff_ne.2 (by omega : T.getD j 0 ≠ T.getD i 0)]
      have : j ≠ i := fun e => by rw [e] at h1; omega
      simp [this]) (fun j _ h1 => by
    simp only [Bool.or_eq_true, beq_iff_eq] at h1
    rcases h1 with h1 | h1
    · rw [gl_asymm h1]; simp
    · subst h1; rw [gl_irrefl]; simp)
end
end Go.Proofs.Ytklpmpniempmcaa.Pl
