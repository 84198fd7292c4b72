/- The transform and the way back, plain: no program. -/
import Derived.Test.YtklpmpniempmcaaSaH
set_option linter.unusedSimpArgs false
set_option linter.unusedVariables false
namespace Go.Proofs.Ytklpmpniempmcaa.Pl
/-- the byte before each suffix of O but the whole -/
def fwL (B O : List Nat) : List Nat := (O.filter (fun o => o != 0)).map (fun o => B.getD (o - 1) 0)
def fwAt (O : List Nat) : Nat := O.idxOf 0
/-- the letter at j, then j itself -/
def lt2 (l : List Nat) (k j : Nat) : Bool := decide (l.getD j 0 < l.getD k 0) || (decide (l.getD j 0 = l.getD k 0) && decide (j < k))
/-- where the suffix stands that begins with the byte at k -/
def lf (l : List Nat) (k : Nat) : Nat := 1 + cnt l.length (lt2 l k)
def plc (a r : Nat) : Nat := if a < r then r - 1 else r
def wr (l : List Nat) (a : Nat) : Nat → Nat
  | 0 => 0
  | i + 1 => lf l (plc a (wr l a i))
def okW (l : List Nat) (a : Nat) : Bool := (List.range l.length).all fun i => wr l a i != a
def bk (l : List Nat) (a : Nat) : List Nat := (List.range l.length).map fun p => l.getD (plc a (wr l a (l.length - 1 - p))) 0
theorem lt2_iff {l : List Nat} {k j : Nat} : lt2 l k j = true ↔ l.getD j 0 < l.getD k 0 ∨ (l.getD j 0 = l.getD k 0 ∧ j < k) := by unfold lt2; simp
theorem lt2_irrefl (l : List Nat) (k : Nat) : lt2 l k k = false := by unfold lt2; simp
theorem lf_lt {l : List Nat} {j k : Nat} (hj : j < l.length) (h : lt2 l k j = true) : lf l j < lf l k := by
  unfold lf
  have := cnt_lt (n := l.length) (p := lt2 l j) (q := lt2 l k) hj (lt2_irrefl l j) h fun i _ hi => by
    rw [lt2_iff] at *
    omega
  omega
theorem lf_range {l : List Nat} {k : Nat} (hk : k < l.length) : 1 ≤ lf l k ∧ lf l k ≤ l.length := by
  unfold lf
  have h1 := cnt_lt (n := l.length) (p := lt2 l k) (q := fun _ => true) hk (lt2_irrefl l k) rfl fun _ _ _ => rfl
  rw [cnt_all (p := fun _ => true) fun _ _ => rfl] at h1
  omega
theorem lf_inj {l : List Nat} {j k : Nat} (hj : j < l.length) (hk : k < l.length) (h : lf l j = lf l k) : j = k := by
  apply Classical.byContradiction
  intro hne
  have : lt2 l k j = true ∨ lt2 l j k = true := by rw [lt2_iff, lt2_iff]; omega
  rcases this with h1 | h1
  · have := lf_lt hj h1; omega
  · have := lf_lt hk h1; omega
theorem plc_lt {a r n : Nat} (ha : a ≤ n) (hr : r ≤ n) (hne : r ≠ a) : plc a r < n := by unfold plc; split <;> omega
theorem plc_inj {a r s : Nat} (hr : r ≠ a) (hs : s ≠ a) (h : plc a r = plc a s) : r = s := by
  unfold plc at h
  split at h <;> split at h <;> omega
theorem plc_mono {a r s : Nat} (hr : r ≠ a) (hs : s ≠ a) (h : r < s) : plc a r < plc a s := by
  unfold plc
  split <;> split <;> omega
def unp (a k : Nat) : Nat := if k < a then k else k + 1
theorem plc_unp (a k : Nat) : plc a (unp a k) = k := by
  unfold plc unp
  split <;> split <;> omega
theorem unp_plc {a r : Nat} (h : r ≠ a) : unp a (plc a r) = r := by
  unfold plc unp
  split <;> split <;> omega
theorem unp_ne (a k : Nat) : unp a k ≠ a := by unfold unp; split <;> omega
theorem unp_le {a k n : Nat} (hk : k < n) : unp a k ≤ n := by unfold unp; split <;> omega
theorem okW_iff {l : List Nat} {a : Nat} : okW l a = true ↔ ∀ i, i < l.length → wr l a i ≠ a := by
  unfold okW
  rw [List.all_eq_true]
  simp
theorem bk_length (l : List Nat) (a : Nat) : (bk l a).length = l.length := by simp [bk]
theorem bk_get {l : List Nat} {a p : Nat} (hp : p < l.length) : (bk l a).getD p 0 = l.getD (plc a (wr l a (l.length - 1 - p))) 0 := by simp [bk, List.getD, hp]
/-! the order with the end marker's suffix -/
theorem ord_get_zero (n : Nat) (R : List Nat) : (n :: R).getD 0 0 = n := rfl
section
variable {B R : List Nat}
theorem ord_le (h : IsSA B R) {r : Nat} (hr : r ≤ B.length) : (B.length :: R).getD r 0 ≤ B.length := by
  cases r with
  | zero => exact Nat.le_refl _
  | succ r => have := sa_lt h (k := r) (by rw [sa_length h]; omega); show R.getD r 0 ≤ _; omega
theorem ord_lt (h : IsSA B R) {r s : Nat} (hrs : r < s) (hs : s ≤ B.length) : sufB B ((B.length :: R).getD r 0) ((B.length :: R).getD s 0) = true := by
  obtain ⟨s, rfl⟩ : ∃ t, s = t + 1 := ⟨s - 1, by omega⟩
  have hsl := sa_lt h (k := s) (by rw [sa_length h]; omega)
  cases r with
  | zero => exact suf_in (Nat.le_refl _) hsl
  | succ r => exact pair_at h.1 0 (by omega : r < s) (by rw [sa_length h]; omega)
theorem ord_inj (h : IsSA B R) {r s : Nat} (hr : r ≤ B.length) (hs : s ≤ B.length) (e : (B.length :: R).getD r 0 = (B.length :: R).getD s 0) : r = s := by
  apply Classical.byContradiction
  intro hne
  rcases Nat.lt_or_gt_of_ne hne with h1 | h1
  · have := ord_lt h h1 hs; rw [e, suf_irrefl] at this; simp at this
  · have := ord_lt h h1 hr; rw [e, suf_irrefl] at this; simp at this
theorem ord_of_lt (h : IsSA B R) {r s : Nat} (hr : r ≤ B.length) (hs : s ≤ B.length) (hb : sufB B ((B.length :: R).getD r 0) ((B.length :: R).getD s 0) = true) : r < s := by
  apply Classical.byContradiction
  intro hne
  by_cases e : r = s
  · subst e; rw [suf_irrefl] at hb; simp at hb
  · have := ord_lt h (by omega : s < r) hr; rw [suf_asymm this] at hb; simp at hb
theorem ord_idx (h : IsSA B R) {p : Nat} (hp : p ≤ B.length) : ∃ r, r ≤ B.length ∧ (B.length :: R).getD r 0 = p := by
  by_cases e : p = B.length
  · exact ⟨0, by omega, e.symm⟩
  · obtain ⟨k, hk, he⟩ := sa_idx h (i := p) (by omega)
    rw [sa_length h] at hk
    exact ⟨k + 1, by omega, he⟩
theorem ord_pos (h : IsSA B R) {r : Nat} (h0 : 0 < r) (hr : r ≤ B.length) : (B.length :: R).getD r 0 < B.length := by
  obtain ⟨r, rfl⟩ : ∃ t, r = t + 1 := ⟨r - 1, by omega⟩
  exact sa_lt h (k := r) (by rw [sa_length h]; omega)
end
/-! a list without its only nought -/
theorem filt_erase : ∀ (O : List Nat) (a : Nat), a < O.length → (∀ r, r < O.length → (O.getD r 0 = 0 ↔ r = a)) → O.filter (fun o => o != 0) = O.eraseIdx a := by
  intro O
  induction O with
  | nil => intro a ha; simp at ha
  | cons x O ih =>
    intro a ha h
    cases a with
    | zero =>
      have h0 : x = 0 := by have := (h 0 (by simp)).2 rfl; simpa using this
      subst h0
      have hrest : ∀ o ∈ O, (o != 0) = true := fun o ho => by
        obtain ⟨i, hi, rfl⟩ := List.mem_iff_getElem.1 ho
        have := h (i + 1) (by simp; omega)
        rw [bne_iff_ne]
        intro e
        have h2 : (0 :: O).getD (i + 1) 0 = O[i] := by simp [List.getD, hi]
        rw [h2] at this
        have := this.1 e
        omega
      rw [List.filter_cons]
      simp [List.filter_eq_self.2 hrest]
    | succ a =>
      have h0 : x ≠ 0 := fun e => by
        have := (h 0 (by simp)).1 (by simpa using e)
        omega
      have hb : (x != 0) = true := by rw [bne_iff_ne]; exact h0
      rw [List.filter_cons, if_pos hb, List.eraseIdx_cons_succ, ih a (by simpa using ha) fun r hr => by
        have := h (r + 1) (by simp; omega)
        have h2 : (x :: O).getD (r + 1) 0 = O.getD r 0 := by simp [List.getD]
        rw [h2] at this
        omega]
section
variable {B R : List Nat}
/-- where the whole stands -/
theorem at_ex (h : IsSA B R) : ∃ a, a ≤ B.length ∧ (B.length :: R).getD a 0 = 0 ∧ fwAt (B.length :: R) = a := by
  obtain ⟨a, ha, he⟩ := ord_idx h (p := 0) (by omega)
  refine ⟨a, ha, he, ?_⟩
  have hl : (B.length :: R).length = B.length + 1 := by simp [sa_length h]
  have hm : 0 ∈ (B.length :: R) := by rw [← he]; exact getD_mem _ 0 (by rw [hl]; omega)
  have h1 := List.idxOf_lt_length_iff.2 hm
  have h2 := List.getElem_idxOf h1
  rw [← getD_get _ 0 h1] at h2
  unfold fwAt
  rw [hl] at h1
  exact ord_inj h (by omega) ha (by rw [h2, he])
theorem fw_length (h : IsSA B R) : (fwL B (B.length :: R)).length = B.length := by
  obtain ⟨a, ha, he, _⟩ := at_ex h
  have hl : (B.length :: R).length = B.length + 1 := by simp [sa_length h]
  unfold fwL
  rw [List.length_map, filt_erase _ a (by rw [hl]; omega) fun r hr => ⟨fun e => ord_inj h (by omega) ha (by rw [e, he]), fun e => by rw [e]; exact he⟩, List.length_eraseIdx_of_lt (by rw [hl]; omega), hl]
  omega
theorem fw_get (h : IsSA B R) {a r : Nat} (ha : a ≤ B.length) (he : (B.length :: R).getD a 0 = 0) (hr : r ≤ B.length) (hne : r ≠ a) : (fwL B (B.length :: R)).getD (plc a r) 0 = B.getD ((B.length :: R).getD r 0 - 1) 0 := by
  have hl : (B.length :: R).length = B.length + 1 := by simp [sa_length h]
  have hp := plc_lt ha hr hne
  have hf := filt_erase (B.length :: R) a (by rw [hl]; omega) fun r hr => ⟨fun e => ord_inj h (by omega) ha (by rw [e, he]), fun e => by rw [e]; exact he⟩
  have e2 : (fwL B (B.length :: R)) = ((B.length :: R).eraseIdx a).map (fun o => B.getD (o - 1) 0) := by unfold fwL; rw [hf]
  have hel : ((B.length :: R).eraseIdx a).length = B.length := by rw [List.length_eraseIdx_of_lt (by rw [hl]; omega), hl]; omega
  have e3 : ((B.length :: R).eraseIdx a).getD (plc a r) 0 = (B.length :: R).getD r 0 := by
    rw [getD_get _ 0 (by rw [hel]; exact hp), getD_get _ 0 (by rw [hl]; omega), List.getElem_eraseIdx]
    unfold plc
    split <;> split <;> first | omega | rfl | (congr 1; omega)
  rw [e2, getD_get _ 0 (by rw [List.length_map, hel]; exact hp), List.getElem_map, ← getD_get _ 0 (by rw [hel]; exact hp), e3]
theorem pickf {p : Nat → Nat → Prop} (h : ∀ k, ∃ y, p k y) : ∃ f : Nat → Nat, ∀ k, p k (f k) := ⟨fun k => Classical.choose (h k), fun k => Classical.choose_spec (h k)⟩
/-! completeness: from the transform back to the text -/
theorem cnt_below {n : Nat} {f : Nat → Nat} (hf : ∀ i, i < n → f i < n) (hi : ∀ i j, i < n → j < n → f i = f j → i = j) : ∀ m, m ≤ n → cnt n (fun j => decide (f j < m)) = m := by
  intro m
  induction m with
  | zero => intro _; exact cnt_zero fun i _ => by simp
  | succ m ih =>
    intro hm
    obtain ⟨i, hin, he⟩ := inj_onto hf hi m (by omega)
    rw [cnt_more (q := fun j => decide (f j < m)) hin (by simp [he]) (by simp [he]) fun j hj hne => ?_, ih (by omega)]
    have : f j ≠ m := fun e => hne (hi j i hj hin (by rw [e, he]))
    rw [decide_eq_decide]
    omega
/-- the row of the suffix ahead -/
theorem lf_ord (h : IsSA B R) {a : Nat} (ha : a ≤ B.length) (he : (B.length :: R).getD a 0 = 0) {l : List Nat} (hl : fwL B (B.length :: R) = l) {r : Nat} (hr : r ≤ B.length) (hne : r ≠ a) :
    (B.length :: R).getD (lf l (plc a r)) 0 = (B.length :: R).getD r 0 - 1 := by
  have hll : l.length = B.length := by rw [← hl]; exact fw_length h
  -- the row of each place's suffix
  obtain ⟨g, hg⟩ : ∃ g : Nat → Nat, ∀ k, k < B.length → g k + 1 ≤ B.length ∧ (B.length :: R).getD (g k + 1) 0 = (B.length :: R).getD (unp a k) 0 - 1 := by
    refine pickf (p := fun k y => k < B.length → y + 1 ≤ B.length ∧ (B.length :: R).getD (y + 1) 0 = (B.length :: R).getD (unp a k) 0 - 1) fun k => ?_
    by_cases hk : k < B.length
    · have hu := ord_le h (unp_le (a := a) hk)
      have h0 : (B.length :: R).getD (unp a k) 0 ≠ 0 := fun e => unp_ne a k (ord_inj h (unp_le hk) ha (by rw [e, he]))
      obtain ⟨q, hq, hqe⟩ := ord_idx h (p := (B.length :: R).getD (unp a k) 0 - 1) (by omega)
      have hq0 : q ≠ 0 := fun e => by subst e; rw [ord_get_zero] at hqe; omega
      exact ⟨q - 1, fun _ => ⟨by omega, by rw [show q - 1 + 1 = q by omega]; exact hqe⟩⟩
    · exact ⟨0, fun hh => absurd hh hk⟩
  have hlet : ∀ k, k < B.length → l.getD k 0 = B.getD ((B.length :: R).getD (unp a k) 0 - 1) 0 := fun k hk => by
    have := fw_get h ha he (unp_le (a := a) hk) (unp_ne a k)
    rw [plc_unp, hl] at this
    exact this
  have hpos : ∀ k, k < B.length → 0 < (B.length :: R).getD (unp a k) 0 ∧ (B.length :: R).getD (unp a k) 0 ≤ B.length := fun k hk => by
    have h1 := ord_le h (unp_le (a := a) hk)
    have h0 : (B.length :: R).getD (unp a k) 0 ≠ 0 := fun e => unp_ne a k (ord_inj h (unp_le hk) ha (by rw [e, he]))
    omega
  have hmono : ∀ j k, j < B.length → k < B.length → lt2 l k j = true → g j < g k := fun j k hj hk hlt => by
    have h1 := hg j hj
    have h2 := hg k hk
    have p1 := hpos j hj
    have p2 := hpos k hk
    have : g j + 1 < g k + 1 := by
      refine ord_of_lt h h1.1 h2.1 ?_
      rw [h1.2, h2.2]
      rw [lt2_iff, hlet j hj, hlet k hk] at hlt
      rcases hlt with hlt | ⟨heq, hjk⟩
      · exact suf_lt (by omega) (by omega) hlt
      · rw [suf_same (by omega) (by omega) heq, Nat.sub_add_cancel p1.1, Nat.sub_add_cancel p2.1]
        refine ord_lt h ?_ (unp_le hk)
        unfold unp
        split <;> split <;> omega
    omega
  have hinj : ∀ j k, j < B.length → k < B.length → g j = g k → j = k := fun j k hj hk e => by
    apply Classical.byContradiction
    intro hne
    have : lt2 l k j = true ∨ lt2 l j k = true := by rw [lt2_iff, lt2_iff]; omega
    rcases this with h1 | h1
    · have := hmono j k hj hk h1; omega
    · have := hmono k j hk hj h1; omega
  have hk := plc_lt ha hr hne
  have hc := cnt_below (n := B.length) (f := g) (fun i hi => by have := hg i hi; omega) hinj (g (plc a r)) (by have := hg _ hk; omega)
  have hcc : cnt B.length (lt2 l (plc a r)) = cnt B.length (fun j => decide (g j < g (plc a r))) := cnt_congr fun j hj => by
    rw [Bool.eq_iff_iff, decide_eq_true_eq]
    refine ⟨hmono j _ hj hk, fun hlt => ?_⟩
    apply Classical.byContradiction
    intro hn
    have hne2 : j ≠ plc a r := fun e => by subst e; omega
    have : lt2 l j (plc a r) = true := by rw [lt2_iff] at *; omega
    have := hmono _ j hk hj this
    omega
  unfold lf
  rw [hll, hcc, hc, Nat.add_comm, (hg _ hk).2, unp_plc hne]
theorem fw_walk (h : IsSA B R) {a : Nat} (ha : a ≤ B.length) (he : (B.length :: R).getD a 0 = 0) {l : List Nat} (hl : fwL B (B.length :: R) = l) : ∀ i, i ≤ B.length → wr l a i ≤ B.length ∧ (B.length :: R).getD (wr l a i) 0 = B.length - i := by
  have hll : l.length = B.length := by rw [← hl]; exact fw_length h
  intro i
  induction i with
  | zero => intro _; exact ⟨by unfold wr; omega, rfl⟩
  | succ i ih =>
    intro hi
    obtain ⟨h1, h2⟩ := ih (by omega)
    have hne : wr l a i ≠ a := fun e => by rw [e, he] at h2; omega
    have h3 := lf_ord h ha he hl h1 hne
    have h4 := lf_range (l := l) (k := plc a (wr l a i)) (by rw [hll]; exact plc_lt ha h1 hne)
    unfold wr
    exact ⟨by omega, by rw [h3, h2]; omega⟩
theorem fw_ok (h : IsSA B R) {l : List Nat} {a : Nat} (hl : fwL B (B.length :: R) = l) (hat : fwAt (B.length :: R) = a) : a ≤ l.length ∧ okW l a = true ∧ bk l a = B := by
  obtain ⟨a', ha, he, hat'⟩ := at_ex h
  obtain rfl : a' = a := by rw [← hat, ← hat']
  have hll : l.length = B.length := by rw [← hl]; exact fw_length h
  have hw := fw_walk h ha he hl
  have hne : ∀ i, i < B.length → wr l a' i ≠ a' := fun i hi e => by
    have := (hw i (by omega)).2
    rw [e, he] at this
    omega
  refine ⟨by omega, okW_iff.2 fun i hi => hne i (by omega), ?_⟩
  refine List.ext_getElem (by rw [bk_length, hll]) fun p h1 h2 => ?_
  rw [← getD_get _ 0 h1, ← getD_get _ 0 h2, bk_get (by omega)]
  have h3 := hw (l.length - 1 - p) (by omega)
  have h4 := fw_get h ha he h3.1 (hne _ (by omega))
  rw [hl] at h4
  rw [h4, h3.2]
  congr 1
  omega
end
/-! soundness: what the way back gives is a text whose transform it is -/
section
variable {l : List Nat} {a : Nat}
theorem wr_le (ha : a ≤ l.length) (hok : okW l a = true) : ∀ i, i ≤ l.length → wr l a i ≤ l.length := by
  intro i
  induction i with
  | zero => intro _; unfold wr; omega
  | succ i ih =>
    intro hi
    unfold wr
    exact (lf_range (plc_lt ha (ih (by omega)) (okW_iff.1 hok i (by omega)))).2
theorem wr_pos (ha : a ≤ l.length) (hok : okW l a = true) {i : Nat} (h0 : 0 < i) (hi : i ≤ l.length) : 0 < wr l a i := by
  obtain ⟨i, rfl⟩ : ∃ t, i = t + 1 := ⟨i - 1, by omega⟩
  have := lf_range (plc_lt ha (wr_le ha hok i (by omega)) (okW_iff.1 hok i (by omega)))
  unfold wr
  omega
theorem wr_inj (ha : a ≤ l.length) (hok : okW l a = true) : ∀ i j, i < j → j ≤ l.length → wr l a i ≠ wr l a j := by
  intro i
  induction i with
  | zero => intro j h0 hj e; have := wr_pos ha hok h0 hj; rw [← e] at this; unfold wr at this; omega
  | succ i ih =>
    intro j hij hj e
    obtain ⟨j, rfl⟩ : ∃ t, j = t + 1 := ⟨j - 1, by omega⟩
    have n1 := okW_iff.1 hok i (by omega)
    have n2 := okW_iff.1 hok j (by omega)
    have := lf_inj (plc_lt ha (wr_le ha hok i (by omega)) n1) (plc_lt ha (wr_le ha hok j (by omega)) n2) e
    exact ih j (by omega) (by omega) (plc_inj n1 n2 this)
theorem wr_onto (ha : a ≤ l.length) (hok : okW l a = true) {k : Nat} (hk : k ≤ l.length) : ∃ i, i ≤ l.length ∧ wr l a i = k := by
  obtain ⟨i, hi, he⟩ := inj_onto (n := l.length + 1) (f := wr l a) (fun i hi => by have := wr_le ha hok i (by omega); omega) (fun i j hi hj e => by
    apply Classical.byContradiction
    intro hne
    rcases Nat.lt_or_gt_of_ne hne with h1 | h1
    · exact wr_inj ha hok i j h1 (by omega) e
    · exact wr_inj ha hok j i h1 (by omega) e.symm) k (by omega)
  exact ⟨i, by omega, he⟩
theorem wr_last (ha : a ≤ l.length) (hok : okW l a = true) : wr l a l.length = a := by
  obtain ⟨i, hi, he⟩ := wr_onto ha hok ha
  by_cases e : i = l.length
  · rw [← e]; exact he
  · exact absurd he (okW_iff.1 hok i (by omega))
theorem wr_order (ha : a ≤ l.length) (hok : okW l a = true) : ∀ m p q, l.length - p = m → p ≤ l.length → q ≤ l.length → sufB (bk l a) p q = true → wr l a (l.length - p) < wr l a (l.length - q) := by
  intro m
  induction m with
  | zero =>
    intro p q hm hp hq hs
    have hq2 : q ≠ l.length := fun e => by rw [suf_out (by rw [bk_length]; omega)] at hs; simp at hs
    have := wr_pos ha hok (i := l.length - q) (by omega) (by omega)
    rw [hm]
    exact this
  | succ m ih =>
    intro p q hm hp hq hs
    have hq2 : q < l.length := by
      apply Classical.byContradiction
      intro hh
      rw [suf_out (by rw [bk_length]; omega)] at hs; simp at hs
    have n1 := okW_iff.1 hok (l.length - 1 - p) (by omega)
    have n2 := okW_iff.1 hok (l.length - 1 - q) (by omega)
    have w1 := wr_le ha hok (l.length - 1 - p) (by omega)
    have w2 := wr_le ha hok (l.length - 1 - q) (by omega)
    have g1 := bk_get (l := l) (a := a) (p := p) (by omega)
    have g2 := bk_get (l := l) (a := a) (p := q) hq2
    rw [show l.length - p = (l.length - 1 - p) + 1 by omega, show l.length - q = (l.length - 1 - q) + 1 by omega]
    show lf l (plc a (wr l a (l.length - 1 - p))) < lf l (plc a (wr l a (l.length - 1 - q)))
    have k1 := plc_lt ha w1 n1
    refine lf_lt k1 ?_
    rw [lt2_iff, ← g1, ← g2]
    have hpl : p < (bk l a).length := by rw [bk_length]; omega
    have hql : q < (bk l a).length := by rw [bk_length]; omega
    have hle := suf_le hpl hql hs
    by_cases heq : (bk l a).getD p 0 = (bk l a).getD q 0
    · refine .inr ⟨heq, ?_⟩
      rw [suf_same hpl hql heq] at hs
      have := ih (p + 1) (q + 1) (by omega) (by omega) (by omega) hs
      rw [show l.length - (p + 1) = l.length - 1 - p by omega, show l.length - (q + 1) = l.length - 1 - q by omega] at this
      exact plc_mono n1 n2 this
    · exact .inl (by omega)
theorem bk_sound (ha : a ≤ l.length) (hok : okW l a = true) : ∃ R, IsSA (bk l a) R ∧ fwL (bk l a) ((bk l a).length :: R) = l ∧ fwAt ((bk l a).length :: R) = a := by
  have hbl := bk_length l a
  obtain ⟨i, hi⟩ : ∃ i : Nat → Nat, ∀ k, k ≤ l.length → i k ≤ l.length ∧ wr l a (i k) = k := by
    refine pickf (p := fun k y => k ≤ l.length → y ≤ l.length ∧ wr l a y = k) fun k => ?_
    by_cases hk : k ≤ l.length
    · obtain ⟨i, h1, h2⟩ := wr_onto ha hok hk
      exact ⟨i, fun _ => ⟨h1, h2⟩⟩
    · exact ⟨0, fun hh => absurd hh hk⟩
  have hiw : ∀ j, j ≤ l.length → i (wr l a j) = j := fun j hj => by
    have h1 := hi (wr l a j) (wr_le ha hok j hj)
    apply Classical.byContradiction
    intro hne
    rcases Nat.lt_or_gt_of_ne hne with h2 | h2
    · exact wr_inj ha hok _ _ h2 hj h1.2
    · exact wr_inj ha hok _ _ h2 h1.1 h1.2.symm
  have hi0 : i 0 = 0 := hiw 0 (by omega)
  have hipos : ∀ k, 0 < k → k ≤ l.length → 0 < i k := fun k h0 hk => by
    have := (hi k hk).2
    apply Classical.byContradiction
    intro hh
    rw [show i k = 0 by omega] at this
    unfold wr at this
    omega
  let R := (List.range l.length).map fun k => l.length - i (k + 1)
  have hRl : R.length = l.length := by simp [R]
  have hRg : ∀ k (h : k < R.length), R[k] = l.length - i (k + 1) := fun k h => by simp [R]
  have hSA : IsSA (bk l a) R := by
    refine ⟨?_, fun p => ?_⟩
    · unfold Rises
      rw [List.pairwise_iff_getElem]
      intro x y hx hy hxy
      rw [hRl] at hx hy
      rw [hRg, hRg]
      have h1 := hi (x + 1) (by omega)
      have h2 := hi (y + 1) (by omega)
      have hne : l.length - i (x + 1) ≠ l.length - i (y + 1) := fun e => by
        have e2 : i (x + 1) = i (y + 1) := by omega
        rw [e2, h2.2] at h1
        omega
      rcases suf_total (B := bk l a) (i := l.length - i (x + 1)) (j := l.length - i (y + 1)) (by omega) (by omega) hne with h | h
      · exact h
      · have := wr_order ha hok _ _ _ rfl (by omega) (by omega) h
        rw [show l.length - (l.length - i (x + 1)) = i (x + 1) by omega, show l.length - (l.length - i (y + 1)) = i (y + 1) by omega, h1.2, h2.2] at this
        omega
    · rw [hbl]
      constructor
      · intro hm
        obtain ⟨k, hk, rfl⟩ := List.mem_iff_getElem.1 hm
        rw [hRg]
        rw [hRl] at hk
        have := hipos (k + 1) (by omega) (by omega)
        have := (hi (k + 1) (by omega)).1
        omega
      · intro hp
        have h1 := wr_pos ha hok (i := l.length - p) (by omega) (by omega)
        have h2 := wr_le ha hok (l.length - p) (by omega)
        refine List.mem_iff_getElem.2 ⟨wr l a (l.length - p) - 1, by rw [hRl]; omega, ?_⟩
        rw [hRg, Nat.sub_add_cancel h1, hiw _ (by omega)]
        omega
  have hO : ∀ r, r ≤ l.length → ((bk l a).length :: R).getD r 0 = l.length - i r := fun r hr => by
    cases r with
    | zero => rw [hi0]; show (bk l a).length = _; omega
    | succ r =>
      show R.getD r 0 = _
      rw [getD_get _ 0 (by rw [hRl]; omega), hRg]
  have hia : i a = l.length := by rw [← wr_last ha hok]; exact hiw _ (Nat.le_refl _)
  obtain ⟨a', ha', he', hat'⟩ := at_ex hSA
  have haa : a' = a := by
    have h1 := hO a' (by omega)
    have h2 := hi a' (by omega)
    rw [he'] at h1
    have : i a' = l.length := by omega
    rw [this, wr_last ha hok] at h2
    exact h2.2.symm
  subst haa
  refine ⟨R, hSA, ?_, hat'⟩
  have hfl := fw_length hSA
  refine List.ext_getElem (by rw [hfl, hbl]) fun k h1 h2 => ?_
  rw [← getD_get _ 0 h1, ← getD_get _ 0 h2]
  have hu := unp_le (a := a') h2
  have hg := fw_get hSA ha' he' (by rw [hbl]; exact hu) (unp_ne a' k)
  rw [plc_unp, hO _ hu] at hg
  rw [hg]
  have h3 := hi (unp a' k) hu
  have h4 : i (unp a' k) < l.length := by
    apply Classical.byContradiction
    intro hh
    have e : i (unp a' k) = l.length := by omega
    rw [e, wr_last ha hok] at h3
    exact unp_ne a' k h3.2.symm
  rw [bk_get (by omega), show l.length - 1 - (l.length - i (unp a' k) - 1) = i (unp a' k) by omega, h3.2, plc_unp]
end
end Go.Proofs.Ytklpmpniempmcaa.Pl
