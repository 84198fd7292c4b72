/- Orders out of places; the names of pieces, and why the names' order is the cuts', plain: no program. -/
import Derived.Test.YtklpmpniempmcaaSaC
namespace Go.Proofs.Ytklpmpniempmcaa.Pl
theorem getD_get {α : Type} (L : List α) (d : α) {i : Nat} (h : i < L.length) : L.getD i d = L[i] := by simp [List.getD, h]
theorem getD_mem {α : Type} (L : List α) (d : α) {i : Nat} (h : i < L.length) : L.getD i d ∈ L := by rw [getD_get L d h]; exact List.getElem_mem h
theorem getD_idx {L : List Nat} {c : Nat} (h : c ∈ L) : L.getD (L.idxOf c) 0 = c := by
  rw [getD_get L 0 (List.idxOf_lt_length_iff.2 h)]; exact List.getElem_idxOf _
theorem pair_at {α : Type} {r : α → α → Prop} {L : List α} (h : L.Pairwise r) (d : α) {a b : Nat} (hab : a < b) (hb : b < L.length) : r (L.getD a d) (L.getD b d) := by
  rw [getD_get L d (by omega), getD_get L d hb]
  exact List.pairwise_iff_getElem.1 h a b (by omega) hb hab
section
variable {T C : List Nat}
/-- cuts in the order of their suffixes: all comes in the order of the suffixes -/
theorem gl_suf (hC : IsCuts T C) (hs : Rises T C) {i j : Nat} (hi : i < T.length) (hj : j < T.length) (hne : i ≠ j) : gl T C i j = sufB T i j := by
  rcases keyG_cmp T hi hj hne with h | ⟨h, h2⟩ | ⟨h, h2⟩
  · obtain ⟨d, h1, ⟨P, hP⟩, h3⟩ := same_suf hi hj h
    have hc1 := (hC.2 _).2 h1.2.1
    have hc2 := (hC.2 _).2 h1.2.2.1
    have hq : C.idxOf (i + 1 + d) ≠ C.idxOf (j + 1 + d) := fun e => by have := idx_inj hc1 hc2 e; omega
    have l1 := List.idxOf_lt_length_iff.2 hc1
    have l2 := List.idxOf_lt_length_iff.2 hc2
    unfold gl
    rw [(hP (ix C)).1, (hP (ix C)).2, lexB_pre, h3]
    unfold ix
    rw [lexB_single]
    by_cases hlt : C.idxOf (i + 1 + d) < C.idxOf (j + 1 + d)
    · have := pair_at hs 0 hlt l2
      rw [getD_idx hc1, getD_idx hc2] at this
      rw [this, decide_eq_true hlt]
    · have := pair_at hs 0 (by omega : C.idxOf (j + 1 + d) < C.idxOf (i + 1 + d)) l1
      rw [getD_idx hc1, getD_idx hc2] at this
      rw [suf_asymm this, decide_eq_false hlt]
  · rw [h2]; exact h _ _
  · rw [suf_asymm h2]; exact lexB_asymm _ _ (h _ _)
/-- a list that has each at its place -/
theorem order_of (hC : IsCuts T C) {O : List Int} (hO : O.length = T.length) (h : ∀ i, i < T.length → O.getD (pos T C i) 0 = (i : Int)) :
    ∃ R : List Nat, O = R.map (fun (i : Nat) => (i : Int)) ∧ R.length = T.length ∧ R.Pairwise (fun i j => gl T C i j = true) ∧ ∀ i, i ∈ R ↔ i < T.length := by
  have hat : ∀ p, p < T.length → ∃ i, i < T.length ∧ pos T C i = p ∧ O.getD p 0 = (i : Int) := fun p hp => by
    obtain ⟨i, hi, rfl⟩ := pos_onto hC hp
    exact ⟨i, hi, rfl, h i hi⟩
  have hget : ∀ p (hp : p < (O.map Int.toNat).length), (O.map Int.toNat)[p] = (O.getD p 0).toNat := fun p hp => by
    rw [List.length_map] at hp
    rw [List.getElem_map, getD_get O 0 hp]
  refine ⟨O.map Int.toNat, ?_, by rw [List.length_map]; exact hO, ?_, fun i => ⟨fun hm => ?_, fun hi => ?_⟩⟩
  · refine List.ext_getElem (by simp) fun p hp _ => ?_
    obtain ⟨i, _, _, h3⟩ := hat p (by omega)
    rw [getD_get O 0 hp] at h3
    simp [h3]
  · rw [List.pairwise_iff_getElem]
    intro a b ha hb hab
    rw [hget a ha, hget b hb]
    rw [List.length_map] at ha hb
    obtain ⟨i, hi, h1, h2⟩ := hat a (by omega)
    obtain ⟨j, hj, h3, h4⟩ := hat b (by omega)
    rw [h2, h4, Int.toNat_natCast, Int.toNat_natCast, pos_iff hC hi hj]
    simp; omega
  · obtain ⟨p, hp, rfl⟩ := List.mem_iff_getElem.1 hm
    rw [hget p hp]
    rw [List.length_map] at hp
    obtain ⟨i, hi, _, h2⟩ := hat p (by omega)
    rw [h2]; exact hi
  · have hp := pos_lt (C := C) hi
    refine List.mem_iff_getElem.2 ⟨pos T C i, by rw [List.length_map]; omega, ?_⟩
    rw [hget, h i hi]
    rfl
/-- induced from cuts in their order: the suffixes' order -/
theorem sa_of (hC : IsCuts T C) (hs : Rises T C) {O : List Int} (hO : O.length = T.length) (h : ∀ i, i < T.length → O.getD (pos T C i) 0 = (i : Int)) :
    ∃ R : List Nat, O = R.map (fun (i : Nat) => (i : Int)) ∧ IsSA T R := by
  obtain ⟨R, h1, h2, h3, h4⟩ := order_of hC hO h
  refine ⟨R, h1, ?_, h4⟩
  unfold Rises
  rw [List.pairwise_iff_getElem] at h3 ⊢
  intro a b ha hb hab
  have := h3 a b ha hb hab
  rwa [gl_suf hC hs ((h4 _).1 (List.getElem_mem ha)) ((h4 _).1 (List.getElem_mem hb)) (fun e => by rw [e, gl_irrefl] at this; simp at this)] at this
/-! names -/
def cutsOf (T : List Nat) : List Nat := (List.range T.length).filter (isc T)
theorem cutsOf_rise (T : List Nat) : (cutsOf T).Pairwise (· < ·) := List.Pairwise.filter _ List.pairwise_lt_range
theorem cutsOf_is (T : List Nat) : IsCuts T (cutsOf T) := ⟨List.Pairwise.imp (fun {a b} (h : a < b) => by omega) (cutsOf_rise T), fun c => by
  unfold cutsOf
  rw [List.mem_filter, List.mem_range]
  exact ⟨fun h => h.2, fun h => ⟨by have := (isc_parts h).2.2.2; omega, h⟩⟩⟩
def kp (T : List Nat) (i : Nat) : List Nat := keyG T (fun _ => []) i
theorem kp_same {i j : Nat} (hi : i < T.length) (hj : j < T.length) (hne : i ≠ j) : kp T i = kp T j ↔ Same T i j := by
  constructor
  · intro h
    rcases keyG_cmp T hi hj hne with h1 | ⟨h1, _⟩ | ⟨h1, _⟩
    · exact h1
    · have := h1 (fun _ => []) (fun _ => [])
      unfold kp at h
      rw [h, lexB_irrefl] at this; simp at this
    · have := h1 (fun _ => []) (fun _ => [])
      unfold kp at h
      rw [h, lexB_irrefl] at this; simp at this
  · intro h
    obtain ⟨d, _, ⟨P, hP⟩, _⟩ := same_suf hi hj h
    unfold kp
    rw [(hP _).1, (hP _).2]
theorem kp_le {i j : Nat} (hi : i < T.length) (hj : j < T.length) (h : gl T C i j = true) : lexB (kp T j) (kp T i) = false := by
  by_cases hne : i = j
  · subst hne; exact lexB_irrefl _
  · rcases keyG_cmp T hi hj hne with h1 | ⟨h1, _⟩ | ⟨h1, _⟩
    · rw [(kp_same hi hj hne).2 h1]; exact lexB_irrefl _
    · exact lexB_asymm _ _ (h1 _ _)
    · have := lexB_asymm _ _ h
      rw [h1] at this; simp at this
/-- where the pieces part, so do the suffixes -/
theorem kp_suf {i j : Nat} (hi : i < T.length) (hj : j < T.length) (hne : kp T i ≠ kp T j) : sufB T i j = lexB (kp T i) (kp T j) := by
  have hij : i ≠ j := fun e => hne (by rw [e])
  rcases keyG_cmp T hi hj hij with h1 | ⟨h1, h2⟩ | ⟨h1, h2⟩
  · exact absurd ((kp_same hi hj hij).2 h1) hne
  · rw [h2]; exact (h1 _ _).symm
  · rw [suf_asymm h2]; exact (lexB_asymm _ _ (h1 _ _)).symm
def df (T F : List Nat) (z : Nat) : Bool := z == 0 || !decide (kp T (F.getD (z - 1) 0) = kp T (F.getD z 0))
/-- how many pieces the first x are -/
def ds (T F : List Nat) (x : Nat) : Nat := cnt x (df T F)
theorem ds_succ (T F : List Nat) (x : Nat) : ds T F (x + 1) = ds T F x + (df T F x).toNat := rfl
theorem ds_mono (T F : List Nat) {x y : Nat} (h : x ≤ y) : ds T F x ≤ ds T F y := by
  induction y with
  | zero => rw [Nat.le_zero.1 h]; exact Nat.le_refl _
  | succ y ih =>
    by_cases hxy : x = y + 1
    · subst hxy; exact Nat.le_refl _
    · have := ih (by omega); rw [ds_succ]; omega
theorem ds_one (T F : List Nat) (x : Nat) : 1 ≤ ds T F (x + 1) := by
  have h : ds T F 1 = 1 := rfl
  have := ds_mono T F (x := 1) (y := x + 1) (by omega)
  omega
/-- cuts in an order by which equal pieces stand together -/
structure Ordered (T F : List Nat) : Prop where
  cuts : IsCuts T F
  le : ∀ x y, x ≤ y → y < F.length → lexB (kp T (F.getD y 0)) (kp T (F.getD x 0)) = false
theorem ordered_filter (hC : IsCuts T C) {R : List Nat} (h : R.Pairwise (fun i j => gl T C i j = true)) (hm : ∀ i, i ∈ R ↔ i < T.length) : Ordered T (R.filter (isc T)) ∧ (R.filter (isc T)).Pairwise (fun i j => gl T C i j = true) := by
  have hp : (R.filter (isc T)).Pairwise (fun i j => gl T C i j = true) := List.Pairwise.filter _ h
  have hmem : ∀ c, c ∈ R.filter (isc T) ↔ isc T c = true := fun c => by
    rw [List.mem_filter, hm]
    exact ⟨fun h => h.2, fun h => ⟨by have := (isc_parts h).2.2.2; omega, h⟩⟩
  have hlt : ∀ x, x < (R.filter (isc T)).length → (R.filter (isc T)).getD x 0 < T.length := fun x hx => by
    have := (isc_parts ((hmem _).1 (getD_mem _ 0 hx))).2.2.2; omega
  refine ⟨⟨⟨List.Pairwise.imp (fun {a b} hab e => by rw [e, gl_irrefl] at hab; simp at hab) hp, hmem⟩, fun x y hxy hy => ?_⟩, hp⟩
  by_cases he : x = y
  · subst he; exact lexB_irrefl _
  · exact kp_le (C := C) (hlt x (by omega)) (hlt y hy) (pair_at hp 0 (by omega) hy)
variable {F : List Nat}
theorem lexB_anti {A B : List Nat} (h : lexB A B = false) (h2 : lexB B A = false) : A = B := by
  apply Classical.byContradiction
  intro hne
  rcases lexB_total A B hne with h3 | h3
  · rw [h3] at h; simp at h
  · rw [h3] at h2; simp at h2
theorem ds_eq (hF : Ordered T F) {x y : Nat} (hxy : x ≤ y) (hy : y < F.length) : (ds T F (x + 1) = ds T F (y + 1) ↔ kp T (F.getD x 0) = kp T (F.getD y 0)) := by
  induction y with
  | zero => obtain rfl : x = 0 := by omega
            simp
  | succ y ih =>
    by_cases he : x = y + 1
    · subst he; simp
    · have h1 := ih (by omega) (by omega)
      have hm := ds_mono T F (x := x + 1) (y := y + 1) (by omega)
      have hs := ds_succ T F (y + 1)
      have hd : df T F (y + 1) = !decide (kp T (F.getD y 0) = kp T (F.getD (y + 1) 0)) := by unfold df; simp
      by_cases hk : kp T (F.getD y 0) = kp T (F.getD (y + 1) 0)
      · rw [hd, decide_eq_true hk] at hs
        rw [hs, ← hk, ← h1]; simp
      · rw [hd, decide_eq_false hk] at hs
        simp only [Bool.not_false, Bool.toNat_true] at hs
        constructor
        · intro e; omega
        · intro e
          refine absurd (lexB_anti ?_ (hF.le y (y + 1) (by omega) hy)) hk
          rw [← e]
          exact hF.le x y (by omega) (by omega)
theorem ds_le (x : Nat) : ds T F x ≤ x := cnt_le _ _
def num (T F : List Nat) (c : Nat) : Nat := ds T F (F.idxOf c + 1) - 1
theorem num_eq (hF : Ordered T F) {c c' : Nat} (hc : isc T c = true) (hc' : isc T c' = true) : num T F c = num T F c' ↔ kp T c = kp T c' := by
  have m1 := (hF.cuts.2 c).2 hc
  have m2 := (hF.cuts.2 c').2 hc'
  have l1 := List.idxOf_lt_length_iff.2 m1
  have l2 := List.idxOf_lt_length_iff.2 m2
  have a := ds_one T F (F.idxOf c)
  have b := ds_one T F (F.idxOf c')
  unfold num
  rcases Nat.le_total (F.idxOf c) (F.idxOf c') with h | h
  · have := ds_eq hF h l2
    rw [getD_idx m1, getD_idx m2] at this
    rw [← this]; omega
  · have := ds_eq hF h l1
    rw [getD_idx m1, getD_idx m2] at this
    rw [eq_comm (a := kp T c), ← this]; omega
theorem num_lt (hF : Ordered T F) {c c' : Nat} (hc : isc T c = true) (hc' : isc T c' = true) (h : num T F c < num T F c') : lexB (kp T c) (kp T c') = true := by
  have m1 := (hF.cuts.2 c).2 hc
  have m2 := (hF.cuts.2 c').2 hc'
  have l1 := List.idxOf_lt_length_iff.2 m1
  have l2 := List.idxOf_lt_length_iff.2 m2
  have hne : kp T c ≠ kp T c' := fun e => by have := (num_eq hF hc hc').2 e; omega
  have hle : F.idxOf c ≤ F.idxOf c' := by
    apply Classical.byContradiction
    intro hh
    have := ds_mono T F (x := F.idxOf c' + 1) (y := F.idxOf c + 1) (by omega)
    unfold num at h
    omega
  have := hF.le _ _ hle l2
  rw [getD_idx m1, getD_idx m2] at this
  rcases lexB_total _ _ hne with h1 | h1
  · exact h1
  · rw [h1] at this; simp at this
theorem num_in (hF : Ordered T F) {c : Nat} (hc : isc T c = true) : num T F c < ds T F F.length := by
  have m1 := (hF.cuts.2 c).2 hc
  have l1 := List.idxOf_lt_length_iff.2 m1
  have a := ds_one T F (F.idxOf c)
  have := ds_mono T F (x := F.idxOf c + 1) (y := F.length) (by omega)
  unfold num
  omega
/-- all pieces are different: the cuts stand in the order of their suffixes -/
theorem all_different (hF : Ordered T F) (hg : F.Pairwise (fun i j => gl T C i j = true)) (hd : ds T F F.length = F.length) : Rises T F := by
  have hdf : ∀ z, z < F.length → df T F z = true := fun z hz => by
    apply Classical.byContradiction
    intro h
    have := cnt_lt (n := F.length) (i := z) (p := df T F) (q := fun _ => true) hz (by simpa using h) rfl fun _ _ _ => rfl
    rw [cnt_all (p := fun _ => true) fun _ _ => rfl] at this
    unfold ds at hd
    omega
  have hlt : ∀ x, x < F.length → F.getD x 0 < T.length := fun x hx => by
    have := (isc_parts ((hF.cuts.2 _).1 (getD_mem _ 0 hx))).2.2.2; omega
  unfold Rises
  rw [List.pairwise_iff_getElem] at hg ⊢
  intro a b ha hb hab
  have h1 := hg a b ha hb hab
  have h2 := hdf b hb
  have hne : kp T (F.getD a 0) ≠ kp T (F.getD b 0) := fun e => by
    unfold df at h2
    have h3 := hF.le a (b - 1) (by omega) (by omega)
    have h4 := hF.le (b - 1) b (by omega) hb
    rw [e] at h3
    rw [lexB_anti h4 h3] at h2
    simp at h2
    omega
  have h3 := hF.le a b (by omega) hb
  have h5 := kp_suf (hlt a ha) (hlt b hb) hne
  rw [getD_get F 0 ha, getD_get F 0 hb] at hne h3 h5
  rw [h5]
  rcases lexB_total _ _ hne with h4 | h4
  · exact h4
  · rw [h4] at h3; simp at h3
/-! the text of the names -/
theorem next_cut {a d : Nat} (ha : a < (cutsOf T).length) {j : Nat} (h : Meet T ((cutsOf T).getD a 0 + 1) j d) : a + 1 < (cutsOf T).length ∧ (cutsOf T).getD (a + 1) 0 = (cutsOf T).getD a 0 + 1 + d := by
  obtain ⟨_, h1, _, h2⟩ := h
  have hm := ((cutsOf_is T).2 _).2 h1
  obtain ⟨x, hx, he⟩ := List.mem_iff_getElem.1 hm
  rw [← getD_get _ 0 hx] at he
  have hxa : a < x := by
    apply Classical.byContradiction
    intro hh
    by_cases hxe : x = a
    · subst hxe; omega
    · have := pair_at (cutsOf_rise T) 0 (by omega : x < a) ha
      omega
  refine ⟨by omega, ?_⟩
  by_cases hxe : x = a + 1
  · rw [← hxe]; exact he
  · have h3 := pair_at (cutsOf_rise T) 0 (by omega : a < a + 1) (by omega)
    have h4 := pair_at (cutsOf_rise T) 0 (by omega : a + 1 < x) hx
    have h5 := ((cutsOf_is T).2 _).1 (getD_mem (cutsOf T) 0 (by omega : a + 1 < (cutsOf T).length))
    have h6 := (h2 ((cutsOf T).getD (a + 1) 0 - ((cutsOf T).getD a 0 + 1)) (by omega)).1
    rw [show (cutsOf T).getD a 0 + 1 + ((cutsOf T).getD (a + 1) 0 - ((cutsOf T).getD a 0 + 1)) = (cutsOf T).getD (a + 1) 0 by omega, h5] at h6
    simp at h6
def nameOf (T F : List Nat) : List Nat := (cutsOf T).map (num T F)
theorem nameOf_get {a : Nat} (ha : a < (cutsOf T).length) : (nameOf T F).getD a 0 = num T F ((cutsOf T).getD a 0) := by
  unfold nameOf
  rw [getD_get _ 0 (by rw [List.length_map]; exact ha), List.getElem_map, getD_get _ 0 ha]
theorem sub_suf (hF : Ordered T F) : ∀ m a b, (cutsOf T).length - a = m → a < (cutsOf T).length → b < (cutsOf T).length → a ≠ b →
    sufB (nameOf T F) a b = sufB T ((cutsOf T).getD a 0) ((cutsOf T).getD b 0) := by
  intro m
  induction m with
  | zero => intro a b hm ha; omega
  | succ m ih =>
    intro a b hm ha hb hne
    have hl : (nameOf T F).length = (cutsOf T).length := by unfold nameOf; rw [List.length_map]
    have c1 := ((cutsOf_is T).2 _).1 (getD_mem (cutsOf T) 0 ha)
    have c2 := ((cutsOf_is T).2 _).1 (getD_mem (cutsOf T) 0 hb)
    have b1 := (isc_parts c1).2.2.2
    have b2 := (isc_parts c2).2.2.2
    have hcne : (cutsOf T).getD a 0 ≠ (cutsOf T).getD b 0 := fun e => by
      rcases Nat.lt_or_gt_of_ne hne with h | h
      · have := pair_at (cutsOf_rise T) 0 h hb; omega
      · have := pair_at (cutsOf_rise T) 0 h ha; omega
    rcases Nat.lt_trichotomy ((nameOf T F).getD a 0) ((nameOf T F).getD b 0) with h | h | h
    · rw [suf_lt (by omega) (by omega) h]
      rw [nameOf_get ha, nameOf_get hb] at h
      have := num_lt hF c1 c2 h
      rw [kp_suf (by omega) (by omega) (fun e => by have := (num_eq hF c1 c2).2 e; omega), this]
    · rw [suf_same (by omega) (by omega) h]
      rw [nameOf_get ha, nameOf_get hb] at h
      have h1 := (num_eq hF c1 c2).1 h
      obtain ⟨d, h2, _, h3⟩ := same_suf (by omega) (by omega) ((kp_same (by omega) (by omega) hcne).1 h1)
      obtain ⟨n1, n2⟩ := next_cut ha h2
      obtain ⟨x1, x2, x3, x4⟩ := h2
      obtain ⟨n3, n4⟩ := next_cut (d := d) hb (j := (cutsOf T).getD a 0 + 1) ⟨fun e he => (x1 e he).symm, x3, x2, fun e he => ⟨(x4 e he).2, (x4 e he).1⟩⟩
      rw [ih (a + 1) (b + 1) (by omega) n1 n3 (by omega), n2, n4, h3]
    · rw [suf_gt (by omega) (by omega) h]
      rw [nameOf_get ha, nameOf_get hb] at h
      have := num_lt hF c2 c1 h
      rw [kp_suf (by omega) (by omega) (fun e => by have := (num_eq hF c1 c2).2 e; omega), lexB_asymm _ _ this]
/-- the cuts by the order of the names' text -/
theorem cuts_by_names (hF : Ordered T F) {R : List Nat} (hR : IsSA (nameOf T F) R) : IsCuts T (R.map fun a => (cutsOf T).getD a 0) ∧ Rises T (R.map fun a => (cutsOf T).getD a 0) := by
  have hl : (nameOf T F).length = (cutsOf T).length := by unfold nameOf; rw [List.length_map]
  have hr : Rises T (R.map fun a => (cutsOf T).getD a 0) := by
    unfold Rises
    rw [List.pairwise_map]
    have h := hR.1
    unfold Rises at h
    rw [List.pairwise_iff_getElem] at h ⊢
    intro a b ha hb hab
    have h1 := h a b ha hb hab
    have m1 := (hR.2 _).1 (List.getElem_mem ha)
    have m2 := (hR.2 _).1 (List.getElem_mem hb)
    rw [hl] at m1 m2
    rwa [sub_suf hF _ _ _ rfl m1 m2 (fun e => by rw [e, suf_irrefl] at h1; simp at h1)] at h1
  refine ⟨⟨rises_nodup hr, fun c => ?_⟩, hr⟩
  rw [List.mem_map]
  constructor
  · rintro ⟨a, ha, rfl⟩
    have := (hR.2 a).1 ha
    exact ((cutsOf_is T).2 _).1 (getD_mem (cutsOf T) 0 (by omega))
  · intro hc
    have hm := ((cutsOf_is T).2 c).2 hc
    exact ⟨(cutsOf T).idxOf c, (hR.2 _).2 (by rw [hl]; exact List.idxOf_lt_length_iff.2 hm), getD_idx hm⟩
end
end Go.Proofs.Ytklpmpniempmcaa.Pl
