/- Places of suffixes, what neighbours share: plain, no program. -/
import Derived.Test.YtklpmpniempmcaaSaD
namespace Go.Proofs.Ytklpmpniempmcaa.Pl
section
variable {B R : List Nat}
theorem sa_lt (h : IsSA B R) {k : Nat} (hk : k < R.length) : R.getD k 0 < B.length := (h.2 _).1 (getD_mem R 0 hk)
theorem sa_ne (h : IsSA B R) {x k : Nat} (hx : x < k) (hk : k < R.length) : R.getD x 0 ≠ R.getD k 0 := fun e => by
  have := pair_at h.1 0 hx hk
  rw [e, suf_irrefl] at this
  simp at this
theorem sa_le (h : IsSA B R) {x y : Nat} (hx : x < R.length) (hy : y < R.length) (hs : sufB B (R.getD x 0) (R.getD y 0) = true) : x < y := by
  apply Classical.byContradiction
  intro hh
  by_cases e : x = y
  · subst e; rw [suf_irrefl] at hs; simp at hs
  · have := pair_at h.1 0 (by omega : y < x) hx
    rw [suf_asymm this] at hs
    simp at hs
theorem sa_idx (h : IsSA B R) {i : Nat} (hi : i < B.length) : ∃ k, k < R.length ∧ R.getD k 0 = i := by
  obtain ⟨k, hk, he⟩ := List.mem_iff_getElem.1 ((h.2 i).2 hi)
  exact ⟨k, hk, by rw [getD_get R 0 hk]; exact he⟩
/-- the first k suffixes' places are laid -/
def PlInv (B R : List Nat) (P : List Int) (k : Nat) : Prop := P.length = B.length + 1 ∧ (∀ x, x < k → P.getD (R.getD x 0) 0 = (x : Int)) ∧ ∀ p, p < B.length + 1 → (∀ x, x < k → R.getD x 0 ≠ p) → P.getD p 0 = -1
theorem pl_start (B R : List Nat) : PlInv B R (List.replicate (B.length + 1) (-1)) 0 := ⟨by simp, fun x h => by omega, fun p hp _ => by simp [List.getD, hp]⟩
theorem pl_free (h : IsSA B R) {P : List Int} {k : Nat} (hp : PlInv B R P k) (hk : k < R.length) : P.getD (R.getD k 0) 0 = -1 :=
  hp.2.2 _ (by have := sa_lt h hk; omega) fun x hx => sa_ne h hx hk
theorem pl_put (h : IsSA B R) {P : List Int} {k : Nat} (hp : PlInv B R P k) (hk : k < R.length) : PlInv B R (P.set (R.getD k 0) (k : Int)) (k + 1) := by
  have hl := sa_lt h hk
  refine ⟨by rw [List.length_set]; exact hp.1, fun x hx => ?_, fun p hpl hn => ?_⟩
  · rw [set_getD, hp.1]
    by_cases e : x = k
    · subst e; rw [if_pos ⟨rfl, by omega⟩]
    · rw [if_neg (fun q => sa_ne h (by omega : x < k) hk q.1)]
      exact hp.2.1 x (by omega)
  · rw [set_getD, if_neg (fun q => hn k (by omega) q.1.symm)]
    exact hp.2.2 p hpl fun x hx => hn x (by omega)
/-- all places -/
def Places (B R : List Nat) (P : List Int) : Prop := P.length = B.length + 1 ∧ (∀ x, x < R.length → P.getD (R.getD x 0) 0 = (x : Int)) ∧ P.getD B.length 0 = -1
theorem pl_end (h : IsSA B R) {P : List Int} (hp : PlInv B R P R.length) : Places B R P :=
  ⟨hp.1, hp.2.1, hp.2.2 _ (by omega) fun x hx => by have := sa_lt h hx; omega⟩
/-- two neighbours of the order stand as the check asks -/
theorem pl_check (h : IsSA B R) {P : List Int} (hp : Places B R P) {k : Nat} (hk : k + 1 < R.length) :
    B.getD (R.getD k 0) 0 < B.getD (R.getD (k + 1) 0) 0 ∨ (B.getD (R.getD k 0) 0 = B.getD (R.getD (k + 1) 0) 0 ∧ P.getD (R.getD k 0 + 1) 0 ≤ P.getD (R.getD (k + 1) 0 + 1) 0) := by
  have hs := pair_at h.1 0 (by omega : k < k + 1) hk
  have l1 := sa_lt h (by omega : k < R.length)
  have l2 := sa_lt h hk
  generalize R.getD k 0 = a at *
  generalize R.getD (k + 1) 0 = b at *
  have hle := suf_le l1 l2 hs
  by_cases he : B.getD a 0 = B.getD b 0
  · refine .inr ⟨he, ?_⟩
    rw [suf_same l1 l2 he] at hs
    have hb : b + 1 < B.length := by
      apply Classical.byContradiction
      intro hh
      rw [suf_out (by omega)] at hs
      simp at hs
    obtain ⟨y, hy, e2⟩ := sa_idx h hb
    rw [← e2, hp.2.1 y hy]
    by_cases ha : a + 1 < B.length
    · obtain ⟨x, hx, e1⟩ := sa_idx h ha
      rw [← e1, hp.2.1 x hx]
      rw [← e1, ← e2] at hs
      have := sa_le h hx hy hs
      omega
    · rw [show a + 1 = B.length by omega, hp.2.2]; omega
  · exact .inl (by omega)
/-! what neighbours share -/
theorem lcp_mono : ∀ (a b c : List Nat), lexB a b = true → lexB b c = true → lcp a c ≤ lcp b c := by
  intro a
  induction a with
  | nil => intro b c _ _; simp [lcp]
  | cons x a ih =>
    intro b c h1 h2
    cases b with
    | nil => rw [lexB_cons_nil] at h1; simp at h1
    | cons y b =>
      cases c with
      | nil => rw [lexB_cons_nil] at h2; simp at h2
      | cons z c =>
        by_cases hxz : x = z
        · subst hxz
          have hxy : x = y := by
            rcases Nat.lt_trichotomy x y with h | h | h
            · rw [lexB_gt h] at h2; simp at h2
            · exact h
            · rw [lexB_gt h] at h1; simp at h1
          subst hxy
          rw [lexB_same] at h1 h2
          rw [lcp_same, lcp_same]
          have := ih b c h1 h2
          omega
        · rw [lcp_ne hxz]; exact Nat.zero_le _
theorem lcpAt_le (B : List Nat) (i j : Nat) : lcpAt B i j ≤ B.length - i ∧ lcpAt B i j ≤ B.length - j := by
  have := lcp_le (B.drop i) (B.drop j)
  rw [List.length_drop, List.length_drop] at this
  exact this
theorem lcpAt_add : ∀ (n i j : Nat), n ≤ lcpAt B i j → lcpAt B i j = lcpAt B (i + n) (j + n) + n := by
  intro n
  induction n with
  | zero => intro i j _; rfl
  | succ n ih =>
    intro i j h
    have hle := lcpAt_le B i j
    have hs := lcp_step (B := B) (i := i) (j := j) (by omega) (by omega)
    by_cases he : B.getD i 0 = B.getD j 0
    · rw [if_pos he] at hs
      have := ih (i + 1) (j + 1) (by omega)
      rw [hs, this, show i + 1 + n = i + (n + 1) by omega, show j + 1 + n = j + (n + 1) by omega]
      omega
    · rw [if_neg he] at hs; omega
theorem lcp_more {n i j : Nat} (h : n ≤ lcpAt B i j) : (n < lcpAt B i j) ↔ (i + n < B.length ∧ j + n < B.length ∧ B.getD (i + n) 0 = B.getD (j + n) 0) := by
  have he := lcpAt_add n i j h
  constructor
  · intro hlt
    have hle := lcpAt_le B (i + n) (j + n)
    have h1 : 0 < lcpAt B (i + n) (j + n) := by omega
    refine ⟨by omega, by omega, ?_⟩
    apply Classical.byContradiction
    intro hne
    rw [lcp_step (by omega) (by omega), if_neg hne] at h1
    omega
  · rintro ⟨h1, h2, h3⟩
    rw [lcp_step h1 h2, if_pos h3] at he
    omega
/-- what the suffix at place k shares with the one ahead -/
def comV (B R : List Nat) (k : Nat) : Nat := if k = 0 then 0 else lcpAt B (R.getD (k - 1) 0) (R.getD k 0)
def comL (B R : List Nat) : List Nat := (List.range R.length).map (comV B R)
theorem comL_length (B R : List Nat) : (comL B R).length = R.length := by simp [comL]
theorem comL_get (B R : List Nat) {k : Nat} (hk : k < R.length) : (comL B R).getD k 0 = comV B R k := by simp [comL, List.getD, hk]
/-- what is known at the text's place i -/
structure KInv (B R : List Nat) (P : List Int) (L : List Int) (i cur : Nat) : Prop where
  len : L.length = R.length
  small : cur ≤ B.length
  low : i < B.length → ∀ k, R.getD (k + 1) 0 = i → k + 1 < R.length → cur ≤ lcpAt B (R.getD k 0) i
  zero : 0 < R.length → L.getD 0 0 = 0
  done : ∀ k, k < R.length → R.getD k 0 < i → L.getD k 0 = (comV B R k : Int)
theorem k_start (B R : List Nat) (P : List Int) : KInv B R P (List.replicate R.length 0) 0 0 := ⟨by simp, by omega, fun _ k _ _ => Nat.zero_le _, fun h => by simp [List.getD, h], fun k _ h => by omega⟩
theorem k_first (h : IsSA B R) {P L : List Int} {i cur : Nat} (hK : KInv B R P L i cur) (hi : i < B.length) (h0 : R.getD 0 0 = i) (hR : 0 < R.length) : KInv B R P L (i + 1) 0 :=
  ⟨hK.len, Nat.zero_le _, fun _ k _ _ => Nat.zero_le _, hK.zero, fun k hk hlt => by
    by_cases e : R.getD k 0 = i
    · have : k = 0 := by
        apply Classical.byContradiction
        intro hne
        exact sa_ne h (by omega : 0 < k) hk (by rw [h0, e])
      subst this
      rw [hK.zero hR]; rfl
    · exact hK.done k hk (by omega)⟩
theorem k_next (h : IsSA B R) {P L : List Int} {i k cur : Nat} (hK : KInv B R P L i cur) (hk : k + 1 < R.length) (hi : R.getD (k + 1) 0 = i) :
    KInv B R P (L.set (k + 1) (lcpAt B (R.getD k 0) i : Nat)) (i + 1) (lcpAt B (R.getD k 0) i - 1) := by
  have hiB : i < B.length := by rw [← hi]; exact sa_lt h hk
  have hle := lcpAt_le B (R.getD k 0) i
  refine ⟨by rw [List.length_set]; exact hK.len, by omega, fun hi1 x hx hxl => ?_, fun hR => by rw [set_getD, if_neg (by omega)]; exact hK.zero hR, fun y hy hlt => ?_⟩
  · by_cases hsm : lcpAt B (R.getD k 0) i ≤ 1
    · omega
    · have hkl := sa_lt h (by omega : k < R.length)
      have hs := pair_at h.1 0 (by omega : k < k + 1) hk
      rw [hi] at hs
      have he : B.getD (R.getD k 0) 0 = B.getD i 0 := by
        have := (lcp_more (B := B) (n := 0) (i := R.getD k 0) (j := i) (Nat.zero_le _)).1 (by omega)
        exact this.2.2
      rw [suf_same hkl hiB he] at hs
      have ha := lcpAt_add (B := B) 1 (R.getD k 0) i (by omega)
      have hb1 := lcpAt_le B (R.getD k 0 + 1) (i + 1)
      obtain ⟨z, hz, ez⟩ := sa_idx h (by omega : R.getD k 0 + 1 < B.length)
      rw [← ez] at hs
      rw [← hx] at hs
      have hzx := sa_le h hz hxl hs
      have hm : lcpAt B (R.getD k 0 + 1) (i + 1) ≤ lcpAt B (R.getD x 0) (i + 1) := by
        by_cases e : z = x
        · subst e; rw [ez]; exact Nat.le_refl _
        · have h1 := pair_at h.1 0 (by omega : z < x) (by omega)
          have h2 := pair_at h.1 0 (by omega : x < x + 1) hxl
          rw [ez] at h1
          rw [hx] at h2
          exact lcp_mono _ _ _ h1 h2
      omega
  · rw [set_getD, hK.len]
    by_cases e : y = k + 1
    · subst e
      rw [if_pos ⟨rfl, hy⟩]
      unfold comV
      rw [if_neg (by omega), hi]
      rfl
    · rw [if_neg (fun q => e q.1)]
      refine hK.done y hy ?_
      have : R.getD y 0 ≠ i := fun e2 => by
        rw [← hi] at e2
        rcases Nat.lt_or_gt_of_ne e with h1 | h1
        · exact sa_ne h h1 hk e2
        · exact sa_ne h h1 hy e2.symm
      omega
theorem k_end (h : IsSA B R) {P L : List Int} {cur : Nat} (hK : KInv B R P L B.length cur) : L = (comL B R).map fun (x : Nat) => (x : Int) := by
  refine List.ext_getElem (by rw [hK.len]; simp [comL]) fun i h1 h2 => ?_
  rw [hK.len] at h1
  have := hK.done i h1 (sa_lt h h1)
  rw [getD_get L 0 (by rw [hK.len]; exact h1)] at this
  rw [this, List.getElem_map]
  simp [comL]
end
end Go.Proofs.Ytklpmpniempmcaa.Pl
