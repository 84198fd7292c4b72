/- Suffixes and their order, plain: no program. -/
namespace Go.Proofs.Ytklpmpniempmcaa.Pl
/-- lexicographic: the shorter one first -/
def lexB : List Nat → List Nat → Bool
  | [], [] => false
  | [], _ :: _ => true
  | _ :: _, [] => false
  | a :: as, b :: bs => if a < b then true else if b < a then false else lexB as bs
theorem lexB_nil_cons (b : Nat) (bs : List Nat) : lexB [] (b :: bs) = true := rfl
theorem lexB_cons_nil (a : Nat) (as : List Nat) : lexB (a :: as) [] = false := rfl
theorem lexB_nil (as : List Nat) : lexB as [] = false := by cases as <;> rfl
theorem lexB_same (a : Nat) (as bs : List Nat) : lexB (a :: as) (a :: bs) = lexB as bs := by simp [lexB]
theorem lexB_lt {a b : Nat} (h : a < b) (as bs : List Nat) : lexB (a :: as) (b :: bs) = true := by simp [lexB, h]
theorem lexB_gt {a b : Nat} (h : b < a) (as bs : List Nat) : lexB (a :: as) (b :: bs) = false := by simp only [lexB]; rw [if_neg (by omega), if_pos h]
theorem lexB_irrefl (as : List Nat) : lexB as as = false := by
  induction as with
  | nil => rfl
  | cons a as ih => rw [lexB_same]; exact ih
theorem lexB_asymm (as : List Nat) : ∀ bs, lexB as bs = true → lexB bs as = false := by
  induction as with
  | nil => intro bs _; exact lexB_nil bs
  | cons a as ih =>
    intro bs h
    cases bs with
    | nil => rw [lexB_cons_nil] at h; simp at h
    | cons b bs =>
      rcases Nat.lt_trichotomy a b with h1 | rfl | h1
      · exact lexB_gt h1 bs as
      · rw [lexB_same] at h ⊢; exact ih bs h
      · rw [lexB_gt h1] at h; simp at h
theorem lexB_trans (as : List Nat) : ∀ bs cs, lexB as bs = true → lexB bs cs = true → lexB as cs = true := by
  induction as with
  | nil =>
    intro bs cs h1 h2
    cases cs with
    | nil => rw [lexB_nil] at h2; simp at h2
    | cons c cs => rfl
  | cons a as ih =>
    intro bs cs h1 h2
    cases bs with
    | nil => rw [lexB_cons_nil] at h1; simp at h1
    | cons b bs =>
      cases cs with
      | nil => rw [lexB_cons_nil] at h2; simp at h2
      | cons c cs =>
        rcases Nat.lt_trichotomy a b with h3 | rfl | h3
        · rcases Nat.lt_trichotomy b c with h4 | rfl | h4
          · exact lexB_lt (by omega) as cs
          · exact lexB_lt h3 as cs
          · rw [lexB_gt h4] at h2; simp at h2
        · rcases Nat.lt_trichotomy a c with h4 | rfl | h4
          · exact lexB_lt h4 as cs
          · rw [lexB_same] at h1 h2 ⊢; exact ih bs cs h1 h2
          · rw [lexB_gt h4] at h2; simp at h2
        · rw [lexB_gt h3] at h1; simp at h1
theorem lexB_total (as : List Nat) : ∀ bs, as ≠ bs → lexB as bs = true ∨ lexB bs as = true := by
  induction as with
  | nil =>
    intro bs h
    cases bs with
    | nil => exact absurd rfl h
    | cons b bs => exact .inl rfl
  | cons a as ih =>
    intro bs h
    cases bs with
    | nil => exact .inr rfl
    | cons b bs =>
      rcases Nat.lt_trichotomy a b with h1 | rfl | h1
      · exact .inl (lexB_lt h1 as bs)
      · rw [lexB_same, lexB_same]; exact ih bs (fun e => h (by rw [e]))
      · exact .inr (lexB_lt h1 bs as)
/-- does the suffix at i stand ahead of that at j? -/
def sufB (B : List Nat) (i j : Nat) : Bool := lexB (B.drop i) (B.drop j)
theorem suf_irrefl (B : List Nat) (i : Nat) : sufB B i i = false := lexB_irrefl _
theorem suf_asymm {B : List Nat} {i j : Nat} (h : sufB B i j = true) : sufB B j i = false := lexB_asymm _ _ h
theorem suf_trans {B : List Nat} {i j k : Nat} (h : sufB B i j = true) (h2 : sufB B j k = true) : sufB B i k = true := lexB_trans _ _ _ h h2
theorem suf_total {B : List Nat} {i j : Nat} (hi : i ≤ B.length) (hj : j ≤ B.length) (h : i ≠ j) : sufB B i j = true ∨ sufB B j i = true :=
  lexB_total _ _ fun e => h (by have := congrArg List.length e; rw [List.length_drop, List.length_drop] at this; omega)
theorem suf_drop (B : List Nat) {i : Nat} (h : i < B.length) : B.drop i = B.getD i 0 :: B.drop (i + 1) := by
  rw [List.drop_eq_getElem_cons h]; simp [List.getD, h]
theorem suf_out {B : List Nat} {i j : Nat} (hj : B.length ≤ j) : sufB B i j = false := by
  unfold sufB; rw [List.drop_eq_nil_of_le hj]; exact lexB_nil _
theorem suf_in {B : List Nat} {i j : Nat} (hi : B.length ≤ i) (hj : j < B.length) : sufB B i j = true := by
  unfold sufB; rw [List.drop_eq_nil_of_le hi, suf_drop B hj]; rfl
theorem suf_same {B : List Nat} {i j : Nat} (hi : i < B.length) (hj : j < B.length) (h : B.getD i 0 = B.getD j 0) : sufB B i j = sufB B (i + 1) (j + 1) := by
  unfold sufB; rw [suf_drop B hi, suf_drop B hj, h, lexB_same]
theorem suf_lt {B : List Nat} {i j : Nat} (hi : i < B.length) (hj : j < B.length) (h : B.getD i 0 < B.getD j 0) : sufB B i j = true := by
  unfold sufB; rw [suf_drop B hi, suf_drop B hj]; exact lexB_lt h _ _
theorem suf_gt {B : List Nat} {i j : Nat} (hi : i < B.length) (hj : j < B.length) (h : B.getD j 0 < B.getD i 0) : sufB B i j = false := by
  unfold sufB; rw [suf_drop B hi, suf_drop B hj]; exact lexB_gt h _ _
theorem suf_le {B : List Nat} {i j : Nat} (hi : i < B.length) (hj : j < B.length) (h : sufB B i j = true) : B.getD i 0 ≤ B.getD j 0 := by
  apply Classical.byContradiction
  intro h2
  rw [suf_gt hi hj (by omega)] at h
  simp at h

/-- two lists that rise by one order and have the same members are one -/
theorem rise_unique {r : Nat → Nat → Bool} (hi : ∀ i, r i i = false) (ha : ∀ i j, r i j = true → r j i = false) : ∀ (L M : List Nat), L.Pairwise (fun i j => r i j = true) → M.Pairwise (fun i j => r i j = true) → (∀ i, i ∈ L ↔ i ∈ M) → L = M := by
  intro L
  induction L with
  | nil =>
    intro M _ _ h
    cases M with
    | nil => rfl
    | cons y M => have := (h y).2 (by simp); simp at this
  | cons x L ih =>
    intro M h1 h2 h
    cases M with
    | nil => have := (h x).1 (by simp); simp at this
    | cons y M =>
      rw [List.pairwise_cons] at h1 h2
      have e : x = y := by
        apply Classical.byContradiction
        intro hne
        have hx : x ∈ M := by have := (h x).1 (by simp); simpa [hne] using this
        have hy : y ∈ L := by have := (h y).2 (by simp); simpa [Ne.symm hne] using this
        have a1 := h1.1 y hy
        have a2 := h2.1 x hx
        rw [ha _ _ a1] at a2
        simp at a2
      subst e
      have hnx : x ∉ L := fun hm => by have := h1.1 x hm; rw [hi] at this; simp at this
      have hny : x ∉ M := fun hm => by have := h2.1 x hm; rw [hi] at this; simp at this
      rw [ih M h1.2 h2.2 fun i => by
        constructor
        · intro hm
          have := (h i).1 (by simp [hm])
          rcases List.mem_cons.1 this with e | e
          · subst e; exact absurd hm hnx
          · exact e
        · intro hm
          have := (h i).2 (by simp [hm])
          rcases List.mem_cons.1 this with e | e
          · subst e; exact absurd hm hny
          · exact e]
/-- the suffixes at the places of L, in their order -/
def Rises (B : List Nat) (L : List Nat) : Prop := L.Pairwise fun i j => sufB B i j = true
def IsSA (B : List Nat) (L : List Nat) : Prop := Rises B L ∧ ∀ i, i ∈ L ↔ i < B.length
theorem sa_unique {B L M : List Nat} (h : IsSA B L) (k : IsSA B M) : L = M :=
  rise_unique (suf_irrefl B) (fun _ _ => suf_asymm) L M h.1 k.1 fun i => (h.2 i).trans (k.2 i).symm
theorem rises_nodup {B L : List Nat} (h : Rises B L) : L.Nodup :=
  List.Pairwise.imp (fun {i j} hij e => by subst e; rw [suf_irrefl] at hij; simp at hij) h
theorem sa_perm {B L : List Nat} (h : IsSA B L) : L.Perm (List.range B.length) :=
  (List.perm_ext_iff_of_nodup (rises_nodup h.1) List.nodup_range).2 fun i => by rw [h.2 i, List.mem_range]
theorem sa_length {B L : List Nat} (h : IsSA B L) : L.length = B.length := by have := (sa_perm h).length_eq; simpa using this
/-- a suffix is put in its place -/
theorem rises_insert {B : List Nat} {L : List Nat} {i lo : Nat} (h : Rises B L) (hl : ∀ j ∈ L.take lo, sufB B j i = true) (hr : ∀ j ∈ L.drop lo, sufB B i j = true) : Rises B (L.take lo ++ (i :: L.drop lo)) := by
  unfold Rises at *
  rw [← List.take_append_drop lo L] at h
  rw [List.pairwise_append] at h ⊢
  refine ⟨h.1, ?_, ?_⟩
  · rw [List.pairwise_cons]; exact ⟨hr, h.2.1⟩
  · intro x hx y hy
    rcases List.mem_cons.1 hy with e | e
    · subst e; exact hl x hx
    · exact h.2.2 x hx y e
/-! what two neighbours share -/
def lcp : List Nat → List Nat → Nat
  | a :: as, b :: bs => if a = b then lcp as bs + 1 else 0
  | _, _ => 0
theorem lcp_same (a : Nat) (as bs : List Nat) : lcp (a :: as) (a :: bs) = lcp as bs + 1 := by simp [lcp]
theorem lcp_ne {a b : Nat} (h : a ≠ b) (as bs : List Nat) : lcp (a :: as) (b :: bs) = 0 := by simp [lcp, h]
theorem lcp_nil (as : List Nat) : lcp as [] = 0 := by cases as <;> rfl
theorem lcp_le (as : List Nat) : ∀ bs, lcp as bs ≤ as.length ∧ lcp as bs ≤ bs.length := by
  induction as with
  | nil => intro bs; cases bs <;> simp [lcp]
  | cons a as ih =>
    intro bs
    cases bs with
    | nil => simp [lcp]
    | cons b bs =>
      by_cases h : a = b
      · subst h; rw [lcp_same]; have := ih bs; simp; omega
      · rw [lcp_ne h]; simp
def lcpAt (B : List Nat) (i j : Nat) : Nat := lcp (B.drop i) (B.drop j)
theorem lcp_step {B : List Nat} {i j : Nat} (hi : i < B.length) (hj : j < B.length) : lcpAt B i j = if B.getD i 0 = B.getD j 0 then lcpAt B (i + 1) (j + 1) + 1 else 0 := by
  unfold lcpAt
  rw [suf_drop B hi, suf_drop B hj]
  rfl
theorem lcp_end {B : List Nat} {i j : Nat} (h : B.length ≤ i ∨ B.length ≤ j) : lcpAt B i j = 0 := by
  unfold lcpAt
  rcases h with h | h
  · rw [List.drop_eq_nil_of_le h]; cases B.drop j <;> rfl
  · rw [List.drop_eq_nil_of_le h]; exact lcp_nil _
end Go.Proofs.Ytklpmpniempmcaa.Pl
