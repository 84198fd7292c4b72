/- Two pieces compared letter by letter; numbers given to pieces: plain, no program. -/
import Derived.Test.YtklpmpniempmcaaSaD
namespace Go.Proofs.Ytklpmpniempmcaa.Pl
section
variable {T F : List Nat}
theorem meet_key : ∀ d i j, Meet T i j d → ∃ P, ∀ h, key T h i = P ++ h (i + d) ∧ key T h j = P ++ h (j + d) := by
  intro d
  induction d with
  | zero =>
    intro i j hm
    obtain ⟨h1, h2, h3, _⟩ := hm
    have l1 := (isc_parts h2).2.2.2
    have l2 := (isc_parts h3).2.2.2
    rw [Nat.add_zero] at h2 h3 l1 l2
    refine ⟨[W T i], fun h => ?_⟩
    have := h1 0 (Nat.le_refl _)
    rw [key_in h (by omega : i < T.length), key_in h (by omega : j < T.length), h2, h3]
    rw [Nat.add_zero, Nat.add_zero] at this ⊢
    rw [this]
    simp
  | succ d ih =>
    intro i j hm
    obtain ⟨h1, h2, h3, h4⟩ := hm
    have l1 := (isc_parts h2).2.2.2
    have l2 := (isc_parts h3).2.2.2
    obtain ⟨c1, c2⟩ := h4 0 (by omega)
    have h0 := h1 0 (by omega)
    rw [Nat.add_zero] at c1 c2 h0
    rw [Nat.add_zero] at h0
    have hm2 : Meet T (i + 1) (j + 1) d := by
      refine ⟨fun e he => ?_, ?_, ?_, fun e he => ?_⟩
      · have := h1 (e + 1) (by omega)
        rwa [show i + (e + 1) = i + 1 + e by omega, show j + (e + 1) = j + 1 + e by omega] at this
      · rwa [show i + (d + 1) = i + 1 + d by omega] at h2
      · rwa [show j + (d + 1) = j + 1 + d by omega] at h3
      · have := h4 (e + 1) (by omega)
        rwa [show i + (e + 1) = i + 1 + e by omega, show j + (e + 1) = j + 1 + e by omega] at this
    obtain ⟨P, hP⟩ := ih (i + 1) (j + 1) hm2
    refine ⟨W T i :: P, fun h => ?_⟩
    rw [key_no h (by omega) c1, key_no h (by omega) c2]
    unfold keyG
    rw [(hP h).1, (hP h).2, h0, show i + 1 + d = i + (d + 1) by omega, show j + 1 + d = j + (d + 1) by omega]
    simp
def CmpInv (T : List Nat) (i j k : Nat) : Prop := (∀ e, e < k → T.getD (i + e) 0 = T.getD (j + e) 0) ∧ ∀ e, 0 < e → e < k → ¬ (isc T (i + e) = true ∧ isc T (j + e) = true)
theorem cmp_zero (i j : Nat) : CmpInv T i j 0 := ⟨fun e h => by omega, fun e _ h => by omega⟩
theorem cmp_step {i j k : Nat} (h : CmpInv T i j k) (he : T.getD (i + k) 0 = T.getD (j + k) 0) (hn : 0 < k → ¬ (isc T (i + k) = true ∧ isc T (j + k) = true)) : CmpInv T i j (k + 1) :=
  ⟨fun e h1 => by
    by_cases h2 : e = k
    · subst h2; exact he
    · exact h.1 e (by omega), fun e h0 h1 => by
    by_cases h2 : e = k
    · subst h2; exact hn h0
    · exact h.2 e h0 (by omega)⟩
theorem cmp_same {i j k : Nat} (h : CmpInv T i j k) (hk : 0 < k) (he : T.getD (i + k) 0 = T.getD (j + k) 0) (h1 : isc T (i + k) = true) (h2 : isc T (j + k) = true) : kp T i = kp T j := by
  have l1 := (isc_parts h1).2.2.2
  have l2 := (isc_parts h2).2.2.2
  have hlet : ∀ e, e ≤ k → T.getD (i + e) 0 = T.getD (j + e) 0 := fun e hek => by
    by_cases h3 : e = k
    · subst h3; exact he
    · exact h.1 e (by omega)
  have hty : ∀ q e, e + q = k → ris T (i + e) = ris T (j + e) := by
    intro q
    induction q with
    | zero => intro e hq; obtain rfl : e = k := by omega
              rw [(isc_parts h1).2.1, (isc_parts h2).2.1]
    | succ q ih =>
      intro e hq
      have := ih (e + 1) (by omega)
      rw [ris_step (T := T) (i := i + e) (by omega), ris_step (T := T) (i := j + e) (by omega), hlet e (by omega)]
      have h5 := hlet (e + 1) (by omega)
      rw [show i + e + 1 = i + (e + 1) by omega, show j + e + 1 = j + (e + 1) by omega, h5, this]
  have hW : ∀ e, e ≤ k → W T (i + e) = W T (j + e) := fun e hek => W_of (hlet e hek) (hty (k - e) e (by omega))
  have hcut : ∀ e, 0 < e → e ≤ k → isc T (i + e) = isc T (j + e) := fun e h0 hek => by
    obtain ⟨x, rfl⟩ : ∃ x, e = x + 1 := ⟨e - 1, by omega⟩
    have a := hty (k - (x + 1)) (x + 1) (by omega)
    have b := hty (k - x) x (by omega)
    rw [show i + (x + 1) = i + x + 1 by omega, show j + (x + 1) = j + x + 1 by omega] at *
    rw [isc_succ, isc_succ, a, b]
  obtain ⟨d, rfl⟩ : ∃ d, k = d + 1 := ⟨k - 1, by omega⟩
  have hm : Meet T (i + 1) (j + 1) d := by
    refine ⟨fun e hed => ?_, ?_, ?_, fun e hed => ?_⟩
    · have := hW (e + 1) (by omega)
      rwa [show i + (e + 1) = i + 1 + e by omega, show j + (e + 1) = j + 1 + e by omega] at this
    · rwa [show i + (d + 1) = i + 1 + d by omega] at h1
    · rwa [show j + (d + 1) = j + 1 + d by omega] at h2
    · have a := hcut (e + 1) (by omega) (by omega)
      have b := h.2 (e + 1) (by omega) (by omega)
      rw [show i + (e + 1) = i + 1 + e by omega, show j + (e + 1) = j + 1 + e by omega] at a b
      rw [a] at b ⊢
      cases hx : isc T (j + 1 + e) with
      | false => exact ⟨rfl, rfl⟩
      | true => rw [hx] at b; exact absurd ⟨rfl, rfl⟩ b
  obtain ⟨P, hP⟩ := meet_key d (i + 1) (j + 1) hm
  unfold kp keyG
  rw [(hP _).1, (hP _).2]
  have := hW 0 (by omega)
  rw [Nat.add_zero, Nat.add_zero] at this
  rw [this]
theorem cmp_diff {i j k : Nat} (hi : i < T.length) (hj : j < T.length) (hne : i ≠ j) (h : CmpInv T i j k) (hd : T.length ≤ i + k ∨ T.length ≤ j + k ∨ T.getD (i + k) 0 ≠ T.getD (j + k) 0) : kp T i ≠ kp T j := by
  intro e
  obtain ⟨hw, d, ⟨m1, m2, m3, m4⟩, _⟩ := (kp_same hi hj hne).1 e
  have l1 := (isc_parts m2).2.2.2
  have l2 := (isc_parts m3).2.2.2
  by_cases hk : k ≤ d + 1
  · have hl : T.getD (i + k) 0 = T.getD (j + k) 0 := by
      rcases k with _ | k
      · exact (W_eq hw).1
      · have := (W_eq (m1 k (by omega))).1
        rwa [show i + 1 + k = i + (k + 1) by omega, show j + 1 + k = j + (k + 1) by omega] at this
    rcases hd with hd | hd | hd
    · omega
    · omega
    · exact hd hl
  · refine h.2 (d + 1) (by omega) (by omega) ⟨?_, ?_⟩
    · rwa [show i + (d + 1) = i + 1 + d by omega]
    · rwa [show j + (d + 1) = j + 1 + d by omega]
/-! numbers -/
def NumInv (T F : List Nat) (Q : List Int) (x : Nat) : Prop := Q.length = T.length / 2 + 1 ∧ ∀ y, y < x → Q.getD (F.getD y 0 / 2) 0 = ((ds T F (y + 1) - 1 : Nat) : Int)
theorem num_start (T F : List Nat) : NumInv T F (List.replicate (T.length / 2 + 1) 0) 0 := ⟨by simp, fun y h => by omega⟩
theorem cuts_apart {c c' : Nat} (h : isc T c = true) (h' : isc T c' = true) (he : c / 2 = c' / 2) : c = c' := by
  apply Classical.byContradiction
  intro hne
  rcases Nat.lt_or_gt_of_ne hne with hlt | hlt
  · obtain rfl : c' = c + 1 := by omega
    rw [isc_after (isc_parts h).2.1] at h'
    simp at h'
  · obtain rfl : c = c' + 1 := by omega
    rw [isc_after (isc_parts h').2.1] at h
    simp at h
theorem num_put {Q : List Int} {x : Nat} (hF : IsCuts T F) (h : NumInv T F Q x) (hx : x < F.length) : NumInv T F (Q.set (F.getD x 0 / 2) ((ds T F (x + 1) - 1 : Nat) : Int)) (x + 1) := by
  refine ⟨by rw [List.length_set]; exact h.1, fun y hy => ?_⟩
  have cx := (hF.2 _).1 (getD_mem F 0 hx)
  have lx := (isc_parts cx).2.2.2
  rw [set_getD, h.1]
  by_cases e : y = x
  · subst e; rw [if_pos ⟨rfl, by omega⟩]
  · have cy := (hF.2 _).1 (getD_mem F 0 (by omega : y < F.length))
    rw [if_neg (fun q => e ?_)]
    · exact h.2 y (by omega)
    · have := cuts_apart cy cx q.1
      have i1 := idx_of hF (by omega : y < F.length)
      have i2 := idx_of hF hx
      rw [← i1, ← i2, this]
theorem num_end {Q : List Int} (hF : IsCuts T F) (h : NumInv T F Q F.length) {c : Nat} (hc : isc T c = true) : Q.getD (c / 2) 0 = (num T F c : Int) := by
  have hm := (hF.2 c).2 hc
  have := h.2 (F.idxOf c) (List.idxOf_lt_length_iff.2 hm)
  rw [getD_idx hm] at this
  exact this
theorem df_zero : df T F 0 = true := rfl
theorem df_same {x : Nat} (h : kp T (F.getD (x + 1) 0) = kp T (F.getD x 0)) : df T F (x + 1) = false := by
  unfold df
  simp only [Nat.add_sub_cancel]
  rw [decide_eq_true h.symm]
  simp
theorem df_diff {x : Nat} (h : kp T (F.getD (x + 1) 0) ≠ kp T (F.getD x 0)) : df T F (x + 1) = true := by
  unfold df
  simp only [Nat.add_sub_cancel]
  rw [decide_eq_false (fun e => h e.symm)]
  simp
theorem ds_same {x : Nat} (h : df T F x = false) : ds T F (x + 1) = ds T F x := by rw [ds_succ, h]; rfl
theorem ds_diff {x : Nat} (h : df T F x = true) : ds T F (x + 1) = ds T F x + 1 := by rw [ds_succ, h]; rfl
/-- names laid up to a -/
def NamInv (T F : List Nat) (L : List Int) (a : Nat) : Prop := L.length = (cutsOf T).length ∧ ∀ b, b < a → L.getD b 0 = (num T F ((cutsOf T).getD b 0) : Int)
theorem nam_start (T F : List Nat) : NamInv T F (List.replicate (cutsOf T).length 0) 0 := ⟨by simp, fun b h => by omega⟩
theorem nam_put {L : List Int} {a : Nat} (h : NamInv T F L a) (ha : a < (cutsOf T).length) : NamInv T F (L.set a (num T F ((cutsOf T).getD a 0) : Int)) (a + 1) :=
  ⟨by rw [List.length_set]; exact h.1, fun b hb => by
    rw [set_getD, h.1]
    by_cases e : b = a
    · subst e; rw [if_pos ⟨rfl, ha⟩]
    · rw [if_neg (fun q => e q.1)]; exact h.2 b (by omega)⟩
theorem nam_end {L : List Int} (h : NamInv T F L (cutsOf T).length) : L = (nameOf T F).map (fun (x : Nat) => (x : Int)) := by
  refine List.ext_getElem (by rw [h.1]; simp [nameOf]) fun i h1 h2 => ?_
  rw [h.1] at h1
  have e := h.2 i h1
  rw [← nameOf_get (F := F) h1] at e
  have hl : i < (nameOf T F).length := by simpa using h2
  rw [getD_get L 0 (by rw [h.1]; exact h1), getD_get (nameOf T F) 0 hl] at e
  rw [e, List.getElem_map]
end
end Go.Proofs.Ytklpmpniempmcaa.Pl
