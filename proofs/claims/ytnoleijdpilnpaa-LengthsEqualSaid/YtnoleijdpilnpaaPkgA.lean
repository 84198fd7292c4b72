/- Coins, their rows, and what is spent of them: plain. -/
import Derived.Test.YtnoleijdpilnpaaRow
set_option linter.unusedSimpArgs false
set_option linter.unusedVariables false
namespace Go.Proofs.Ytnoleijdpilnpaa
namespace Pl
/-! sums over coins -/
def sm (g : Coin → Int) : List Coin → Int
  | [] => 0
  | c :: L => g c + sm g L
theorem sm_append (g : Coin → Int) (A B : List Coin) : sm g (A ++ B) = sm g A + sm g B := by
  induction A with
  | nil => simp [sm]
  | cons a A ih => simp only [List.cons_append, sm, ih]; omega
theorem sm_perm {g : Coin → Int} {A B : List Coin} (h : A.Perm B) : sm g A = sm g B := by
  induction h with
  | nil => rfl
  | cons x _ ih => simp only [sm, ih]
  | swap x y l => simp only [sm]; omega
  | trans _ _ h1 h2 => rw [h1, h2]
theorem sm_congr {g h : Coin → Int} {A : List Coin} (e : ∀ c ∈ A, g c = h c) : sm g A = sm h A := by
  induction A with
  | nil => rfl
  | cons a A ih => simp only [sm]; rw [e a (by simp), ih fun c hc => e c (by simp [hc])]
theorem sm_le {g h : Coin → Int} {A : List Coin} (e : ∀ c ∈ A, g c ≤ h c) : sm g A ≤ sm h A := by
  induction A with
  | nil => exact Int.le_refl _
  | cons a A ih => simp only [sm]; have := e a (by simp); have := ih fun c hc => e c (by simp [hc]); omega
theorem sm_add (g h : Coin → Int) (A : List Coin) : sm (fun c => g c + h c) A = sm g A + sm h A := by
  induction A with
  | nil => rfl
  | cons a A ih => simp only [sm, ih]; omega
theorem sm_mul (k : Int) (g : Coin → Int) (A : List Coin) : sm (fun c => k * g c) A = k * sm g A := by
  induction A with
  | nil => simp [sm]
  | cons a A ih => simp only [sm, ih, Int.mul_add]
theorem sm_const (k : Int) (A : List Coin) : sm (fun _ => k) A = k * A.length := by
  induction A with
  | nil => simp [sm]
  | cons a A ih => simp only [sm, ih, List.length_cons]; push_cast; rw [Int.mul_add]; omega
theorem sm_nonneg {g : Coin → Int} {A : List Coin} (e : ∀ c ∈ A, 0 ≤ g c) : 0 ≤ sm g A := by
  have := sm_le (g := fun _ => 0) (h := g) (A := A) e
  rw [sm_const] at this; omega
/-- what coins weigh together -/
def wt (L : List Coin) : Int := sm Prod.fst L
theorem wt_cons (c : Coin) (L : List Coin) : wt (c :: L) = c.1 + wt L := rfl
theorem wt_append (A B : List Coin) : wt (A ++ B) = wt A + wt B := sm_append _ _ _
theorem wt_nil : wt [] = 0 := rfl
def Asc (L : List Coin) : Prop := L.Pairwise fun a b => a.1 ≤ b.1
def Pos (L : List Coin) : Prop := ∀ c ∈ L, 0 < c.1
theorem Pos.nonneg {L : List Coin} (h : Pos L) : 0 ≤ wt L := sm_nonneg fun c hc => Int.le_of_lt (h c hc)
theorem Pos.take {L : List Coin} (h : Pos L) (n : Nat) : Pos (L.take n) := fun c hc => h c (List.mem_of_mem_take hc)
theorem Pos.tail {c : Coin} {L : List Coin} (h : Pos (c :: L)) : Pos L := fun x hx => h x (by simp [hx])
theorem wt_take_le {L : List Coin} (h : Pos L) (n : Nat) : wt (L.take n) ≤ wt L := by
  have e : wt L = wt (L.take n) + wt (L.drop n) := by rw [← wt_append, List.take_append_drop]
  have : 0 ≤ wt (L.drop n) := Pos.nonneg fun c hc => h c (List.mem_of_mem_drop hc)
  omega
/-! pairs, merged rows -/
def pairsOf : List Coin → List Coin
  | a :: b :: r => (a.1 + b.1, -1) :: pairsOf r
  | _ => []
def mergeC : List Coin → List Coin → List Coin
  | [], ps => ps
  | s :: ss, [] => s :: ss
  | s :: ss, p :: ps => if s.1 ≤ p.1 then s :: mergeC ss (p :: ps) else p :: mergeC (s :: ss) ps
termination_by a b => a.length + b.length
theorem merge_nil (ps : List Coin) : mergeC [] ps = ps := by rw [mergeC]
theorem merge_nil' (ss : List Coin) : mergeC ss [] = ss := by cases ss <;> rw [mergeC]
theorem merge_le {s p : Coin} (ss ps : List Coin) (h : s.1 ≤ p.1) : mergeC (s :: ss) (p :: ps) = s :: mergeC ss (p :: ps) := by rw [mergeC, if_pos h]
theorem merge_gt {s p : Coin} (ss ps : List Coin) (h : ¬ s.1 ≤ p.1) : mergeC (s :: ss) (p :: ps) = p :: mergeC (s :: ss) ps := by rw [mergeC, if_neg h]
/-- induction along a merge -/
theorem merge_ind {M : List Coin → List Coin → Prop} (h1 : ∀ ps, M [] ps) (h2 : ∀ ss, M ss []) (h3 : ∀ s ss p ps, s.1 ≤ p.1 → M ss (p :: ps) → M (s :: ss) (p :: ps)) (h4 : ∀ s ss p ps, ¬ s.1 ≤ p.1 → M (s :: ss) ps → M (s :: ss) (p :: ps)) : ∀ ss ps, M ss ps := by
  intro ss
  induction ss with
  | nil => exact h1
  | cons s ss ih =>
    intro ps
    induction ps with
    | nil => exact h2 _
    | cons p ps ih2 =>
      by_cases h : s.1 ≤ p.1
      · exact h3 s ss p ps h (ih _)
      · exact h4 s ss p ps h ih2
theorem merge_perm (ss ps : List Coin) : (mergeC ss ps).Perm (ss ++ ps) := by
  refine merge_ind (M := fun ss ps => (mergeC ss ps).Perm (ss ++ ps)) (fun ps => by rw [merge_nil]; exact List.Perm.refl _) (fun ss => by rw [merge_nil']; simp) (fun s ss p ps h ih => ?_) (fun s ss p ps h ih => ?_) ss ps
  · rw [merge_le _ _ h]; exact List.Perm.cons _ ih
  · rw [merge_gt _ _ h]
    exact (List.Perm.cons _ ih).trans List.perm_middle.symm
theorem merge_length (ss ps : List Coin) : (mergeC ss ps).length = ss.length + ps.length := by
  rw [(merge_perm ss ps).length_eq, List.length_append]
theorem mem_merge {ss ps : List Coin} {c : Coin} : c ∈ mergeC ss ps ↔ c ∈ ss ∨ c ∈ ps := by
  rw [(merge_perm ss ps).mem_iff, List.mem_append]
theorem merge_asc {ss ps : List Coin} : Asc ss → Asc ps → Asc (mergeC ss ps) := by
  refine merge_ind (M := fun ss ps => Asc ss → Asc ps → Asc (mergeC ss ps)) (fun ps _ h => by rw [merge_nil]; exact h) (fun ss h _ => by rw [merge_nil']; exact h) (fun s ss p ps h ih h1 h2 => ?_) (fun s ss p ps h ih h1 h2 => ?_) ss ps
  · rw [merge_le _ _ h]
    have a := List.pairwise_cons.1 h1
    have b := List.pairwise_cons.1 h2
    refine List.pairwise_cons.2 ⟨fun c hc => ?_, ih a.2 h2⟩
    rcases mem_merge.1 hc with hc | hc
    · exact a.1 c hc
    · rcases List.mem_cons.1 hc with rfl | hc
      · exact h
      · exact Int.le_trans h (b.1 c hc)
  · rw [merge_gt _ _ h]
    have a := List.pairwise_cons.1 h1
    have b := List.pairwise_cons.1 h2
    refine List.pairwise_cons.2 ⟨fun c hc => ?_, ih h1 b.2⟩
    rcases mem_merge.1 hc with hc | hc
    · rcases List.mem_cons.1 hc with rfl | hc
      · omega
      · have := a.1 c hc; omega
    · exact b.1 c hc
/-- the first coins of a merged row are the first of either side -/
theorem merge_take (ss ps : List Coin) : ∀ c, c ≤ ss.length + ps.length → ∃ s p, s + p = c ∧ s ≤ ss.length ∧ p ≤ ps.length ∧ ((mergeC ss ps).take c).Perm (ss.take s ++ ps.take p) := by
  refine merge_ind (M := fun ss ps => ∀ c, c ≤ ss.length + ps.length → ∃ s p, s + p = c ∧ s ≤ ss.length ∧ p ≤ ps.length ∧ ((mergeC ss ps).take c).Perm (ss.take s ++ ps.take p)) (fun ps c hc => ?_) (fun ss c hc => ?_) (fun s ss p ps h ih c hc => ?_) (fun s ss p ps h ih c hc => ?_) ss ps
  · exact ⟨0, c, by omega, by simp, by simpa using hc, by rw [merge_nil]; simp⟩
  · exact ⟨c, 0, by omega, by simpa using hc, by simp, by rw [merge_nil']; simp⟩
  · cases c with
    | zero => exact ⟨0, 0, rfl, by simp, by simp, by simp⟩
    | succ c =>
      obtain ⟨s', p', h1, h2, h3, h4⟩ := ih c (by simp at hc ⊢; omega)
      refine ⟨s' + 1, p', by omega, by simp; omega, h3, ?_⟩
      rw [merge_le _ _ h, List.take_succ_cons, List.take_succ_cons, List.cons_append]
      exact List.Perm.cons _ h4
  · cases c with
    | zero => exact ⟨0, 0, rfl, by simp, by simp, by simp⟩
    | succ c =>
      obtain ⟨s', p', h1, h2, h3, h4⟩ := ih c (by simp at hc ⊢; omega)
      refine ⟨s', p' + 1, by omega, h2, by simp; omega, ?_⟩
      rw [merge_gt _ _ h, List.take_succ_cons, List.take_succ_cons]
      exact (List.Perm.cons _ h4).trans List.perm_middle.symm
/-- the lightest of an ascending list: one taken later weighs no less -/
theorem wt_first {x : Int} {L : List Coin} (hL : ∀ c ∈ L, x ≤ c.1) : ∀ n, n < L.length → x + wt (L.take n) ≤ wt (L.take (n + 1)) := by
  intro n hn
  rw [List.take_succ_eq_append_getElem hn, wt_append, wt_cons, wt_nil]
  have := hL L[n] (List.getElem_mem hn)
  omega
/-- nothing weighs less than the first coins of a merged row -/
theorem merge_least (ss ps : List Coin) : Asc ss → Asc ps → Pos ss → Pos ps → ∀ a q c, a ≤ ss.length → q ≤ ps.length → c ≤ a + q → wt ((mergeC ss ps).take c) ≤ wt (ss.take a) + wt (ps.take q) := by
  refine merge_ind (M := fun ss ps => Asc ss → Asc ps → Pos ss → Pos ps → ∀ a q c, a ≤ ss.length → q ≤ ps.length → c ≤ a + q → wt ((mergeC ss ps).take c) ≤ wt (ss.take a) + wt (ps.take q)) (fun ps _ _ _ hp a q c ha hq hc => ?_) (fun ss _ _ hs _ a q c ha hq hc => ?_) (fun s ss p ps h ih h1 h2 h3 h4 a q c ha hq hc => ?_) (fun s ss p ps h ih h1 h2 h3 h4 a q c ha hq hc => ?_) ss ps
  · rw [merge_nil]
    have : a = 0 := by simpa using ha
    subst this
    have e : (ps.take c) = (ps.take q).take c := by rw [List.take_take, Nat.min_eq_left (by omega)]
    rw [e]
    have := wt_take_le (hp.take q) c
    simp [wt_nil]; exact this
  · rw [merge_nil']
    have : q = 0 := by simpa using hq
    subst this
    have e : (ss.take c) = (ss.take a).take c := by rw [List.take_take, Nat.min_eq_left (by omega)]
    rw [e]
    have := wt_take_le (hs.take a) c
    simp [wt_nil]; exact this
  · have A := List.pairwise_cons.1 h1
    have B := List.pairwise_cons.1 h2
    cases c with
    | zero =>
      have := (h3.take a).nonneg
      have := (h4.take q).nonneg
      simp only [List.take_zero, wt_nil]; omega
    | succ c =>
      rw [merge_le _ _ h, List.take_succ_cons, wt_cons]
      cases a with
      | succ a =>
        have := ih A.2 h2 h3.tail h4 a q c (by simpa using ha) hq (by omega)
        rw [List.take_succ_cons, wt_cons]; omega
      | zero =>
        cases q with
        | zero => omega
        | succ q =>
          have e1 := ih A.2 h2 h3.tail h4 0 q c (by simp) (by omega) (by omega)
          have e2 := wt_first (x := s.1) (L := p :: ps) (fun c hc => by
            rcases List.mem_cons.1 hc with rfl | hc
            · exact h
            · exact Int.le_trans h (B.1 c hc)) q (by omega)
          simp only [List.take_zero, wt_nil] at e1 ⊢
          omega
  · have A := List.pairwise_cons.1 h1
    have B := List.pairwise_cons.1 h2
    cases c with
    | zero =>
      have := (h3.take a).nonneg
      have := (h4.take q).nonneg
      simp only [List.take_zero, wt_nil]; omega
    | succ c =>
      rw [merge_gt _ _ h, List.take_succ_cons, wt_cons]
      cases q with
      | succ q =>
        have := ih h1 B.2 h3 h4.tail a q c ha (by simpa using hq) (by omega)
        rw [show (p :: ps).take (q + 1) = p :: ps.take q from rfl, wt_cons]; omega
      | zero =>
        cases a with
        | zero => omega
        | succ a =>
          have e1 := ih h1 B.2 h3 h4.tail a 0 c (by omega) (by simp) (by omega)
          have e2 := wt_first (x := p.1) (L := s :: ss) (fun c hc => by
            rcases List.mem_cons.1 hc with rfl | hc
            · omega
            · have := A.1 c hc; omega) a (by omega)
          simp only [List.take_zero, wt_nil] at e1 ⊢
          omega
/-! pairs -/
theorem pairs_length : ∀ L : List Coin, (pairsOf L).length = L.length / 2
  | [] => rfl
  | [_] => by simp [pairsOf]
  | a :: b :: r => by simp only [pairsOf, List.length_cons, pairs_length r]; omega
theorem pairs_sym : ∀ L : List Coin, ∀ c ∈ pairsOf L, c.2 = -1
  | [], c, h => by simp [pairsOf] at h
  | [_], c, h => by simp [pairsOf] at h
  | a :: b :: r, c, h => by
    simp only [pairsOf, List.mem_cons] at h
    rcases h with rfl | h
    · rfl
    · exact pairs_sym r c h
theorem pairs_le (m : Int) : ∀ L : List Coin, (∀ c ∈ L, c.1 ≤ m) → ∀ c ∈ pairsOf L, c.1 ≤ 2 * m
  | [], _, c, h => by simp [pairsOf] at h
  | [_], _, c, h => by simp [pairsOf] at h
  | a :: b :: r, hm, c, h => by
    simp only [pairsOf, List.mem_cons] at h
    rcases h with rfl | h
    · have := hm a (by simp); have := hm b (by simp); simp only; omega
    · exact pairs_le m r (fun c hc => hm c (by simp [hc])) c h
theorem pairs_ge (m : Int) : ∀ L : List Coin, (∀ c ∈ L, m ≤ c.1) → ∀ c ∈ pairsOf L, 2 * m ≤ c.1
  | [], _, c, h => by simp [pairsOf] at h
  | [_], _, c, h => by simp [pairsOf] at h
  | a :: b :: r, hm, c, h => by
    simp only [pairsOf, List.mem_cons] at h
    rcases h with rfl | h
    · have := hm a (by simp); have := hm b (by simp); simp only; omega
    · exact pairs_ge m r (fun c hc => hm c (by simp [hc])) c h
theorem pairs_pos {L : List Coin} (h : Pos L) : Pos (pairsOf L) := fun c hc => by
  have := pairs_ge 1 L (fun c hc => by have := h c hc; omega) c hc; omega
theorem pairs_asc : ∀ L : List Coin, Asc L → Asc (pairsOf L)
  | [], _ => List.Pairwise.nil
  | [_], _ => List.Pairwise.nil
  | a :: b :: r, h => by
    have h1 := List.pairwise_cons.1 h
    have h2 := List.pairwise_cons.1 h1.2
    refine List.pairwise_cons.2 ⟨fun c hc => ?_, pairs_asc r h2.2⟩
    have h3 := pairs_ge b.1 r h2.1 c hc
    have := h1.1 b (by simp)
    simp only; omega
theorem pairs_wt : ∀ (L : List Coin) (p : Nat), p ≤ (pairsOf L).length → wt ((pairsOf L).take p) = wt (L.take (2 * p))
  | [], p, _ => by simp [pairsOf]
  | [x], p, h => by
    have : p = 0 := by simpa [pairsOf] using h
    subst this; simp
  | a :: b :: r, 0, _ => by simp
  | a :: b :: r, p + 1, h => by
    rw [pairsOf, List.take_succ_cons, show 2 * (p + 1) = 2 * p + 1 + 1 by omega, List.take_succ_cons, List.take_succ_cons, wt_cons, wt_cons, wt_cons, pairs_wt r p (by simpa [pairsOf] using h)]
    omega
/-! the rows -/
def rowC (S : List Coin) : Nat → List Coin
  | 0 => S
  | k + 1 => mergeC S (pairsOf (rowC S k))
theorem row_len (S : List Coin) (k : Nat) : (rowC S (k + 1)).length = S.length + (rowC S k).length / 2 := by
  rw [rowC, merge_length, pairs_length]
theorem row_asc {S : List Coin} (h : Asc S) : ∀ k, Asc (rowC S k)
  | 0 => h
  | k + 1 => merge_asc h (pairs_asc _ (row_asc h k))
theorem row_pos {S : List Coin} (h : Pos S) : ∀ k, Pos (rowC S k)
  | 0 => h
  | k + 1 => fun c hc => by
    rcases mem_merge.1 hc with hc | hc
    · exact h c hc
    · exact pairs_pos (row_pos h k) c hc
theorem row_sym {S : List Coin} : ∀ k, ∀ c ∈ rowC S k, c ∈ S ∨ c.2 = -1
  | 0, c, hc => .inl hc
  | k + 1, c, hc => by
    rcases mem_merge.1 hc with hc | hc
    · exact .inl hc
    · exact .inr (pairs_sym _ c hc)
theorem row_le {S : List Coin} {m : Int} (hm : 0 ≤ m) (h : ∀ c ∈ S, c.1 ≤ m) : ∀ k, ∀ c ∈ rowC S k, c.1 ≤ 2 ^ k * m
  | 0, c, hc => by simpa using h c hc
  | k + 1, c, hc => by
    have e : (2 : Int) ^ (k + 1) * m = 2 * (2 ^ k * m) := by rw [Int.pow_succ]; rw [Int.mul_comm (2 ^ k) 2, Int.mul_assoc]
    rw [e]
    rcases mem_merge.1 hc with hc | hc
    · have h1 := h c hc
      have h2 : m ≤ 2 ^ k * m := by
        have : (1 : Int) ≤ 2 ^ k := by
          have e : (2 : Int) ^ k = ((2 ^ k : Nat) : Int) := by simp
          have := Nat.one_le_two_pow (n := k)
          rw [e]; omega
        have := Int.mul_le_mul_of_nonneg_right this hm
        omega
      omega
    · exact pairs_le _ _ (row_le hm h k) c hc
theorem row_more {S : List Coin} {k D D' : Nat} (h : 2 * S.length - 2 ≤ (rowC S k).length + D) (hD : D ≤ 2 * D' + 2) : 2 * S.length - 2 ≤ (rowC S (k + 1)).length + D' := by
  rw [row_len]; omega
theorem row_big {S : List Coin} (h3 : S.length ≤ 300) : 2 * S.length - 2 ≤ (rowC S 14).length := by
  have l0 : 2 * S.length - 2 ≤ (rowC S 0).length + 298 := by rw [rowC]; omega
  have l1 := row_more (D' := 148) l0 (by decide)
  have l2 := row_more (D' := 73) l1 (by decide)
  have l3 := row_more (D' := 36) l2 (by decide)
  have l4 := row_more (D' := 17) l3 (by decide)
  have l5 := row_more (D' := 8) l4 (by decide)
  have l6 := row_more (D' := 3) l5 (by decide)
  have l7 := row_more (D' := 1) l6 (by decide)
  have l8 := row_more (D' := 0) l7 (by decide)
  have l9 := row_more (D' := 0) l8 (by decide)
  have l10 := row_more (D' := 0) l9 (by decide)
  have l11 := row_more (D' := 0) l10 (by decide)
  have l12 := row_more (D' := 0) l11 (by decide)
  have l13 := row_more (D' := 0) l12 (by decide)
  have l14 := row_more (D' := 0) l13 (by decide)
  simpa using l14
theorem row_small (S : List Coin) (k : Nat) : (rowC S k).length ≤ 2 * S.length := by
  induction k with
  | zero => simp [rowC]; omega
  | succ k ih => rw [row_len]; omega
end Pl
end Go.Proofs.Ytnoleijdpilnpaa
