/- What is spent, round by round: plain. -/
import Derived.Test.YtnoleijdpilnpaaPkgB
set_option linter.unusedSimpArgs false
set_option linter.unusedVariables false
namespace Go.Proofs.Ytnoleijdpilnpaa
namespace Pl
/-- a bit more for each symbol that is taken -/
def bump : List Int → List Coin → List Int
  | l, [] => l
  | l, c :: T => bump (if c.2 = -1 then l else l.set c.2.toNat (l.getD c.2.toNat 0 + 1)) T
theorem bump_append (l : List Int) (A B : List Coin) : bump l (A ++ B) = bump (bump l A) B := by
  induction A generalizing l with
  | nil => rfl
  | cons a A ih => exact ih _
theorem bump_length (l : List Int) (T : List Coin) : (bump l T).length = l.length := by
  induction T generalizing l with
  | nil => rfl
  | cons c T ih =>
    rw [bump, ih]
    split
    · rfl
    · simp
/-- symbols that are none or in the list -/
def SymOk (m : Nat) (T : List Coin) : Prop := ∀ c ∈ T, c.2 = -1 ∨ (0 ≤ c.2 ∧ c.2 < m)
theorem getD_set_int (l : List Int) (i j : Nat) (v : Int) (hi : i < l.length) : (l.set i v).getD j 0 = if j = i then v else l.getD j 0 := by
  simp only [List.getD_eq_getElem?_getD, List.getElem?_set]
  by_cases e : j = i
  · subst e; simp [hi]
  · rw [if_neg (Ne.symm e), if_neg e]
theorem bump_get (l : List Int) (T : List Coin) (h : SymOk l.length T) (x : Nat) (hx : x < l.length) : (bump l T).getD x 0 = l.getD x 0 + cntS x T := by
  induction T generalizing l with
  | nil => simp [bump, cntS]
  | cons c T ih =>
    rw [bump, cntS]
    have hc := h c (by simp)
    by_cases e : c.2 = -1
    · rw [if_pos e, ih l (fun c hc => h c (by simp [hc])) hx, if_neg (by omega)]
      simp
    · rw [if_neg e]
      have hc' := hc.resolve_left e
      rw [ih _ (fun c hc => by rw [List.length_set]; exact h c (by simp [hc])) (by simpa using hx), getD_set_int _ _ _ _ (by omega)]
      by_cases e2 : c.2 = (x : Int)
      · rw [if_pos (by omega), if_pos e2]
        rw [show c.2.toNat = x by omega]
        push_cast; omega
      · rw [if_neg (by omega), if_neg e2]
        simp
theorem bump_bound (l : List Int) (T : List Coin) (M : Int) (hM : 0 ≤ M) (h : ∀ v ∈ l, 0 ≤ v ∧ v ≤ M) : ∀ v ∈ bump l T, 0 ≤ v ∧ v ≤ M + T.length := by
  induction T generalizing l M with
  | nil => intro v hv; have := h v hv; simp; exact this
  | cons c T ih =>
    intro v hv
    rw [bump] at hv
    have := ih _ (M + 1) (by omega) (fun v hv => ?_) v hv
    · simp only [List.length_cons]; push_cast; omega
    · split at hv
      · have := h v hv; omega
      · rcases List.mem_or_eq_of_mem_set hv with hv | rfl
        · have := h v hv; omega
        · by_cases e : c.2.toNat < l.length
          · have := h (l.getD c.2.toNat 0) (by rw [List.getD_eq_getElem?_getD, List.getElem?_eq_getElem e]; exact List.getElem_mem _)
            omega
          · rw [List.getD_eq_getElem?_getD, List.getElem?_eq_none (by omega)]
            simp; omega
/-- the lengths and the count behind k rounds -/
def st (S : List Coin) (l0 : List Int) (c0 : Nat) : Nat → List Int × Nat
  | 0 => (l0, c0)
  | k + 1 => (bump (st S l0 c0 k).1 ((rowC S (14 - k)).take (st S l0 c0 k).2), 2 * cntS (-1) ((rowC S (14 - k)).take (st S l0 c0 k).2))
theorem st_length (S : List Coin) (l0 : List Int) (c0 : Nat) : ∀ k, (st S l0 c0 k).1.length = l0.length
  | 0 => rfl
  | k + 1 => by rw [st, bump_length, st_length S l0 c0 k]
theorem row_ok {S : List Coin} {m : Nat} (h : ∀ c ∈ S, 0 ≤ c.2 ∧ c.2 < m) (k c : Nat) : SymOk m ((rowC S k).take c) := fun x hx => by
  rcases row_sym k x (List.mem_of_mem_take hx) with h1 | h1
  · exact .inr (h x h1)
  · exact .inl h1
theorem st_count {S : List Coin} (G : Good S) (l0 : List Int) (c0 : Nat) (h0 : c0 ≤ (rowC S 14).length) : ∀ k, k ≤ 14 → (st S l0 c0 k).2 ≤ (rowC S (14 - k)).length
  | 0, _ => h0
  | k + 1, hk => by
    have ih := st_count G l0 c0 h0 k (by omega)
    rw [st]
    obtain ⟨j, hj⟩ : ∃ j, 14 - k = j + 1 := ⟨14 - k - 1, by omega⟩
    rw [hj] at ih ⊢
    obtain ⟨s, p, h1, h2, h3, h4, _⟩ := take_parts G j _ ih
    rw [h4, show 14 - (k + 1) = j by omega]
    exact h3
theorem st_small {S : List Coin} (hS : S.length ≤ 300) (l0 : List Int) (c0 : Nat) (h : ∀ v ∈ l0, v = 0) : ∀ k, ∀ v ∈ (st S l0 c0 k).1, 0 ≤ v ∧ v ≤ 600 * (k : Int)
  | 0 => fun v hv => by have := h v hv; omega
  | k + 1 => fun v hv => by
    have := bump_bound _ ((rowC S (14 - k)).take (st S l0 c0 k).2) (600 * (k : Int)) (by omega) (st_small hS l0 c0 h k) v hv
    have h2 : ((rowC S (14 - k)).take (st S l0 c0 k).2).length ≤ 600 := by
      have := row_small S (14 - k)
      rw [List.length_take]; omega
    push_cast
    omega
theorem st_final {S : List Coin} {m : Nat} (hs : ∀ c ∈ S, 0 ≤ c.2 ∧ c.2 < m) (l0 : List Int) (hm : l0.length = m) (c0 x : Nat) (hx : x < m) : ∀ j, j ≤ 14 → (st S l0 c0 15).1.getD x 0 = (st S l0 c0 (14 - j)).1.getD x 0 + lenK S j (st S l0 c0 (14 - j)).2 x
  | 0, _ => by
    show (st S l0 c0 (14 + 1)).1.getD x 0 = _
    rw [st, bump_get _ _ (by rw [st_length, hm]; exact row_ok hs _ _) x (by rw [st_length, hm]; exact hx)]
    rfl
  | j + 1, hj => by
    have ih := st_final hs l0 hm c0 x hx j (by omega)
    rw [ih]
    obtain ⟨k, hk⟩ : ∃ k, 14 - (j + 1) = k := ⟨_, rfl⟩
    rw [show 14 - j = k + 1 by omega, hk, st, bump_get _ _ (by rw [st_length, hm]; exact row_ok hs _ _) x (by rw [st_length, hm]; exact hx), lenK, show 14 - k = j + 1 by omega]
    push_cast
    omega
/-- the lengths that are left are those of the coins -/
theorem st_lens {S : List Coin} {m : Nat} (hs : ∀ c ∈ S, 0 ≤ c.2 ∧ c.2 < m) (x : Nat) (hx : x < m) : (st S (List.replicate m 0) (2 * S.length - 2) 15).1.getD x 0 = lenOf S x := by
  have := st_final hs (List.replicate m 0) (by simp) (2 * S.length - 2) x hx 14 (by omega)
  rw [this, show 14 - 14 = 0 from rfl]
  simp only [st, lenOf]
  have e : (List.replicate m (0 : Int)).getD x 0 = 0 := by simp [List.getD, hx]
  rw [e]; omega
end Pl
end Go.Proofs.Ytnoleijdpilnpaa
