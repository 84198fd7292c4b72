/- Rotating, merging in place, blocks that are sorted: arrays alone, no program. -/
import Derived.Test.YtnoleijdpilnpaaRow
import Derived.Sort.LotA
set_option linter.unusedSimpArgs false
set_option linter.unusedVariables false
namespace Go.Proofs.Ytnoleijdpilnpaa
open Go.Sort
namespace Pl
variable {α : Type}
/-- f, its parts [a, m) and [m, b) exchanged -/
def rotF (a m b : Nat) (f : Nat → α) (x : Nat) : α := if a ≤ x ∧ x < a + (b - m) then f (x + (m - a)) else if a + (b - m) ≤ x ∧ x < b then f (x - (b - m)) else f x
/-- f, n places from a on and as many from b on exchanged -/
def swapF (a b n : Nat) (f : Nat → α) (x : Nat) : α := if a ≤ x ∧ x < a + n then f (x + (b - a)) else if b ≤ x ∧ x < b + n then f (x - (b - a)) else f x
theorem swapF_zero (a b : Nat) (f : Nat → α) : swapF a b 0 f = f := by
  funext x; unfold swapF; repeat' split
  all_goals first | rfl | (exfalso; omega)
theorem rot_step1 {m i j : Nat} (hi : i ≤ m) (hj : j < i) (f : Nat → α) : rotF (m - (i - j)) m (m + j) (swapF (m - i) m j f) = rotF (m - i) m (m + j) f := by
  funext x
  unfold rotF swapF
  repeat' split
  all_goals first | rfl | (exfalso; omega) | (congr 1; omega)
theorem rot_step2 {m i j : Nat} (hi : i ≤ m) (hj : i < j) (f : Nat → α) : rotF (m - i) m (m + (j - i)) (swapF (m - i) (m + j - i) i f) = rotF (m - i) m (m + j) f := by
  funext x
  unfold rotF swapF
  repeat' split
  all_goals first | rfl | (exfalso; omega) | (congr 1; omega)
theorem rot_end {m i : Nat} (hi : i ≤ m) (f : Nat → α) : swapF (m - i) m i f = rotF (m - i) m (m + i) f := by
  funext x
  unfold rotF swapF
  repeat' split
  all_goals first | rfl | (exfalso; omega) | (congr 1; omega)
theorem rotF_none1 (a b : Nat) (f : Nat → α) : rotF a a b f = f := by
  funext x; unfold rotF; repeat' split
  all_goals first | rfl | (exfalso; omega) | (congr 1; omega)
theorem rotF_none2 (a b : Nat) (f : Nat → α) : rotF a b b f = f := by
  funext x; unfold rotF; repeat' split
  all_goals first | rfl | (exfalso; omega) | (congr 1; omega)
variable [Inhabited α]
def Arr (d : Array α) (f : Nat → α) : Prop := ∀ x, d[x]! = f x
theorem arr_self (d : Array α) : Arr d (fun x => d[x]!) := fun _ => rfl
theorem swapF_step {a b i : Nat} (h : a + i < b) {d : Array α} {f : Nat → α} (hd : Arr d (swapF a b i f)) (hb : b + i < d.size) : Arr (swp d (a + i) (b + i)) (swapF a b (i + 1) f) := by
  intro x
  rw [swp_get d (by omega) hb, hd, hd, hd]
  unfold swapF
  repeat' split
  all_goals first | rfl | (exfalso; omega) | (congr 1; omega)
/-- one place further: to the right, to the left -/
theorem rot_right {a k : Nat} (h : a ≤ k) {d : Array α} {f : Nat → α} (hd : Arr d (rotF a (a + 1) (k + 1) f)) (hk : k + 1 < d.size) : Arr (swp d k (k + 1)) (rotF a (a + 1) (k + 2) f) := by
  intro x
  rw [swp_get d (by omega) hk, hd, hd, hd]
  unfold rotF
  repeat' split
  all_goals first | rfl | (exfalso; omega) | (congr 1; omega)
theorem rot_left {k m : Nat} (h : k < m) {d : Array α} {f : Nat → α} (hd : Arr d (rotF (k + 1) m (m + 1) f)) (hm : m < d.size) : Arr (swp d (k + 1) k) (rotF k m (m + 1) f) := by
  intro x
  rw [swp_get d (by omega) (by omega), hd, hd, hd]
  unfold rotF
  repeat' split
  all_goals first | rfl | (exfalso; omega) | (congr 1; omega)

variable (key : α → Int)
/-- ascending on [a, b) -/
def Srt (a b : Nat) (d : Array α) : Prop := ∀ i j, a ≤ i → i < j → j < b → key d[i]! ≤ key d[j]!
variable {key}
theorem Srt.le {a b : Nat} {d : Array α} (h : Srt key a b d) {i j : Nat} (hi : a ≤ i) (hij : i ≤ j) (hj : j < b) : key d[i]! ≤ key d[j]! := by
  rcases Nat.lt_or_eq_of_le hij with h1 | h1
  · exact h i j hi h1 hj
  · subst h1; exact Int.le_refl _
theorem Srt.congr {a b : Nat} {d d' : Array α} (h : Srt key a b d) (he : ∀ x, a ≤ x → x < b → d'[x]! = d[x]!) : Srt key a b d' := by
  intro i j h1 h2 h3
  rw [he i h1 (by omega), he j (by omega) h3]
  exact h i j h1 h2 h3
theorem Srt.sub {a b a' b' : Nat} {d : Array α} (h : Srt key a b d) (ha : a ≤ a') (hb : b' ≤ b) : Srt key a' b' d := fun i j h1 h2 h3 => h i j (by omega) h2 (by omega)
theorem Srt.small {a b : Nat} (d : Array α) (h : b ≤ a + 1) : Srt key a b d := fun i j h1 h2 h3 => by omega
/-- two parts, each ascending, the first nowhere above the second -/
theorem Srt.join {a m b : Nat} {d : Array α} (h1 : Srt key a m d) (h2 : Srt key m b d) (hx : ∀ i j, a ≤ i → i < m → m ≤ j → j < b → key d[i]! ≤ key d[j]!) : Srt key a b d := by
  intro i j hi hij hj
  by_cases hjm : j < m
  · exact h1 i j hi hij hjm
  · by_cases him : i < m
    · exact hx i j hi him (by omega) hj
    · exact h2 i j (by omega) hij hj
/-- one element put among those behind it -/
theorem ins_first {a i b : Nat} {d d' : Array α} (h2 : Srt key (a + 1) b d) (hi : a + 1 ≤ i) (hib : i ≤ b) (hl : i = a + 1 ∨ key d[i - 1]! ≤ key d[a]!) (hr : i = b ∨ key d[a]! ≤ key d[i]!) (hd : Arr d' (rotF a (a + 1) i fun x => d[x]!)) : Srt key a b d' := by
  intro p q h1 h3 h4
  rw [hd p, hd q]
  have hlow : ∀ x, a + 1 ≤ x → x < i → key d[x]! ≤ key d[a]! := fun x hx hxi => by
    rcases hl with e | e
    · omega
    · exact Int.le_trans (h2.le hx (by omega) (by omega)) e
  have hhigh : ∀ x, i ≤ x → x < b → key d[a]! ≤ key d[x]! := fun x hx hxb => by
    rcases hr with e | e
    · omega
    · exact Int.le_trans e (h2.le (by omega) hx hxb)
  unfold rotF
  by_cases c1 : q < i - 1
  · rw [if_pos (by omega), if_pos (by omega)]
    exact h2.le (by omega) (by omega) (by omega)
  · by_cases c2 : q = i - 1
    · rw [if_pos (by omega), if_neg (by omega), if_pos (by omega)]
      rw [show q - (i - (a + 1)) = a by omega]
      exact hlow _ (by omega) (by omega)
    · rw [if_neg (c := a ≤ q ∧ _) (by omega), if_neg (c := a + (i - (a + 1)) ≤ q ∧ _) (by omega)]
      by_cases c3 : p < i - 1
      · rw [if_pos (by omega)]
        exact Int.le_trans (hlow _ (by omega) (by omega)) (hhigh q (by omega) h4)
      · by_cases c4 : p = i - 1
        · rw [if_neg (by omega), if_pos (by omega), show p - (i - (a + 1)) = a by omega]
          exact hhigh q (by omega) h4
        · rw [if_neg (by omega), if_neg (by omega)]
          exact h2.le (by omega) (by omega) h4
/-- one element put among those ahead of it -/
theorem ins_last {a i m : Nat} {d d' : Array α} (h1 : Srt key a m d) (hai : a ≤ i) (him : i ≤ m) (hl : i = a ∨ key d[i - 1]! ≤ key d[m]!) (hr : i = m ∨ key d[m]! ≤ key d[i]!) (hd : Arr d' (rotF i m (m + 1) fun x => d[x]!)) : Srt key a (m + 1) d' := by
  intro p q h2 h3 h4
  rw [hd p, hd q]
  have hlow : ∀ x, a ≤ x → x < i → key d[x]! ≤ key d[m]! := fun x hx hxi => by
    rcases hl with e | e
    · omega
    · exact Int.le_trans (h1.le hx (by omega) (by omega)) e
  have hhigh : ∀ x, i ≤ x → x < m → key d[m]! ≤ key d[x]! := fun x hx hxb => by
    rcases hr with e | e
    · omega
    · exact Int.le_trans e (h1.le (by omega) hx hxb)
  unfold rotF
  by_cases c1 : q < i
  · rw [if_neg (by omega), if_neg (by omega), if_neg (by omega), if_neg (by omega)]
    exact h1.le h2 (by omega) (by omega)
  · by_cases c2 : q = i
    · rw [if_neg (by omega), if_neg (by omega), if_pos (by omega)]
      rw [show q + (m - i) = m by omega]
      exact hlow _ h2 (by omega)
    · rw [if_neg (c := i ≤ q ∧ _) (by omega), if_pos (c := i + (m + 1 - m) ≤ q ∧ _) (by omega)]
      by_cases c3 : p < i
      · rw [if_neg (by omega), if_neg (by omega)]
        exact h1.le h2 (by omega) (by omega)
      · by_cases c4 : p = i
        · rw [if_pos (by omega), show p + (m - i) = m by omega]
          exact hhigh _ (by omega) (by omega)
        · rw [if_neg (by omega), if_pos (by omega)]
          exact h1.le (by omega) (by omega) (by omega)
/-- what the search of a symmetric merge has found -/
structure Cut (key : α → Int) (a m b mid s e : Nat) (d : Array α) : Prop where
  ge : a ≤ s
  sm : s ≤ m
  me : m ≤ e
  eb : e ≤ b
  sum : s + e = mid + m
  low : ∀ i j, a ≤ i → i < s → e ≤ j → j < b → key d[i]! ≤ key d[j]!
  high : ∀ i j, s ≤ i → i < m → m ≤ j → j < e → key d[j]! ≤ key d[i]!
theorem cut_of {a m b s0 r0 s : Nat} {d : Array α} (h1 : Srt key a m d) (h2 : Srt key m b d) (ham : a < m) (hmb : m < b)
    (hs0 : ((a + b) / 2 < m ∧ s0 = (a + b) / 2 + m - b ∧ r0 = (a + b) / 2) ∨ (m ≤ (a + b) / 2 ∧ s0 = a ∧ r0 = m)) (hs : s0 ≤ s) (hr : s ≤ r0)
    (hl : s = s0 ∨ key d[s - 1]! ≤ key d[(a + b) / 2 + m - 1 - (s - 1)]!) (hg : s = r0 ∨ key d[(a + b) / 2 + m - 1 - s]! ≤ key d[s]!) :
    Cut key a m b ((a + b) / 2) s ((a + b) / 2 + m - s) d := by
  refine ⟨by omega, by omega, by omega, by omega, by omega, fun i j hi his hj hjb => ?_, fun i j hi him hj hje => ?_⟩
  · rcases hl with e | e
    · omega
    · rw [show (a + b) / 2 + m - 1 - (s - 1) = (a + b) / 2 + m - s by omega] at e
      exact Int.le_trans (h1.le hi (show i ≤ s - 1 by omega) (by omega)) (Int.le_trans e (h2.le (by omega) hj hjb))
  · rcases hg with e | e
    · omega
    · exact Int.le_trans (h2.le hj (show j ≤ (a + b) / 2 + m - 1 - s by omega) (by omega)) (Int.le_trans e (h1.le (by omega) hi him))
section
variable {a m b mid s e : Nat} {d d1 : Array α} (h1 : Srt key a m d) (h2 : Srt key m b d) (C : Cut key a m b mid s e d) (hd : Arr d1 (rotF s m e fun x => d[x]!))
include h1 h2 C hd
theorem cut_runs : Srt key a s d1 ∧ Srt key s mid d1 ∧ Srt key mid e d1 ∧ Srt key e b d1 := by
  obtain ⟨ge, sm, me, eb, sum, low, high⟩ := C
  refine ⟨h1.sub (Nat.le_refl _) sm |>.congr fun x hx hxs => ?_, fun i j hi hij hj => ?_, fun i j hi hij hj => ?_, (h2.sub me (Nat.le_refl _)).congr fun x hx hxs => ?_⟩
  · rw [hd x]; unfold rotF; rw [if_neg (by omega), if_neg (by omega)]
  · rw [hd i, hd j]; unfold rotF; rw [if_pos (by omega), if_pos (by omega)]
    exact h2.le (by omega) (by omega) (by omega)
  · rw [hd i, hd j]; unfold rotF; rw [if_neg (by omega), if_pos (by omega), if_neg (by omega), if_pos (by omega)]
    exact h1.le (by omega) (by omega) (by omega)
  · rw [hd x]; unfold rotF; rw [if_neg (by omega), if_neg (by omega)]
theorem cut_cross : ∀ i j, a ≤ i → i < mid → mid ≤ j → j < b → key d1[i]! ≤ key d1[j]! := by
  obtain ⟨ge, sm, me, eb, sum, low, high⟩ := C
  intro i j hi him hj hjb
  rw [hd i, hd j]
  unfold rotF
  by_cases c1 : i < s
  · rw [if_neg (c := s ≤ i ∧ _) (by omega), if_neg (c := s + (e - m) ≤ i ∧ _) (by omega)]
    by_cases c2 : j < e
    · rw [if_neg (by omega), if_pos (by omega)]
      exact h1.le hi (by omega) (by omega)
    · rw [if_neg (by omega), if_neg (by omega)]
      exact low i j hi c1 (by omega) hjb
  · rw [if_pos (c := s ≤ i ∧ _) (by omega)]
    by_cases c2 : j < e
    · rw [if_neg (by omega), if_pos (by omega)]
      exact high _ _ (by omega) (by omega) (by omega) (by omega)
    · rw [if_neg (by omega), if_neg (by omega)]
      exact h2.le (by omega) (by omega) hjb
/-- both halves, each sorted by itself, are sorted together -/
theorem cut_done {d2 d3 : Array α} (hs : d1.size = d.size) (hb : b ≤ d.size) (ham : a ≤ mid) (hmb : mid ≤ b) (p2 : PermIn a mid d1 d2) (s2 : Srt key a mid d2) (p3 : PermIn mid b d2 d3) (s3 : Srt key mid b d3) : Srt key a b d3 := by
  have hx := cut_cross h1 h2 C hd
  refine Srt.join (m := mid) (s2.congr fun x hx1 hx2 => p3.2.1 x (.inl hx2)) s3 fun i j hi him hj hjb => ?_
  rw [p3.2.1 i (.inl him)]
  have hsz2 : d2.size = d1.size := p2.1
  refine permIn_all d2 d3 mid b (fun y => key d2[i]! ≤ key y) (by omega) p3 (fun j hj hjb => ?_) j hj hjb
  rw [p2.2.1 j (.inr hj)]
  exact permIn_all d1 d2 a mid (fun y => key y ≤ key d1[j]!) (by omega) p2 (fun i hi him => hx i j hi him hj hjb) i hi him
end
/-- blocks of M, the last one up to n, are sorted as far as 'a' -/
def Done (key : α → Int) (M a n : Nat) (d : Array α) : Prop := ∀ i j k, i < j → j < a → j < n → k * M ≤ i → j < (k + 1) * M → key d[i]! ≤ key d[j]!
/-- blocks of M from 'a' on are sorted -/
def Rest (key : α → Int) (M a n : Nat) (d : Array α) : Prop := ∀ i j k, a ≤ i → i < j → j < n → k * M ≤ i → j < (k + 1) * M → key d[i]! ≤ key d[j]!
theorem mul_next {k t M : Nat} (h : k * M < t * M) : (k + 1) * M ≤ t * M := by
  apply Nat.mul_le_mul_right
  apply Nat.succ_le_of_lt
  exact Nat.lt_of_mul_lt_mul_right h
/-- one block more -/
theorem Done.step {M t a b n : Nat} {d d' : Array α} (h : Done key M a n d) (ha : a = t * M) (hab : b ≤ a + M) (hn : b ≤ n) (he : ∀ x, x < a → d'[x]! = d[x]!) (hs : Srt key a b d') : Done key M b n d' := by
  intro i j k hij hj hjn hk hk2
  by_cases c1 : j < a
  · rw [he i (by omega), he j c1]
    exact h i j k hij c1 hjn hk hk2
  · by_cases c2 : a ≤ i
    · exact hs i j c2 hij hj
    · have := mul_next (show k * M < t * M by omega)
      omega
theorem Done.zero (M n : Nat) (d : Array α) : Done key M 0 n d := fun i j k h1 h2 => by omega
theorem Done.rest {M n : Nat} {d : Array α} (h : Done key M n n d) : Rest key M 0 n d := fun i j k _ h1 h2 h3 h4 => h i j k h1 h2 h2 h3 h4
theorem Rest.sorted {M n : Nat} {d : Array α} (h : Rest key M 0 n d) (hM : n ≤ M) : Srt key 0 n d := fun i j h1 h2 h3 => h i j 0 h1 h2 h3 (by omega) (by omega)
theorem Rest.run {M a b n : Nat} {d : Array α} (h : Rest key M a n d) (k : Nat) (ha : a ≤ k * M) (hb : b ≤ (k + 1) * M) (hn : b ≤ n) : Srt key (k * M) b d := fun i j h1 h2 h3 => h i j k (by omega) h2 (by omega) h1 (by omega)
theorem Rest.sub {M a b n : Nat} {d d' : Array α} (h : Rest key M a n d) (hab : a ≤ b) (he : ∀ x, b ≤ x → d'[x]! = d[x]!) : Rest key M b n d' := fun i j k h1 h2 h3 h4 h5 => by
  rw [he i h1, he j (by omega)]
  exact h i j k (by omega) h2 h3 h4 h5
theorem two_mul_run (t M : Nat) : (2 * t) * M = t * (2 * M) ∧ (2 * t + 1) * M = t * (2 * M) + M ∧ (2 * t + 1 + 1) * M = t * (2 * M) + 2 * M := by
  have e : (2 * t) * M = t * (2 * M) := by rw [Nat.mul_comm 2 t, Nat.mul_assoc]
  refine ⟨e, by rw [Nat.add_mul, Nat.one_mul, e], ?_⟩
  rw [Nat.add_mul, Nat.one_mul, Nat.add_mul, Nat.one_mul, e]
  omega
/-- permutations within a part are ones of the whole -/
theorem perm_in {a b n : Nat} {d0 d d' : Array α} (h : PermIn 0 n d0 d) (hb : b ≤ n) (hn : n ≤ d0.size) (p : PermIn a b d d') : PermIn 0 n d0 d' :=
  permIn_trans _ _ _ _ _ h (permIn_mono _ _ _ _ _ _ (Nat.zero_le _) hb (by rw [h.1]; exact hn) p)
end Pl
end Go.Proofs.Ytnoleijdpilnpaa
