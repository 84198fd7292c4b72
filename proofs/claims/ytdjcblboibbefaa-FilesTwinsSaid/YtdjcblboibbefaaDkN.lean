/- disk, plain: a directory whose files are torn one by one; the file system behind a crash. -/
import Derived.Test.YtdjcblboibbefaaDkM
set_option linter.unusedSimpArgs false
set_option linter.unusedVariables false
set_option maxRecDepth 100000
namespace Go.Proofs.Ytdjcblboibbefaa.S13
open Go.RowKit Go.Maps Go.Shelf Dk
/-- the first k files are new ones -/
def lay (L : Dir) (N k : Nat) : Dir := L.mapIdx fun j p => (p.1, if j < k then N + j else p.2)
theorem lay_0 (L : Dir) (N : Nat) : lay L N 0 = L := by
  unfold lay
  apply List.ext_getElem?
  intro i
  rw [List.getElem?_mapIdx]
  cases L[i]? <;> simp
theorem lay_length (L : Dir) (N k : Nat) : (lay L N k).length = L.length := by simp [lay]
theorem lay_names (L : Dir) (N k : Nat) : (lay L N k).map (·.1) = L.map (·.1) := by
  apply List.ext_getElem?
  intro i
  simp only [lay, List.getElem?_map, List.getElem?_mapIdx]
  cases L[i]? <;> simp
theorem srt_iff (L : Dir) : Srt L ↔ (L.map (·.1)).Pairwise fun a b => bytesBefore a b = true := by
  unfold Srt
  rw [List.pairwise_map]
theorem lay_srt {L : Dir} (N k : Nat) (h : Srt L) : Srt (lay L N k) := by rw [srt_iff, lay_names, ← srt_iff]; exact h
theorem lay_at {L : Dir} {N k j : Nat} {p : Nm × Nat} (h : L[j]? = some p) : (lay L N k)[j]? = some (p.1, if j < k then N + j else p.2) := by
  simp [lay, List.getElem?_mapIdx, h]
theorem dput_set : ∀ (L : Dir) (k : Nat) (n : Nm) (o i : Nat), Srt L → L[k]? = some (n, o) → dput L n i = L.set k (n, i)
  | [], _, _, _, _, _, h => by simp at h
  | a :: r, 0, n, o, i, hs, h => by
    simp at h
    subst h
    have hne := srt_ne hs
    obtain ⟨h1, h2⟩ := List.pairwise_cons.1 hne
    obtain ⟨b1, _⟩ := List.pairwise_cons.1 hs
    have e : ddel ((n, o) :: r) n = r := by
      unfold ddel
      rw [List.filter_cons]
      simp only [beq_self_eq_true, Bool.not_true, Bool.false_eq_true, if_false]
      exact List.filter_eq_self.2 fun p hp => by have := h1 p hp; simp only [Bool.not_eq_true', beq_eq_false_iff_ne]; exact fun e => this e.symm
    unfold dput
    rw [e, List.set_cons_zero]
    cases r with
    | nil => rfl
    | cons c q =>
      unfold dins
      rw [if_pos (b1 c (by simp))]
  | a :: r, k + 1, n, o, i, hs, h => by
    have hm : (n, o) ∈ r := List.mem_of_getElem? (by simpa using h)
    have hne := srt_ne hs
    obtain ⟨h1, _⟩ := List.pairwise_cons.1 hne
    obtain ⟨b1, b2⟩ := List.pairwise_cons.1 hs
    have hb := b1 _ hm
    have e : ddel (a :: r) n = a :: ddel r n := by
      unfold ddel
      rw [List.filter_cons]
      have : (a.1 == n) = false := by simpa using h1 _ hm
      rw [this]; rfl
    have ih := dput_set r k n o i b2 (by simpa using h)
    unfold dput at ih ⊢
    rw [e, List.set_cons_succ, ← ih]
    have hnb : ¬ bytesBefore n a.1 = true := fun hx => by
      have x1 := (before_lt _ _).1 hb
      have x2 := (before_lt _ _).1 hx
      exact absurd (List.lt_trans x1 x2) (List.lt_irrefl _)
    show (if bytesBefore n a.1 = true then _ else _) = _
    rw [if_neg hnb]
theorem lay_step {L : Dir} (hs : Srt L) (N k : Nat) {p : Nm × Nat} (h : L[k]? = some p) : dput (lay L N k) p.1 (N + k) = lay L N (k + 1) := by
  have h1 := lay_at (N := N) (k := k) h
  rw [if_neg (Nat.lt_irrefl _)] at h1
  rw [dput_set _ k p.1 _ (N + k) (lay_srt N k hs) h1]
  apply List.ext_getElem?
  intro i
  rw [List.getElem?_set]
  by_cases hi : k = i
  · subst hi
    have hl : k < (lay L N k).length := by rw [lay_length]; exact (List.getElem?_eq_some_iff.1 h).1
    rw [if_pos rfl, if_pos hl, lay_at h, if_pos (by omega)]
  · rw [if_neg hi]
    simp only [lay, List.getElem?_mapIdx]
    cases L[i]? with
    | none => rfl
    | some q =>
      simp only [Option.map_some, Option.some.injEq, Prod.mk.injEq, true_and]
      by_cases h1 : i < k
      · rw [if_pos h1, if_pos (by omega)]
      · rw [if_neg h1, if_neg (by omega)]
/-- the directory that a crash leaves -/
def fresh (L : Dir) : Dir := L.mapIdx fun k p => (p.1, k)
theorem dD_fresh (L : Dir) (N : Nat) (β bf : Nat → Nat) (h : ∀ j, j < L.length → β (N + j) = bf j) : dD β (lay L N L.length) = dD bf (fresh L) := by
  unfold dD lay fresh
  congr 1
  apply List.ext_getElem?
  intro i
  simp only [List.getElem?_map, List.getElem?_mapIdx]
  cases hi : L[i]? with
  | none => rfl
  | some q =>
    have hl := (List.getElem?_eq_some_iff.1 hi).1
    simp only [Option.map_some, ent, if_pos hl, h i hl]
theorem fresh_length (L : Dir) : (fresh L).length = L.length := by simp [fresh]
theorem fresh_mem {L : Dir} : ∀ p ∈ fresh L, p.2 < L.length := by
  intro p hp
  obtain ⟨i, hi, rfl⟩ := List.getElem_of_mem hp
  simp [fresh] at hi ⊢
  exact hi
theorem torn_ok {f : List Nat × Nat} (tail : Int) (h : (∀ y ∈ f.1, y < 256) ∧ f.2 ≤ f.1.length ∧ f.1.length ≤ 4194304) :
    (∀ y ∈ (tornF f tail).1, y < 256) ∧ (tornF f tail).2 ≤ (tornF f tail).1.length ∧ (tornF f tail).1.length ≤ 4194304 := by
  obtain ⟨X, s⟩ := f
  obtain ⟨h1, h2, h3⟩ := h
  simp only at h1 h2 h3
  unfold tornF
  simp only
  obtain ⟨m, hm⟩ : ∃ m, (max 0 (min tail (X.length - s : Nat))).toNat = m := ⟨_, rfl⟩
  rw [hm]
  have : m ≤ X.length - s := by omega
  refine ⟨fun y hy => h1 y (List.mem_of_mem_take hy), ?_, ?_⟩
  · rw [List.length_take]; omega
  · rw [List.length_take]; omega
theorem fresh_names (L : Dir) : (fresh L).map (·.1) = L.map (·.1) := by
  apply List.ext_getElem?
  intro i
  simp only [fresh, List.getElem?_map, List.getElem?_mapIdx]
  cases L[i]? <;> simp
theorem after_names {S : St} (h : S.Ok) (k : Nat) : ∀ p ∈ S.after k, p.1.length ≤ 100000 := by
  have : ∀ (C : List Chg) (D : Dir), (∀ p ∈ D, p.1.length ≤ 100000) → (∀ c ∈ C, c.2.1.length ≤ 100000) → ∀ p ∈ C.foldl app1 D, p.1.length ≤ 100000 := by
    intro C
    induction C with
    | nil => intro D hD _; exact hD
    | cons c r ih => intro D hD hC; exact ih _ (app1_names hD (hC c (by simp))) (fun d hd => hC d (by simp [hd]))
  exact this _ _ h.nl.2 (fun c hc => (h.short c (List.mem_of_mem_take hc)).2)
theorem crash_ok {S : St} (h : S.Ok) (n : Int) (tails : List Int) : (crash S n tails).Ok := by
  have hk : crashN S n ≤ S.pend.length := by unfold crashN; omega
  have hl := h.len _ hk
  have hF : (crash S n tails).F.length = (S.after (crashN S n)).length := by simp [crash]
  have hnm : ∀ p ∈ fresh (S.after (crashN S n)), p.1.length ≤ 100000 := fun p hp => by
    have h1 : p.1 ∈ (fresh (S.after (crashN S n))).map (·.1) := List.mem_map.2 ⟨p, hp, rfl⟩
    rw [fresh_names] at h1
    obtain ⟨q, hq, e⟩ := List.mem_map.1 h1
    rw [← e]
    exact after_names h _ q hq
  refine ⟨h.room, ?_, ?_, ?_, ?_, rfl, ?_, ?_, ?_, ⟨hnm, hnm⟩⟩
  · intro x hx
    obtain ⟨i, hi, rfl⟩ := List.getElem_of_mem hx
    simp only [crash, List.getElem_mapIdx]
    exact torn_ok _ (file_ok h _)
  · intro p hp; rw [hF]; exact fresh_mem p hp
  · intro p hp; rw [hF]; exact fresh_mem p hp
  · intro c hc; simp [crash] at hc
  · intro k hk
    simp [crash] at hk
    subst hk
    simp [crash, St.after]
    simpa [St.after] using hl
  · simp [crash]
  · intro c hc; simp [crash] at hc
end Go.Proofs.Ytdjcblboibbefaa.S13
