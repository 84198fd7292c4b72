/- Of bytes that are all unlike: where each stands; plain lists, no program. -/
import Derived.Test.YthfdclclecjdaaaMtfQ
namespace Go.Proofs.Ythfdclclecjdaaa.Pl
theorem getD_of_get? {L : List Nat} {i x : Nat} (h : L[i]? = some x) : L.getD i 0 = x := by
  rw [List.getD_eq_getElem?_getD, h]; rfl
theorem mv_get {L : List Nat} (hl : L.length = 256) {K p : Nat} (hK : K < 256) (h0 : 0 < p) (hp : p < 256) : (mv L K).getD p 0 = if p ≤ K then L.getD (p - 1) 0 else L.getD p 0 := by
  apply getD_of_get?
  rw [← sh_end hl K hK, List.getElem?_set_ne (by omega), sh_get L K 0 p hp, if_neg (by omega)]
theorem idxOf_mv {L : List Nat} (h : Perm L) {K x : Nat} (hK : K < 256) (hx : x < 256) (hne : x ≠ L.getD K 0) : (mv L K).idxOf x = if L.idxOf x < K then L.idxOf x + 1 else L.idxOf x := by
  have hq := h.idx_lt hx
  have hg := getD_idxOf (h.mem hx)
  have hP := h.mv hK
  generalize hqe : L.idxOf x = q at *
  have hqk : q ≠ K := fun e => hne (by rw [← hg, e])
  by_cases hlt : q < K
  · rw [if_pos hlt]
    have e : (mv L K).getD (q + 1) 0 = x := by
      rw [mv_get h.len hK (by omega) (by omega), if_pos (by omega), Nat.add_sub_cancel, hg]
    have := idxOf_getD hP.nodup (k := q + 1) (by rw [hP.len]; omega)
    rwa [e] at this
  · rw [if_neg hlt]
    have e : (mv L K).getD q 0 = x := by
      rw [mv_get h.len hK (by omega) hq, if_neg (by omega), hg]
    have := idxOf_getD hP.nodup (k := q) (by rw [hP.len]; omega)
    rwa [e] at this
/-- how many of A are greater than x -/
def cnt (A : List Nat) (x : Nat) : Nat := (A.filter fun y => decide (x < y)).length
theorem cnt_snoc (A : List Nat) (y x : Nat) : cnt (A ++ [y]) x = cnt A x + if x < y then 1 else 0 := by
  unfold cnt
  rw [List.filter_append, List.length_append]
  by_cases h : x < y <;> simp [h]
theorem cnt_le (A : List Nat) (x : Nat) : cnt A x ≤ A.length := List.length_filter_le _ _
/-- what holds behind bytes that are all unlike -/
structure Front (A L : List Nat) : Prop where
  perm : Perm L
  place : ∀ x, x < 256 → x ∉ A → L.idxOf x = x + cnt A x
  rise : ∀ x y, x < y → y < 256 → x ∉ A → y ∉ A → L.idxOf x < L.idxOf y
theorem idx_asc {x : Nat} (h : x < 256) : asc.idxOf x = x := by
  have := idxOf_getD perm_asc.nodup (k := x) (by rw [perm_asc.len]; exact h)
  have e : asc.getD x 0 = x := by simp [asc, List.getD, h]
  rwa [e] at this
theorem front_start : Front [] asc := ⟨perm_asc, fun x hx _ => by rw [idx_asc hx]; rfl, fun x y h hy _ _ => by rw [idx_asc hy, idx_asc (by omega)]; exact h⟩
theorem front_step {A L : List Nat} {y : Nat} (h : Front A L) (hy : y < 256) (hn : y ∉ A) : Front (A ++ [y]) (mv L (L.idxOf y)) := by
  have hK := h.perm.idx_lt hy
  have hg := getD_idxOf (h.perm.mem hy)
  have hmv : ∀ x, x < 256 → x ∉ A ++ [y] → (mv L (L.idxOf y)).idxOf x = if x < y then L.idxOf x + 1 else L.idxOf x := by
    intro x hx hxn
    have hxA : x ∉ A := fun h' => hxn (by simp [h'])
    have hxy : x ≠ y := fun h' => hxn (by simp [h'])
    rw [idxOf_mv h.perm hK hx (by rw [hg]; exact hxy)]
    by_cases hlt : x < y
    · rw [if_pos hlt, if_pos (h.rise x y hlt hy hxA hn)]
    · rw [if_neg hlt, if_neg]
      have := h.rise y x (by omega) hx hn hxA
      omega
  refine ⟨h.perm.mv hK, fun x hx hxn => ?_, fun x z hxz hz hxn hzn => ?_⟩
  · have hxA : x ∉ A := fun h' => hxn (by simp [h'])
    rw [hmv x hx hxn, cnt_snoc, h.place x hx hxA]
    split <;> omega
  · have hxA : x ∉ A := fun h' => hxn (by simp [h'])
    have hzA : z ∉ A := fun h' => hzn (by simp [h'])
    have h1 := h.rise x z hxz hz hxA hzA
    have hzy : z ≠ y := fun h' => hzn (by simp [h'])
    rw [hmv x (by omega) hxn, hmv z hz hzn]
    by_cases a : x < y <;> by_cases b : z < y
    · rw [if_pos a, if_pos b]; omega
    · rw [if_pos a, if_neg b]
      have h2 := h.rise x y a hy hxA hn
      have h3 := h.rise y z (by omega) hz hn hzA
      omega
    · omega
    · rw [if_neg a, if_neg b]; exact h1
theorem not_mem_take {B : List Nat} (hn : B.Nodup) {i : Nat} (h : i < B.length) : B.getD i 0 ∉ B.take i := by
  intro hm
  obtain ⟨j, hj, he⟩ := List.mem_take_iff_getElem.1 hm
  have hjb : j < i ∧ j < B.length := by omega
  have := (List.nodup_iff_pairwise_ne.1 hn)
  rw [List.pairwise_iff_getElem] at this
  have h2 := this j i (by omega) h hjb.1
  rw [he] at h2
  apply h2
  rw [List.getD_eq_getElem?_getD, List.getElem?_eq_getElem h]; rfl
theorem front_at {B : List Nat} (hB : ∀ x ∈ B, x < 256) (hn : B.Nodup) : ∀ i, i ≤ B.length → Front (B.take i) (lat B i)
  | 0, _ => front_start
  | i + 1, h => by
    have ih := front_at hB hn i (by omega)
    have hx : B.getD i 0 < 256 := by rw [List.getD_eq_getElem?_getD, List.getElem?_eq_getElem (by omega)]; exact hB _ (List.getElem_mem _)
    rw [take_more (by omega), lat_succ (by omega)]
    exact front_step ih hx (not_mem_take hn (by omega))
theorem enc_place {B : List Nat} (hB : ∀ x ∈ B, x < 256) (hn : B.Nodup) {i : Nat} (h : i < B.length) : (enc B).getD i 0 = B.getD i 0 + cnt (B.take i) (B.getD i 0) := by
  have hx : B.getD i 0 < 256 := by rw [List.getD_eq_getElem?_getD, List.getElem?_eq_getElem (by omega)]; exact hB _ (List.getElem_mem _)
  rw [enc_get h]
  exact (front_at hB hn i (by omega)).place _ hx (not_mem_take hn h)
/-- each byte once -/
def steps (s : Nat) : List Nat := (List.range 256).map fun k => k * s % 256
theorem steps_length (s : Nat) : (steps s).length = 256 := by simp [steps]
theorem steps_get (s k : Nat) (h : k < 256) : (steps s).getD k 0 = k * s % 256 := by simp [steps, List.getD, h]
theorem steps_lt (s : Nat) : ∀ x ∈ steps s, x < 256 := by
  intro x hx
  simp only [steps, List.mem_map] at hx
  obtain ⟨k, _, rfl⟩ := hx
  omega
theorem steps_inj {s : Nat} (hs : s % 2 = 1) {i j : Nat} (hij : i < j) (hj : j < 256) : i * s % 256 ≠ j * s % 256 := by
  intro h
  have hc : Nat.Coprime 256 s := by
    have h2 : Nat.Coprime 2 s := by
      rw [Nat.coprime_iff_gcd_eq_one, Nat.gcd_rec, hs]
      rfl
    exact Nat.Coprime.pow_left 8 h2
  have hd : 256 ∣ (j - i) * s := by
    rw [Nat.sub_mul]
    exact Nat.dvd_of_mod_eq_zero (Nat.sub_mod_eq_zero_of_mod_eq h.symm)
  have := Nat.Coprime.dvd_of_dvd_mul_right hc hd
  have := Nat.le_of_dvd (by omega) this
  omega
theorem steps_nodup {s : Nat} (hs : s % 2 = 1) : (steps s).Nodup := by
  rw [List.nodup_iff_pairwise_ne, List.pairwise_iff_getElem]
  intro i j hi hj hij
  simp [steps] at hi hj ⊢
  exact steps_inj hs hij hj
end Go.Proofs.Ythfdclclecjdaaa.Pl
