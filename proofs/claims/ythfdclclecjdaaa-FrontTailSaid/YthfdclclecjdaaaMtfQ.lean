/- Moving to the front, cell by cell: plain lists, no program. -/
import Derived.Test.YthfdclclecjdaaaMtfP
namespace Go.Proofs.Ythfdclclecjdaaa.Pl
/-- the places from K down to k + 1 have taken what stood ahead of them -/
def sh (L : List Nat) (K k : Nat) : List Nat := (List.range 256).map fun i => if i ≤ k then L.getD i 0 else if i ≤ K then L.getD (i - 1) 0 else L.getD i 0
theorem sh_length (L : List Nat) (K k : Nat) : (sh L K k).length = 256 := by simp [sh]
theorem sh_get (L : List Nat) (K k i : Nat) (h : i < 256) : (sh L K k)[i]? = some (if i ≤ k then L.getD i 0 else if i ≤ K then L.getD (i - 1) 0 else L.getD i 0) := by simp [sh, h]
theorem sh_getD (L : List Nat) (K k i : Nat) (h : i < 256) (hk : i ≤ k) : (sh L K k).getD i 0 = L.getD i 0 := by
  rw [List.getD_eq_getElem?_getD, sh_get L K k i h, if_pos hk]; rfl
theorem sh_start {L : List Nat} (hl : L.length = 256) (K : Nat) : sh L K K = L := by
  apply List.ext_getElem?
  intro i
  by_cases h : i < 256
  · rw [sh_get L K K i h]
    have e : L[i]? = some (L.getD i 0) := by rw [List.getD_eq_getElem?_getD, List.getElem?_eq_getElem (by omega)]; rfl
    rw [e]
    congr 1
    split
    · rfl
    · rfl
  · rw [List.getElem?_eq_none (by rw [sh_length]; omega), List.getElem?_eq_none (by omega)]
theorem sh_step (L : List Nat) (K k : Nat) (h : k < K) (hK : K < 256) : (sh L K (k + 1)).set (k + 1) (L.getD k 0) = sh L K k := by
  apply List.ext_getElem?
  intro i
  by_cases hi : i < 256
  · by_cases e : i = k + 1
    · subst e
      rw [List.getElem?_set_self (by rw [sh_length]; exact hi), sh_get L K k _ hi, if_neg (by omega), if_pos (by omega)]
      rfl
    · rw [List.getElem?_set_ne (by omega), sh_get L K _ i hi, sh_get L K k i hi]
      congr 1
      by_cases h1 : i ≤ k
      · rw [if_pos (by omega), if_pos h1]
      · rw [if_neg (by omega), if_neg h1]
  · rw [List.getElem?_eq_none (by rw [List.length_set, sh_length]; omega), List.getElem?_eq_none (by rw [sh_length]; omega)]
theorem sh_end {L : List Nat} (hl : L.length = 256) (K : Nat) (hK : K < 256) : (sh L K 0).set 0 (L.getD K 0) = mv L K := by
  have hml : (L.take K).length = K := by rw [List.length_take]; omega
  have hm : (mv L K).length = 256 := by
    unfold mv
    rw [List.length_cons, List.length_append, hml, List.length_drop]; omega
  apply List.ext_getElem?
  intro i
  by_cases hi : i < 256
  · cases i with
    | zero =>
      rw [List.getElem?_set_self (by rw [sh_length]; omega)]
      rfl
    | succ i =>
      rw [List.getElem?_set_ne (by omega), sh_get L K 0 _ hi, if_neg (by omega)]
      unfold mv
      rw [List.getElem?_cons_succ]
      by_cases h1 : i + 1 ≤ K
      · rw [if_pos h1, List.getElem?_append_left (by omega), List.getElem?_take_of_lt (by omega), List.getElem?_eq_getElem (by omega), List.getD_eq_getElem?_getD]
        simp [show i < L.length by omega]
      · rw [if_neg h1, List.getElem?_append_right (by omega), hml, List.getElem?_drop, show K + 1 + (i - K) = i + 1 by omega, List.getElem?_eq_getElem (by omega), List.getD_eq_getElem?_getD, List.getElem?_eq_getElem (by omega)]
        rfl
  · rw [List.getElem?_eq_none (by rw [List.length_set, sh_length]; omega), List.getElem?_eq_none (by omega)]
/-- ahead of its place a byte is not met -/
theorem idx_ahead {L : List Nat} {x k : Nat} (h : k < L.idxOf x) (hk : k < L.length) : L.getD k 0 ≠ x := by
  rw [List.getD_eq_getElem?_getD, List.getElem?_eq_getElem hk]
  intro e
  simp only [Option.getD_some] at e
  have h1 : k < L.findIdx (fun a => a == x) := by simpa [List.idxOf] using h
  have h2 := List.not_of_lt_findIdx h1
  simp [e] at h2
end Go.Proofs.Ythfdclclecjdaaa.Pl
