/- zeros.roomLeft: a contract. -/
import Derived.Test.YtaoafplijjpoaaaInts
import Derived.Test.YtaoafplijjpoaaaZerP
set_option linter.unusedSimpArgs false
set_option linter.unusedVariables false
namespace Go.Proofs.Ytaoafplijjpoaaa
open Go.RowKit Pl
namespace Pl
/-- what is left of the room, or 0 -/
def room (r : Int × List Nat) (most : Nat) : Int := if r.1 = 0 then ((most - r.2.length : Nat) : Int) else 0
theorem drop_cons {L : List Int} {i : Nat} (h : i < L.length) : L.drop i = L.getD i 0 :: L.drop (i + 1) := by
  rw [List.drop_eq_getElem_cons h]; simp [List.getD, h]
theorem drop_ne {L : List Int} {i : Nat} (h : i + 1 < L.length) : L.drop (i + 1) ≠ [] := by
  intro e
  have := congrArg List.length e
  simp at this; omega
theorem shr_nat (left p : Nat) : ((left : Nat) : Int) / 2 ^ p = ((left >>> p : Nat) : Int) := by
  rw [Nat.shiftRight_eq_div_pow]; simp
theorem fits_shr {left p d : Nat} : d ≤ left >>> p ↔ d * 2 ^ p ≤ left := by
  rw [Nat.shiftRight_eq_div_pow]
  exact Nat.le_div_iff_mul_le (Nat.two_pow_pos p)
theorem fits_small {left p d : Nat} (h : (d + 1) * 2 ^ p ≤ left) (hl : left ≤ 4294967296) : p ≤ 32 := by
  have h1 : 2 ^ p ≤ 2 ^ 32 := by
    have : 2 ^ p ≤ (d + 1) * 2 ^ p := Nat.le_mul_of_pos_left _ (by omega)
    omega
  exact (Nat.pow_le_pow_iff_right (by omega)).1 h1
end Pl
theorem shl_one {x : Int} {p left : Nat} (h0 : 0 ≤ x) (h : (x.toNat + 1) * 2 ^ p ≤ left) (hl : left ≤ 4294967296) : wrap64 ((x + 1) * 2 ^ min p 64) = (((x.toNat + 1) * 2 ^ p : Nat) : Int) := by
  have hp := fits_small h hl
  rw [Nat.min_eq_left (by omega)]
  have e : ((((x.toNat + 1) * 2 ^ p : Nat)) : Int) = (x + 1) * 2 ^ p := by
    rw [Int.natCast_mul, Int.natCast_pow]
    congr 1
    omega
  rw [← e]
  generalize (x.toNat + 1) * 2 ^ p = q at *
  unfold wrap64
  omega
theorem shl_fits {x : Int} {p left : Nat} (h0 : 0 ≤ x) (h : (x.toNat + 1) * 2 ^ p ≤ left) (hl : left ≤ 4294967296) : wrap64 ((left : Int) - wrap64 ((x + 1) * 2 ^ min p 64)) = ((left - (x.toNat + 1) * 2 ^ p : Nat) : Int) := by
  rw [shl_one h0 h hl]
  generalize (x.toNat + 1) * 2 ^ p = q at *
  unfold wrap64
  omega
set_option maxHeartbeats 4000000 in
theorem room_any (v : Value) (L : List Int) (most : Nat) (w : World) (hv : IsInts w v L) (hL : L.length ≤ 4294967296) (hm : most ≤ 4294967296) :
    Calls Try.prog 13 #[v, .int .i64 most] w fun e w' => e = .returned (.tuple #[.int .i64 (room (ans L [] 0 most) most), .int .i64 (ans L [] 0 most).1]) ∧ w = w' := by
  obtain ⟨a, cap, rfl, hcap, hmax⟩ := hv.slice
  unfold maxLen at hmax
  have HV := Lib.hid hv
  clear hv
  go_enter Try.func13, Try.ntmps13
  go_wp2
  go_loopw [6, 7, 14] (fun x y z wr => ∃ (acc : List Nat) (left p i : Nat), i ≤ L.length ∧ x = .int .i64 left ∧ y = .int .i64 p ∧ z = .int .i64 i ∧ ans (L.drop i) acc p left = ans L [] 0 most ∧ acc.length + left = most ∧ p ≤ i ∧ wr = w) (fun _ _ z _ => L.length - (intOf z).toNat)
  case atStart => exact ⟨[], most, 0, 0, by omega, rfl, rfl, rfl, rfl, by simp, by omega, rfl⟩
  case round =>
    obtain ⟨acc, left, p, i, hi, rfl, rfl, rfl, he, hlen, hp, rfl⟩ := hrel
    have HE := Lib.hid he
    clear he
    by_cases hlt : i < L.length
    · obtain ⟨bb, off, cap', hs, _, _, _, hc⟩ := HV.out.cells (by omega)
      simp at hs
      obtain ⟨rfl, rfl⟩ := hs
      have c0 := hc i hlt
      rw [drop_cons hlt] at HE
      have hne : i + 1 < L.length → L.drop (i + 1) ≠ [] := drop_ne
      have hnil : ¬ i + 1 < L.length → L.drop (i + 1) = [] := fun h => List.drop_eq_nil_of_le (by omega)
      generalize L.getD i 0 = x at *
      generalize hT : L.drop (i + 1) = T at *
      clear hc
      by_cases h0 : x < 0
      · have hr : ans L [] 0 most = (6, []) := by rw [← HE.out, ans_bad _ _ _ (.inl h0)]
        go_wp2
        go_ret2
        first | exact ⟨rfl, rfl⟩ | (rw [hr]; exact ⟨rfl, rfl⟩)
      by_cases h1 : 257 < x
      · have hr : ans L [] 0 most = (6, []) := by rw [← HE.out, ans_bad _ _ _ (.inr (.inl h1))]
        go_wp2
        go_ret2
        first | exact ⟨rfl, rfl⟩ | (rw [hr]; exact ⟨rfl, rfl⟩)
      by_cases h2 : x = 257
      · subst h2
        by_cases h3 : i + 1 < L.length
        · have hr : ans L [] 0 most = (6, []) := by rw [← HE.out, ans_bad _ _ _ (.inr (.inr ⟨rfl, hne h3⟩))]
          have h4 : (i : Int) < (L.length : Int) - 1 := by omega
          go_wp2
          go_ret2
          first | exact ⟨rfl, rfl⟩ | (rw [hr]; exact ⟨rfl, rfl⟩)
        · have hr : ans L [] 0 most = (0, acc) := by rw [← HE.out, hnil h3, ans_end]
          have h4 : ¬ ((i : Int) < (L.length : Int) - 1) := by omega
          go_wp2
          go_ret2
          have h6 : room (0, acc) most = (left : Int) := by
            have h5 : left = most - acc.length := by omega
            rw [h5]; rfl
          first | (rw [h6]; exact ⟨rfl, rfl⟩) | (rw [hr, h6]; exact ⟨rfl, rfl⟩)
      have h2t : (x == 257) = false := beq_f h2
      by_cases h3 : x ≤ 1
      · have hd : ((x.toNat + 1 : Nat) : Int) = x + 1 := by omega
        by_cases h4 : (x.toNat + 1) * 2 ^ p ≤ left
        · have hr := ans_digit (t := T) acc p left (by omega) h3 h4
          have h5 : ¬ (left : Int) / 2 ^ min p 64 < x + 1 := by
            rw [Nat.min_eq_left (by have := fits_small h4 (by omega); omega), shr_nat]; have := fits_shr.2 h4; omega
          have hs := shl_fits (x := x) (by omega) h4 (by omega)
          go_wp2
          go_roundw
          case rel =>
            refine ⟨acc ++ List.replicate ((x.toNat + 1) * 2 ^ p) 0, left - (x.toNat + 1) * 2 ^ p, p + 1, i + 1, by omega, ?_, by go_num, by go_num, by rw [hT, ← hr]; exact HE.out, by simp; omega, by omega, trivial⟩
            rw [hs]
          case measure => simp [intOf]; omega
        · have hr : ans L [] 0 most = (2, []) := by rw [← HE.out, ans_much _ _ _ (by omega) h3 (by omega)]
          have h5 : (left : Int) / 2 ^ min p 64 < x + 1 := by
            rw [shr_nat]
            by_cases hp64 : p ≤ 64
            · rw [Nat.min_eq_left hp64]; have := mt fits_shr.1 h4; omega
            · rw [Nat.min_eq_right (by omega), Nat.shiftRight_eq_div_pow, Nat.div_eq_of_lt (by omega)]; omega
          go_wp2
          go_ret2
          first | exact ⟨rfl, rfl⟩ | (rw [hr]; exact ⟨rfl, rfl⟩)
      by_cases h4 : left = 0
      · subst h4
        have hr : ans L [] 0 most = (2, []) := by rw [← HE.out, ans_full (x := x) _ _ (by omega) (by omega)]
        go_wp2
        go_ret2
        first | exact ⟨rfl, rfl⟩ | (rw [hr]; exact ⟨rfl, rfl⟩)
      · have hr := ans_byte (x := x) (t := T) acc p left (by omega) (by omega) (by omega)
        have h5 : ((left : Int) == 0) = false := beq_f (by omega)
        have h6 : ((left - 1 : Nat) : Int) = (left : Int) - 1 := by omega
        go_wp2
        go_roundw
        case rel => exact ⟨acc ++ [(x - 1).toNat], left - 1, 0, i + 1, by omega, by rw [h6], by go_num, by go_num, by rw [hT, ← hr]; exact HE.out, by simp; omega, by omega, trivial⟩
        case measure => simp [intOf]; omega
    · obtain rfl : i = L.length := by omega
      have hr : ans L [] 0 most = (6, []) := by rw [← HE.out, List.drop_length, ans_nil]
      go_wp2
      go_ret2
      first | exact ⟨rfl, rfl⟩ | (rw [hr]; exact ⟨rfl, rfl⟩)
end Go.Proofs.Ytaoafplijjpoaaa
