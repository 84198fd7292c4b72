/- Texts put together: NumC, NumD, NumE. -/
import Derived.Test.YthgpdnffahmhjaaGreatDoorMg4
set_option linter.unusedSimpArgs false
set_option linter.unusedVariables false
set_option maxRecDepth 100000
namespace Go.Proofs.YthgpdnffahmhjaaGreatDoor.Pl
end Go.Proofs.YthgpdnffahmhjaaGreatDoor.Pl
namespace Go.Proofs.YthgpdnffahmhjaaGreatDoor.S2.Pl
end Go.Proofs.YthgpdnffahmhjaaGreatDoor.S2.Pl
namespace Go.Proofs.YthgpdnffahmhjaaGreatDoor.S2
open Go.RowKit _root_.Go.Proofs.YthgpdnffahmhjaaGreatDoor.Pl _root_.Go.Proofs.YthgpdnffahmhjaaGreatDoor.S2.Pl

def VGetPost (B : List Nat) (w : World) (e : Ending) (w' : World) : Prop := e = .returned (.tuple #[.int .u64 ((vget B).1 : Nat), .int .i64 ((vget B).2 : Nat)]) ∧ w = w'
theorem vgetPost_none {B : List Nat} {w : World} (h : vget B = (0, 0)) : VGetPost B w (.returned (.tuple #[.int .u64 0, .int .i64 0])) w := by unfold VGetPost; rw [h]; exact ⟨rfl, rfl⟩
theorem vgetPost_some {B : List Nat} {w : World} {k : Nat} {n j : Int} (h : vget B = (vval (B.take (k + 1)), k + 1)) (hn : n = (vval (B.take (k + 1)) : Nat)) (hj : j = (k : Int) + 1) : VGetPost B w (.returned (.tuple #[.int .u64 n, .int .i64 j])) w := by
  unfold VGetPost; rw [h, hn, hj]; exact ⟨rfl, rfl⟩
theorem pow7 (k : Nat) : (2 : Nat) ^ (7 * k) = 128 ^ k := by rw [Nat.pow_mul]
theorem vval_small {B : List Nat} {k : Nat} : vval (B.take k) < 128 ^ k := by
  have h1 := vval_lt (B.take k)
  have h2 : 128 ^ (B.take k).length ≤ 128 ^ k := Nat.pow_le_pow_right (by omega) (List.length_take_le _ _)
  omega
theorem vpart (k x : Nat) (hx : x < 256) (h : k ≤ 8 ∨ (k = 9 ∧ x ≤ 1)) : 128 ^ k * (x % 128) + 128 ^ k ≤ 18446744073709551616 := by
  rcases h with h | ⟨rfl, h⟩
  · have h1 : (128 : Nat) ^ k ≤ 128 ^ 8 := Nat.pow_le_pow_right (by omega) h
    have h2 : (128 : Nat) ^ 8 = 72057594037927936 := by decide
    have h3 : 128 ^ k * (x % 128) ≤ 128 ^ k * 127 := Nat.mul_le_mul_left _ (by omega)
    omega
  · have h2 : (128 : Nat) ^ 9 = 9223372036854775808 := by decide
    have h3 : 128 ^ 9 * (x % 128) ≤ 128 ^ 9 * 1 := Nat.mul_le_mul_left _ (by omega)
    omega
theorem vor {B : List Nat} {k x : Nat} {u : Int} (hk : k < B.length) (hx : x = B.getD k 0) (hx2 : x < 256) (hu : u = (vval (B.take k) : Nat)) (h : k ≤ 8 ∨ (k = 9 ∧ x ≤ 1)) :
    bits BinOp.or IntKind.u64 u (IntKind.u64.wrap (IntKind.u64.wrap (bits BinOp.and IntKind.u8 (x : Int) 127) * 2 ^ (7 * k))) = ((vval (B.take (k + 1)) : Nat) : Int) := by
  have h1 := u8_and x 127 (by omega) (by omega) (by omega) (by omega)
  rw [Int.toNat_natCast, show (127 : Int).toNat = 127 from rfl, nat_mask7] at h1
  have h2 : IntKind.u64.wrap ((x % 128 : Nat) : Int) = ((x % 128 : Nat) : Int) := by rw [IntKind.wrap_u64]; omega
  have hp := vpart k x hx2 h
  have hl := vval_small (B := B) (k := k)
  have h3 : IntKind.u64.wrap (((x % 128 : Nat) : Int) * 2 ^ (7 * k)) = ((128 ^ k * (x % 128) : Nat) : Int) := by
    have e : ((x % 128 : Nat) : Int) * 2 ^ (7 * k) = ((128 ^ k * (x % 128) : Nat) : Int) := by
      rw [← pow7, Nat.mul_comm (2 ^ (7 * k))]; simp
    rw [e, IntKind.wrap_u64]
    omega
  rw [h1, h2, h3, hu, u64_or_nat _ _ (by omega) (by omega), Nat.or_comm, vval_take_succ B k hk, ← hx]
  rw [← pow7] at hl ⊢
  rw [nat_join (7 * k) _ _ (Nat.mul_mod_right _ _) hl, Nat.add_comm]
theorem and128 {x : Nat} (hx : x < 256) : (bits BinOp.and IntKind.u8 (x : Int) 128 == 0) = decide (x < 128) := by
  have h1 := u8_and x 128 (by omega) (by omega) (by omega) (by omega)
  rw [Int.toNat_natCast, show (128 : Int).toNat = 2 ^ 7 from rfl, nat_bit] at h1
  rw [h1]
  by_cases h : x < 128
  · have : x / 2 ^ 7 % 2 * 2 ^ 7 = 0 := by omega
    rw [this]; simp [h]
  · have : x / 2 ^ 7 % 2 * 2 ^ 7 = 128 := by omega
    rw [this]; simp [h]
theorem ends_bad {B : List Nat} {k x : Nat} (hk : k < B.length) (hk9 : k ≤ 9) (hx : x = B.getD k 0) (hx2 : x < 128) : EndsOk x k ↔ ¬ VBad B k := by
  unfold EndsOk VBad
  rw [vval_take_succ B k hk, ← hx]
  have hl := vval_small (B := B) (k := k)
  by_cases h : k ≤ 8 ∨ (k = 9 ∧ x ≤ 1)
  · have := vpart k x (by omega) h
    omega
  · have e : k = 9 := by omega
    subst e
    have h2 : (128 : Nat) ^ 9 = 9223372036854775808 := by decide
    rw [h2] at hl ⊢
    omega

set_option maxHeartbeats 1000000 in
theorem vget_any (v : Value) (B : List Nat) (w : World) (hv : IsBytes w v B) : Calls Tryz.prog 130 #[v] w (VGetPost B w) := by
  obtain ⟨a, cap, rfl, hcap, hmax⟩ := hv.slice
  unfold maxLen at hmax
  have HV := Lib.hid hv
  clear hv
  rcases (show B.length ≤ 10 ∨ 10 < B.length by omega) with h10 | h10
  · have hcI : (B.length : Int) ≤ (cap : Int) := by omega
    have hi10 : (B.length : Int) ≤ 10 := by omega
    go_enter Tryz.func130, Tryz.ntmps130
    go_wp2
    go_loop [4, 13] (fun n i => ∃ k : Nat, k ≤ B.length ∧ k ≤ 10 ∧ i = .int .i64 k ∧ VOn B k ∧ ∃ u : Int, n = .int .u64 u ∧ (k ≤ 9 → u = (vval (B.take k) : Nat))) (fun _ i => 10 - (intOf i).toNat)
    case atStart => exact ⟨0, by omega, by omega, rfl, VOn.zero _, 0, rfl, fun _ => rfl⟩
    case round =>
      obtain ⟨k, hk, hk10, rfl, hon, u, rfl, hu⟩ := hrel
      have HON := Lib.hid hon
      have HU := Lib.hid hu
      clear hon hu
      by_cases hlt : k < B.length
      · have hlt2 : k < B.length := by omega
        obtain ⟨b, off, cap', hsl, _, _, _, hc⟩ := HV.out.cells (by omega)
        simp at hsl
        obtain ⟨rfl, rfl⟩ := hsl
        have c0 := hc k hlt2
        have l0 := getD_lt HV.out.1 k
        clear hc
        have hk9 : k ≤ 9 := by omega
        obtain ⟨x, hx⟩ : ∃ x, x = B.getD k 0 := ⟨_, rfl⟩
        rw [← hx] at c0 l0
        have HX := Lib.hid hx
        clear hx
        have ha := and128 l0
        have HUk := Lib.hid (HU.out hk9)
        by_cases h128 : x < 128
        · rw [decide_eq_true h128] at ha
          have HE := Lib.hid (ends_bad hlt2 hk9 HX.out h128)
          by_cases hok : EndsOk x k
          · have HOK := Lib.hid hok
            clear hok
            go_wp2_with (go_at_call 153; refine (ends_yes x k _ HOK.out).mono ?_; rintro e w' ⟨rfl, rfl⟩)
            go_ret2
            exact vgetPost_some (vget_good HON.out (by omega) hlt2 (by rw [← HX.out]; exact h128) (HE.out.1 HOK.out)) (vor hlt2 HX.out l0 HUk.out (by have := HOK.out.1; omega)) rfl
          · have HOK := Lib.hid hok
            clear hok
            go_wp2_with (go_at_call 153; refine (ends_no x k _ HOK.out).mono ?_; rintro e w' ⟨rfl, rfl⟩)
            go_ret2
            exact vgetPost_none (vget_bad HON.out (by omega) hlt2 (by rw [← HX.out]; exact h128) (Decidable.of_not_not fun h => HOK.out (HE.out.2 h)))
        · rw [decide_eq_false h128] at ha
          go_wp2
          go_round
          case rel => exact ⟨k + 1, by omega, by omega, by go_num, HON.out.succ (by rw [← HX.out]; omega), _, rfl, fun h9 => vor hlt2 HX.out l0 HUk.out (.inl (by omega))⟩
          case measure => simp [intOf]; omega
      · have hke : k = B.length := by omega
        clear hlt hk
        subst hke
        go_wp2
        go_ret2
        exact vgetPost_none (vget_none HON.out (by omega))
  · have hcI : (10 : Int) ≤ (cap : Int) := by omega
    have hi10 : (10 : Int) < B.length := by omega
    go_enter Tryz.func130, Tryz.ntmps130
    go_wp2
    go_loop [4, 13] (fun n i => ∃ k : Nat, k ≤ B.length ∧ k ≤ 10 ∧ i = .int .i64 k ∧ VOn B k ∧ ∃ u : Int, n = .int .u64 u ∧ (k ≤ 9 → u = (vval (B.take k) : Nat))) (fun _ i => 10 - (intOf i).toNat)
    case atStart => exact ⟨0, by omega, by omega, rfl, VOn.zero _, 0, rfl, fun _ => rfl⟩
    case round =>
      obtain ⟨k, hk, hk10, rfl, hon, u, rfl, hu⟩ := hrel
      have HON := Lib.hid hon
      have HU := Lib.hid hu
      clear hon hu
      by_cases hlt : k < 10
      · have hlt2 : k < B.length := by omega
        obtain ⟨b, off, cap', hsl, _, _, _, hc⟩ := HV.out.cells (by omega)
        simp at hsl
        obtain ⟨rfl, rfl⟩ := hsl
        have c0 := hc k hlt2
        have l0 := getD_lt HV.out.1 k
        clear hc
        have hk9 : k ≤ 9 := by omega
        obtain ⟨x, hx⟩ : ∃ x, x = B.getD k 0 := ⟨_, rfl⟩
        rw [← hx] at c0 l0
        have HX := Lib.hid hx
        clear hx
        have ha := and128 l0
        have HUk := Lib.hid (HU.out hk9)
        by_cases h128 : x < 128
        · rw [decide_eq_true h128] at ha
          have HE := Lib.hid (ends_bad hlt2 hk9 HX.out h128)
          by_cases hok : EndsOk x k
          · have HOK := Lib.hid hok
            clear hok
            go_wp2_with (go_at_call 153; refine (ends_yes x k _ HOK.out).mono ?_; rintro e w' ⟨rfl, rfl⟩)
            go_ret2
            exact vgetPost_some (vget_good HON.out (by omega) hlt2 (by rw [← HX.out]; exact h128) (HE.out.1 HOK.out)) (vor hlt2 HX.out l0 HUk.out (by have := HOK.out.1; omega)) rfl
          · have HOK := Lib.hid hok
            clear hok
            go_wp2_with (go_at_call 153; refine (ends_no x k _ HOK.out).mono ?_; rintro e w' ⟨rfl, rfl⟩)
            go_ret2
            exact vgetPost_none (vget_bad HON.out (by omega) hlt2 (by rw [← HX.out]; exact h128) (Decidable.of_not_not fun h => HOK.out (HE.out.2 h)))
        · rw [decide_eq_false h128] at ha
          go_wp2
          go_round
          case rel => exact ⟨k + 1, by omega, by omega, by go_num, HON.out.succ (by rw [← HX.out]; omega), _, rfl, fun h9 => vor hlt2 HX.out l0 HUk.out (.inl (by omega))⟩
          case measure => simp [intOf]; omega
      · have hke : k = 10 := by omega
        clear hlt hk
        subst hke
        go_wp2
        go_ret2
        exact vgetPost_none (vget_none HON.out (by omega))
end Go.Proofs.YthgpdnffahmhjaaGreatDoor.S2
namespace Go.Proofs.YthgpdnffahmhjaaGreatDoor.Pl
end Go.Proofs.YthgpdnffahmhjaaGreatDoor.Pl
namespace Go.Proofs.YthgpdnffahmhjaaGreatDoor.S2.Pl
end Go.Proofs.YthgpdnffahmhjaaGreatDoor.S2.Pl
namespace Go.Proofs.YthgpdnffahmhjaaGreatDoor.S2
open Go.RowKit _root_.Go.Proofs.YthgpdnffahmhjaaGreatDoor.Pl _root_.Go.Proofs.YthgpdnffahmhjaaGreatDoor.S2.Pl

end Go.Proofs.YthgpdnffahmhjaaGreatDoor.S2
namespace Go.Proofs.YthgpdnffahmhjaaGreatDoor.Pl
end Go.Proofs.YthgpdnffahmhjaaGreatDoor.Pl
namespace Go.Proofs.YthgpdnffahmhjaaGreatDoor.S2.Pl
end Go.Proofs.YthgpdnffahmhjaaGreatDoor.S2.Pl
namespace Go.Proofs.YthgpdnffahmhjaaGreatDoor.S2
open Go.RowKit _root_.Go.Proofs.YthgpdnffahmhjaaGreatDoor.Pl _root_.Go.Proofs.YthgpdnffahmhjaaGreatDoor.S2.Pl

attribute [local go_sem ↓] conv_eq
end Go.Proofs.YthgpdnffahmhjaaGreatDoor.S2
