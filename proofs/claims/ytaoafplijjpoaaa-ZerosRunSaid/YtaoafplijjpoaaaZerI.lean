/- ZerosRun, walked. -/
import Derived.Test.YtaoafplijjpoaaaZerF
set_option linter.unusedSimpArgs false
set_option linter.unusedVariables false
namespace Go.Proofs.Ytaoafplijjpoaaa
open Go.RowKit Pl
theorem two_less {k D n : Nat} (hD : D ≤ 12) (h : 2 ^ D ≤ n + 1 ∧ n + 1 < 2 ^ (D + 1)) (hk : k < D) : wrap64 (2 * 2 ^ k) ≤ (n : Int) + 1 := by
  have h1 : 2 ^ (k + 1) ≤ 2 ^ D := Nat.pow_le_pow_right (by omega) hk
  have h2 : 2 ^ D ≤ 2 ^ 12 := Nat.pow_le_pow_right (by omega) hD
  rw [Nat.pow_succ] at h1
  have e : (2 : Int) ^ k = ((2 ^ k : Nat) : Int) := by simp
  rw [e]
  generalize 2 ^ k = P at *
  generalize 2 ^ D = Q at *
  unfold wrap64
  omega
theorem two_more {D n : Nat} (hD : D ≤ 12) (h : 2 ^ D ≤ n + 1 ∧ n + 1 < 2 ^ (D + 1)) : ¬ wrap64 (2 * 2 ^ D) ≤ (n : Int) + 1 := by
  have h2 : 2 ^ D ≤ 2 ^ 12 := Nat.pow_le_pow_right (by omega) hD
  obtain ⟨_, h⟩ := h
  rw [Nat.pow_succ] at h
  have e : (2 : Int) ^ D = ((2 ^ D : Nat) : Int) := by simp
  rw [e]
  generalize 2 ^ D = Q at *
  unfold wrap64
  omega
set_option maxHeartbeats 4000000 in
theorem zerosRun_walk (n : Int) (w : World) (wn : (Lit.int .i64 n).wf = true) :
    Calls Try.prog 4 #[.int .i64 n] w fun e w' => e = .returned (.bool true) ∧ Below w.heap.size w w' := by
  by_cases h1 : n < 0
  · go_enter Try.func4, Try.ntmps4
    go_wp2_with fail
    refine (begun_any _).mono ?_
    rintro e w1 ⟨rfl, hb1⟩
    have HB1 := Lib.hid hb1
    clear hb1
    go_wp2_with fail
    go_ret
    exact ⟨rfl, HB1.out⟩
  by_cases h2 : 5000 < n
  · go_enter Try.func4, Try.ntmps4
    go_wp2_with fail
    refine (begun_any _).mono ?_
    rintro e w1 ⟨rfl, hb1⟩
    have HB1 := Lib.hid hb1
    clear hb1
    go_wp2_with fail
    go_ret
    exact ⟨rfl, HB1.out⟩
  obtain ⟨n, rfl⟩ : ∃ k : Nat, n = k := ⟨n.toNat, by omega⟩
  obtain ⟨i0, hi, hz0, hz1, hz2⟩ := info_parts info5
  have Hi := Lib.hid hi
  have Hz0 := Lib.hid hz0
  have Hz1 := Lib.hid hz1
  have Hz2 := Lib.hid hz2
  clear hi hz0 hz1 hz2
  go_enter Try.func4, Try.ntmps4
  go_wp2_with fail
  refine (begun_any _).mono ?_
  rintro e w1 ⟨rfl, hb1⟩
  have HB1 := Lib.hid hb1
  clear hb1
  go_wp2_with (at_make; refine wpList_make_full _ rfl _ _ 24 rfl w1.heap.size 5 i0 (.int .u8 0) 1 Try.underlying24 Hi.out Hz0.out Hz1.out .i64 .i64 _ _ n rfl rfl rfl rfl (by rw [Hz2.out]; omega) (by unfold maxLen; omega) (Nat.le_refl _) ?_; intro w2 hown hgr)
  have hI2 : IsBytes w2 (.slice (some ⟨w1.heap.size, 0, none⟩) n n) (List.replicate n 0) := by
    refine isBytes_ownS (base := w1.heap.size) (by intro x hx; have := List.eq_of_mem_replicate hx; omega) (by simp) ?_
    rw [made_list] at hown
    simpa [u8s] using hown
  have hB2 : Below w1.heap.size w1 w2 := (Below.refl _ _).grown hgr (Nat.le_refl _) (by simp)
  have HB2 := Lib.hid (HB1.out.trans (hB2.mono HB1.out.size))
  clear hown hgr hB2 HB1
  refine (encode_s hI2 (by simp; omega) (enc_zeros n 0)).mono ?_
  rintro e w3 ⟨sp3, cp3, rfl, hi3, hb3⟩
  have HI3 := Lib.hid hi3
  have HB3 := Lib.hid (HB2.out.trans (hb3.mono HB2.out.size))
  have hbits := dig_bits n
  have hA := ans_zeros n n (Nat.le_refl _)
  have hlen : (dig (0 + n) ++ [257]).length = (dig n).length + 1 := by rw [Nat.zero_add]; simp
  rw [hlen] at HI3 ⊢
  rw [Nat.zero_add] at HI3
  have hll : (dig n ++ [257]).length ≤ 4294967296 := by have := dig_length n; simp; omega
  obtain ⟨L, hL⟩ : ∃ L, L = dig n ++ [257] := ⟨_, rfl⟩
  rw [← hL] at HI3 hA hll
  have HA := Lib.hid hA
  generalize (dig n).length = D at *
  have hD : D ≤ 12 := by
    apply Classical.byContradiction
    intro h
    have : 2 ^ 13 ≤ 2 ^ D := Nat.pow_le_pow_right (by omega) (by omega)
    omega
  have HBi := Lib.hid hbits
  clear hi3 hb3 hI2 HB2 hlen hL hA hbits
  go_wp2_with fail
  go_loopw [5] (fun x wr => ∃ k : Nat, k ≤ D ∧ x = .int .i64 k ∧ wr = w3) (fun x _ => D - (intOf x).toNat)
  case atStart => exact ⟨0, by omega, rfl, rfl⟩
  case round =>
    obtain ⟨k, hk, rfl, rfl⟩ := hrel
    by_cases hlt : k < D
    · have ht := two_less hD HBi.out hlt
      go_wp2_with fail
      go_roundw
      case rel => exact ⟨k + 1, by omega, by go_num, trivial⟩
      case measure => simp [intOf]; omega
    · obtain rfl : k = D := by omega
      have ht := two_more hD HBi.out
      go_wp2_with fail
      refine (decode_s (m := n) (n := n) HI3.out hll (by omega) HA.out (by simp)).mono ?_
      rintro e w4 ⟨sp4, cp4, rfl, hi4, hb4⟩
      have HB4 := Lib.hid (HB3.out.trans (hb4.mono HB3.out.size))
      have e1 : (((k : Int) + 1) == ((k : Int) + 1)) = true := beq_t rfl
      have e2 : ((n : Int) == (n : Int)) = true := beq_t rfl
      clear hi4 hb4
      go_wp2_with fail
      go_ret
      exact ⟨rfl, HB4.out⟩
end Go.Proofs.Ytaoafplijjpoaaa
