/- ZerosGreat, walked. -/
import Derived.Test.YtaoafplijjpoaaaZerF
set_option linter.unusedSimpArgs false
set_option linter.unusedVariables false
namespace Go.Proofs.Ytaoafplijjpoaaa
open Go.RowKit Pl
namespace Pl
theorem ans_twos0 (k M : Nat) : ans (List.replicate k 1 ++ [257]) [] 0 M = if 2 * 2 ^ k - 2 ≤ M then (0, List.replicate (2 * 2 ^ k - 2) 0) else (2, []) := by
  have := ans_twos k [] 0 M
  simpa using this
end Pl
theorem two_shl {i : Nat} (h : i ≤ 10) : wrap64 (wrap64 (2 * 2 ^ i) - 2) = ((2 * 2 ^ i - 2 : Nat) : Int) := by
  have h1 : 2 ^ i ≤ 2 ^ 10 := Nat.pow_le_pow_right (by omega) h
  have h0 : 1 ≤ 2 ^ i := Nat.one_le_two_pow
  have e : (2 : Int) ^ i = ((2 ^ i : Nat) : Int) := by simp
  rw [e]
  generalize 2 ^ i = P at *
  unfold wrap64
  omega
set_option maxHeartbeats 4000000 in
theorem zerosGreat_walk (d m : Int) (w : World) (wd : (Lit.int .i64 d).wf = true) (wm : (Lit.int .i64 m).wf = true) :
    Calls Try.prog 6 #[.int .i64 d, .int .i64 m] w fun e w' => e = .returned (.bool true) ∧ Below w.heap.size w w' := by
  by_cases h1 : d < 1
  · go_enter Try.func6, Try.ntmps6
    go_wp2_with fail
    refine (begun_any _).mono ?_
    rintro e w1 ⟨rfl, hb1⟩
    have HB1 := Lib.hid hb1
    clear hb1
    go_wp2_with fail
    go_ret
    exact ⟨rfl, HB1.out⟩
  by_cases h2 : 60 < d
  · go_enter Try.func6, Try.ntmps6
    go_wp2_with fail
    refine (begun_any _).mono ?_
    rintro e w1 ⟨rfl, hb1⟩
    have HB1 := Lib.hid hb1
    clear hb1
    go_wp2_with fail
    go_ret
    exact ⟨rfl, HB1.out⟩
  by_cases h3 : 3000 < m
  · go_enter Try.func6, Try.ntmps6
    go_wp2_with fail
    refine (begun_any _).mono ?_
    rintro e w1 ⟨rfl, hb1⟩
    have HB1 := Lib.hid hb1
    clear hb1
    go_wp2_with fail
    go_ret
    exact ⟨rfl, HB1.out⟩
  obtain ⟨k, rfl⟩ : ∃ k : Nat, d = k := ⟨d.toNat, by omega⟩
  go_enter Try.func6, Try.ntmps6
  go_wp2_with fail
  refine (begun_any _).mono ?_
  rintro e w1 ⟨rfl, hb1⟩
  have HB1 := Lib.hid hb1
  clear hb1
  go_wp2_with fail
  go_loopw [6, 7] (fun v x wr => ∃ i : Nat, i ≤ k ∧ x = .int .i64 i ∧ wr.ownsRow w1.heap.size 3 1 v i (i64s (List.replicate i 1)) ∧ Below w1.heap.size w1 wr) (fun _ x _ => k - (intOf x).toNat)
  case atStart => exact ⟨0, by omega, rfl, own_nilI _ _, Below.refl _ _⟩
  case round =>
    obtain ⟨i, hi, rfl, ho, hb⟩ := hrel
    obtain ⟨sp, cp, rfl, _, _⟩ := ownsRow_slice ho
    have HO := Lib.hid ho
    have HB := Lib.hid hb
    have hsz := hb.size
    clear ho hb
    by_cases hlt : i < k
    · go_wp2_with (at_builtin; refine wpList_append_int rfl (.tmp 28) (.tmp 29) rfl w1.heap.size _ i _ 1 rfl HO.out _ rfl rfl (by omega) hsz ?_; intro v' w3 hown hgr)
      go_roundw
      case rel => exact ⟨i + 1, by omega, by go_num, by rw [List.replicate_succ']; exact hown, bel_append HB.out _ HO.out hgr hsz⟩
      case measure => simp [intOf]; omega
    · obtain rfl : i = k := by omega
      go_wp2_with (at_builtin; refine wpList_append_int rfl (.tmp 32) (.tmp 33) rfl w1.heap.size _ i _ 257 rfl HO.out _ rfl rfl (by omega) hsz ?_; intro v' w3 hown hgr)
      obtain ⟨sp3, cp3, rfl, _, _⟩ := ownsRow_slice hown
      have hI : IsInts w3 (.slice sp3 (i + 1) cp3) (List.replicate i 1 ++ [257]) := isInts_own (by simp) hown
      have hB3 : Below w.heap.size w w3 := HB1.out.trans ((bel_append HB.out _ HO.out hgr hsz).mono HB1.out.size)
      have HI := Lib.hid hI
      have HB3 := Lib.hid hB3
      clear hI hB3 hown hgr HO HB
      by_cases hc : i ≤ 10 ∧ 2 * 2 ^ i - 2 ≤ m.toNat
      · have hA : ans (List.replicate i 1 ++ [257]) [] 0 m.toNat = (0, List.replicate (2 * 2 ^ i - 2) 0) := by rw [ans_twos0, if_pos hc.2]
        refine (decode_s HI.out (by simp; omega) (by omega) hA (List.length_replicate ..)).mono ?_
        rintro e w4 ⟨sp4, cp4, rfl, hi4, hb4⟩
        have HB4 := Lib.hid (HB3.out.trans (hb4.mono HB3.out.size))
        clear hi4 hb4 HI hA
        have e3 := two_shl hc.1
        have hle : ((2 * 2 ^ i - 2 : Nat) : Int) ≤ m := by
          have h0 : 2 ≤ 2 ^ i := by
            have : 2 ^ 1 ≤ 2 ^ i := Nat.pow_le_pow_right (by omega) (by omega)
            exact this
          omega
        have h11 : (i : Int) < 11 := by omega
        generalize 2 * 2 ^ i - 2 = N at *
        have hNN : ((N : Int) == (N : Int)) = true := beq_t rfl
        go_wp2_with fail
        go_ret
        exact ⟨rfl, HB4.out⟩
      · have hA : ans (List.replicate i 1 ++ [257]) [] 0 m.toNat = (2, []) := by
          rw [ans_twos0, if_neg]
          intro h
          refine hc ⟨?_, h⟩
          apply Classical.byContradiction
          intro h5
          have : 2 ^ 11 ≤ 2 ^ i := Nat.pow_le_pow_right (by omega) (by omega)
          omega
        refine (decode_s (n := 0) HI.out (by simp; omega) (by omega) hA rfl).mono ?_
        rintro e w4 ⟨sp4, cp4, rfl, hi4, hb4⟩
        have HB4 := Lib.hid (HB3.out.trans (hb4.mono HB3.out.size))
        clear hi4 hb4 HI hA
        by_cases h10 : i ≤ 10
        · have e3 := two_shl h10
          have hle : ¬ ((2 * 2 ^ i - 2 : Nat) : Int) ≤ m := by omega
          have h11 : (i : Int) < 11 := by omega
          generalize 2 * 2 ^ i - 2 = N at *
          go_wp2_with fail
          go_ret
          exact ⟨rfl, HB4.out⟩
        · have h11 : ¬ (i : Int) < 11 := by omega
          go_wp2_with fail
          go_ret
          exact ⟨rfl, HB4.out⟩
end Go.Proofs.Ytaoafplijjpoaaa
