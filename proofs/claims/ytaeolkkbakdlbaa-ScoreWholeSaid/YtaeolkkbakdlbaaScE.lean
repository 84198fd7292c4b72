/- ScoreGain, walked. -/
import Derived.Test.YtaeolkkbakdlbaaScD
set_option linter.unusedSimpArgs false
set_option linter.unusedVariables false
set_option maxRecDepth 100000
namespace Go.Proofs.Ytaeolkkbakdlbaa.S12
open Go.RowKit Pl
theorem u64_open {v : Int} (h : (Lit.int .u64 v).wf = true) : ∃ x : Nat, v = x ∧ x < 18446744073709551616 := by
  simp [Lit.wf, IntKind.min, IntKind.max, IntKind.signed, IntKind.bits] at h
  exact ⟨v.toNat, by omega, by omega⟩
theorem i64_open {v : Int} (h : (Lit.int .i64 v).wf = true) : -9223372036854775808 ≤ v ∧ v < 9223372036854775808 := by
  simp [Lit.wf, IntKind.min, IntKind.max, IntKind.signed, IntKind.bits] at h
  omega
set_option maxHeartbeats 4000000 in
theorem scoreGain_walk (d a age wt : Int) (w : World) (hd : (Lit.int .i64 d).wf = true) (ha : (Lit.int .i64 a).wf = true) (hg : (Lit.int .u64 age).wf = true) (hw : (Lit.int .u64 wt).wf = true) :
    Calls Try.prog 3 #[.int .i64 d, .int .i64 a, .int .u64 age, .int .u64 wt] w fun e w' => e = .returned (.bool true) ∧ Below w.heap.size w w' := by
  clear hd ha
  obtain ⟨x, rfl, hx⟩ := u64_open hg
  obtain ⟨y, rfl, hy⟩ := u64_open hw
  clear hg hw
  go_enter Try.func3, Try.ntmps3
  go_wp2_with fail
  refine (begun_any _).mono ?_
  rintro e w1 ⟨rfl, hb⟩
  have HB := Lib.hid hb
  clear hb
  go_wp2_with fail
  refine (ratio_any _ _ _).mono ?_
  rintro e w2 ⟨r, n, rfl, hr, rfl⟩
  go_wp2_with fail
  refine (bits_any _ _ hr.lt).mono ?_
  rintro e w2 ⟨rfl, rfl⟩
  go_wp2_with fail
  refine (refRatio_any _ _ _).mono ?_
  rintro e w2 ⟨r', n', rfl, hr', rfl⟩
  go_wp2_with fail
  refine (refBits_any _ _ hr'.lt).mono ?_
  rintro e w2 ⟨rfl, rfl⟩
  rw [← (hr.same hr').bits]
  have e1 : ((fB r : Int) == (fB r : Int)) = true := by simp
  go_wp2_with fail
  refine (gain_any _ _ _ _ _).mono ?_
  rintro e w2 ⟨g, m, rfl, hg, rfl⟩
  have hgl : g < 18446744073709551616 := by obtain ⟨_, _, _, _, _, _, _, _, _, _, h⟩ := hg; exact h.lt
  go_wp2_with fail
  refine (bits_any _ _ hgl).mono ?_
  rintro e w2 ⟨rfl, rfl⟩
  go_wp2_with fail
  refine (refGain_any _ _ _ _ _).mono ?_
  rintro e w2 ⟨g', m', rfl, hg', rfl⟩
  have hgl' : g' < 18446744073709551616 := by obtain ⟨_, _, _, _, _, _, _, _, _, _, h⟩ := hg'; exact h.lt
  go_wp2_with fail
  refine (refBits_any _ _ hgl').mono ?_
  rintro e w2 ⟨rfl, rfl⟩
  rw [← (hg.same hx hy hg').bits]
  go_wp2_with fail
  go_ret
  refine ⟨?_, ?_⟩
  · simp
  · exact bel_drewN HB.out _
end Go.Proofs.Ytaeolkkbakdlbaa.S12
