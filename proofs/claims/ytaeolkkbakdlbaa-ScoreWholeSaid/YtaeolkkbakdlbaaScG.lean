/- ScoreWhole, walked. -/
import Derived.Test.YtaeolkkbakdlbaaScE
set_option linter.unusedSimpArgs false
set_option linter.unusedVariables false
set_option maxRecDepth 100000
namespace Go.Proofs.Ytaeolkkbakdlbaa.S12
open Go.RowKit Pl
set_option maxHeartbeats 8000000 in
theorem scoreWhole_walk (a : Int) (age : Nat) (w : World) (ha : (Lit.int .i64 a).wf = true) (hg : (Lit.float .f64 age).wf = true) :
    Calls Try.prog 7 #[.int .i64 a, .float .f64 age] w fun e w' => e = .returned (.bool true) ∧ Below w.heap.size w w' := by
  obtain ⟨h1, h2⟩ := i64_open ha
  have hx : age < 18446744073709551616 := by simpa [Lit.wf] using hg
  clear ha hg
  have hs := order_self hx
  have hn : (Ieee.double.order age age != some .eq) = fN age := by simp [bne, hs]
  clear hs
  by_cases h0 : a = 0
  · have e0 : (a == 0) = true := by simp [h0]
    clear h0 h1 h2 hn
    go_enter Try.func7, Try.ntmps7
    go_wp2_with fail
    refine (begun_any _).mono ?_
    rintro e w1 ⟨rfl, hb⟩
    have HB := Lib.hid hb
    clear hb
    go_wp2_with fail
    go_ret
    exact ⟨rfl, HB.out⟩
  · have e0 : (a == 0) = false := by simp [h0]
    cases hf : fN age
    · rw [hf] at hn
      have r1 : ∀ r, RatR a a r → r = 4607182418800017408 := fun r hr => ratio_one h0 h1 h2 hr
      have r2 : ∀ r, RatR 0 a r → (Ieee.double.order r 0 == some .eq) = true := fun r hr => ratio_zero h0 h1 h2 hr
      have r3 : ∀ g x', GainR a a age 4617315517961601024 g → OpR .add 4607182418800017408 age x' → (Ieee.double.order g x' == some .eq) = true := fun g x' h hx' => gain_whole h0 h1 h2 hx hf h hx'
      have R1 := Lib.hid r1
      have R2 := Lib.hid r2
      have R3 := Lib.hid r3
      have one : (Ieee.double.order 4607182418800017408 4607182418800017408 == some .eq) = true := by decide
      clear r1 r2 r3 h1 h2 h0 hf
      cases q1 : (Ieee.double.order age 9094988921128908188 == some .gt)
      · cases q2 : (Ieee.double.order age 18318360957983683996 == some .lt)
        · go_enter Try.func7, Try.ntmps7
          go_wp2_with fail
          refine (begun_any _).mono ?_
          rintro e w1 ⟨rfl, hb⟩
          have HB := Lib.hid hb
          clear hb
          go_wp2_with fail
          refine (ratio_any _ _ _).mono ?_
          rintro e w2 ⟨r, n, rfl, hr, rfl⟩
          obtain rfl := R1.out r hr
          clear hr
          go_wp2_with fail
          refine (ratio_any _ _ _).mono ?_
          rintro e w2 ⟨r, n', rfl, hr, rfl⟩
          have z0 := R2.out r hr
          clear hr
          go_wp2_with fail
          refine (gain_any _ _ _ _ _).mono ?_
          rintro e w2 ⟨g, m, rfl, hg, rfl⟩
          have hadd := R3.out g _ hg (fres_ok .add 4607182418800017408 age (w1.drewN (n + n' + m)))
          have HG := Lib.hid hg
          clear hg
          go_wp2_with fail
          go_ret
          refine ⟨?_, ?_⟩
          · first | rfl | exact congrArg (fun b => Ending.returned (.bool b)) hadd
          · exact bel_drewN HB.out _
        · go_enter Try.func7, Try.ntmps7
          go_wp2_with fail
          refine (begun_any _).mono ?_
          rintro e w1 ⟨rfl, hb⟩
          have HB := Lib.hid hb
          clear hb
          go_wp2_with fail
          go_ret
          exact ⟨rfl, HB.out⟩
      · go_enter Try.func7, Try.ntmps7
        go_wp2_with fail
        refine (begun_any _).mono ?_
        rintro e w1 ⟨rfl, hb⟩
        have HB := Lib.hid hb
        clear hb
        go_wp2_with fail
        go_ret
        exact ⟨rfl, HB.out⟩
    · rw [hf] at hn
      clear h1 h2 h0 hf
      go_enter Try.func7, Try.ntmps7
      go_wp2_with fail
      refine (begun_any _).mono ?_
      rintro e w1 ⟨rfl, hb⟩
      have HB := Lib.hid hb
      clear hb
      go_wp2_with fail
      go_ret
      exact ⟨rfl, HB.out⟩
end Go.Proofs.Ytaeolkkbakdlbaa.S12
