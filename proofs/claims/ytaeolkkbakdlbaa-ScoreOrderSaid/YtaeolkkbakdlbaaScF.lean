/- ScoreOrder, walked. -/
import Derived.Test.YtaeolkkbakdlbaaScE
set_option linter.unusedSimpArgs false
set_option linter.unusedVariables false
set_option maxRecDepth 100000
namespace Go.Proofs.Ytaeolkkbakdlbaa.S12
open Go.RowKit Pl
namespace Pl
theorem fk_inj {x y : Nat} (hx : x < 18446744073709551616) (hy : y < 18446744073709551616) (h : fk x = fk y) : x = y := by
  unfold fk fs fr at h
  simp only [decide_eq_true_eq] at h
  split at h <;> split at h <;> omega
theorem fless_trans {x y z : Nat} (h : fless x y = true) (h2 : fless y z = true) : fless x z = true := by
  unfold fless at *
  revert h h2
  cases fN x <;> cases fN y <;> cases fN z <;> simp <;> omega
theorem fless_self (x : Nat) : fless x x = false := by
  unfold fless; cases fN x <;> simp
theorem fless_nan {x y : Nat} (h : fN x = true) (h2 : fN y = true) : fless x y = false := by
  unfold fless; rw [h, h2]; rfl
theorem fless_one {x y : Nat} (hx : x < 18446744073709551616) (hy : y < 18446744073709551616) (h : x ≠ y) (hn : ¬ (fN x = true ∧ fN y = true)) : (fless x y = true ∧ fless y x = false) ∨ (fless x y = false ∧ fless y x = true) := by
  have := mt (fk_inj hx hy) h
  unfold fless
  revert hn
  cases fN x <;> cases fN y <;> simp <;> omega
end Pl
set_option maxHeartbeats 8000000 in
theorem scoreOrder_walk (a b c : Int) (w : World) (ha : (Lit.int .u64 a).wf = true) (hb : (Lit.int .u64 b).wf = true) (hc : (Lit.int .u64 c).wf = true) :
    Calls Try.prog 4 #[.int .u64 a, .int .u64 b, .int .u64 c] w fun e w' => e = .returned (.bool true) ∧ Below w.heap.size w w' := by
  obtain ⟨x, rfl, hx⟩ := u64_open ha
  obtain ⟨y, rfl, hy⟩ := u64_open hb
  obtain ⟨z, rfl, hz⟩ := u64_open hc
  clear ha hb hc
  have l1 := fun W => less_any x y W hx hy
  have l2 := fun W => less_any y x W hy hx
  have l3 := fun W => refLess_any x y W hx hy
  have l4 := fun W => less_any y z W hy hz
  have l5 := fun W => less_any x z W hx hz
  have tr := @fless_trans x y z
  have hs1 := order_self hx
  have hs2 := order_self hy
  have hn1 : (Ieee.double.order x x != some .eq) = fN x := by simp [bne, hs1]
  have hn2 : (Ieee.double.order y y != some .eq) = fN y := by simp [bne, hs2]
  clear hs1 hs2
  by_cases hxy : x = y
  · subst hxy
    rw [fless_self] at l1 l2 l3
    clear l4 l5 tr hn1 hn2
    have e1 : ((x : Int) == (x : Int)) = true := by simp
    go_enter Try.func4, Try.ntmps4
    go_wp2_with fail
    refine (begun_any _).mono ?_
    rintro e w1 ⟨rfl, hb⟩
    have HB := Lib.hid hb
    clear hb
    go_wp2_with fail
    refine (l1 _).mono ?_
    rintro e w1 ⟨rfl, rfl⟩
    go_wp2_with fail
    refine (l1 _).mono ?_
    rintro e w1 ⟨rfl, rfl⟩
    go_wp2_with fail
    refine (l3 _).mono ?_
    rintro e w1 ⟨rfl, rfl⟩
    go_wp2_with fail
    go_ret
    exact ⟨by simp, HB.out⟩
  · have e1 : ((x : Int) == (y : Int)) = false := by simp; omega
    by_cases hnn : fN x = true ∧ fN y = true
    · rw [fless_nan hnn.1 hnn.2] at l1 l3
      rw [fless_nan hnn.2 hnn.1] at l2
      rw [hnn.1] at hn1
      rw [hnn.2] at hn2
      clear l4 l5 tr hnn
      go_enter Try.func4, Try.ntmps4
      go_wp2_with fail
      refine (begun_any _).mono ?_
      rintro e w1 ⟨rfl, hb⟩
      have HB := Lib.hid hb
      clear hb
      go_wp2_with fail
      refine (l1 _).mono ?_
      rintro e w1 ⟨rfl, rfl⟩
      go_wp2_with fail
      refine (l2 _).mono ?_
      rintro e w1 ⟨rfl, rfl⟩
      go_wp2_with fail
      refine (l3 _).mono ?_
      rintro e w1 ⟨rfl, rfl⟩
      go_wp2_with fail
      go_ret
      exact ⟨by simp, HB.out⟩
    · have hone := fless_one hx hy hxy hnn
      have hn : (fN x && fN y) = false := by simpa using hnn
      clear hxy hnn
      generalize fless x y = ab at *
      generalize fless y x = ba at *
      generalize fless y z = bc at *
      generalize fless x z = ac at *
      generalize fN x = p at *
      generalize fN y = q at *
      rcases hone with ⟨rfl, rfl⟩ | ⟨rfl, rfl⟩
      · cases bc
        · clear tr
          cases p <;> cases q <;> simp at hn
          all_goals
            clear hn
            go_enter Try.func4, Try.ntmps4
            go_wp2_with fail
            refine (begun_any _).mono ?_
            rintro e w1 ⟨rfl, hb⟩
            have HB := Lib.hid hb
            clear hb
            go_wp2_with fail
            refine (l1 _).mono ?_
            rintro e w1 ⟨rfl, rfl⟩
            go_wp2_with fail
            refine (l2 _).mono ?_
            rintro e w1 ⟨rfl, rfl⟩
            go_wp2_with fail
            refine (l3 _).mono ?_
            rintro e w1 ⟨rfl, rfl⟩
            go_wp2_with fail
            refine (l4 _).mono ?_
            rintro e w1 ⟨rfl, rfl⟩
            go_wp2_with fail
            go_ret
            exact ⟨by simp, HB.out⟩
        · obtain rfl := tr rfl rfl
          clear tr
          cases p <;> cases q <;> simp at hn
          all_goals
            clear hn
            go_enter Try.func4, Try.ntmps4
            go_wp2_with fail
            refine (begun_any _).mono ?_
            rintro e w1 ⟨rfl, hb⟩
            have HB := Lib.hid hb
            clear hb
            go_wp2_with fail
            refine (l1 _).mono ?_
            rintro e w1 ⟨rfl, rfl⟩
            go_wp2_with fail
            refine (l2 _).mono ?_
            rintro e w1 ⟨rfl, rfl⟩
            go_wp2_with fail
            refine (l3 _).mono ?_
            rintro e w1 ⟨rfl, rfl⟩
            go_wp2_with fail
            refine (l4 _).mono ?_
            rintro e w1 ⟨rfl, rfl⟩
            go_wp2_with fail
            refine (l5 _).mono ?_
            rintro e w1 ⟨rfl, rfl⟩
            go_wp2_with fail
            go_ret
            exact ⟨by simp, HB.out⟩
      · clear tr l4 l5
        cases p <;> cases q <;> simp at hn
        all_goals
          clear hn
          go_enter Try.func4, Try.ntmps4
          go_wp2_with fail
          refine (begun_any _).mono ?_
          rintro e w1 ⟨rfl, hb⟩
          have HB := Lib.hid hb
          clear hb
          go_wp2_with fail
          refine (l1 _).mono ?_
          rintro e w1 ⟨rfl, rfl⟩
          go_wp2_with fail
          refine (l2 _).mono ?_
          rintro e w1 ⟨rfl, rfl⟩
          go_wp2_with fail
          refine (l3 _).mono ?_
          rintro e w1 ⟨rfl, rfl⟩
          go_wp2_with fail
          go_ret
          exact ⟨by simp, HB.out⟩
end Go.Proofs.Ytaeolkkbakdlbaa.S12
