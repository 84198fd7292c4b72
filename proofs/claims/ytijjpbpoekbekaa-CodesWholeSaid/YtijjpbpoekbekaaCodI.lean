/- The law CodesOf, walked. -/
import Derived.Test.YtijjpbpoekbekaaCodH
set_option linter.unusedSimpArgs false
set_option linter.unusedVariables false
namespace Go.Proofs.Ytijjpbpoekbekaa
open Go.RowKit Pl
theorem isInts_in {w : World} {a : Option Addr} {len cap : Nat} {z : List Int} (h : IsRow .i64 w a len cap z) : ∃ F, F.length = len ∧ IsInts w (.slice a len cap) F ∧ len ≤ cap ∧ cap ≤ maxLen ∧ (∀ x ∈ F, -9223372036854775808 ≤ x ∧ x < 9223372036854775808) ∧ (0 < len → ∀ ad, a = some ad → ad.block < w.heap.size) := by
  have h1 := isInts_row h
  obtain ⟨sp, c, he, hc, hm⟩ := h1.1.slice
  simp at he
  obtain ⟨rfl, he2, rfl⟩ := he
  refine ⟨z.take len, h1.2, h1.1, by omega, hm, row_wf h, fun h0 ad ha => ?_⟩
  obtain ⟨b, off, e, hb, _⟩ := h.cells h0
  rw [ha] at e
  simp at e
  rw [e]; exact hb
set_option maxHeartbeats 8000000 in
theorem codesOf_walk (a : Option Addr) (len cap : Nat) (z : List Int) (w : World) (hr : IsRow .i64 w a len cap z) :
    Calls Try.prog 3 #[.slice a len cap] w fun e w' => e = .returned (.bool true) ∧ Below w.heap.size w w' := by
  obtain ⟨F0, hF0, hI, hcap, hmax, _, _⟩ := isInts_in hr
  clear hr
  go_enter Try.func3, Try.ntmps3
  go_wp2_with fail
  refine (begun_any w).mono ?_
  rintro e w1 ⟨rfl, hb1⟩
  have HB1 := Lib.hid hb1
  have HI1 := Lib.hid (hI.below hb1)
  clear hb1 hI
  go_wp2_with fail
  refine (cut_any a len cap F0 w1 HI1.out hF0 hcap hmax).mono ?_
  rintro e w1' ⟨⟨m, rfl, hm, hm302, hI1⟩, rfl⟩
  clear HI1 hF0
  generalize F0.take 302 = F at *
  have HI1 := Lib.hid hI1
  have HM := Lib.hid hm
  clear hI1 hm
  go_wp2_with fail
  refine (of_any _ F w1 HI1.out (by rw [← HM.out]; omega)).mono ?_
  rintro e w2 ⟨hb2, hof⟩
  have HB2 := Lib.hid (HB1.out.trans (hb2.mono HB1.out.size))
  have HI2 := Lib.hid (HI1.out.below hb2)
  obtain ⟨hok, c, rfl, hcw, hc⟩ | ⟨hok, rfl⟩ := hof
  · have HOK := Lib.hid hok
    have HC2 := Lib.hid hc
    clear hb2 hok hc hcw HB1 HI1
    go_wp2_with fail
    refine (codes_ref _ F w2 HI2.out (by rw [← HM.out]; omega)).mono ?_
    rintro e w3 ⟨hb3, ⟨_, d, rfl, _, hd⟩ | ⟨hn, _⟩⟩
    rotate_left
    · exact absurd HOK.out hn
    have HB3 := Lib.hid (HB2.out.trans (hb3.mono HB2.out.size))
    have HI3 := Lib.hid (HI2.out.below hb3)
    have HC3 := Lib.hid (HC2.out.below hb3 HC2.out.lt)
    have HD3 := Lib.hid hd
    rw [← HM.out]
    clear hb3 hd HB2 HI2 HC2
    have hmm : ((m : Int) != (m : Int)) = false := bne_f rfl
    go_wp2_with fail
    clear hmm
    go_loopw [8] (fun x wr => ∃ i : Nat, i ≤ m ∧ x = .int .i64 i ∧ ∃ n, wr = w3.drewN n) (fun x _ => m - (intOf x).toNat)
    case atStart => exact ⟨0, by omega, rfl, 0, rfl⟩
    case round =>
      obtain ⟨i, hi, rfl, n, rfl⟩ := hrel
      by_cases hlt : i < m
      · have hiF : i < F.length := by rw [← HM.out]; exact hlt
        obtain ⟨bb, off, cap', hs, _, _, _, hcc⟩ := HI3.out.cells (by omega)
        simp at hs
        obtain ⟨rfl, -, rfl⟩ := hs
        have c0 := hcc i hiF
        have hg := cdVs_get (codesL F) i (by rw [codesL_length]; exact hiF)
        have hw := fsts_get (codesL F) i (by rw [codesL_length]; exact hiF)
        rw [codesL_len HOK.out.2.1 hiF] at hg
        have e0 := HC3.out.cell hg.1
        have e1 := HC3.out.cell hg.2
        have e2 := HD3.out.cell hw
        generalize F.getD i 0 = x at *
        generalize ((codesL F).getD i (0, 0)).1 = y at *
        have hx := bne_f (rfl : x = x)
        have hy := bne_f (rfl : y = y)
        clear hcc hg hw hiF
        by_cases h0 : 0 < x
        · go_wp2_with fail
          go_quiet (fail)
          go_wp2_with fail
          go_roundw
          case rel => exact ⟨i + 1, by omega, by go_num, _, rfl⟩
          case measure => simp [intOf]; omega
        · have h0' : decide (0 < x) = false := decide_eq_false h0
          go_wp2_with fail
          go_quiet (fail)
          go_wp2_with fail
          go_roundw
          case rel => exact ⟨i + 1, by omega, by go_num, _, rfl⟩
          case measure => simp [intOf]; omega
      · obtain rfl : i = m := by omega
        go_wp2_with fail
        go_ret
        exact ⟨rfl, bel_drewN HB3.out n⟩
  · have HOK := Lib.hid hok
    clear hb2 hok HB1 HI1
    go_wp2_with fail
    refine (codes_ref _ F w2 HI2.out (by rw [← HM.out]; omega)).mono ?_
    rintro e w3 ⟨hb3, ⟨hn, _⟩ | ⟨_, rfl⟩⟩
    · exact absurd hn HOK.out
    have HB3 := Lib.hid (HB2.out.trans (hb3.mono HB2.out.size))
    clear hb3 HB2
    go_wp2_with fail
    go_ret
    exact ⟨rfl, HB3.out⟩
end Go.Proofs.Ytijjpbpoekbekaa
