/- The law CodesRead, walked. -/
import Derived.Test.YtijjpbpoekbekaaCodL
set_option linter.unusedSimpArgs false
set_option linter.unusedVariables false
namespace Go.Proofs.Ytijjpbpoekbekaa
open Go.RowKit Pl
theorem rdF_errno {F : List Int} {en : Int} {M : List Bool} : ∀ (m : Nat) (A : List Int) (at_ : Nat), A.length ≤ at_ → at_ ≤ M.length → (rdF F en m M A at_).1.length ≤ M.length ∧ (rdF F en m M A at_).2.2 ≤ M.length := by
  intro m
  induction m with
  | zero => intro A at_ h1 h2; simp [rdF]
  | succ m ih =>
    intro A at_ h1 h2
    cases h : stepL F (M.drop at_) with
    | none => rw [rdF_none h]; simp
    | some p =>
      obtain ⟨s, n⟩ := p
      have hn := stepL_some h
      rw [List.length_drop] at hn
      by_cases e : s = en
      · subst e
        rw [rdF_end h]
        simp
        omega
      · rw [rdF_more h e]
        exact ih _ _ (by simp; omega) (by omega)
set_option maxHeartbeats 8000000 in
theorem codesRead_walk (a : Option Addr) (len cap : Nat) (z : List Int) (a' : Option Addr) (len' cap' : Nat) (z' : List Int) (en most : Int) (w : World) (hr : IsRow .u8 w a len cap z) (hr' : IsRow .i64 w a' len' cap' z') (wen : (Lit.int .i64 en).wf = true) (wm : (Lit.int .i64 most).wf = true) :
    Calls Try.prog 5 #[.slice a len cap, .slice a' len' cap', .int .i64 en, .int .i64 most] w fun e w' => e = .returned (.bool true) ∧ Below w.heap.size w w' := by
  obtain ⟨F0, hF0, hI, hcap', hmax', _, _⟩ := isInts_in hr'
  have hB := isBytes_row hr
  have hmo := i64_wf wm
  generalize bytesZ z len = B0 at hB
  obtain ⟨hB, hBl⟩ := hB
  clear hr hr' wen wm
  go_enter Try.func5, Try.ntmps5
  go_wp2_with fail
  refine (begun_any w).mono ?_
  rintro e w1 ⟨rfl, hb1⟩
  have HB1 := Lib.hid hb1
  have HI1 := Lib.hid (hI.below hb1)
  have HY1 := Lib.hid (hB.below hb1)
  clear hb1 hI hB
  go_wp2_with fail
  refine (short_any _ B0 60 w1 HY1.out (by omega)).mono ?_
  rintro e w1' ⟨vb, rfl, hY1, rfl⟩
  have hBl60 : (B0.take 60).length ≤ 60 := by rw [List.length_take]; omega
  generalize B0.take 60 = B at *
  obtain ⟨ab, cb, rfl, hcb, hcb2⟩ := hY1.slice
  have HY := Lib.hid hY1
  clear hY1 HY1
  go_wp2_with fail
  refine (cut_any a' len' cap' F0 w1 HI1.out hF0 hcap' hmax').mono ?_
  rintro e w1' ⟨⟨m, rfl, hm, hm302, hI1⟩, rfl⟩
  clear HI1 hF0
  generalize F0.take 302 = F at *
  have HI1 := Lib.hid hI1
  have HM := Lib.hid hm
  clear hI1 hm
  go_wp2_with fail
  refine (read_any _ B _ HY.out (by omega)).mono ?_
  rintro e w2 ⟨r, rfl, hr2, hb2⟩
  have HB12 := Lib.hid hb2
  have HB2 := Lib.hid (HB1.out.trans (hb2.mono HB1.out.size))
  have HI2 := Lib.hid (HI1.out.below hb2)
  have HY2 := Lib.hid (HY.out.below hb2)
  have HR2 := Lib.hid hr2
  have hrw : w.heap.size ≤ r := Nat.le_trans HB1.out.size hr2.1
  have hw1r : w1.heap.size ≤ r := hr2.1
  clear hb2 hr2
  go_wp2_with fail
  refine (read_codes _ F en most r _ B 0 w2 HI2.out (by rw [← HM.out]; omega) (by omega) HR2.out hmo).mono ?_
  rintro e w3 ⟨hg3, hpost⟩
  have HB13 : Hid (Below w1.heap.size w1 w3) := Lib.hid (HB12.out.trans (hg3.below HB12.out.size hw1r))
  have HB3 := Lib.hid (HB1.out.trans (HB13.out.mono HB1.out.size))
  have HI3 := Lib.hid (HI1.out.below HB13.out)
  have HY3 := Lib.hid (HY.out.below HB13.out)
  clear hg3 HB12 HB2 HI2 HY2 HB13 HB1 HI1 HY
  obtain ⟨hok, rfl, hr3⟩ | ⟨hok, L, rr, n, sp, cp, hrd, rfl, ho3, m2, hr3, hm2⟩ := hpost
  · have HN := Lib.hid hok
    clear hok hr3 HR2
    go_wp2_with fail
    refine (bits_any _ B _ HY3.out (by omega)).mono ?_
    rintro e w4 ⟨v4, rfl, ho4, hb4⟩
    obtain ⟨sb, cb4, rfl, hcb4, hcm4⟩ := ownsRow_slice ho4
    have HI4 := Lib.hid (HI3.out.below hb4)
    have HB4 := Lib.hid (HB3.out.trans (hb4.mono HB3.out.size))
    have HA4 : Hid (BoolsAt w4 sb cb4 (bitsB B)) := Lib.hid (boolsAt_own (by rw [bitsB_length]) ho4)
    clear ho4 hb4 HB3 HI3 HY3
    go_wp2_with fail
    refine (read_ref sb (8 * B.length) cb4 (bitsB B) _ F en most w4 (by rw [bitsB_length]) HA4.out (by rw [bitsB_length]; omega) HI4.out (by rw [← HM.out]; omega) hmo).mono ?_
    rintro e w5 ⟨hb5, ⟨_, rfl⟩ | ⟨h, _⟩⟩
    rotate_left
    · exact absurd h HN.out
    have HB5 := Lib.hid (HB4.out.trans (hb5.mono HB4.out.size))
    clear hb5 HB4 HI4 HA4
    go_wp2_with fail
    refine (ints_same _ _ [] w5 (isCells_nil w5) (isCells_nil w5) (by decide)).mono ?_
    rintro e w6 ⟨rfl, hb6⟩
    have HB6 := Lib.hid (HB5.out.trans (hb6.mono HB5.out.size))
    clear hb6
    go_wp2_with fail
    go_ret
    exact ⟨rfl, HB6.out⟩
  · have HOK := Lib.hid hok
    rw [List.drop_zero] at hrd
    rw [Nat.zero_add] at hr3
    have hsz := rdF_errno (F := F) (en := en) (M := bitsB B) most.toNat [] 0 (by simp) (by simp)
    rw [hrd, bitsB_length] at hsz
    have hL : L.length ≤ 480 := by have := hsz.1; simp at this; omega
    have hnn : n ≤ 480 := by have := hsz.2; simp at this; omega
    have HRD := Lib.hid hrd
    have HR3 := Lib.hid hr3
    have HM2 := Lib.hid hm2
    have HL3 := Lib.hid ho3
    clear hok hrd hr3 hm2 ho3 HR2 hsz
    go_wp2_with fail
    refine (bits_any _ B _ HY3.out (by omega)).mono ?_
    rintro e w4 ⟨v4, rfl, ho4, hb4⟩
    obtain ⟨sb, cb4, rfl, hcb4, hcm4⟩ := ownsRow_slice ho4
    have HI4 := Lib.hid (HI3.out.below hb4)
    have HB4 := Lib.hid (HB3.out.trans (hb4.mono HB3.out.size))
    have HA4 : Hid (BoolsAt w4 sb cb4 (bitsB B)) := Lib.hid (boolsAt_own (by rw [bitsB_length]) ho4)
    have HR4 := Lib.hid (HR3.out.below hb4)
    have HL4 := Lib.hid ((isInts_own rfl HL3.out).below hb4)
    clear ho4 hb4 HB3 HI3 HY3 HR3 HL3
    go_wp2_with fail
    refine (read_ref sb (8 * B.length) cb4 (bitsB B) _ F en most w4 (by rw [bitsB_length]) HA4.out (by rw [bitsB_length]; omega) HI4.out (by rw [← HM.out]; omega) hmo).mono ?_
    rintro e w5 ⟨hb5, ⟨h, _⟩ | ⟨_, L', r', n', sp5, cp5, hrd', rfl, ho5⟩⟩
    · exact absurd HOK.out h
    rw [HRD.out] at hrd'
    simp only [Prod.mk.injEq] at hrd'
    obtain ⟨rfl, rfl, rfl⟩ := hrd'
    have HB5 := Lib.hid (HB4.out.trans (hb5.mono HB4.out.size))
    have HR5 := Lib.hid (HR4.out.below hb5)
    have HL5 := Lib.hid (HL4.out.below hb5)
    have HM5 := Lib.hid (isInts_own rfl ho5)
    have hrr := bne_f (rfl : rr = rr)
    clear hb5 HB4 HI4 HA4 HR4 HL4 ho5
    go_wp2_with fail
    refine (ints_same _ _ L w5 HL5.out HM5.out (by omega)).mono ?_
    rintro e w6 ⟨rfl, hb6⟩
    have HB6 := Lib.hid (HB5.out.trans (hb6.mono HB5.out.size))
    have HR6 := Lib.hid (HR5.out.below hb6)
    clear hb6 hrr HB5 HR5
    by_cases h0 : rr = 0
    · subst h0
      obtain rfl : m2 = n := HM2.out rfl
      go_wp2_with fail
      refine (left_any r _ B m2 _ HR6.out).mono ?_
      rintro e w7 ⟨rfl, kk, rfl⟩
      have hBI : (B.length : Int) ≤ 60 := by omega
      have hnI : (m2 : Int) ≤ 480 := by omega
      have ht := beq_t (rfl : 8 * (B.length : Int) - (m2 : Int) = 8 * (B.length : Int) - (m2 : Int))
      go_wp2_with fail
      go_ret
      exact ⟨rfl, bel_drewN HB6.out kk⟩
    · have hf := bne_t h0
      go_wp2_with fail
      go_ret
      exact ⟨rfl, HB6.out⟩
end Go.Proofs.Ytijjpbpoekbekaa
