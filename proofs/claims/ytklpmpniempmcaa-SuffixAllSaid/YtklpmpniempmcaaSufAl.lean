/- SuffixAll, walked. -/
import Derived.Test.YtklpmpniempmcaaSufW
import Derived.Test.YtklpmpniempmcaaSufC
import Derived.Test.YtklpmpniempmcaaSufCo
import Derived.Test.YtklpmpniempmcaaCutB
set_option linter.unusedSimpArgs false
set_option linter.unusedVariables false
namespace Go.Proofs.Ytklpmpniempmcaa
open Go.RowKit Pl
set_option maxHeartbeats 8000000 in
set_option maxRecDepth 100000 in
theorem suffixAll_walk (a : Option Addr) (len cap : Nat) (z : List Int) (w : World) (hr : IsRow .u8 w a len cap z) :
    Calls Try.prog 3 #[.slice a len cap] w fun e w' => e = .returned (.bool true) ∧ Below w.heap.size w w' := by
  obtain ⟨hV, hlen⟩ := isBytes_row hr
  have HV := Lib.hid hV
  clear hr hV
  go_enter Try.func3, Try.ntmps3
  go_wp2_with fail
  refine (begun_any _).mono ?_
  rintro e w1 ⟨rfl, hb1⟩
  have HV1 := Lib.hid (HV.out.below hb1)
  have HB1 := Lib.hid hb1
  clear hb1 HV
  go_wp2_with fail
  refine (short_any _ _ 300 _ HV1.out (by omega)).mono ?_
  rintro e w2 ⟨v2, rfl, hi2, rfl⟩
  obtain ⟨B, hB⟩ : ∃ S, S = (bytesZ z len).take 300 := ⟨_, rfl⟩
  have hBl : B.length ≤ 300 := by rw [hB, List.length_take]; omega
  rw [← hB] at hi2
  obtain ⟨N, hN⟩ : ∃ n, B.length = n := ⟨_, rfl⟩
  obtain ⟨a2, c2, hv2, hc2, hm2⟩ := hi2.slice
  rw [hN] at hv2 hBl hc2
  subst hv2
  have HS := Lib.hid hi2
  have HN := Lib.hid hN
  clear hi2 hB HV1 hlen hN
  go_wp2_with fail
  refine (sort_s (n := N) HS.out (by rw [HN.out]; omega) HN.out).mono ?_
  rintro e w3 ⟨g3, R, rfl, hR, hRl, hi3, hb3⟩
  have HR := Lib.hid hR
  have HRL := Lib.hid hRl
  have HI3 := Lib.hid hi3
  have HS3 := Lib.hid (HS.out.below hb3)
  have HB3 := Lib.hid (HB1.out.trans (hb3.mono HB1.out.size))
  clear hR hRl hi3 hb3 HS HB1
  go_wp2_with fail
  refine (suffixes_ref _ B _ HS3.out (by rw [HN.out]; omega)).mono ?_
  rintro e w4 ⟨L, sp4, cp4, rfl, hL, ho4, hb4⟩
  obtain rfl := sa_unique hL HR.out
  rw [HRL.out] at ho4 ⊢
  have HI4 := Lib.hid (isInts_own (by rw [nI_length, HRL.out]) ho4)
  have HI3b := Lib.hid (HI3.out.below hb4)
  have HS4 := Lib.hid (HS3.out.below hb4)
  have HB4 := Lib.hid (HB3.out.trans (hb4.mono HB3.out.size))
  clear hL ho4 hb4 HI3 HS3 HB3
  go_wp2_with fail
  refine (ints_same _ _ (nI L) _ HI3b.out HI4.out (by rw [nI_length, HRL.out]; omega)).mono ?_
  rintro e w5 ⟨rfl, hb5⟩
  have HI3c := Lib.hid (HI3b.out.below hb5)
  have HI4c := Lib.hid (HI4.out.below hb5)
  have HS5 := Lib.hid (HS4.out.below hb5)
  have HB5 := Lib.hid (HB4.out.trans (hb5.mono HB4.out.size))
  clear hb5 HI3b HI4 HS4 HB4
  obtain ⟨C, hC⟩ : ∃ C, comL B L = C := ⟨_, rfl⟩
  have hCl : C.length = N := by rw [← hC, comL_length, HRL.out]
  have HC := Lib.hid hC
  have HCL := Lib.hid hCl
  clear hC hCl
  go_wp2_with fail
  refine (common_s (n := N) HS5.out HI3c.out HR.out (by rw [HN.out]; omega) HC.out HCL.out).mono ?_
  rintro e w6 ⟨sp6, cp6, rfl, hi6, hb6⟩
  have HI6 := Lib.hid hi6
  have HI4d := Lib.hid (HI4c.out.below hb6)
  have HS6 := Lib.hid (HS5.out.below hb6)
  have HB6 := Lib.hid (HB5.out.trans (hb6.mono HB5.out.size))
  clear hi6 hb6 HI3c HI4c HS5 HB5
  go_wp2_with fail
  refine (commonRef_any _ _ B L _ HS6.out HI4d.out HR.out (by rw [HN.out]; omega)).mono ?_
  rintro e w7 ⟨n7, sp7, cp7, rfl, hn7, ho7, hb7⟩
  rw [HC.out] at ho7 hn7
  rw [HCL.out] at hn7
  subst hn7
  have HI7 := Lib.hid (isInts_own (by rw [nI_length, HCL.out]) ho7)
  have HI6b := Lib.hid (HI6.out.below hb7)
  have HB7 := Lib.hid (HB6.out.trans (hb7.mono HB6.out.size))
  clear ho7 hb7 HI6 HI4d HS6 HB6
  go_wp2_with fail
  refine (ints_same _ _ (nI C) _ HI6b.out HI7.out (by rw [nI_length, HCL.out]; omega)).mono ?_
  rintro e w8 ⟨rfl, hb8⟩
  have HB8 := Lib.hid (HB7.out.trans (hb8.mono HB7.out.size))
  clear hb8 HI6b HI7 HB7
  go_wp2_with fail
  go_ret
  exact ⟨rfl, HB8.out⟩
end Go.Proofs.Ytklpmpniempmcaa
