/- BwtForward, walked. -/
import Derived.Test.YtklpmpniempmcaaBwtF
import Derived.Test.YtklpmpniempmcaaBwtD
set_option linter.unusedSimpArgs false
set_option linter.unusedVariables false
namespace Go.Proofs.Ytklpmpniempmcaa
open Go.RowKit Pl
theorem str_self (S : ByteArray) : (S.toList == S.toList) = true := by simp
attribute [local go_sem ↓] conv_eq
set_option maxHeartbeats 8000000 in
set_option maxRecDepth 100000 in
theorem bwtForward_walk (a : Option Addr) (len cap : Nat) (z : List Int) (w : World) (hr : IsRow .u8 w a len cap z) :
    Calls Try.prog 4 #[.slice a len cap] w fun e w' => e = .returned (.bool true) ∧ Below w.heap.size w w' := by
  obtain ⟨hV, hlen⟩ := isBytes_row hr
  have HV := Lib.hid hV
  clear hr hV
  go_enter Try.func4, Try.ntmps4
  go_wp2_with fail
  refine (begun9_any _).mono ?_
  rintro e w1 ⟨rfl, hb1⟩
  have HV1 := Lib.hid (HV.out.below hb1)
  have HB1 := Lib.hid hb1
  clear hb1 HV
  go_wp2_with fail
  refine (short_any _ _ 300 _ HV1.out (by omega)).mono ?_
  rintro e w2 ⟨v2, rfl, hi2, rfl⟩
  obtain ⟨B, hB⟩ : ∃ S, S = (bytesZ z len).take 300 := ⟨_, rfl⟩
  have hBl : B.length ≤ 300 := by rw [hB, List.length_take]; omega
  rw [← hB] at hi2
  obtain ⟨N, hN⟩ : ∃ n, B.length = n := ⟨_, rfl⟩
  obtain ⟨a2, c2, hv2, hc2, hm2⟩ := hi2.slice
  rw [hN] at hv2 hBl hc2
  subst hv2
  have HS := Lib.hid hi2
  have HX := Lib.hid hi2.1
  have HN := Lib.hid hN
  clear hi2 hB HV1 hlen hN
  go_wp2_with fail
  refine (forward_any _ B N _ HS.out HN.out (by omega)).mono ?_
  rintro e w3 ⟨R, sp3, c3, p, rfl, hR, hat, hi3, hb3⟩
  have HR := Lib.hid hR
  have HAT := Lib.hid hat
  have HI3 := Lib.hid hi3
  have HS3 := Lib.hid (HS.out.below hb3)
  have HB3 := Lib.hid (HB1.out.trans (hb3.mono HB1.out.size))
  clear hR hat hi3 hb3 HS HB1
  go_wp2_with fail
  refine (forwardRef_any _ B N _ HS3.out HN.out (by omega)).mono ?_
  rintro e w4 ⟨R', sp4, c4, p', rfl, hR', hat', hi4, hb4⟩
  obtain rfl := sa_unique hR' HR.out
  obtain rfl : p' = p := by rw [← hat', HAT.out]
  have HI4 := Lib.hid hi4
  have HI3b := Lib.hid (HI3.out.below hb4)
  have HS4 := Lib.hid (HS3.out.below hb4)
  have HB4 := Lib.hid (HB3.out.trans (hb4.mono HB3.out.size))
  clear hR' hat' hi4 hb4 HI3 HS3 HB3
  obtain ⟨L, hL⟩ : ∃ L, fwL B (N :: R') = L := ⟨_, rfl⟩
  rw [hL] at HI4 HI3b
  have HL := Lib.hid hL
  clear hL
  go_wp2_with fail
  refine (back_fw (B := B) (R := R') (l := L) (a := p') (N := N) HR.out (by rw [HN.out]; exact HL.out) (by rw [HN.out]; exact HAT.out) HI3b.out HX.out HN.out (by omega)).mono ?_
  rintro e w5 ⟨g5, rfl, hi5, hb5⟩
  have s1 := run_conv (HI3b.out.below hb5)
  have s2 := run_conv (HI4.out.below hb5)
  have s3 := run_conv hi5
  have s4 := run_conv (HS4.out.below hb5)
  have HB5 := Lib.hid (HB4.out.trans (hb5.mono HB4.out.size))
  have q1 := str_self (str L)
  have q2 := str_self (str B)
  have q3 : ((p' : Int) == (p' : Int)) = true := beq_t rfl
  clear hi5 hb5 HI3b HI4 HS4 HB4 HX
  generalize str L = sl at *
  generalize str B = sb at *
  go_wp2_with fail
  go_ret
  exact ⟨rfl, HB5.out⟩
end Go.Proofs.Ytklpmpniempmcaa
