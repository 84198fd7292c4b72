/- NumbersBytes, walked. -/
import Derived.Test.YtpibbepojjicgaaNumF
namespace Go.Proofs.Ytpibbepojjicgaa
open Go.RowKit Pl

set_option maxHeartbeats 1000000 in
theorem numbersBytes_walk (a : Option Addr) (len cap : Nat) (z : List Int) (w : World) (hr : IsRow .u8 w a len cap z) : Calls Try.prog 4 #[.slice a len cap] w fun e w' => e = .returned (.bool true) ∧ Below w.heap.size w w' := by
  obtain ⟨hv, hl⟩ := isBytes_row hr
  have HV := Lib.hid hv
  clear hv hl hr
  go_enter Try.func4, Try.ntmps4
  go_wp2_with fail
  refine (begun_any _).mono ?_
  rintro e w1 ⟨rfl, hb1⟩
  have HB1 := Lib.hid hb1
  have HV1 := Lib.hid (HV.out.below hb1)
  clear hb1 HV
  go_wp2_with fail
  refine (short_any _ _ 60 _ HV1.out (by omega)).mono ?_
  rintro e w2 ⟨v2, rfl, hi, rfl⟩
  have HI := Lib.hid hi
  generalize List.take 60 (bytesZ z len) = B at *
  have HP := Lib.hid (vget_any _ _ _ HI.out)
  have HR := Lib.hid (refGet_any _ _ _ HI.out)
  have HT := Lib.hid (getText_any _ _ _ HI.out)
  have HQ := Lib.hid (refGetText_any _ _ _ HI.out)
  clear hi HI HV1
  unfold VGetPost at HP HR
  unfold TextPost at HT HQ
  generalize (vget B).1 = n1 at *
  generalize (vget B).2 = n2 at *
  generalize (vgetText B).1 = n3 at *
  generalize (vgetText B).2 = n4 at *
  go_wp2_with fail
  refine HP.out.mono ?_
  rintro e w3 ⟨rfl, rfl⟩
  go_wp2_with fail
  refine HR.out.mono ?_
  rintro e w3 ⟨rfl, rfl⟩
  go_wp2_with fail
  refine HT.out.mono ?_
  rintro e w3 ⟨rfl, rfl⟩
  go_wp2_with fail
  refine HQ.out.mono ?_
  rintro e w3 ⟨rfl, rfl⟩
  go_wp2_with fail
  all_goals
    go_ret
    exact ⟨rfl, HB1.out⟩
end Go.Proofs.Ytpibbepojjicgaa
