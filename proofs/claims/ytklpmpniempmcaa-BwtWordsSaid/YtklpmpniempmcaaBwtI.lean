/- BwtWords, walked. -/
import Derived.Test.YtklpmpniempmcaaBwtF
set_option linter.unusedSimpArgs false
set_option linter.unusedVariables false
namespace Go.Proofs.Ytklpmpniempmcaa
open Go.RowKit Pl
attribute [local go_sem ↓] conv_eq
set_option maxHeartbeats 8000000 in
set_option maxRecDepth 100000 in
theorem bwtWords_walk (a : Option Addr) (len cap : Nat) (z : List Int) (n : Int) (w : World) (hr : IsRow .u8 w a len cap z) (wn : (Lit.int .i64 n).wf = true) :
    Calls Try.prog 8 #[.slice a len cap, .int .i64 n] w fun e w' => e = .returned (.bool true) ∧ Below w.heap.size w w' := by
  obtain ⟨hV, hlen⟩ := isBytes_row hr
  have HV := Lib.hid hV
  clear hr hV wn
  by_cases hout : n < 0 ∨ 80 < n
  · have hways : n < 0 ∨ (¬ n < 0 ∧ 80 < n) := by omega
    clear hout
    rcases hways with h1 | ⟨h1, h2⟩
    all_goals
      go_enter Try.func8, Try.ntmps8
      go_wp2_with fail
      refine (begun9_any _).mono ?_
      rintro e w1 ⟨rfl, hb1⟩
      have HV1 := Lib.hid (HV.out.below hb1)
      have HB1 := Lib.hid hb1
      clear hb1 HV
      go_wp2_with fail
      refine (short_any _ _ 10 _ HV1.out (by omega)).mono ?_
      rintro e w2 ⟨v2, rfl, hi2, rfl⟩
      clear hi2
      go_wp2_with fail
      go_ret
      exact ⟨rfl, HB1.out⟩
  obtain ⟨n, rfl⟩ : ∃ k : Nat, n = k := ⟨n.toNat, by omega⟩
  have hn : n ≤ 80 := by omega
  have hn0 : ¬ (80 : Int) < (n : Int) := by omega
  clear hout
  go_enter Try.func8, Try.ntmps8
  go_wp2_with fail
  refine (begun9_any _).mono ?_
  rintro e w1 ⟨rfl, hb1⟩
  have HV1 := Lib.hid (HV.out.below hb1)
  have HB1 := Lib.hid hb1
  clear hb1 HV
  go_wp2_with fail
  refine (short_any _ _ 10 _ HV1.out (by omega)).mono ?_
  rintro e w2 ⟨v2, rfl, hi2, rfl⟩
  obtain ⟨S, hS⟩ : ∃ S, S = (bytesZ z len).take 10 := ⟨_, rfl⟩
  have hSl : S.length ≤ 10 := by rw [hS, List.length_take]; omega
  rw [← hS] at hi2
  obtain ⟨s, hs⟩ : ∃ s, S.length = s := ⟨_, rfl⟩
  obtain ⟨a2, c2, hv2, hc2, hm2⟩ := hi2.slice
  rw [hs] at hv2 hSl hc2
  subst hv2
  have HS := Lib.hid hi2
  have HN := Lib.hid hs
  clear hi2 hS HV1 hlen hs
  go_wp2_with fail
  go_loopw [6, 7] (fun u t wr => ∃ (i lb : Nat) (sb : Option Addr) (cb : Nat) (B : List Nat), i ≤ n ∧ t = .int .i64 i ∧ u = .slice sb lb cb ∧ B.length = lb ∧ lb ≤ 10 * i ∧ (∀ x ∈ B, x < 256) ∧ wr.ownsRow w1.heap.size 5 1 (.slice sb lb cb) lb (u8s B) ∧ Below w1.heap.size w1 wr) (fun _ t _ => n - (intOf t).toNat)
  case atStart => exact ⟨0, 0, none, 0, [], by omega, rfl, rfl, rfl, by omega, by simp, own_nil _ _, Below.refl _ _⟩
  case round =>
    obtain ⟨i, lb, sb, cb, B, hi, rfl, rfl, hB, hlb, hBx, ho, hb⟩ := hrel
    have HBL := Lib.hid hB
    have HBX := Lib.hid hBx
    have HO := Lib.hid ho
    have HB := Lib.hid hb
    have hsz := hb.size
    clear hB hBx ho hb
    by_cases hlt : i < n
    · go_wp2_with (at_builtin; refine wpList_append_bytes rfl (.tmp 28) (.tmp 29) rfl w1.heap.size _ lb _ rfl HO.out _ S rfl (HS.out.below HB.out) (by rw [HN.out]; omega) hsz ?_; intro v6 w6 hown hgr; rw [← u8s_append, HN.out] at hown; have HO6 := Lib.hid hown; have HB6 := Lib.hid (HB.out.grown hgr hsz (own_lt HO.out)); obtain ⟨sp6, cp6, rfl, _, _⟩ := ownsRow_slice hown; clear hown hgr)
      refine ⟨⟨i + 1, lb + s, _, _, B ++ S, by omega, by first | rfl | go_num, rfl, by rw [List.length_append, HBL.out, HN.out], by omega, fun x hx => ?_, HO6.out, HB6.out⟩, ?_⟩
      · rcases List.mem_append.1 hx with h | h
        · exact HBX.out x h
        · exact HS.out.1 x h
      · simp only [intOf_i]; omega
    · obtain rfl : i = n := by omega
      have HI : Hid (IsBytes wr (.slice sb lb cb) B) := Lib.hid (isBytes_ownS (base := w1.heap.size) HBX.out HBL.out.symm (by rw [HBL.out]; exact HO.out))
      clear HO HS
      go_wp2_with fail
      refine (forward_any _ B lb _ HI.out HBL.out (by omega)).mono ?_
      rintro e w3 ⟨R, sp3, c3, p, rfl, hR, hat, hi3, hb3⟩
      obtain ⟨L, hL⟩ : ∃ L, fwL B (lb :: R) = L := ⟨_, rfl⟩
      rw [hL] at hi3
      have HL := Lib.hid hL
      have HR := Lib.hid hR
      have HAT := Lib.hid hat
      have HI3 := Lib.hid hi3
      have HJ3 := Lib.hid (HI.out.below hb3)
      have HB3 := Lib.hid (HB1.out.trans ((HB.out.trans (hb3.mono HB.out.size)).mono HB1.out.size))
      clear hL hR hat hi3 hb3 HI HB HB1
      go_wp2_with fail
      refine (back_fw (B := B) (R := R) (l := L) (a := p) (N := lb) HR.out (by rw [HBL.out]; exact HL.out) (by rw [HBL.out]; exact HAT.out) HI3.out HBX.out HBL.out (by omega)).mono ?_
      rintro e w5 ⟨g5, rfl, hi5, hb5⟩
      have s3 := run_conv hi5
      have s4 := run_conv (HJ3.out.below hb5)
      have HB5 := Lib.hid (HB3.out.trans (hb5.mono HB3.out.size))
      have q2 : ((str B).toList == (str B).toList) = true := by simp
      clear hi5 hb5 HI3 HJ3 HB3
      generalize str B = sb2 at *
      go_wp2_with fail
      go_ret
      exact ⟨rfl, HB5.out⟩
end Go.Proofs.Ytklpmpniempmcaa
