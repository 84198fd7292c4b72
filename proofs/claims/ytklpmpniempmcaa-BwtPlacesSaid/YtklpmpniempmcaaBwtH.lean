/- BwtPlaces, walked. -/
import Derived.Test.YtklpmpniempmcaaBwtF
set_option linter.unusedSimpArgs false
set_option linter.unusedVariables false
namespace Go.Proofs.Ytklpmpniempmcaa
open Go.RowKit Pl
namespace Pl
theorem bk_other {B R l : List Nat} {p n : Nat} (hR : IsSA B R) (hl : fwL B (B.length :: R) = l) (hp : fwAt (B.length :: R) = p) (hn : n ≤ l.length) (hok : okW l n = true) : (n = p ↔ bk l n = B) := by
  constructor
  · rintro rfl; exact (fw_ok hR hl hp).2.2
  · intro e
    obtain ⟨R2, h1, h2, h3⟩ := bk_sound hn hok
    rw [e] at h1 h3
    rw [sa_unique h1 hR, hp] at h3
    exact h3.symm
end Pl
attribute [local go_sem ↓] conv_eq
set_option maxHeartbeats 8000000 in
set_option maxRecDepth 100000 in
theorem bwtPlaces_walk (a : Option Addr) (len cap : Nat) (z : List Int) (n : Int) (w : World) (hr : IsRow .u8 w a len cap z) (wn : (Lit.int .i64 n).wf = true) :
    Calls Try.prog 6 #[.slice a len cap, .int .i64 n] w fun e w' => e = .returned (.bool true) ∧ Below w.heap.size w w' := by
  obtain ⟨hV, hlen⟩ := isBytes_row hr
  have HV := Lib.hid hV
  clear hr hV wn
  go_enter Try.func6, Try.ntmps6
  go_wp2_with fail
  refine (begun9_any _).mono ?_
  rintro e w1 ⟨rfl, hb1⟩
  have HV1 := Lib.hid (HV.out.below hb1)
  have HB1 := Lib.hid hb1
  clear hb1 HV
  go_wp2_with fail
  refine (short_any _ _ 60 _ HV1.out (by omega)).mono ?_
  rintro e w2 ⟨v2, rfl, hi2, rfl⟩
  obtain ⟨B, hB⟩ : ∃ S, S = (bytesZ z len).take 60 := ⟨_, rfl⟩
  have hBl : B.length ≤ 60 := by rw [hB, List.length_take]; omega
  rw [← hB] at hi2
  obtain ⟨N, hN⟩ : ∃ n, B.length = n := ⟨_, rfl⟩
  obtain ⟨a2, c2, hv2, hc2, hm2⟩ := hi2.slice
  rw [hN] at hv2 hBl hc2
  subst hv2
  have HS := Lib.hid hi2
  have HX := Lib.hid hi2.1
  have HN := Lib.hid hN
  clear hi2 hB HV1 hlen hN
  go_wp2_with fail
  refine (forward_any _ B N _ HS.out HN.out (by omega)).mono ?_
  rintro e w3 ⟨R, sp3, c3, p, rfl, hR, hat, hi3, hb3⟩
  have HR := Lib.hid hR
  have HAT := Lib.hid hat
  have HI3 := Lib.hid hi3
  have HS3 := Lib.hid (HS.out.below hb3)
  have HB3 := Lib.hid (HB1.out.trans (hb3.mono HB1.out.size))
  obtain ⟨L, hL⟩ : ∃ L, fwL B (N :: R) = L := ⟨_, rfl⟩
  rw [hL] at HI3
  have hLl : L.length = N := by
    have := fw_length hR
    rw [HN.out] at this
    rw [← hL]; exact this
  have HL := Lib.hid hL
  have HLL := Lib.hid hLl
  clear hR hat hi3 hb3 HS HB1 hL hLl
  go_wp2_with fail
  by_cases hout : n < 0 ∨ (N : Int) < n
  · refine (back_out _ L n _ HI3.out (by rw [HLL.out]; exact hout)).mono ?_
    rintro e w4 ⟨rfl, rfl⟩
    clear hout
    go_wp2_with fail
    go_ret
    exact ⟨rfl, HB3.out⟩
  · obtain ⟨q, rfl⟩ : ∃ k : Nat, n = k := ⟨n.toNat, by omega⟩
    have hqN : q ≤ N := by omega
    clear hout
    refine (back_any _ L q N _ HI3.out HLL.out (by omega) hqN).mono ?_
    rintro e w4 ⟨hb4, ⟨hok, g, hg, rfl, hblk⟩ | ⟨hbad, rfl⟩⟩
    · have hiff := bk_other (l := L) (p := p) HR.out (by rw [HN.out]; exact HL.out) (by rw [HN.out]; exact HAT.out) (n := q) (by rw [HLL.out]; exact hqN) hok
      have hxk := bk_lt HI3.out.1 q
      have hi4 := isBytes_blk hxk (by rw [bk_length, HLL.out]) (by unfold maxLen; omega) hblk
      have s1 := run_conv hi4
      have s2 := run_conv (HS3.out.below hb4)
      have q1 := str_head (o := decide (q = p)) hxk HX.out (by rw [decide_eq_true_eq]; exact hiff.symm)
      have HB4 := Lib.hid (HB3.out.trans (hb4.mono HB3.out.size))
      generalize str (bk L q) = sl at *
      generalize str B = sb at *
      clear hb4 hok hblk hiff hxk hi4
      by_cases hqp : q = p
      · subst hqp
        have q2 : ((q : Int) == (q : Int)) = true := beq_t rfl
        simp only [decide_true] at q1
        go_wp2_with fail
        go_ret
        exact ⟨rfl, HB4.out⟩
      · have q2 : ((q : Int) == (p : Int)) = false := beq_f (by omega)
        rw [decide_eq_false hqp] at q1
        go_wp2_with fail
        go_ret
        exact ⟨rfl, HB4.out⟩
    · have HB4 := Lib.hid (HB3.out.trans (hb4.mono HB3.out.size))
      clear hb4 hbad
      go_wp2_with fail
      go_ret
      exact ⟨rfl, HB4.out⟩
end Go.Proofs.Ytklpmpniempmcaa
