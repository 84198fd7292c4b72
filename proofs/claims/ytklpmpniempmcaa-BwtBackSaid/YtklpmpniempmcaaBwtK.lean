/- BwtBack, walked. -/
import Derived.Test.YtklpmpniempmcaaBwtE
set_option linter.unusedSimpArgs false
set_option linter.unusedVariables false
namespace Go.Proofs.Ytklpmpniempmcaa
open Go.RowKit Pl
/-- Inverse, wherever the place: the text, or none -/
theorem inverse_any (v : Value) (l : List Nat) (a : Int) (N : Nat) (w : World) (hv : IsBytes w v l) (hN : l.length = N) (hB : N ≤ 900000) :
    Calls Try.prog 20 #[v, .int .i64 a] w fun e w' => Below w.heap.size w w' ∧ ((∃ q : Nat, a = q ∧ q ≤ N ∧ okW l q = true ∧ ∃ v', e = .returned (.tuple #[v', .bool true]) ∧ IsBytes w' v' (bk l q)) ∨ ((∀ q : Nat, a = q → q ≤ N → okW l q = false) ∧ e = .returned (.tuple #[.slice none 0 0, .bool false]))) := by
  by_cases h0 : N = 0
  · subst h0
    obtain rfl : l = [] := List.eq_nil_of_length_eq_zero hN
    refine (inv_nil v a w hv).mono ?_
    rintro e w' ⟨rfl, rfl⟩
    by_cases ha : a = 0
    · subst ha
      exact ⟨Below.refl _ _, .inl ⟨0, rfl, by omega, rfl, _, rfl, isBytes_nil w⟩⟩
    · exact ⟨Below.refl _ _, .inr ⟨fun q h1 h2 => absurd h1 (by omega), by rw [decide_eq_false ha]⟩⟩
  · by_cases hout : a < 1 ∨ (N : Int) < a
    · refine (inv_out v l a w hv (by omega) (by rw [hN]; exact hout)).mono ?_
      rintro e w' ⟨rfl, rfl⟩
      refine ⟨Below.refl _ _, .inr ⟨fun q h1 h2 => ?_, rfl⟩⟩
      obtain rfl : q = 0 := by omega
      cases h : okW l 0 with
      | false => rfl
      | true => exact absurd (show Pl.wr l 0 0 = 0 from rfl) (okW_iff.1 h 0 (by omega))
    · obtain ⟨q, rfl⟩ : ∃ k : Nat, a = k := ⟨a.toNat, by omega⟩
      refine (inv_in v l q N w hv hN hB (by omega) (by omega)).mono ?_
      rintro e w' ⟨hb, ⟨hok, g, rfl, hi⟩ | ⟨hbad, rfl⟩⟩
      · exact ⟨hb, .inl ⟨q, rfl, by omega, hok, _, rfl, hi⟩⟩
      · exact ⟨hb, .inr ⟨fun q' h1 _ => by obtain rfl : q' = q := by omega
                                           exact hbad, rfl⟩⟩
/-- Back, wherever the place -/
theorem back_all (v : Value) (l : List Nat) (a : Int) (N : Nat) (w : World) (hv : IsBytes w v l) (hN : l.length = N) (hB : N ≤ 900000) :
    Calls Try.prog 19 #[v, .int .i64 a] w fun e w' => Below w.heap.size w w' ∧ ((∃ q : Nat, a = q ∧ q ≤ N ∧ okW l q = true ∧ ∃ g, e = .returned (.tuple #[.slice (some ⟨g, 0, none⟩) N N, .int .i64 0]) ∧ IsBytes w' (.slice (some ⟨g, 0, none⟩) N N) (bk l q)) ∨ ((∀ q : Nat, a = q → q ≤ N → okW l q = false) ∧ e = .returned (.tuple #[.slice none 0 0, .int .i64 6]))) := by
  have hx := hv.1
  by_cases hout : a < 0 ∨ (N : Int) < a
  · refine (back_out v l a w hv (by rw [hN]; exact hout)).mono ?_
    rintro e w' ⟨rfl, rfl⟩
    exact ⟨Below.refl _ _, .inr ⟨fun q h1 h2 => absurd h1 (by omega), rfl⟩⟩
  · obtain ⟨q, rfl⟩ : ∃ k : Nat, a = k := ⟨a.toNat, by omega⟩
    refine (back_any v l q N w hv hN (by omega) (by omega)).mono ?_
    rintro e w' ⟨hb, ⟨hok, g, hg, rfl, hblk⟩ | ⟨hbad, rfl⟩⟩
    · exact ⟨hb, .inl ⟨q, rfl, by omega, hok, g, rfl, isBytes_blk (bk_lt hx q) (by rw [bk_length, hN]) (by unfold maxLen; omega) hblk⟩⟩
    · exact ⟨hb, .inr ⟨fun q' h1 _ => by obtain rfl : q' = q := by omega
                                         exact hbad, rfl⟩⟩
attribute [local go_sem ↓] conv_eq
set_option maxHeartbeats 8000000 in
set_option maxRecDepth 100000 in
theorem bwtBack_walk (a : Option Addr) (len cap : Nat) (z : List Int) (n : Int) (w : World) (hr : IsRow .u8 w a len cap z) (wn : (Lit.int .i64 n).wf = true) :
    Calls Try.prog 5 #[.slice a len cap, .int .i64 n] w fun e w' => e = .returned (.bool true) ∧ Below w.heap.size w w' := by
  obtain ⟨hV, hlen⟩ := isBytes_row hr
  have HV := Lib.hid hV
  clear hr hV wn
  go_enter Try.func5, Try.ntmps5
  go_wp2_with fail
  refine (begun9_any _).mono ?_
  rintro e w1 ⟨rfl, hb1⟩
  have HV1 := Lib.hid (HV.out.below hb1)
  have HB1 := Lib.hid hb1
  clear hb1 HV
  go_wp2_with fail
  refine (short_any _ _ 200 _ HV1.out (by omega)).mono ?_
  rintro e w2 ⟨v2, rfl, hi2, rfl⟩
  obtain ⟨L, hL⟩ : ∃ S, S = (bytesZ z len).take 200 := ⟨_, rfl⟩
  have hLl : L.length ≤ 200 := by rw [hL, List.length_take]; omega
  rw [← hL] at hi2
  obtain ⟨N, hN⟩ : ∃ n, L.length = n := ⟨_, rfl⟩
  obtain ⟨a2, c2, hv2, hc2, hm2⟩ := hi2.slice
  rw [hN] at hv2 hLl hc2
  subst hv2
  have HS := Lib.hid hi2
  have HN := Lib.hid hN
  clear hi2 hL HV1 hlen hN
  go_wp2_with fail
  refine (back_all _ L n N _ HS.out HN.out (by omega)).mono ?_
  rintro e w3 ⟨hb3, ⟨q, rfl, hq, hok, g, rfl, hi3⟩ | ⟨hbad, rfl⟩⟩
  · have HI3 := Lib.hid hi3
    have HOK := Lib.hid hok
    have HS3 := Lib.hid (HS.out.below hb3)
    have HB3 := Lib.hid (HB1.out.trans (hb3.mono HB1.out.size))
    clear hi3 hok hb3 HS HB1
    go_wp2_with fail
    refine (inverse_any _ L q N _ HS3.out HN.out (by omega)).mono ?_
    rintro e w4 ⟨hb4, ⟨q', hqq, hq', hok', v4, rfl, hi4⟩ | ⟨hbad, _⟩⟩
    · obtain rfl : q' = q := by omega
      have s1 := run_conv (HI3.out.below hb4)
      have s2 := run_conv hi4
      have HB4 := Lib.hid (HB3.out.trans (hb4.mono HB3.out.size))
      have q1 : ((str (bk L q')).toList == (str (bk L q')).toList) = true := by simp
      generalize str (bk L q') = sl at *
      obtain ⟨a4, c4, rfl, _, _⟩ := hi4.slice
      clear hb4 hok' hi4 hqq HI3 HS3 HB3
      go_wp2_with fail
      go_ret
      exact ⟨rfl, HB4.out⟩
    · have := hbad q rfl hq
      rw [HOK.out] at this
      simp at this
  · have HBAD := Lib.hid hbad
    have HS3 := Lib.hid (HS.out.below hb3)
    have HB3 := Lib.hid (HB1.out.trans (hb3.mono HB1.out.size))
    clear hbad hb3 HS HB1
    go_wp2_with fail
    refine (inverse_any _ L n N _ HS3.out HN.out (by omega)).mono ?_
    rintro e w4 ⟨hb4, ⟨q', rfl, hq', hok', v4, rfl, hi4⟩ | ⟨hbad, rfl⟩⟩
    · have := HBAD.out q' rfl hq'
      rw [hok'] at this
      simp at this
    · have HB4 := Lib.hid (HB3.out.trans (hb4.mono HB3.out.size))
      clear hbad hb4 HBAD HS3 HB3
      go_wp2_with fail
      go_ret
      exact ⟨rfl, HB4.out⟩
end Go.Proofs.Ytklpmpniempmcaa
