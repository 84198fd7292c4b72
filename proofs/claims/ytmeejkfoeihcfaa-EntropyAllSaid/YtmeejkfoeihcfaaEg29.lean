/- Texts put together: EntI. -/
import Derived.Test.YtmeejkfoeihcfaaEg28
set_option linter.unusedSimpArgs false
set_option linter.unusedVariables false
set_option maxRecDepth 100000
namespace Go.Proofs.Ytmeejkfoeihcfaa.S10
open Go.RowKit Pl
def rp (i : Nat) (B : List Nat) : List Nat := (List.replicate i B).flatten
theorem rp_zero (B : List Nat) : rp 0 B = [] := rfl
theorem rp_succ (i : Nat) (B : List Nat) : rp (i + 1) B = rp i B ++ B := by unfold rp; rw [List.replicate_succ']; simp
theorem rp_lt {B : List Nat} (h : ∀ x ∈ B, x < 256) (i : Nat) : ∀ x ∈ rp i B, x < 256 := by
  induction i with
  | zero => simp [rp_zero]
  | succ i ih =>
    rw [rp_succ]
    intro x hx
    rcases List.mem_append.1 hx with hx | hx
    · exact ih x hx
    · exact h x hx
attribute [local go_sem ↓] conv_eq
set_option maxHeartbeats 16000000 in
theorem entropyAll_walk (a : Option Addr) (len cap : Nat) (z : List Int) (T M : Int) (w : World) (hr : IsRow .u8 w a len cap z) (hT : (Lit.int .i64 T).wf = true) (hM : (Lit.int .i64 M).wf = true) :
    Calls Try.prog 3 #[.slice a len cap, .int .i64 T, .int .i64 M] w fun e w' => e = .returned (.bool true) ∧ Below w.heap.size w w' := by
  obtain ⟨hV, hlen⟩ := isBytes_row hr
  have HV := Lib.hid hV
  have hM' := i64_wf' hM
  have hT' := i64_wf' hT
  have hways : T < 1 ∨ (¬ T < 1 ∧ 5 < T) ∨ (∃ t : Nat, T = t ∧ 1 ≤ t ∧ t ≤ 5) := by
    rcases (show T < 1 ∨ (¬ T < 1 ∧ 5 < T) ∨ (1 ≤ T ∧ T ≤ 5) by omega) with h | h | h
    · exact .inl h
    · exact .inr (.inl h)
    · exact .inr (.inr ⟨T.toNat, by omega, by omega, by omega⟩)
  clear hr hV hM hT hT'
  rcases hways with hT1 | ⟨hT1, hT2⟩ | ⟨t, rfl, ht1, ht5⟩
  · go_enter Try.func3, Try.ntmps3
    go_wp2_with fail
    refine (begun10_any w).mono ?_
    rintro e w0 ⟨rfl, hb0⟩
    have HV0 := Lib.hid (HV.out.below hb0)
    have HB0 := Lib.hid hb0
    clear hb0 HV
    go_wp2_with fail
    refine (short_any _ _ 200 _ HV0.out (by omega)).mono ?_
    rintro e w1 ⟨v1, rfl, hi1, rfl⟩
    obtain ⟨B, hB⟩ : ∃ S, S = (bytesZ z len).take 200 := ⟨_, rfl⟩
    have hBl : B.length ≤ 200 := by rw [hB, List.length_take]; omega
    rw [← hB] at hi1
    obtain ⟨N, hN⟩ : ∃ n, B.length = n := ⟨_, rfl⟩
    obtain ⟨a1, c1, hv1, hc1, hm1⟩ := hi1.slice
    rw [hN] at hv1 hBl hc1
    subst hv1
    have HS := Lib.hid hi1
    have HN := Lib.hid hN
    have HX := Lib.hid hi1.1
    clear hi1 hB hlen hN HV0
    go_wp2_with fail
    have HO0 := Lib.hid (own_nil w0 w0.heap.size)
    go_loopw [8, 9] (fun s8 s9 wr => ∃ (i n : Nat), i ≤ 1 ∧ n ≤ 200 * i ∧ Hid ((rp i B).length = n) ∧ s9 = .int .i64 i ∧ wr.ownsRow w0.heap.size 5 1 s8 n (u8s (rp i B)) ∧ Below w0.heap.size w0 wr) (fun _ s9 _ => 1 - (intOf s9).toNat)
    case atStart => exact ⟨0, 0, by omega, by omega, Lib.hid rfl, rfl, by rw [rp_zero]; exact HO0.out, Below.refl _ _⟩
    case round =>
      obtain ⟨i, n, hi, hn, HL, rfl, ho, hb⟩ := hrel
      obtain ⟨sp, cp, rfl, hcp, hcm⟩ := ownsRow_slice ho
      have HO := Lib.hid ho
      have HB := Lib.hid hb
      have HSr := Lib.hid (HS.out.below hb)
      have hsz := hb.size
      clear ho hb HO0
      by_cases hlt : i < 1
      · have hltz : (i : Int) < 1 := by omega
        go_wp2_with (at_builtin; refine wpList_append_bytes rfl (.tmp 29) (.tmp 30) rfl w0.heap.size _ n _ rfl HO.out _ B rfl HSr.out (by rw [HN.out]; omega) hsz ?_; intro v' w2 hown hgr)
        have HO2 : Hid (w2.ownsRow w0.heap.size 5 1 v' (n + N) (u8s (rp (i + 1) B))) := Lib.hid (by rw [rp_succ, u8s_append, ← HN.out]; exact hown)
        have HB2 := Lib.hid (HB.out.grown hgr hsz (own_lt HO.out))
        clear hown hgr
        go_roundw
        case rel => exact ⟨i + 1, n + N, by omega, by omega, Lib.hid (by rw [rp_succ, List.length_append, HL.out, HN.out]), by first | rfl | go_num, HO2.out, HB2.out⟩
        case measure => simp [intOf]; omega
      · obtain rfl : i = 1 := by omega
        have hltz : ¬ (1 : Int) < 1 := by omega
        obtain ⟨X, hX⟩ : ∃ X, rp 1 B = X := ⟨_, rfl⟩
        have hXx := rp_lt HX.out 1
        rw [hX] at HL HO hXx
        have HIX := Lib.hid (isBytes_ownS hXx HL.out.symm (by rw [HL.out]; exact HO.out))
        have HBX := Lib.hid (HB0.out.trans (HB.out.mono HB0.out.size))
        have hn1000 : n ≤ 1000 := by omega
        clear hX hXx HO HB HSr HS HB0 hn hsz HX HN hcp hcm
        go_wp2_with fail
        refine (enc_got _ X _ HIX.out (by rw [HL.out]; omega)).mono ?_
        rintro e w2 ⟨R, g, C, m, hE, rfl, hm, hg, _, hi2, hb2⟩
        rw [HL.out] at hm
        have HB2 := Lib.hid (HBX.out.trans (hb2.out.mono HBX.out.size))
        have HI2 := Lib.hid (HIX.out.below hb2.out)
        clear hg hb2 HBX HIX
        go_wp2_with fail
        refine (dec_ok hE.out (by omega) HL.out _ n _ hi2.out (Nat.le_refl _) (by omega)).mono ?_
        rintro e w3 ⟨sp3, cap3, rfl, hi3, hb3⟩
        have HB3 := Lib.hid (HB2.out.trans (hb3.out.mono HB2.out.size))
        have HC3 := Lib.hid (hi2.out.below hb3.out)
        have s1 := run_conv hi3.out
        have s2 := run_conv (HI2.out.below hb3.out)
        have q : ((str X).toList != (str X).toList) = false := by simp
        have g1 : ¬ ((n : Int) + (n : Int) / 8 + 400 < (m : Int)) := by omega
        have g2 : ¬ ((n : Int) + ((n / 8 : Nat) : Int) + 400 < (m : Int)) := by omega
        have g3 : ¬ (((n + n / 8 + 400 : Nat) : Int) < (m : Int)) := by omega
        clear hb3 hi3 hi2 HB2 HI2
        generalize str X = sx at *
        by_cases k1 : 0 ≤ M
        · by_cases k2 : M < (n : Int)
          · obtain ⟨mo, rfl⟩ : ∃ mo : Nat, M = mo := ⟨M.toNat, by omega⟩
            have hdb := fun W v (h : IsBytes W v C) => dec_big hE.out (by omega) v mo W h (by rw [HL.out]; omega) (by omega)
            have HDB := Lib.hid hdb
            clear hdb hE hm
            go_wp2_with fail
            refine (HDB.out _ _ HC3.out).mono ?_
            rintro e w4 ⟨sp4, cap4, rfl, hb4⟩
            have HB4 := Lib.hid (HB3.out.trans (hb4.out.mono HB3.out.size))
            clear hb4 HDB HC3 HB3
            go_wp2
            go_ret
            exact ⟨rfl, HB4.out⟩
          · clear hE hm HC3
            go_wp2
            go_ret
            exact ⟨rfl, HB3.out⟩
        · clear hE hm HC3
          go_wp2
          go_ret
          exact ⟨rfl, HB3.out⟩
  · go_enter Try.func3, Try.ntmps3
    go_wp2_with fail
    refine (begun10_any w).mono ?_
    rintro e w0 ⟨rfl, hb0⟩
    have HV0 := Lib.hid (HV.out.below hb0)
    have HB0 := Lib.hid hb0
    clear hb0 HV
    go_wp2_with fail
    refine (short_any _ _ 200 _ HV0.out (by omega)).mono ?_
    rintro e w1 ⟨v1, rfl, hi1, rfl⟩
    obtain ⟨B, hB⟩ : ∃ S, S = (bytesZ z len).take 200 := ⟨_, rfl⟩
    have hBl : B.length ≤ 200 := by rw [hB, List.length_take]; omega
    rw [← hB] at hi1
    obtain ⟨N, hN⟩ : ∃ n, B.length = n := ⟨_, rfl⟩
    obtain ⟨a1, c1, hv1, hc1, hm1⟩ := hi1.slice
    rw [hN] at hv1 hBl hc1
    subst hv1
    have HS := Lib.hid hi1
    have HN := Lib.hid hN
    have HX := Lib.hid hi1.1
    clear hi1 hB hlen hN HV0
    go_wp2_with fail
    have HO0 := Lib.hid (own_nil w0 w0.heap.size)
    go_loopw [8, 9] (fun s8 s9 wr => ∃ (i n : Nat), i ≤ 1 ∧ n ≤ 200 * i ∧ Hid ((rp i B).length = n) ∧ s9 = .int .i64 i ∧ wr.ownsRow w0.heap.size 5 1 s8 n (u8s (rp i B)) ∧ Below w0.heap.size w0 wr) (fun _ s9 _ => 1 - (intOf s9).toNat)
    case atStart => exact ⟨0, 0, by omega, by omega, Lib.hid rfl, rfl, by rw [rp_zero]; exact HO0.out, Below.refl _ _⟩
    case round =>
      obtain ⟨i, n, hi, hn, HL, rfl, ho, hb⟩ := hrel
      obtain ⟨sp, cp, rfl, hcp, hcm⟩ := ownsRow_slice ho
      have HO := Lib.hid ho
      have HB := Lib.hid hb
      have HSr := Lib.hid (HS.out.below hb)
      have hsz := hb.size
      clear ho hb HO0
      by_cases hlt : i < 1
      · have hltz : (i : Int) < 1 := by omega
        go_wp2_with (at_builtin; refine wpList_append_bytes rfl (.tmp 29) (.tmp 30) rfl w0.heap.size _ n _ rfl HO.out _ B rfl HSr.out (by rw [HN.out]; omega) hsz ?_; intro v' w2 hown hgr)
        have HO2 : Hid (w2.ownsRow w0.heap.size 5 1 v' (n + N) (u8s (rp (i + 1) B))) := Lib.hid (by rw [rp_succ, u8s_append, ← HN.out]; exact hown)
        have HB2 := Lib.hid (HB.out.grown hgr hsz (own_lt HO.out))
        clear hown hgr
        go_roundw
        case rel => exact ⟨i + 1, n + N, by omega, by omega, Lib.hid (by rw [rp_succ, List.length_append, HL.out, HN.out]), by first | rfl | go_num, HO2.out, HB2.out⟩
        case measure => simp [intOf]; omega
      · obtain rfl : i = 1 := by omega
        have hltz : ¬ (1 : Int) < 1 := by omega
        obtain ⟨X, hX⟩ : ∃ X, rp 1 B = X := ⟨_, rfl⟩
        have hXx := rp_lt HX.out 1
        rw [hX] at HL HO hXx
        have HIX := Lib.hid (isBytes_ownS hXx HL.out.symm (by rw [HL.out]; exact HO.out))
        have HBX := Lib.hid (HB0.out.trans (HB.out.mono HB0.out.size))
        have hn1000 : n ≤ 1000 := by omega
        clear hX hXx HO HB HSr HS HB0 hn hsz HX HN hcp hcm
        go_wp2_with fail
        refine (enc_got _ X _ HIX.out (by rw [HL.out]; omega)).mono ?_
        rintro e w2 ⟨R, g, C, m, hE, rfl, hm, hg, _, hi2, hb2⟩
        rw [HL.out] at hm
        have HB2 := Lib.hid (HBX.out.trans (hb2.out.mono HBX.out.size))
        have HI2 := Lib.hid (HIX.out.below hb2.out)
        clear hg hb2 HBX HIX
        go_wp2_with fail
        refine (dec_ok hE.out (by omega) HL.out _ n _ hi2.out (Nat.le_refl _) (by omega)).mono ?_
        rintro e w3 ⟨sp3, cap3, rfl, hi3, hb3⟩
        have HB3 := Lib.hid (HB2.out.trans (hb3.out.mono HB2.out.size))
        have HC3 := Lib.hid (hi2.out.below hb3.out)
        have s1 := run_conv hi3.out
        have s2 := run_conv (HI2.out.below hb3.out)
        have q : ((str X).toList != (str X).toList) = false := by simp
        have g1 : ¬ ((n : Int) + (n : Int) / 8 + 400 < (m : Int)) := by omega
        have g2 : ¬ ((n : Int) + ((n / 8 : Nat) : Int) + 400 < (m : Int)) := by omega
        have g3 : ¬ (((n + n / 8 + 400 : Nat) : Int) < (m : Int)) := by omega
        clear hb3 hi3 hi2 HB2 HI2
        generalize str X = sx at *
        by_cases k1 : 0 ≤ M
        · by_cases k2 : M < (n : Int)
          · obtain ⟨mo, rfl⟩ : ∃ mo : Nat, M = mo := ⟨M.toNat, by omega⟩
            have hdb := fun W v (h : IsBytes W v C) => dec_big hE.out (by omega) v mo W h (by rw [HL.out]; omega) (by omega)
            have HDB := Lib.hid hdb
            clear hdb hE hm
            go_wp2_with fail
            refine (HDB.out _ _ HC3.out).mono ?_
            rintro e w4 ⟨sp4, cap4, rfl, hb4⟩
            have HB4 := Lib.hid (HB3.out.trans (hb4.out.mono HB3.out.size))
            clear hb4 HDB HC3 HB3
            go_wp2
            go_ret
            exact ⟨rfl, HB4.out⟩
          · clear hE hm HC3
            go_wp2
            go_ret
            exact ⟨rfl, HB3.out⟩
        · clear hE hm HC3
          go_wp2
          go_ret
          exact ⟨rfl, HB3.out⟩
  · have ht1z : ¬ (t : Int) < 1 := by omega
    have ht5z : ¬ (5 : Int) < (t : Int) := by omega
    go_enter Try.func3, Try.ntmps3
    go_wp2_with fail
    refine (begun10_any w).mono ?_
    rintro e w0 ⟨rfl, hb0⟩
    have HV0 := Lib.hid (HV.out.below hb0)
    have HB0 := Lib.hid hb0
    clear hb0 HV
    go_wp2_with fail
    refine (short_any _ _ 200 _ HV0.out (by omega)).mono ?_
    rintro e w1 ⟨v1, rfl, hi1, rfl⟩
    obtain ⟨B, hB⟩ : ∃ S, S = (bytesZ z len).take 200 := ⟨_, rfl⟩
    have hBl : B.length ≤ 200 := by rw [hB, List.length_take]; omega
    rw [← hB] at hi1
    obtain ⟨N, hN⟩ : ∃ n, B.length = n := ⟨_, rfl⟩
    obtain ⟨a1, c1, hv1, hc1, hm1⟩ := hi1.slice
    rw [hN] at hv1 hBl hc1
    subst hv1
    have HS := Lib.hid hi1
    have HN := Lib.hid hN
    have HX := Lib.hid hi1.1
    clear hi1 hB hlen hN HV0
    go_wp2_with fail
    have HO0 := Lib.hid (own_nil w0 w0.heap.size)
    go_loopw [8, 9] (fun s8 s9 wr => ∃ (i n : Nat), i ≤ t ∧ n ≤ 200 * i ∧ Hid ((rp i B).length = n) ∧ s9 = .int .i64 i ∧ wr.ownsRow w0.heap.size 5 1 s8 n (u8s (rp i B)) ∧ Below w0.heap.size w0 wr) (fun _ s9 _ => t - (intOf s9).toNat)
    case atStart => exact ⟨0, 0, by omega, by omega, Lib.hid rfl, rfl, by rw [rp_zero]; exact HO0.out, Below.refl _ _⟩
    case round =>
      obtain ⟨i, n, hi, hn, HL, rfl, ho, hb⟩ := hrel
      obtain ⟨sp, cp, rfl, hcp, hcm⟩ := ownsRow_slice ho
      have HO := Lib.hid ho
      have HB := Lib.hid hb
      have HSr := Lib.hid (HS.out.below hb)
      have hsz := hb.size
      clear ho hb HO0
      by_cases hlt : i < t
      · have hltz : (i : Int) < (t : Int) := by omega
        go_wp2_with (at_builtin; refine wpList_append_bytes rfl (.tmp 29) (.tmp 30) rfl w0.heap.size _ n _ rfl HO.out _ B rfl HSr.out (by rw [HN.out]; omega) hsz ?_; intro v' w2 hown hgr)
        have HO2 : Hid (w2.ownsRow w0.heap.size 5 1 v' (n + N) (u8s (rp (i + 1) B))) := Lib.hid (by rw [rp_succ, u8s_append, ← HN.out]; exact hown)
        have HB2 := Lib.hid (HB.out.grown hgr hsz (own_lt HO.out))
        clear hown hgr
        go_roundw
        case rel => exact ⟨i + 1, n + N, by omega, by omega, Lib.hid (by rw [rp_succ, List.length_append, HL.out, HN.out]), by first | rfl | go_num, HO2.out, HB2.out⟩
        case measure => simp [intOf]; omega
      · obtain rfl : i = t := by omega
        have hltz : ¬ ((i : Int) : Int) < (i : Int) := by omega
        obtain ⟨X, hX⟩ : ∃ X, rp i B = X := ⟨_, rfl⟩
        have hXx := rp_lt HX.out i
        rw [hX] at HL HO hXx
        have HIX := Lib.hid (isBytes_ownS hXx HL.out.symm (by rw [HL.out]; exact HO.out))
        have HBX := Lib.hid (HB0.out.trans (HB.out.mono HB0.out.size))
        have hn1000 : n ≤ 1000 := by omega
        clear hX hXx HO HB HSr HS HB0 hn hsz HX HN hcp hcm
        go_wp2_with fail
        refine (enc_got _ X _ HIX.out (by rw [HL.out]; omega)).mono ?_
        rintro e w2 ⟨R, g, C, m, hE, rfl, hm, hg, _, hi2, hb2⟩
        rw [HL.out] at hm
        have HB2 := Lib.hid (HBX.out.trans (hb2.out.mono HBX.out.size))
        have HI2 := Lib.hid (HIX.out.below hb2.out)
        clear hg hb2 HBX HIX
        go_wp2_with fail
        refine (dec_ok hE.out (by omega) HL.out _ n _ hi2.out (Nat.le_refl _) (by omega)).mono ?_
        rintro e w3 ⟨sp3, cap3, rfl, hi3, hb3⟩
        have HB3 := Lib.hid (HB2.out.trans (hb3.out.mono HB2.out.size))
        have HC3 := Lib.hid (hi2.out.below hb3.out)
        have s1 := run_conv hi3.out
        have s2 := run_conv (HI2.out.below hb3.out)
        have q : ((str X).toList != (str X).toList) = false := by simp
        have g1 : ¬ ((n : Int) + (n : Int) / 8 + 400 < (m : Int)) := by omega
        have g2 : ¬ ((n : Int) + ((n / 8 : Nat) : Int) + 400 < (m : Int)) := by omega
        have g3 : ¬ (((n + n / 8 + 400 : Nat) : Int) < (m : Int)) := by omega
        clear hb3 hi3 hi2 HB2 HI2
        generalize str X = sx at *
        by_cases k1 : 0 ≤ M
        · by_cases k2 : M < (n : Int)
          · obtain ⟨mo, rfl⟩ : ∃ mo : Nat, M = mo := ⟨M.toNat, by omega⟩
            have hdb := fun W v (h : IsBytes W v C) => dec_big hE.out (by omega) v mo W h (by rw [HL.out]; omega) (by omega)
            have HDB := Lib.hid hdb
            clear hdb hE hm
            go_wp2_with fail
            refine (HDB.out _ _ HC3.out).mono ?_
            rintro e w4 ⟨sp4, cap4, rfl, hb4⟩
            have HB4 := Lib.hid (HB3.out.trans (hb4.out.mono HB3.out.size))
            clear hb4 HDB HC3 HB3
            go_wp2
            go_ret
            exact ⟨rfl, HB4.out⟩
          · clear hE hm HC3
            go_wp2
            go_ret
            exact ⟨rfl, HB3.out⟩
        · clear hE hm HC3
          go_wp2
          go_ret
          exact ⟨rfl, HB3.out⟩
end Go.Proofs.Ytmeejkfoeihcfaa.S10
