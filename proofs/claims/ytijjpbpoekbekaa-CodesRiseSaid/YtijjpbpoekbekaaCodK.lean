/- The law CodesRise, walked. -/
import Derived.Test.YtijjpbpoekbekaaCodJ
set_option linter.unusedSimpArgs false
set_option linter.unusedVariables false
namespace Go.Proofs.Ytijjpbpoekbekaa
open Go.RowKit Pl
theorem codes_rise {F : List Int} (hok : okL F) {i k n m : Nat} (hi : i < F.length) (hk : k < F.length) (hik : i < k) (hn : F.getD i 0 = n) (hm : F.getD k 0 = m) (h0 : 0 < n) (h1 : 0 < m) :
    (n ≤ m → codeN F i * 2 ^ (15 - n) < codeN F k * 2 ^ (15 - m)) ∧ (m < n → codeN F k * 2 ^ (15 - m) < codeN F i * 2 ^ (15 - n)) := by
  have hn15 := (Pl.getD_in hok.2.1 i).2
  have hm15 := (Pl.getD_in hok.2.1 k).2
  constructor
  · intro h
    by_cases e : n = m
    · subst e
      exact Nat.mul_lt_mul_of_pos_right (code_same hik hn hm) (Nat.two_pow_pos _)
    · have := code_longer hi hn hm h0 (by omega) (by omega)
      rw [Nat.add_mul] at this
      have := Nat.two_pow_pos (15 - n)
      omega
  · intro h
    have := code_longer hk hm hn h1 h (by omega)
    rw [Nat.add_mul] at this
    have := Nat.two_pow_pos (15 - m)
    omega
theorem code_top {F : List Int} (hok : okL F) {i n : Nat} (hi : i < F.length) (hn : F.getD i 0 = n) (h0 : 0 < n) : codeN F i * 2 ^ (15 - n) < 32768 := by
  have hn15 := (Pl.getD_in hok.2.1 i).2
  have h := code_hi hi hn h0 (by omega)
  have h2 := upT_mono F F.length (show n ≤ 15 by omega)
  have h3 := hok.2.2
  rw [kr_upT] at h3
  rw [Nat.add_mul] at h
  have := Nat.two_pow_pos (15 - n)
  omega
theorem shl_fit {X p A : Nat} (h : A = X * 2 ^ p) (hA : A < 32768) : IntKind.u32.wrap ((X : Int) * 2 ^ p) = (A : Int) ∧ (X : Int) * 2 ^ p = (A : Int) := by
  have e : (X : Int) * 2 ^ p = (A : Int) := by rw [h]; simp
  rw [e]
  exact ⟨by rw [IntKind.wrap_u32]; omega, rfl⟩
set_option maxHeartbeats 8000000 in
set_option maxRecDepth 100000 in
theorem codesRise_walk (a : Option Addr) (len cap : Nat) (z : List Int) (w : World) (hr : IsRow .i64 w a len cap z) :
    Calls Try.prog 8 #[.slice a len cap] w fun e w' => e = .returned (.bool true) ∧ Below w.heap.size w w' := by
  obtain ⟨F0, hF0, hI, hcap, hmax, _, _⟩ := isInts_in hr
  clear hr
  obtain ⟨m, hm⟩ : ∃ m, m = min len 60 := ⟨_, rfl⟩
  have hcut := isInts_cut hI hF0 m (by omega)
  generalize F0.take m = F at hcut
  have HI := Lib.hid hcut.1
  have HM : Hid (m = F.length) := Lib.hid hcut.2.symm
  unfold maxLen at hmax
  have hm60 : m ≤ 60 := by omega
  clear hI hcut hF0
  by_cases hl : 60 < len
  · have h1 : (60 : Int) ≤ (cap : Int) := by omega
    obtain rfl : m = 60 := by omega
    clear hm
    go_enter Try.func8, Try.ntmps8
    go_wp2_with fail
    refine (begun_any w).mono ?_
    rintro e w1 ⟨rfl, hb1⟩
    have HB1 := Lib.hid hb1
    have HI1 := Lib.hid (HI.out.below hb1)
    clear hb1 HI
    go_wp2_with fail
    refine (of_any _ F w1 HI1.out (by rw [← HM.out]; omega)).mono ?_
    rintro e w2 ⟨hb2, hof⟩
    have HB2 := Lib.hid (HB1.out.trans (hb2.mono HB1.out.size))
    have HI2 := Lib.hid (HI1.out.below hb2)
    obtain ⟨hok, c, rfl, hcw, hc⟩ | ⟨hok, rfl⟩ := hof
    rotate_left
    · have HOK := Lib.hid hok
      clear hb2 hok HB1 HI1
      go_wp2_with fail
      refine (codes_ref _ F w2 HI2.out (by rw [← HM.out]; omega)).mono ?_
      rintro e w3 ⟨hb3, ⟨hn, _⟩ | ⟨_, rfl⟩⟩
      · exact absurd hn HOK.out
      have HB3 := Lib.hid (HB2.out.trans (hb3.mono HB2.out.size))
      clear hb3 HB2
      go_wp2_with fail
      go_ret
      exact ⟨rfl, HB3.out⟩
    have HOK := Lib.hid hok
    have HC2 := Lib.hid hc
    rw [← HM.out]
    clear hb2 hok hc hcw HB1 HI1
    go_wp2_with fail
    refine (codes_ref _ F w2 HI2.out (by rw [← HM.out]; omega)).mono ?_
    rintro e w3 ⟨hb3, ⟨_, d, rfl, _, _⟩ | ⟨hn, _⟩⟩
    rotate_left
    · exact absurd HOK.out hn
    have HB3 := Lib.hid (HB2.out.trans (hb3.mono HB2.out.size))
    have HC3 := Lib.hid (HC2.out.below hb3 HC2.out.lt)
    rw [← HM.out]
    clear hb3 HB2 HI2 HC2
    have hmm : ((60 : Int) != (60 : Int)) = false := bne_f rfl
    go_wp2_with fail
    clear hmm
    go_loopw [8] (fun x wr => ∃ i : Nat, i ≤ 60 ∧ x = .int .i64 i ∧ ∃ q, wr = w3.drewN q) (fun x _ => 60 - (intOf x).toNat)
    case atStart => exact ⟨0, by omega, rfl, 0, rfl⟩
    case round =>
      obtain ⟨i, hi, rfl, q, rfl⟩ := hrel
      by_cases hlt : i < 60
      · have hltI : (i : Int) < (60 : Int) := by omega
        obtain ⟨n, X, hn, hn15, hX, hX2, e0, e1⟩ := cd_cells HOK.out HC3.out (i := i) (by rw [← HM.out]; exact hlt)
        have HN := Lib.hid (And.intro hn hX)
        clear hn hX
        go_wp2_with fail
        go_loopw [9] (fun x wr => ∃ k : Nat, i < k ∧ k ≤ 60 ∧ x = .int .i64 k ∧ ∃ q, wr = w3.drewN q) (fun x _ => 60 - (intOf x).toNat)
        case atStart => exact ⟨i + 1, by omega, by omega, by go_num, _, rfl⟩
        case round =>
          obtain ⟨k, hik, hk, rfl, q, rfl⟩ := hrel
          by_cases hlk : k < 60
          · have hlkI : (k : Int) < (60 : Int) := by omega
            by_cases h0 : n = 0
            · subst h0
              go_wp2_with fail
              refine ⟨⟨k + 1, by omega, by omega, by first | rfl | go_num, _, rfl⟩, ?_⟩
              simp only [intOf_int]; omega
            · have h0f : ((n : Int) == 0) = false := beq_f (by omega)
              obtain ⟨m2, Y, hm2, hm15, hY, hY2, d0, d1⟩ := cd_cells HOK.out HC3.out (i := k) (by rw [← HM.out]; exact hlk)
              have HM2 := Lib.hid (And.intro hm2 hY)
              clear hm2 hY
              by_cases h2 : m2 = 0
              · subst h2
                go_wp2_with fail
                refine ⟨⟨k + 1, by omega, by omega, by first | rfl | go_num, _, rfl⟩, ?_⟩
                simp only [intOf_int]; omega
              · have h2f : ((m2 : Int) == 0) = false := beq_f (by omega)
                have hri := codes_rise HOK.out (by rw [← HM.out]; exact hlt) (by rw [← HM.out]; exact hlk) hik HN.out.1 HM2.out.1 (by omega) (by omega)
                have ht1 := code_top HOK.out (by rw [← HM.out]; exact hlt) HN.out.1 (by omega)
                have ht2 := code_top HOK.out (by rw [← HM.out]; exact hlk) HM2.out.1 (by omega)
                rw [← HN.out.2 (by omega), ← HM2.out.2 (by omega)] at hri
                rw [← HN.out.2 (by omega)] at ht1
                rw [← HM2.out.2 (by omega)] at ht2
                obtain ⟨p1, hp1⟩ : ∃ p, p = 15 - n := ⟨_, rfl⟩
                obtain ⟨p2, hp2⟩ : ∃ p, p = 15 - m2 := ⟨_, rfl⟩
                rw [← hp1] at hri ht1
                rw [← hp2] at hri ht2
                obtain ⟨A, hA⟩ : ∃ A, A = X * 2 ^ p1 := ⟨_, rfl⟩
                obtain ⟨B, hB⟩ : ∃ B, B = Y * 2 ^ p2 := ⟨_, rfl⟩
                rw [← hA] at hri ht1
                rw [← hB] at hri ht2
                obtain ⟨s1, s2⟩ := shl_fit hA ht1
                obtain ⟨s3, s4⟩ := shl_fit hB ht2
                have f1 : wrap64 (15 - (n : Int)) = (p1 : Int) := by unfold wrap64; omega
                have f2 : IntKind.u64.wrap (15 - (n : Int)) = (p1 : Int) := by rw [IntKind.wrap_u64]; omega
                have f3 : 15 - (n : Int) = (p1 : Int) := by omega
                have g1 : wrap64 (15 - (m2 : Int)) = (p2 : Int) := by unfold wrap64; omega
                have g2 : IntKind.u64.wrap (15 - (m2 : Int)) = (p2 : Int) := by rw [IntKind.wrap_u64]; omega
                have g3 : 15 - (m2 : Int) = (p2 : Int) := by omega
                have hp1' : p1 ≤ 15 := by omega
                have hp2' : p2 ≤ 15 := by omega
                have HRI := Lib.hid hri
                clear hri hA hB hp1 hp2
                go_wp2_with fail
                go_quiet (fail)
                go_wp2_with fail
                by_cases hnm : n ≤ m2
                · have hAB : A < B := HRI.out.1 hnm
                  have hnI : (n : Int) ≤ (m2 : Int) := by omega
                  have hABI : (A : Int) < (B : Int) := by omega
                  have hnd : decide ((n : Int) ≤ (m2 : Int)) = true := decide_eq_true hnI
                  have hd1 : decide ((B : Int) ≤ (A : Int)) = false := decide_eq_false (by omega)
                  have hd2 : decide ((m2 : Int) < (n : Int)) = false := decide_eq_false (by omega)
                  have hd3 : decide (B ≤ A) = false := decide_eq_false (by omega)
                  have hd4 : decide (m2 < n) = false := decide_eq_false (by omega)
                  go_quiet (fail)
                  go_wp2_with fail
                  refine ⟨⟨k + 1, by omega, by omega, by first | rfl | go_num, _, rfl⟩, ?_⟩
                  simp only [intOf_int]; omega
                · have hAB : B < A := HRI.out.2 (by omega)
                  have hnI : (m2 : Int) < (n : Int) := by omega
                  have hABI : (B : Int) < (A : Int) := by omega
                  have hnd : decide ((m2 : Int) < (n : Int)) = true := decide_eq_true hnI
                  have hd1 : decide ((A : Int) ≤ (B : Int)) = false := decide_eq_false (by omega)
                  have hd2 : decide ((n : Int) ≤ (m2 : Int)) = false := decide_eq_false (by omega)
                  have hd3 : decide (A ≤ B) = false := decide_eq_false (by omega)
                  have hd4 : decide (n ≤ m2) = false := decide_eq_false (by omega)
                  go_quiet (fail)
                  go_wp2_with fail
                  refine ⟨⟨k + 1, by omega, by omega, by first | rfl | go_num, _, rfl⟩, ?_⟩
                  simp only [intOf_int]; omega
          · obtain rfl : k = 60 := by omega
            go_wp2_with fail
            refine ⟨⟨i + 1, by omega, by first | rfl | go_num, _, rfl⟩, ?_⟩
            simp only [intOf_int]; omega
      · obtain rfl : i = 60 := by omega
        go_wp2_with fail
        go_ret
        exact ⟨rfl, bel_drewN HB3.out q⟩
  · obtain rfl : m = len := by omega
    clear hm
    go_enter Try.func8, Try.ntmps8
    go_wp2_with fail
    refine (begun_any w).mono ?_
    rintro e w1 ⟨rfl, hb1⟩
    have HB1 := Lib.hid hb1
    have HI1 := Lib.hid (HI.out.below hb1)
    clear hb1 HI
    go_wp2_with fail
    refine (of_any _ F w1 HI1.out (by rw [← HM.out]; omega)).mono ?_
    rintro e w2 ⟨hb2, hof⟩
    have HB2 := Lib.hid (HB1.out.trans (hb2.mono HB1.out.size))
    have HI2 := Lib.hid (HI1.out.below hb2)
    obtain ⟨hok, c, rfl, hcw, hc⟩ | ⟨hok, rfl⟩ := hof
    rotate_left
    · have HOK := Lib.hid hok
      clear hb2 hok HB1 HI1
      go_wp2_with fail
      refine (codes_ref _ F w2 HI2.out (by rw [← HM.out]; omega)).mono ?_
      rintro e w3 ⟨hb3, ⟨hn, _⟩ | ⟨_, rfl⟩⟩
      · exact absurd hn HOK.out
      have HB3 := Lib.hid (HB2.out.trans (hb3.mono HB2.out.size))
      clear hb3 HB2
      go_wp2_with fail
      go_ret
      exact ⟨rfl, HB3.out⟩
    have HOK := Lib.hid hok
    have HC2 := Lib.hid hc
    rw [← HM.out]
    clear hb2 hok hc hcw HB1 HI1
    go_wp2_with fail
    refine (codes_ref _ F w2 HI2.out (by rw [← HM.out]; omega)).mono ?_
    rintro e w3 ⟨hb3, ⟨_, d, rfl, _, _⟩ | ⟨hn, _⟩⟩
    rotate_left
    · exact absurd HOK.out hn
    have HB3 := Lib.hid (HB2.out.trans (hb3.mono HB2.out.size))
    have HC3 := Lib.hid (HC2.out.below hb3 HC2.out.lt)
    rw [← HM.out]
    clear hb3 HB2 HI2 HC2
    have hmm : ((m : Int) != (m : Int)) = false := bne_f rfl
    go_wp2_with fail
    clear hmm
    go_loopw [8] (fun x wr => ∃ i : Nat, i ≤ m ∧ x = .int .i64 i ∧ ∃ q, wr = w3.drewN q) (fun x _ => m - (intOf x).toNat)
    case atStart => exact ⟨0, by omega, rfl, 0, rfl⟩
    case round =>
      obtain ⟨i, hi, rfl, q, rfl⟩ := hrel
      by_cases hlt : i < m
      · have hltI : (i : Int) < (m : Int) := by omega
        obtain ⟨n, X, hn, hn15, hX, hX2, e0, e1⟩ := cd_cells HOK.out HC3.out (i := i) (by rw [← HM.out]; exact hlt)
        have HN := Lib.hid (And.intro hn hX)
        clear hn hX
        go_wp2_with fail
        go_loopw [9] (fun x wr => ∃ k : Nat, i < k ∧ k ≤ m ∧ x = .int .i64 k ∧ ∃ q, wr = w3.drewN q) (fun x _ => m - (intOf x).toNat)
        case atStart => exact ⟨i + 1, by omega, by omega, by go_num, _, rfl⟩
        case round =>
          obtain ⟨k, hik, hk, rfl, q, rfl⟩ := hrel
          by_cases hlk : k < m
          · have hlkI : (k : Int) < (m : Int) := by omega
            by_cases h0 : n = 0
            · subst h0
              go_wp2_with fail
              refine ⟨⟨k + 1, by omega, by omega, by first | rfl | go_num, _, rfl⟩, ?_⟩
              simp only [intOf_int]; omega
            · have h0f : ((n : Int) == 0) = false := beq_f (by omega)
              obtain ⟨m2, Y, hm2, hm15, hY, hY2, d0, d1⟩ := cd_cells HOK.out HC3.out (i := k) (by rw [← HM.out]; exact hlk)
              have HM2 := Lib.hid (And.intro hm2 hY)
              clear hm2 hY
              by_cases h2 : m2 = 0
              · subst h2
                go_wp2_with fail
                refine ⟨⟨k + 1, by omega, by omega, by first | rfl | go_num, _, rfl⟩, ?_⟩
                simp only [intOf_int]; omega
              · have h2f : ((m2 : Int) == 0) = false := beq_f (by omega)
                have hri := codes_rise HOK.out (by rw [← HM.out]; exact hlt) (by rw [← HM.out]; exact hlk) hik HN.out.1 HM2.out.1 (by omega) (by omega)
                have ht1 := code_top HOK.out (by rw [← HM.out]; exact hlt) HN.out.1 (by omega)
                have ht2 := code_top HOK.out (by rw [← HM.out]; exact hlk) HM2.out.1 (by omega)
                rw [← HN.out.2 (by omega), ← HM2.out.2 (by omega)] at hri
                rw [← HN.out.2 (by omega)] at ht1
                rw [← HM2.out.2 (by omega)] at ht2
                obtain ⟨p1, hp1⟩ : ∃ p, p = 15 - n := ⟨_, rfl⟩
                obtain ⟨p2, hp2⟩ : ∃ p, p = 15 - m2 := ⟨_, rfl⟩
                rw [← hp1] at hri ht1
                rw [← hp2] at hri ht2
                obtain ⟨A, hA⟩ : ∃ A, A = X * 2 ^ p1 := ⟨_, rfl⟩
                obtain ⟨B, hB⟩ : ∃ B, B = Y * 2 ^ p2 := ⟨_, rfl⟩
                rw [← hA] at hri ht1
                rw [← hB] at hri ht2
                obtain ⟨s1, s2⟩ := shl_fit hA ht1
                obtain ⟨s3, s4⟩ := shl_fit hB ht2
                have f1 : wrap64 (15 - (n : Int)) = (p1 : Int) := by unfold wrap64; omega
                have f2 : IntKind.u64.wrap (15 - (n : Int)) = (p1 : Int) := by rw [IntKind.wrap_u64]; omega
                have f3 : 15 - (n : Int) = (p1 : Int) := by omega
                have g1 : wrap64 (15 - (m2 : Int)) = (p2 : Int) := by unfold wrap64; omega
                have g2 : IntKind.u64.wrap (15 - (m2 : Int)) = (p2 : Int) := by rw [IntKind.wrap_u64]; omega
                have g3 : 15 - (m2 : Int) = (p2 : Int) := by omega
                have hp1' : p1 ≤ 15 := by omega
                have hp2' : p2 ≤ 15 := by omega
                have HRI := Lib.hid hri
                clear hri hA hB hp1 hp2
                go_wp2_with fail
                go_quiet (fail)
                go_wp2_with fail
                by_cases hnm : n ≤ m2
                · have hAB : A < B := HRI.out.1 hnm
                  have hnI : (n : Int) ≤ (m2 : Int) := by omega
                  have hABI : (A : Int) < (B : Int) := by omega
                  have hnd : decide ((n : Int) ≤ (m2 : Int)) = true := decide_eq_true hnI
                  have hd1 : decide ((B : Int) ≤ (A : Int)) = false := decide_eq_false (by omega)
                  have hd2 : decide ((m2 : Int) < (n : Int)) = false := decide_eq_false (by omega)
                  have hd3 : decide (B ≤ A) = false := decide_eq_false (by omega)
                  have hd4 : decide (m2 < n) = false := decide_eq_false (by omega)
                  go_quiet (fail)
                  go_wp2_with fail
                  refine ⟨⟨k + 1, by omega, by omega, by first | rfl | go_num, _, rfl⟩, ?_⟩
                  simp only [intOf_int]; omega
                · have hAB : B < A := HRI.out.2 (by omega)
                  have hnI : (m2 : Int) < (n : Int) := by omega
                  have hABI : (B : Int) < (A : Int) := by omega
                  have hnd : decide ((m2 : Int) < (n : Int)) = true := decide_eq_true hnI
                  have hd1 : decide ((A : Int) ≤ (B : Int)) = false := decide_eq_false (by omega)
                  have hd2 : decide ((n : Int) ≤ (m2 : Int)) = false := decide_eq_false (by omega)
                  have hd3 : decide (A ≤ B) = false := decide_eq_false (by omega)
                  have hd4 : decide (n ≤ m2) = false := decide_eq_false (by omega)
                  go_quiet (fail)
                  go_wp2_with fail
                  refine ⟨⟨k + 1, by omega, by omega, by first | rfl | go_num, _, rfl⟩, ?_⟩
                  simp only [intOf_int]; omega
          · obtain rfl : k = m := by omega
            go_wp2_with fail
            refine ⟨⟨i + 1, by omega, by first | rfl | go_num, _, rfl⟩, ?_⟩
            simp only [intOf_int]; omega
      · obtain rfl : i = m := by omega
        go_wp2_with fail
        go_ret
        exact ⟨rfl, bel_drewN HB3.out q⟩
end Go.Proofs.Ytijjpbpoekbekaa
