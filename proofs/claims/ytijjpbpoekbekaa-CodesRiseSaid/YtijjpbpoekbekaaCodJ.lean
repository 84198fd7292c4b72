/- The law CodesApart, walked. -/
import Derived.Test.YtijjpbpoekbekaaCodI
set_option linter.unusedSimpArgs false
set_option linter.unusedVariables false
namespace Go.Proofs.Ytijjpbpoekbekaa
open Go.RowKit Pl
theorem codes_apart {F : List Int} (hok : okL F) {i k n m d : Nat} (hi : i < F.length) (hk : k < F.length) (hik : i ≠ k) (hn : F.getD i 0 = n) (hm : F.getD k 0 = m) (h0 : 0 < n) (hd : m = n + d) : codeN F k / 2 ^ d ≠ codeN F i := by
  have hm15 := (Pl.getD_in hok.2.1 k).2
  by_cases e : d = 0
  · subst e
    obtain rfl : m = n := by omega
    rw [Nat.pow_zero, Nat.div_one]
    rcases Nat.lt_or_gt_of_ne hik with h | h
    · have := code_same h hn hm; omega
    · have := code_same h hm hn; omega
  · have h := code_longer hi hn hm h0 (by omega) (by omega)
    rw [show 15 - n = d + (15 - m) by omega, Nat.pow_add, ← Nat.mul_assoc] at h
    have h2 := Nat.le_of_mul_le_mul_right h (Nat.two_pow_pos _)
    have h3 := (Nat.le_div_iff_mul_le (Nat.two_pow_pos d)).2 h2
    omega
theorem shr_ne {X Y d : Nat} (h : X / 2 ^ d ≠ Y) : (((X : Int) / 2 ^ d) == (Y : Int)) = false := by
  apply beq_f
  have e : ((X : Int) / 2 ^ d) = ((X / 2 ^ d : Nat) : Int) := by simp
  rw [e]
  omega
theorem isInts_cut {w : World} {a : Option Addr} {n cap : Nat} {F : List Int} (h : IsInts w (.slice a n cap) F) (hn : F.length = n) (m : Nat) (hm : m ≤ n) : IsInts w (.slice a m cap) (F.take m) ∧ (F.take m).length = m := by
  have hl : (F.take m).length = m := by rw [List.length_take]; omega
  refine ⟨?_, hl⟩
  have := IsCells.take (n := n) (by unfold IsInts at h; rw [hn] at h; exact h) m m hm
  unfold IsInts
  rw [hl]
  simpa [i64s, List.map_take] using this
/-- what the codes' cells tell of symbol i -/
theorem cd_cells {F : List Int} (hok : okL F) {w : World} {c : Nat} (hc : Blk w c 34 (cdVs (codesL F))) {i : Nat} (hi : i < F.length) :
    ∃ n y : Nat, F.getD i 0 = n ∧ n ≤ 15 ∧ (0 < n → y = codeN F i) ∧ y < 32768 ∧ w.cell? ⟨c, i * 2, none⟩ = some (.int .u32 y) ∧ w.cell? ⟨c, i * 2 + 1, none⟩ = some (.int .i64 n) := by
  have hin := Pl.getD_in hok.2.1 i
  obtain ⟨n, hn⟩ : ∃ n : Nat, F.getD i 0 = n := ⟨(F.getD i 0).toNat, by omega⟩
  have hg := cdVs_get (codesL F) i (by rw [codesL_length]; exact hi)
  rw [codesL_len hok.2.1 hi, codesL_get hi, hn] at hg
  by_cases h0 : 0 < n
  · rw [if_pos (by omega)] at hg
    have h1 := code_lt hok.2.2 hi hn h0 (by omega)
    have h2 : 2 ^ n ≤ 2 ^ 15 := Nat.pow_le_pow_right (by omega) (by omega)
    rw [pw15] at h2
    exact ⟨n, codeN F i, hn, by omega, fun _ => rfl, by omega, hc.cell hg.1, hc.cell hg.2⟩
  · rw [if_neg (by omega)] at hg
    exact ⟨n, 0, hn, by omega, fun h => absurd h h0, by omega, hc.cell hg.1, hc.cell hg.2⟩
set_option maxHeartbeats 8000000 in
theorem codesApart_walk (a : Option Addr) (len cap : Nat) (z : List Int) (w : World) (hr : IsRow .i64 w a len cap z) :
    Calls Try.prog 7 #[.slice a len cap] w fun e w' => e = .returned (.bool true) ∧ Below w.heap.size w w' := by
  obtain ⟨F0, hF0, hI, hcap, hmax, _, _⟩ := isInts_in hr
  clear hr
  obtain ⟨m, hm⟩ : ∃ m, m = min len 40 := ⟨_, rfl⟩
  have hcut := isInts_cut hI hF0 m (by omega)
  generalize F0.take m = F at hcut
  have HI := Lib.hid hcut.1
  have HM : Hid (m = F.length) := Lib.hid hcut.2.symm
  unfold maxLen at hmax
  have hm40 : m ≤ 40 := by omega
  clear hI hcut hF0
  by_cases hl : 40 < len
  · have h1 : (40 : Int) ≤ (cap : Int) := by omega
    obtain rfl : m = 40 := by omega
    clear hm
    go_enter Try.func7, Try.ntmps7
    go_wp2_with fail
    refine (begun_any w).mono ?_
    rintro e w1 ⟨rfl, hb1⟩
    have HB1 := Lib.hid hb1
    have HI1 := Lib.hid (HI.out.below hb1)
    clear hb1 HI
    go_wp2_with fail
    refine (of_any _ F w1 HI1.out (by rw [← HM.out]; omega)).mono ?_
    rintro e w2 ⟨hb2, ⟨hok, c, rfl, hcw, hc⟩ | ⟨hok, rfl⟩⟩
    rotate_left
    · have HB2 := Lib.hid (HB1.out.trans (hb2.mono HB1.out.size))
      clear hb2 hok
      go_wp2_with fail
      go_ret
      exact ⟨rfl, HB2.out⟩
    have HB2 := Lib.hid (HB1.out.trans (hb2.mono HB1.out.size))
    have HOK := Lib.hid hok
    have HC := Lib.hid hc
    rw [← HM.out]
    clear hb2 hok hc hcw HB1 HI1
    go_wp2_with fail
    go_loopw [6] (fun x wr => ∃ i : Nat, i ≤ 40 ∧ x = .int .i64 i ∧ ∃ q, wr = w2.drewN q) (fun x _ => 40 - (intOf x).toNat)
    case atStart => exact ⟨0, by omega, rfl, 0, rfl⟩
    case round =>
      obtain ⟨i, hi, rfl, q, rfl⟩ := hrel
      by_cases hlt : i < 40
      · have hltI : (i : Int) < (40 : Int) := by omega
        obtain ⟨n, X, hn, hn15, hX, hX2, e0, e1⟩ := cd_cells HOK.out HC.out (i := i) (by rw [← HM.out]; exact hlt)
        have HN := Lib.hid (And.intro hn hX)
        clear hn hX
        go_wp2_with fail
        go_loopw [7] (fun x wr => ∃ k : Nat, k ≤ 40 ∧ x = .int .i64 k ∧ ∃ q, wr = w2.drewN q) (fun x _ => 40 - (intOf x).toNat)
        case atStart => exact ⟨0, by omega, rfl, _, rfl⟩
        case round =>
          obtain ⟨k, hk, rfl, q, rfl⟩ := hrel
          by_cases hlk : k < 40
          · have hlkI : (k : Int) < (40 : Int) := by omega
            by_cases hik : i = k
            · subst hik
              have ht := beq_t (rfl : (i : Int) = i)
              go_wp2_with fail
              go_quiet (fail)
              go_wp2_with fail
              go_roundw
              case rel => exact ⟨i + 1, by omega, by go_num, _, rfl⟩
              case measure => simp [intOf]; omega
            · have hikf : ((i : Int) == (k : Int)) = false := beq_f (by omega)
              by_cases h0 : n = 0
              · subst h0
                go_wp2_with fail
                go_quiet (fail)
                go_wp2_with fail
                go_roundw
                case rel => exact ⟨k + 1, by omega, by go_num, _, rfl⟩
                case measure => simp [intOf]; omega
              · have h0f : ((n : Int) == 0) = false := beq_f (by omega)
                obtain ⟨m2, Y, hm2, hm15, hY, hY2, d0, d1⟩ := cd_cells HOK.out HC.out (i := k) (by rw [← HM.out]; exact hlk)
                have HM2 := Lib.hid (And.intro hm2 hY)
                clear hm2 hY
                by_cases hmn : m2 < n
                · have hmnI : (m2 : Int) < (n : Int) := by omega
                  go_wp2_with fail
                  go_quiet (fail)
                  go_wp2_with fail
                  go_roundw
                  case rel => exact ⟨k + 1, by omega, by go_num, _, rfl⟩
                  case measure => simp [intOf]; omega
                · have hmnI : decide ((m2 : Int) < (n : Int)) = false := decide_eq_false (by omega)
                  obtain ⟨d, hd⟩ : ∃ d, d = m2 - n := ⟨_, rfl⟩
                  have hd15 : d ≤ 15 := by omega
                  have hap := codes_apart HOK.out (by rw [← HM.out]; exact hlt) (by rw [← HM.out]; exact hlk) hik HN.out.1 HM2.out.1 (by omega) (show m2 = n + d by omega)
                  rw [← HN.out.2 (by omega), ← HM2.out.2 (by omega)] at hap
                  have hsh := shr_ne hap
                  have f1 : wrap64 ((m2 : Int) - (n : Int)) = (d : Int) := by unfold wrap64; omega
                  have f2 : IntKind.u64.wrap ((m2 : Int) - (n : Int)) = (d : Int) := by rw [IntKind.wrap_u64]; omega
                  have f3 : (m2 : Int) - (n : Int) = (d : Int) := by omega
                  have HD := Lib.hid hd
                  clear hap hd
                  go_wp2_with fail
                  go_quiet (fail)
                  go_wp2_with fail
                  go_quiet (fail)
                  go_wp2_with fail
                  go_roundw
                  case rel => exact ⟨k + 1, by omega, by go_num, _, rfl⟩
                  case measure => simp [intOf]; omega
          · obtain rfl : k = 40 := by omega
            go_wp2_with fail
            go_roundw
            case rel => exact ⟨i + 1, by omega, by go_num, _, rfl⟩
            case measure => simp [intOf]; omega
      · obtain rfl : i = 40 := by omega
        go_wp2_with fail
        go_ret
        exact ⟨rfl, bel_drewN HB2.out q⟩
  · obtain rfl : m = len := by omega
    clear hm
    go_enter Try.func7, Try.ntmps7
    go_wp2_with fail
    refine (begun_any w).mono ?_
    rintro e w1 ⟨rfl, hb1⟩
    have HB1 := Lib.hid hb1
    have HI1 := Lib.hid (HI.out.below hb1)
    clear hb1 HI
    go_wp2_with fail
    refine (of_any _ F w1 HI1.out (by rw [← HM.out]; omega)).mono ?_
    rintro e w2 ⟨hb2, ⟨hok, c, rfl, hcw, hc⟩ | ⟨hok, rfl⟩⟩
    rotate_left
    · have HB2 := Lib.hid (HB1.out.trans (hb2.mono HB1.out.size))
      clear hb2 hok
      go_wp2_with fail
      go_ret
      exact ⟨rfl, HB2.out⟩
    have HB2 := Lib.hid (HB1.out.trans (hb2.mono HB1.out.size))
    have HOK := Lib.hid hok
    have HC := Lib.hid hc
    rw [← HM.out]
    clear hb2 hok hc hcw HB1 HI1
    go_wp2_with fail
    go_loopw [6] (fun x wr => ∃ i : Nat, i ≤ m ∧ x = .int .i64 i ∧ ∃ q, wr = w2.drewN q) (fun x _ => m - (intOf x).toNat)
    case atStart => exact ⟨0, by omega, rfl, 0, rfl⟩
    case round =>
      obtain ⟨i, hi, rfl, q, rfl⟩ := hrel
      by_cases hlt : i < m
      · have hltI : (i : Int) < (m : Int) := by omega
        obtain ⟨n, X, hn, hn15, hX, hX2, e0, e1⟩ := cd_cells HOK.out HC.out (i := i) (by rw [← HM.out]; exact hlt)
        have HN := Lib.hid (And.intro hn hX)
        clear hn hX
        go_wp2_with fail
        go_loopw [7] (fun x wr => ∃ k : Nat, k ≤ m ∧ x = .int .i64 k ∧ ∃ q, wr = w2.drewN q) (fun x _ => m - (intOf x).toNat)
        case atStart => exact ⟨0, by omega, rfl, _, rfl⟩
        case round =>
          obtain ⟨k, hk, rfl, q, rfl⟩ := hrel
          by_cases hlk : k < m
          · have hlkI : (k : Int) < (m : Int) := by omega
            by_cases hik : i = k
            · subst hik
              have ht := beq_t (rfl : (i : Int) = i)
              go_wp2_with fail
              go_quiet (fail)
              go_wp2_with fail
              go_roundw
              case rel => exact ⟨i + 1, by omega, by go_num, _, rfl⟩
              case measure => simp [intOf]; omega
            · have hikf : ((i : Int) == (k : Int)) = false := beq_f (by omega)
              by_cases h0 : n = 0
              · subst h0
                go_wp2_with fail
                go_quiet (fail)
                go_wp2_with fail
                go_roundw
                case rel => exact ⟨k + 1, by omega, by go_num, _, rfl⟩
                case measure => simp [intOf]; omega
              · have h0f : ((n : Int) == 0) = false := beq_f (by omega)
                obtain ⟨m2, Y, hm2, hm15, hY, hY2, d0, d1⟩ := cd_cells HOK.out HC.out (i := k) (by rw [← HM.out]; exact hlk)
                have HM2 := Lib.hid (And.intro hm2 hY)
                clear hm2 hY
                by_cases hmn : m2 < n
                · have hmnI : (m2 : Int) < (n : Int) := by omega
                  go_wp2_with fail
                  go_quiet (fail)
                  go_wp2_with fail
                  go_roundw
                  case rel => exact ⟨k + 1, by omega, by go_num, _, rfl⟩
                  case measure => simp [intOf]; omega
                · have hmnI : decide ((m2 : Int) < (n : Int)) = false := decide_eq_false (by omega)
                  obtain ⟨d, hd⟩ : ∃ d, d = m2 - n := ⟨_, rfl⟩
                  have hd15 : d ≤ 15 := by omega
                  have hap := codes_apart HOK.out (by rw [← HM.out]; exact hlt) (by rw [← HM.out]; exact hlk) hik HN.out.1 HM2.out.1 (by omega) (show m2 = n + d by omega)
                  rw [← HN.out.2 (by omega), ← HM2.out.2 (by omega)] at hap
                  have hsh := shr_ne hap
                  have f1 : wrap64 ((m2 : Int) - (n : Int)) = (d : Int) := by unfold wrap64; omega
                  have f2 : IntKind.u64.wrap ((m2 : Int) - (n : Int)) = (d : Int) := by rw [IntKind.wrap_u64]; omega
                  have f3 : (m2 : Int) - (n : Int) = (d : Int) := by omega
                  have HD := Lib.hid hd
                  clear hap hd
                  go_wp2_with fail
                  go_quiet (fail)
                  go_wp2_with fail
                  go_quiet (fail)
                  go_wp2_with fail
                  go_roundw
                  case rel => exact ⟨k + 1, by omega, by go_num, _, rfl⟩
                  case measure => simp [intOf]; omega
          · obtain rfl : k = m := by omega
            go_wp2_with fail
            go_roundw
            case rel => exact ⟨i + 1, by omega, by go_num, _, rfl⟩
            case measure => simp [intOf]; omega
      · obtain rfl : i = m := by omega
        go_wp2_with fail
        go_ret
        exact ⟨rfl, bel_drewN HB2.out q⟩
end Go.Proofs.Ytijjpbpoekbekaa
