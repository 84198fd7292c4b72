/- foliolaw13.FilesFail: the walk. -/
import Derived.Test.YtdjcblboibbefaaDkT
set_option linter.unusedSimpArgs false
set_option linter.unusedVariables false
set_option maxRecDepth 100000
namespace Go.Proofs.Ytdjcblboibbefaa.S13
open Go.RowKit Go.Maps Go.Shelf Dk
def stF (B : List Nat) (c : Nat) (fl : Option Nat) : St := ⟨1000, [(B, 0)], [([97], 0)], [], [([], [97], some 0)], c, fl⟩
theorem stF_get (B : List Nat) (c : Nat) (fl : Option Nat) : dget (stF B c fl).now [97] = some 0 := rfl
theorem stF_used (B : List Nat) (c : Nat) (fl : Option Nat) : (stF B c fl).used = B.length := by simp [St.used, stF, St.file]
theorem stF_app_ok (B X : List Nat) (c : Nat) (h : B.length + X.length ≤ 1000) : append (stF B c none) [97] X = (stF (B ++ X) (c + 1) none, 0) := by
  have hu : St.used { stF B c none with calls := c + 1 } = B.length := stF_used B (c + 1) none
  have e : append (stF B c none) [97] X = if St.used { stF B c none with calls := c + 1 } + X.length > 1000 then ({ stF B c none with calls := c + 1 }, 4) else (stF (B ++ X) (c + 1) none, 0) := rfl
  rw [e, if_neg (by omega)]
theorem stF_app_more (B X : List Nat) (c m : Nat) (h : B.length + X.length ≤ 1000) : append (stF B c (some (m + 1))) [97] X = (stF (B ++ X) (c + 1) (some m), 0) := by
  have hu : St.used { stF B c none with calls := c + 1, fail := some m } = B.length := stF_used B (c + 1) (some m)
  have e : append (stF B c (some (m + 1))) [97] X = if St.used { stF B c none with calls := c + 1, fail := some m } + X.length > 1000 then ({ stF B c none with calls := c + 1, fail := some m }, 4) else (stF (B ++ X) (c + 1) (some m), 0) := rfl
  rw [e, if_neg (by omega)]
theorem stF_app_io (B X : List Nat) (c : Nat) : append (stF B c (some 0)) [97] X = (stF B (c + 1) none, 5) := rfl
theorem stF_read (B : List Nat) (c : Nat) (fl : Option Nat) : readF (stF B c fl) [97] = some B := rfl
theorem stF_new : create (new 1000) [97] = (stF [] 1 none, 0) := by kernel_rfl
theorem stF_fail (n : Nat) (B : List Nat) (c : Nat) : setFail (stF B c none) (n : Int) = stF B c (some n) := by
  simp [setFail, stF]
/-- how the file system stands behind i appends -/
def stI (n : Nat) (B : List Nat) (i : Nat) : St := stF B (1 + i) (if i ≤ n then some (n - i) else none)
def lenI (n i : Nat) : Nat := if n < i then i - 1 else i
attribute [local go_sem ↓] conv_eq
set_option maxHeartbeats 16000000 in
theorem filesFail_walk (n k : Int) (w : World) (hn : (Lit.int .i64 n).wf = true) (hk : (Lit.int .i64 k).wf = true) : Calls Try.prog 7 #[.int .i64 n, .int .i64 k] w fun e w' => e = .returned (.bool true) ∧ Below w.heap.size w w' := by
  have hbeg := begun_any w
  by_cases h1 : n < 0
  · have d1 : decide (n < 0) = true := by simpa using h1
    go_enter Try.func7, Try.ntmps7
    go_wp2_with fail
    refine hbeg.mono ?_
    rintro e w1 ⟨rfl, hb⟩
    have HB := Lib.hid hb
    clear hbeg hb
    go_wp2_with fail
    go_ret
    exact ⟨rfl, HB.out⟩
  by_cases h2 : 20 < n
  · have d1 : decide (n < 0) = false := by simp; omega
    have d2 : decide (20 < n) = true := by simpa using h2
    go_enter Try.func7, Try.ntmps7
    go_wp2_with fail
    refine hbeg.mono ?_
    rintro e w1 ⟨rfl, hb⟩
    have HB := Lib.hid hb
    clear hbeg hb
    go_wp2_with fail
    go_ret
    exact ⟨rfl, HB.out⟩
  by_cases h3 : k < 0
  · have d1 : decide (n < 0) = false := by simp; omega
    have d2 : decide (20 < n) = false := by simp; omega
    have d3 : decide (k < 0) = true := by simpa using h3
    go_enter Try.func7, Try.ntmps7
    go_wp2_with fail
    refine hbeg.mono ?_
    rintro e w1 ⟨rfl, hb⟩
    have HB := Lib.hid hb
    clear hbeg hb
    go_wp2_with fail
    go_ret
    exact ⟨rfl, HB.out⟩
  by_cases h4 : 20 < k
  · have d1 : decide (n < 0) = false := by simp; omega
    have d2 : decide (20 < n) = false := by simp; omega
    have d3 : decide (k < 0) = false := by simp; omega
    have d4 : decide (20 < k) = true := by simpa using h4
    go_enter Try.func7, Try.ntmps7
    go_wp2_with fail
    refine hbeg.mono ?_
    rintro e w1 ⟨rfl, hb⟩
    have HB := Lib.hid hb
    clear hbeg hb
    go_wp2_with fail
    go_ret
    exact ⟨rfl, HB.out⟩
  have d1 : decide (n < 0) = false := by simp; omega
  have d2 : decide (20 < n) = false := by simp; omega
  have d3 : decide (k < 0) = false := by simp; omega
  have d4 : decide (20 < k) = false := by simp; omega
  obtain ⟨n, rfl⟩ : ∃ m : Nat, n = (m : Int) := ⟨n.toNat, by omega⟩
  obtain ⟨k, rfl⟩ : ∃ m : Nat, k = (m : Int) := ⟨k.toNat, by omega⟩
  have hn20 : n ≤ 20 := by omega
  have hk20 : k ≤ 20 := by omega
  have d5 : decide (20 < n) = false := by simp; omega
  have d6 : decide (20 < k) = false := by simp; omega
  clear h1 h2 h3 h4
  go_enter Try.func7, Try.ntmps7
  go_wp2_with fail
  refine hbeg.mono ?_
  rintro e w1 ⟨rfl, hb⟩
  have hnew := new_h (w0 := w) 1000 hb
  clear hbeg hb
  go_wp2_with fail
  refine hnew.mono ?_
  rintro e w2 ⟨p, rfl, hI, _⟩
  have hcr := create_h ⟨#[97]⟩ hI (by decide) (by decide)
  change Calls _ _ _ _ (HPost w p (create (new 1000) [97])) at hcr
  rw [stF_new] at hcr
  clear hnew hI d1 d2 d3 d4 d5 d6
  go_wp2_with fail
  refine hcr.mono ?_
  rintro e w3 ⟨rfl, hI⟩
  have hfl := fail_h (n : Int) hI hn
  rw [stF_fail] at hfl
  clear hcr hI
  unfold errV
  go_wp2_with fail
  refine hfl.mono ?_
  rintro e w4 ⟨rfl, hI⟩
  have HI0 : Hid (InH w p (stI n [] 0) w4) := Lib.hid (by simpa [stI] using hI)
  clear hfl hI
  go_wp2_with fail
  go_loopw [7] (fun v wr => ∃ (i : Nat) (B : List Nat), i ≤ k ∧ v = .int .i64 i ∧ B.length = lenI n i ∧ InH w p (stI n B i) wr) (fun v _ => k - (intOf v).toNat)
  case atStart => exact ⟨0, [], by omega, rfl, by simp [lenI], HI0.out⟩
  case round =>
    obtain ⟨i, B, hi, rfl, hB, hI⟩ := hrel
    have HI := Lib.hid hI
    have HBL := Lib.hid hB
    have hBl : B.length ≤ 20 := by rw [hB]; unfold lenI; split <;> omega
    have HB20 := Lib.hid hBl
    clear hI hB hBl HI0
    by_cases hlt : i < k
    · have hcv : (i : Int) % 256 = (i : Int) := by omega
      obtain ⟨w5, hw5⟩ : ∃ w5, wr.alloc (.cells #[.int .u8 i] 5) = w5 := ⟨_, rfl⟩
      have hI5 : InH w p (stI n B i) w5 := by rw [← hw5]; exact HI.out.below ((Below.refl _ _).alloc (Nat.le_refl _) _)
      have hbt : IsBytes w5 (.slice (some ⟨wr.heap.size, 0, none⟩) 1 1) [i] := by rw [← hw5]; exact isBytes_mark wr [i] (0, 0) (by simp; omega) (by simp [maxLen])
      have hap := append_h ⟨#[97]⟩ _ [i] hI5 (by decide) (by show 1 + i ≤ _; omega) hbt (by simp)
      change Calls _ _ _ _ (HPost w p (append (stF B (1 + i) (if i ≤ n then some (n - i) else none)) [97] [i])) at hap
      clear hI5 hbt
      rcases Nat.lt_trichotomy i n with hin | hin | hin
      · obtain ⟨m, hm⟩ : ∃ m, n - i = m + 1 := ⟨n - i - 1, by omega⟩
        rw [if_pos (by omega), hm, stF_app_more B [i] (1 + i) m (by have := HB20.out; simp; omega)] at hap
        have HNX : Hid (stF (B ++ [i]) (1 + i + 1) (some m) = stI n (B ++ [i]) (i + 1)) := Lib.hid (by
          unfold stI
          rw [if_pos (by omega), show n - (i + 1) = m by omega]
          rfl)
        have q1 : ((i : Int) == (n : Int)) = false := beq_f (by omega)
        have q2 : ((i : Int) != (n : Int)) = true := bne_t (by omega)
        have HL : Hid ((B ++ [i]).length = lenI n (i + 1)) := Lib.hid (by
          have := HBL.out
          unfold lenI at *
          simp
          rw [if_neg (by omega)] at *
          omega)
        clear hm
        go_wp2_with fail
        refine hap.mono ?_
        rintro e w6 ⟨rfl, hI6⟩
        have HI6 := Lib.hid hI6
        clear hap hI6 hw5
        unfold errV
        go_wp2_with fail
        go_roundw
        case rel => exact ⟨i + 1, B ++ [i], by omega, by go_num, HL.out, by have := HI6.out; rw [HNX.out] at this; exact this⟩
        case measure => simp [intOf]; omega
      · subst hin
        rw [if_pos (Nat.le_refl _), Nat.sub_self, stF_app_io] at hap
        have HNX : Hid (stF B (1 + i + 1) none = stI i B (i + 1)) := Lib.hid (by
          unfold stI
          rw [if_neg (by omega)]
          rfl)
        have q1 : ((i : Int) == (i : Int)) = true := beq_t rfl
        have HL : Hid (B.length = lenI i (i + 1)) := Lib.hid (by
          have := HBL.out
          unfold lenI at *
          rw [if_neg (by omega)] at this
          rw [if_pos (by omega)]
          omega)
        go_wp2_with fail
        refine hap.mono ?_
        rintro e w6 ⟨rfl, hI6⟩
        have HI6 := Lib.hid hI6
        clear hap hI6 hw5
        unfold errV
        go_wp2_with fail
        go_roundw
        case rel => exact ⟨i + 1, B, by omega, by go_num, HL.out, by have := HI6.out; rw [HNX.out] at this; exact this⟩
        case measure => simp [intOf]; omega
      · rw [if_neg (by omega), stF_app_ok B [i] (1 + i) (by have := HB20.out; simp; omega)] at hap
        have HNX : Hid (stF (B ++ [i]) (1 + i + 1) none = stI n (B ++ [i]) (i + 1)) := Lib.hid (by
          unfold stI
          rw [if_neg (by omega)]
          rfl)
        have q1 : ((i : Int) == (n : Int)) = false := beq_f (by omega)
        have q2 : ((i : Int) != (n : Int)) = true := bne_t (by omega)
        have HL : Hid ((B ++ [i]).length = lenI n (i + 1)) := Lib.hid (by
          have := HBL.out
          unfold lenI at *
          simp
          rw [if_pos (by omega)] at *
          omega)
        go_wp2_with fail
        refine hap.mono ?_
        rintro e w6 ⟨rfl, hI6⟩
        have HI6 := Lib.hid hI6
        clear hap hI6 hw5
        unfold errV
        go_wp2_with fail
        go_roundw
        case rel => exact ⟨i + 1, B ++ [i], by omega, by go_num, HL.out, by have := HI6.out; rw [HNX.out] at this; exact this⟩
        case measure => simp [intOf]; omega
    · obtain rfl : i = k := by omega
      have hrd := read_h ⟨#[97]⟩ HI.out (by decide)
      change Calls _ _ _ _ (ReadPost (readF (stF B (1 + i) (if i ≤ n then some (n - i) else none)) [97]) wr) at hrd
      rw [stF_read] at hrd
      obtain ⟨M, hM⟩ : ∃ M, B.length = M := ⟨_, rfl⟩
      have hML : M = lenI n i := by rw [← hM]; exact HBL.out
      unfold ReadPost at hrd
      simp only [hM] at hrd
      clear hM
      by_cases hni : n < i
      · have hM1 : (i : Int) - 1 = (M : Int) := by rw [hML]; unfold lenI; rw [if_pos hni]; omega
        have q0 : decide ((n : Int) < (i : Int)) = true := by simpa using hni
        have HM1 := Lib.hid hM1
        clear hML hM1
        go_wp2_with fail
        refine hrd.mono ?_
        rintro e w7 ⟨hb7, sp, cap, rfl, _, _⟩
        have hca := calls_h (HI.out.below hb7.out)
        change Calls _ _ _ _ (fun e w' => e = .returned (.int .i64 ((1 + i : Nat) : Int)) ∧ w' = w7) at hca
        rw [show ((1 + i : Nat) : Int) = (i : Int) + 1 by omega] at hca
        have HBE := Lib.hid (HI.out.below hb7.out).bel
        clear hrd hb7
        unfold errV
        have hM1 := HM1.out
        have q3 : ((M : Int) == (M : Int)) = true := beq_t rfl
        go_wp2_with fail
        refine hca.mono ?_
        rintro e w8 ⟨rfl, rfl⟩
        go_wp2_with fail
        go_ret
        exact ⟨rfl, HBE.out⟩
      · have hMi : M = i := by rw [hML]; unfold lenI; rw [if_neg hni]
        subst hMi
        have q0 : decide ((n : Int) < (M : Int)) = false := by simp; omega
        have q9 : ¬ n < M := hni
        clear hML
        go_wp2_with fail
        refine hrd.mono ?_
        rintro e w7 ⟨hb7, sp, cap, rfl, _, _⟩
        have hca := calls_h (HI.out.below hb7.out)
        change Calls _ _ _ _ (fun e w' => e = .returned (.int .i64 ((1 + M : Nat) : Int)) ∧ w' = w7) at hca
        rw [show ((1 + M : Nat) : Int) = (M : Int) + 1 by omega] at hca
        have HBE := Lib.hid (HI.out.below hb7.out).bel
        clear hrd hb7
        unfold errV
        have q3 : ((M : Int) == (M : Int)) = true := beq_t rfl
        go_wp2_with fail
        refine hca.mono ?_
        rintro e w8 ⟨rfl, rfl⟩
        go_wp2_with fail
        go_ret
        exact ⟨rfl, HBE.out⟩
end Go.Proofs.Ytdjcblboibbefaa.S13
