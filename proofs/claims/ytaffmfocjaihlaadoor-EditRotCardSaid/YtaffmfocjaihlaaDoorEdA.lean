/- edit's small tests: within, isNum, isSize, isSeg, digit; slices.Index and Contains of int64: contracts. -/
import Derived.Test.YtaffmfocjaihlaaDoorEdM
set_option linter.unusedSimpArgs false
set_option linter.unusedVariables false
set_option maxRecDepth 100000
namespace Go.Proofs.YtaffmfocjaihlaaDoor.S18
open Go.RowKit
theorem inB_1 {m n x : Int} (h : ¬ m ≤ x) : inB m n x = false := by unfold inB; simp [h]
theorem inB_2 {m n x : Int} (h : ¬ x ≤ n) : inB m n x = false := by unfold inB; simp [h]
theorem inB_3 {m n x : Int} (h : m ≤ x) (h2 : x ≤ n) : inB m n x = true := by unfold inB; simp [h, h2]
set_option maxHeartbeats 2000000 in
theorem within64 (x m k : Int) (w : World) : Calls Tryd.prog 21 #[.int .i64 x, .int .i64 m, .int .i64 k] w fun e w' => e = .returned (.bool (inB m k x)) ∧ w = w' := by
  by_cases h1 : m ≤ x
  · by_cases h2 : x ≤ k
    · rw [inB_3 h1 h2]
      go_enter Tryd.func21, Tryd.ntmps21
      go_wp2
      go_ret
      exact ⟨rfl, rfl⟩
    · rw [inB_2 h2]
      go_enter Tryd.func21, Tryd.ntmps21
      go_wp2
      go_ret
      exact ⟨rfl, rfl⟩
  · rw [inB_1 h1]
    go_enter Tryd.func21, Tryd.ntmps21
    go_wp2
    go_ret
    exact ⟨rfl, rfl⟩
set_option maxHeartbeats 2000000 in
theorem withinI (x m k : Int) (w : World) : Calls Tryd.prog 36 #[.int .i64 x, .int .i64 m, .int .i64 k] w fun e w' => e = .returned (.bool (inB m k x)) ∧ w = w' := by
  by_cases h1 : m ≤ x
  · by_cases h2 : x ≤ k
    · rw [inB_3 h1 h2]
      go_enter Tryd.func36, Tryd.ntmps36
      go_wp2
      go_ret
      exact ⟨rfl, rfl⟩
    · rw [inB_2 h2]
      go_enter Tryd.func36, Tryd.ntmps36
      go_wp2
      go_ret
      exact ⟨rfl, rfl⟩
  · rw [inB_1 h1]
    go_enter Tryd.func36, Tryd.ntmps36
    go_wp2
    go_ret
    exact ⟨rfl, rfl⟩
set_option maxHeartbeats 2000000 in
theorem isNum_any (x : Int) (w : World) : Calls Tryd.prog 25 #[.int .i64 x] w fun e w' => e = .returned (.bool (numB x)) ∧ w = w' := by
  have h := within64 x 1 1125899906842624 w
  go_enter Tryd.func25, Tryd.ntmps25
  go_wp2_with fail
  refine h.mono ?_
  rintro e w' ⟨rfl, rfl⟩
  go_wp2
  go_ret
  exact ⟨rfl, rfl⟩
set_option maxHeartbeats 2000000 in
theorem isSize_any (x : Int) (w : World) : Calls Tryd.prog 37 #[.int .i64 x] w fun e w' => e = .returned (.bool (sizB x)) ∧ w = w' := by
  have h := withinI x 0 4194304 w
  go_enter Tryd.func37, Tryd.ntmps37
  go_wp2_with fail
  refine h.mono ?_
  rintro e w' ⟨rfl, rfl⟩
  go_wp2
  go_ret
  exact ⟨rfl, rfl⟩
set_option maxHeartbeats 2000000 in
theorem digit_any (b : Bool) (w : World) : Calls Tryd.prog 33 #[.bool b] w fun e w' => e = .returned (.int .i64 (dig b)) ∧ w = w' := by
  cases b with
  | false =>
    go_enter Tryd.func33, Tryd.ntmps33
    go_wp2
    go_ret
    exact ⟨rfl, rfl⟩
  | true =>
    go_enter Tryd.func33, Tryd.ntmps33
    go_wp2
    go_ret
    exact ⟨rfl, rfl⟩
attribute [local go_sem ↓] loadS_eq storeS_eq
theorem seg_b (s : SG) : segB s = (((numB s.num && inB 0 1125899906842624 s.group) && inB 0 3 s.member) && sizB s.size) := rfl
set_option maxHeartbeats 4000000 in
theorem isSeg_any (s : SG) (w : World) : Calls Tryd.prog 23 #[.agg #[.int .i64 s.num, .bool s.sealed, .int .i64 s.group, .int .i64 s.member, .int .i64 s.size, .int .u32 s.sum]] w fun e w' => e = .returned (.bool (segB s)) ∧ Below w.heap.size w w' := by
  have hb1 : Below w.heap.size w (w.alloc (.cells #[.int .i64 s.num, .bool s.sealed, .int .i64 s.group, .int .i64 s.member, .int .i64 s.size, .int .u32 s.sum] 45)) := (Below.refl _ _).alloc (Nat.le_refl _) _
  have hk1 := Blk.new w 45 (segL s)
  obtain ⟨w1, hw1⟩ : ∃ w1, w.alloc (.cells #[.int .i64 s.num, .bool s.sealed, .int .i64 s.group, .int .i64 s.member, .int .i64 s.size, .int .u32 s.sum] 45) = w1 := ⟨_, rfl⟩
  rw [hw1] at hb1
  have hk1' : Blk w1 w.heap.size 45 (segL s) := by rw [← hw1]; exact hk1
  have c0 : w1.cell? ⟨w.heap.size, 0, none⟩ = some (.int .i64 s.num) := hk1'.cell rfl
  have c2 : w1.cell? ⟨w.heap.size, 2, none⟩ = some (.int .i64 s.group) := hk1'.cell rfl
  have c3 : w1.cell? ⟨w.heap.size, 3, none⟩ = some (.int .i64 s.member) := hk1'.cell rfl
  have c4 : w1.cell? ⟨w.heap.size, 4, none⟩ = some (.int .i64 s.size) := hk1'.cell rfl
  have HB := Lib.hid hb1
  have HS := Lib.hid (seg_b s)
  clear hb1 hk1 hk1'
  have f1 := isNum_any s.num w1
  have f2 := within64 s.group 0 1125899906842624 w1
  have f3 := withinI s.member 0 3 w1
  have f4 := isSize_any s.size w1
  obtain ⟨b1, hb1⟩ : ∃ b, numB s.num = b := ⟨_, rfl⟩
  obtain ⟨b2, hb2⟩ : ∃ b, inB 0 1125899906842624 s.group = b := ⟨_, rfl⟩
  obtain ⟨b3, hb3⟩ : ∃ b, inB 0 3 s.member = b := ⟨_, rfl⟩
  obtain ⟨b4, hb4⟩ : ∃ b, sizB s.size = b := ⟨_, rfl⟩
  have HS := Lib.hid (HS.out.trans (by rw [hb1, hb2, hb3, hb4]))
  rw [hb1] at f1
  rw [hb2] at f2
  rw [hb3] at f3
  rw [hb4] at f4
  clear hb1 hb2 hb3 hb4
  cases b1 with
  | false =>
    go_enter Tryd.func23, Tryd.ntmps23
    go_wp2_with fail
    refine f1.mono ?_
    rintro e w' ⟨rfl, rfl⟩
    go_wp2
    go_ret
    exact ⟨by rw [HS.out]; rfl, HB.out⟩
  | true =>
    cases b2 with
    | false =>
      go_enter Tryd.func23, Tryd.ntmps23
      go_wp2_with fail
      refine f1.mono ?_
      rintro e w' ⟨rfl, rfl⟩
      go_wp2_with fail
      refine f2.mono ?_
      rintro e w' ⟨rfl, rfl⟩
      go_wp2
      go_ret
      exact ⟨by rw [HS.out]; rfl, HB.out⟩
    | true =>
      cases b3 with
      | false =>
        go_enter Tryd.func23, Tryd.ntmps23
        go_wp2_with fail
        refine f1.mono ?_
        rintro e w' ⟨rfl, rfl⟩
        go_wp2_with fail
        refine f2.mono ?_
        rintro e w' ⟨rfl, rfl⟩
        go_wp2_with fail
        refine f3.mono ?_
        rintro e w' ⟨rfl, rfl⟩
        go_wp2
        go_ret
        exact ⟨by rw [HS.out]; rfl, HB.out⟩
      | true =>
        go_enter Tryd.func23, Tryd.ntmps23
        go_wp2_with fail
        refine f1.mono ?_
        rintro e w' ⟨rfl, rfl⟩
        go_wp2_with fail
        refine f2.mono ?_
        rintro e w' ⟨rfl, rfl⟩
        go_wp2_with fail
        refine f3.mono ?_
        rintro e w' ⟨rfl, rfl⟩
        go_wp2_with fail
        refine f4.mono ?_
        rintro e w' ⟨rfl, rfl⟩
        go_wp2
        go_ret
        exact ⟨by rw [HS.out]; cases b4 <;> rfl, HB.out⟩
/-! slices.Index, Contains -/
theorem drop_consI {L : List Int} {i : Nat} (h : i < L.length) : L.drop i = L.getD i 0 :: L.drop (i + 1) := by
  rw [List.drop_eq_getElem_cons h]; simp [List.getD, h]
set_option maxHeartbeats 4000000 in
theorem index64 {D : Nat → Prop} (v : Value) (L : List Int) (x : Int) (w : World) (hv : IsNums D w v L) :
    Calls Tryd.prog 48 #[v, .int .i64 x] w fun e w' => (∃ r : Int, e = .returned (.int .i64 r) ∧ (0 ≤ r ↔ L.contains x = true)) ∧ w = w' := by
  obtain ⟨a, cap, rfl, hcap, hmax⟩ := RowD.slice hv
  have HV := Lib.hid hv
  clear hv
  unfold maxLen at hmax
  go_enter Tryd.func48, Tryd.ntmps48
  go_wp2
  go_loopw [8] (fun y wr => ∃ (i : Nat), i ≤ L.length ∧ y = .int .i64 i ∧ (L.drop i).contains x = L.contains x ∧ wr = w) (fun y _ => L.length - (intOf y).toNat)
  case atStart => exact ⟨0, by omega, rfl, rfl, rfl⟩
  case round =>
    obtain ⟨i, hi, rfl, he, rfl⟩ := hrel
    have HE := Lib.hid he
    clear he
    by_cases hlt : i < L.length
    · obtain ⟨b, off, rfl, _, _, hc⟩ := IsNums.cell HV.out hlt
      have HD := Lib.hid (drop_consI hlt)
      obtain ⟨y, hy⟩ : ∃ y, L.getD i 0 = y := ⟨_, rfl⟩
      rw [hy] at hc
      have HY := Lib.hid hy
      clear hy
      by_cases hxy : x = y
      · have q : (x == y) = true := beq_t hxy
        go_wp2
        go_ret
        refine ⟨⟨i, rfl, ?_⟩, rfl⟩
        rw [← HE.out, HD.out, HY.out, hxy]
        simp
      · have q : (x == y) = false := beq_f hxy
        have hne : (L.drop (i + 1)).contains x = L.contains x := by
          rw [← HE.out, HD.out, HY.out, List.contains_cons]
          simp [hxy]
        have HNE := Lib.hid hne
        clear hne
        go_wp2
        go_roundw
        case rel => exact ⟨i + 1, hlt, by go_num, HNE.out, by first | rfl | trivial⟩
        case measure => simp [intOf]; omega
    · obtain rfl : i = L.length := by omega
      go_wp2
      go_ret
      refine ⟨⟨-1, rfl, ?_⟩, rfl⟩
      rw [← HE.out, List.drop_length]
      simp
set_option maxHeartbeats 4000000 in
theorem contains64 {D : Nat → Prop} (v : Value) (L : List Int) (x : Int) (w : World) (hv : IsNums D w v L) :
    Calls Tryd.prog 38 #[v, .int .i64 x] w fun e w' => e = .returned (.bool (L.contains x)) ∧ w = w' := by
  have h := index64 v L x w hv
  obtain ⟨a, cap, rfl, hcap, hmax⟩ := RowD.slice hv
  clear hv
  obtain ⟨n, hn⟩ : ∃ n, L.length = n := ⟨_, rfl⟩
  rw [hn] at h ⊢
  go_enter Tryd.func38, Tryd.ntmps38
  go_wp2_with fail
  refine h.mono ?_
  rintro e w' ⟨⟨r, rfl, hr⟩, rfl⟩
  have e2 : decide (0 ≤ r) = L.contains x := by
    cases hc : L.contains x with
    | true => exact decide_eq_true (hr.2 hc)
    | false => exact decide_eq_false fun h => by rw [hr.1 h] at hc; cases hc
  have HE := Lib.hid e2
  clear e2 hr h
  go_wp2
  go_ret
  exact ⟨by rw [← HE.out]; rfl, rfl⟩
end Go.Proofs.YtaffmfocjaihlaaDoor.S18
