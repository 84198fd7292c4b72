/- No index: IndexNone; IndexOrder. -/
import Derived.Test.YthgpdnffahmhjaaIxG
set_option linter.unusedSimpArgs false
set_option linter.unusedVariables false
set_option linter.unusedSectionVars false
set_option maxRecDepth 100000
namespace Go.Proofs.Ythgpdnffahmhjaa.S20
open Go.RowKit Go.Maps Go.Shelf
/-- a row of bools that came in -/
def IsBo (w : World) (a : Option Addr) (n : Nat) (B : Nat → Bool) : Prop := n ≤ maxLen ∧ ∀ i, i < n → ∃ b off, a = some ⟨b, off, none⟩ ∧ b < w.heap.size ∧ w.cell? ⟨b, off + i, none⟩ = some (.bool (B i))
theorem isBo_nil (w : World) (B : Nat → Bool) : IsBo w none 0 B := ⟨by unfold maxLen; omega, fun i hi => by omega⟩
theorem isBo_open {w : World} {x : Addr} {l c : Nat} {B : Nat → Bool} (hl : l ≤ c) (hm : c ≤ maxLen) (h : ∀ i, i < c → w.cell? (x.add i) = some (.bool (B i))) : IsBo w (some x) l B := by
  refine ⟨Nat.le_trans hl hm, fun i hi => ?_⟩
  obtain ⟨b, o, spot⟩ := x
  have hc := h i (by omega)
  have hc0 := h 0 (by omega)
  have hspot : spot = none := by simpa [Addr.add] using World.cell?_spot hc0
  subst hspot
  rw [addr_at] at hc
  exact ⟨b, o, rfl, World.block_lt_of_cell? w _ hc, hc⟩
theorem zcell_below (w : World) : Below w.heap.size w (w.alloc (.cells #[.int .i64 0, .int .i64 0, .int .i64 0] 30)) := (Below.refl _ _).alloc (Nat.le_refl _) _
attribute [local go_sem ↓] loadL_eq storeL_eq buildL_eq
attribute [local go_sem] run_buildL0 run_buildL1 run_buildL2 run_buildL3
set_option maxHeartbeats 4000000 in
theorem hold_nil (a : Int) (w : World) : Calls Try.prog 13 #[.pointer none, .int .i64 a] w fun e w' => e = .returned (.tuple #[]) ∧ w' = w := by
  go_enter Try.func13, Try.ntmps13
  go_wp2_with fail
  go_end0
  exact ⟨rfl, rfl⟩
set_option maxHeartbeats 4000000 in
theorem get_nil (k : ByteArray) (w : World) : Calls Try.prog 12 #[.pointer none, .string k] w fun e w' => e = .returned (.tuple #[locV ⟨0, 0, 0⟩, .bool false]) ∧ Below w.heap.size w w' := by
  obtain ⟨w1, w2, hw1, hst, hk2, hb2⟩ := own_loc w ⟨0, 0, 0⟩
  simp only [locV] at hst
  have HB := Lib.hid hb2
  have HK := Lib.hid hk2
  clear hb2 hk2
  go_enter Try.func12, Try.ntmps12
  go_wp2_with fail
  exact bodyPost_ret (ret_loc rfl _ rfl rfl HK.out) rfl ⟨rfl, HB.out⟩
set_option maxHeartbeats 4000000 in
theorem put_nil (k : ByteArray) (a b c : Int) (w : World) : Calls Try.prog 11 #[.pointer none, .string k, .agg #[.int .i64 a, .int .i64 b, .int .i64 c]] w fun e w' => e = .returned (.bool false) ∧ Below w.heap.size w w' := by
  have HB : Hid (Below w.heap.size w (w.alloc (.cells #[.int .i64 a, .int .i64 b, .int .i64 c] 30))) := Lib.hid ((Below.refl _ _).alloc (Nat.le_refl _) _)
  go_enter Try.func11, Try.ntmps11
  go_wp2_with fail
  go_ret
  exact ⟨rfl, HB.out⟩
set_option maxHeartbeats 4000000 in
theorem del_nil (k : ByteArray) (q : Int) (w : World) : Calls Try.prog 10 #[.pointer none, .string k, .int .i64 q] w fun e w' => e = .returned (.bool false) ∧ w' = w := by
  go_enter Try.func10, Try.ntmps10
  go_wp2_with fail
  go_ret
  exact ⟨rfl, rfl⟩
set_option maxHeartbeats 4000000 in
theorem move_nil (k : ByteArray) (a b c a1 b1 c1 : Int) (w : World) : Calls Try.prog 14 #[.pointer none, .string k, .agg #[.int .i64 a, .int .i64 b, .int .i64 c], .agg #[.int .i64 a1, .int .i64 b1, .int .i64 c1]] w fun e w' => e = .returned (.bool false) ∧ Below w.heap.size w w' := by
  obtain ⟨w1, hw1⟩ : ∃ w1, w.alloc (.cells #[.int .i64 a, .int .i64 b, .int .i64 c] 30) = w1 := ⟨_, rfl⟩
  obtain ⟨w2, hw2⟩ : ∃ w2, w1.alloc (.cells #[.int .i64 a1, .int .i64 b1, .int .i64 c1] 30) = w2 := ⟨_, rfl⟩
  have hb1 : Below w.heap.size w w1 := by rw [← hw1]; exact (Below.refl _ _).alloc (Nat.le_refl _) _
  have hb2 : Below w1.heap.size w1 w2 := by rw [← hw2]; exact (Below.refl _ _).alloc (Nat.le_refl _) _
  have HB := Lib.hid (hb1.trans (hb2.mono hb1.size))
  have hgt := get_nil k w2
  simp only [locV] at hgt
  clear hb1 hb2
  go_enter Try.func14, Try.ntmps14
  go_wp2_with fail
  refine hgt.mono ?_
  rintro e w3 ⟨rfl, hb3⟩
  obtain ⟨w4, w5, hw4, hst, hk5, hb5⟩ := own_loc w3 ⟨0, 0, 0⟩
  simp only [locV] at hst
  have HB5 := Lib.hid (hb3.trans (hb5.mono hb3.size))
  clear hgt hb3 hk5 hb5
  go_wp2_with fail
  go_ret
  exact ⟨rfl, HB.out.trans (HB5.out.mono HB.out.size)⟩
set_option maxHeartbeats 4000000 in
theorem len_nil (w : World) : Calls Try.prog 15 #[.pointer none] w fun e w' => e = .returned (.int .i64 0) ∧ w' = w := by
  go_enter Try.func15, Try.ntmps15
  go_wp2_with fail
  go_ret
  exact ⟨rfl, rfl⟩
set_option maxHeartbeats 4000000 in
theorem keys_nil (w : World) : Calls Try.prog 16 #[.pointer none] w fun e w' => e = .returned (.slice none 0 0) ∧ w' = w := by
  go_enter Try.func16, Try.ntmps16
  go_wp2_with fail
  go_ret
  exact ⟨rfl, rfl⟩
set_option maxHeartbeats 4000000 in
theorem count_nil (a : Int) (w : World) : Calls Try.prog 17 #[.pointer none, .int .i64 a] w fun e w' => e = .returned (.int .i64 0) ∧ w' = w := by
  go_enter Try.func17, Try.ntmps17
  go_wp2_with fail
  go_ret
  exact ⟨rfl, rfl⟩
set_option maxHeartbeats 4000000 in
theorem held_nil (a : Int) (w : World) : Calls Try.prog 19 #[.pointer none, .int .i64 a] w fun e w' => e = .returned (.int .i64 0) ∧ w' = w := by
  go_enter Try.func19, Try.ntmps19
  go_wp2_with fail
  go_ret
  exact ⟨rfl, rfl⟩
set_option maxHeartbeats 4000000 in
theorem free_nil (a : Int) (w : World) : Calls Try.prog 18 #[.pointer none, .int .i64 a] w fun e w' => e = .returned (.bool false) ∧ w' = w := by
  have hh := held_nil a w
  go_enter Try.func18, Try.ntmps18
  go_wp2_with fail
  refine hh.mono ?_
  rintro e w1 ⟨rfl, rfl⟩
  clear hh
  go_wp2_with fail
  go_ret
  exact ⟨rfl, rfl⟩
set_option maxHeartbeats 8000000 in
theorem indexNone_walk (w : World) : Calls Try.prog 4 #[] w fun e w' => e = .returned (.bool true) ∧ Below w.heap.size w w' := by
  have hh := hold_nil 1 w
  have hg := get_nil kK w
  simp only [locV] at hg
  go_enter Try.func4, Try.ntmps4
  go_wp2_with fail
  refine hh.mono ?_
  rintro e w1 ⟨rfl, rfl⟩
  clear hh
  go_wp2_with fail
  refine hg.mono ?_
  rintro e w2 ⟨rfl, hb2⟩
  obtain ⟨w3, w4, hw3, hst, hk4, hb4⟩ := own_loc w2 ⟨0, 0, 0⟩
  simp only [locV] at hst
  have HB := Lib.hid (hb2.trans (hb4.mono hb2.size))
  have hbg := begun_any w4
  clear hg hb2 hk4 hb4
  go_wp2_with fail
  refine hbg.mono ?_
  rintro e w5 ⟨rfl, hb5⟩
  have HB5 := Lib.hid (HB.out.trans (hb5.mono HB.out.size))
  have hp := put_nil kK 0 0 1 w5
  clear hbg hb5
  go_wp2_with fail
  refine hp.mono ?_
  rintro e w6 ⟨rfl, hb6⟩
  have HB6 := Lib.hid (HB5.out.trans (hb6.mono HB5.out.size))
  have hd := del_nil kK 1 w6
  clear hp hb6
  go_wp2_with fail
  refine hd.mono ?_
  rintro e w7 ⟨rfl, rfl⟩
  have hm := move_nil kK 0 0 0 0 0 0 w7
  clear hd
  go_wp2_with fail
  refine hm.mono ?_
  rintro e w8 ⟨rfl, hb8⟩
  have HB8 := Lib.hid (HB6.out.trans (hb8.mono HB6.out.size))
  have h := len_nil w8
  clear hm hb8
  go_wp2_with fail
  refine h.mono ?_
  rintro e w9 ⟨rfl, rfl⟩
  clear h
  have h := keys_nil w9
  go_wp2_with fail
  refine h.mono ?_
  rintro e w8 ⟨rfl, rfl⟩
  clear h
  have h := count_nil 1 w8
  go_wp2_with fail
  refine h.mono ?_
  rintro e w9 ⟨rfl, rfl⟩
  clear h
  have h := free_nil 1 w9
  go_wp2_with fail
  refine h.mono ?_
  rintro e w8 ⟨rfl, rfl⟩
  clear h
  have h := held_nil 1 w8
  go_wp2_with fail
  refine h.mono ?_
  rintro e w9 ⟨rfl, rfl⟩
  clear h
  go_wp2_with fail
  go_ret
  exact ⟨rfl, HB8.out⟩
/-- what is known of the one key: the greatest number, and whether it was a delete -/
structure Ord (S : IX) (best : Int) (del : Bool) : Prop where
  pos : 0 ≤ best
  none_ : best = 0 → S.loc kK = none ∧ S.gone kK = none
  gone : 0 < best → del = true → S.loc kK = none ∧ S.gone kK = some best
  here : 0 < best → del = false → ∃ x, S.loc kK = some x ∧ x.seq = best
theorem Ord.news {S : IX} {best : Int} {del : Bool} (h : Ord S best del) {s : Int} (hs : 1 ≤ s) : newsB S kK s = decide (best < s) := by
  have hp := h.pos
  unfold newsB
  by_cases h0 : best = 0
  · obtain ⟨e1, e2⟩ := h.none_ h0
    rw [e1, e2]
    exact (decide_eq_true (by omega)).symm
  · cases hd : del with
    | true =>
      obtain ⟨e1, e2⟩ := h.gone (by omega) hd
      rw [e1, e2]
    | false =>
      obtain ⟨x, e1, e2⟩ := h.here (by omega) hd
      rw [e1, ← e2]
theorem ord_start : Ord S0 0 false := ⟨by omega, fun _ => ⟨rfl, rfl⟩, fun h => by omega, fun h => by omega⟩
theorem Ord.put {S : IX} {x : LT} (hs : 1 ≤ x.seq) : Ord (put1 S kK x) x.seq false :=
  ⟨by omega, fun h => by omega, (fun _ h => by cases h), fun _ _ => ⟨x, by simp [put1, place1, fput], rfl⟩⟩
theorem Ord.del {S : IX} {q : Int} (hs : 1 ≤ q) : Ord (del1 S kK q) q true :=
  ⟨by omega, fun h => by omega, fun _ _ => ⟨by simp only [del1]; exact drop1_none S kK, by simp [del1, fput]⟩, fun _ h => by cases h⟩
set_option maxHeartbeats 16000000 in
theorem indexOrder_walk (a0 : Option Addr) (n0 cap0 : Nat) (z0 : List Int) (a1 : Option Addr) (n1 cap1 : Nat) (z1 : Nat → Bool) (w : World) (h0 : IsRow .i64 w a0 n0 cap0 z0) (h1 : IsBo w a1 n1 z1) : Calls Try.prog 3 #[.slice a0 n0 cap0, .slice a1 n1 cap1] w fun e w' => e = .returned (.bool true) ∧ Below w.heap.size w w' := by
  have hbg := begun_any w
  have H0 := Lib.hid h0
  have H1 := Lib.hid h1
  have hm0 : n0 ≤ 9223372036854775807 := by have := h0.len_le; unfold maxLen at this; omega
  have hm1 : n1 ≤ 9223372036854775807 := by have := h1.1; unfold maxLen at this; omega
  clear h0 h1
  go_enter Try.func3, Try.ntmps3
  go_wp2_with fail
  refine hbg.mono ?_
  rintro e w1 ⟨rfl, hb1⟩
  have HB1 := Lib.hid hb1
  have hnew := new_any w1
  clear hbg hb1
  go_wp2_with fail
  refine hnew.mono ?_
  rintro e w2 ⟨p, rfl, hI2⟩
  clear hnew
  go_wp2_with fail
  go_loopw [7, 8, 9] (fun b d v wr => ∃ (i : Nat) (S : IX) (best : Int) (del : Bool), i ≤ n0 ∧ i ≤ 40 ∧ v = .int .i64 i ∧ b = .int .i64 best ∧ d = .bool del ∧ Hid (InX w1 p S (3 * i) wr) ∧ Hid (Ord S best del)) (fun _ _ v _ => 40 - (intOf v).toNat)
  case atStart => exact ⟨0, S0, 0, false, by omega, by omega, rfl, rfl, rfl, hI2, Lib.hid ord_start⟩
  case round =>
    obtain ⟨i, S, best, del, hi, hi40, rfl, rfl, rfl, HI, HO⟩ := hrel
    by_cases hlt : i < n0
    · have q1 : decide ((i : Int) < (n0 : Int)) = true := decide_eq_true (by omega)
      have q1' : decide (i < n0) = true := decide_eq_true hlt
      by_cases hlt4 : i < 40
      · have q2 : decide ((i : Int) < 40) = true := decide_eq_true (by omega)
        have q2' : decide (i < 40) = true := decide_eq_true hlt4
        obtain ⟨b, o, rfl, hbl, hz, hmx, hc, hwf⟩ := H0.out.cells (by omega)
        have c0 := hc i hlt
        obtain ⟨s, hs⟩ : ∃ s, z0.getD i 0 = s := ⟨_, rfl⟩
        rw [hs] at c0
        have c1 : wr.cell? ⟨b, o + i, none⟩ = some (.int .i64 s) := ((HB1.out.trans (HI.out.bel.mono HB1.out.size)).cell (p := ⟨b, o + i, none⟩) hbl).trans c0
        clear hc hwf c0 hs hz hmx
        by_cases hs1 : s < 1
        · have q3 : decide (s < 1) = true := decide_eq_true hs1
          go_wp2_with fail
          go_roundw
          case rel => exact ⟨i + 1, S, best, del, by omega, by omega, by first | rfl | go_num, rfl, rfl, Lib.hid (HI.out.more (by omega)), HO⟩
          case measure => simp only [intOf_i]; omega
        · have q3 : decide (s < 1) = false := decide_eq_false hs1
          have HS1 := Lib.hid (show 1 ≤ s by omega)
          have HN := Lib.hid (HO.out.news (s := s) (by omega))
          by_cases hd1 : i < n1
          · have q4 : decide ((i : Int) < (n1 : Int)) = true := decide_eq_true (by omega)
            have q4' : decide (i < n1) = true := decide_eq_true hd1
            obtain ⟨b9, o9, rfl, hbl9, hcl9⟩ := H1.out.2 i hd1
            have c9 : wr.cell? ⟨b9, o9 + i, none⟩ = some (.bool (z1 i)) := ((HB1.out.trans (HI.out.bel.mono HB1.out.size)).cell (p := ⟨b9, o9 + i, none⟩) hbl9).trans hcl9
            clear hbl9 hcl9
            cases hzr : z1 i with
            | true =>
              rw [hzr] at c9
              by_cases hw : best < s
              · have q9 : decide (best < s) = true := decide_eq_true hw
                have hd := del_h kK s HI.out (by omega) (by decide)
                rw [HN.out] at hd
                rw [q9] at hd
                go_wp2_with fail
                refine hd.mono ?_
                rintro e w3 ⟨rfl, hI3⟩
                have hI3 : Hid (InX w1 p (del1 S kK s) (3 * i + 3) w3) := hI3
                clear hd
                go_wp2_with fail
                go_roundw
                case rel => exact ⟨i + 1, _, s, true, by omega, by omega, by first | rfl | go_num, rfl, rfl, Lib.hid (hI3.out.more (by omega)), Lib.hid (Ord.del HS1.out)⟩
                case measure => simp only [intOf_i]; omega
              · have q9 : decide (best < s) = false := decide_eq_false hw
                have hd := del_h kK s HI.out (by omega) (by decide)
                rw [HN.out] at hd
                rw [q9] at hd
                go_wp2_with fail
                refine hd.mono ?_
                rintro e w3 ⟨rfl, hI3⟩
                have hI3 : Hid (InX w1 p S (3 * i + 3) w3) := hI3
                clear hd
                go_wp2_with fail
                go_roundw
                case rel => exact ⟨i + 1, S, best, del, by omega, by omega, by first | rfl | go_num, rfl, rfl, Lib.hid (hI3.out.more (by omega)), HO⟩
                case measure => simp only [intOf_i]; omega
            | false =>
              rw [hzr] at c9
              by_cases hw : best < s
              · have q9 : decide (best < s) = true := decide_eq_true hw
                have hd := put_h kK ⟨1, i, s⟩ HI.out (by omega) (by decide) (show (Lit.int .i64 1).wf = true by decide)
                simp only [HN.out] at hd
                rw [q9] at hd
                go_wp2_with fail
                refine hd.mono ?_
                rintro e w3 ⟨rfl, hI3⟩
                have hI3 : Hid (InX w1 p (put1 S kK ⟨1, i, s⟩) (3 * i + 3) w3) := hI3
                clear hd
                go_wp2_with fail
                go_roundw
                case rel => exact ⟨i + 1, _, s, false, by omega, by omega, by first | rfl | go_num, rfl, rfl, Lib.hid (hI3.out.more (by omega)), Lib.hid (Ord.put (x := ⟨1, i, s⟩) HS1.out)⟩
                case measure => simp only [intOf_i]; omega
              · have q9 : decide (best < s) = false := decide_eq_false hw
                have hd := put_h kK ⟨1, i, s⟩ HI.out (by omega) (by decide) (show (Lit.int .i64 1).wf = true by decide)
                simp only [HN.out] at hd
                rw [q9] at hd
                go_wp2_with fail
                refine hd.mono ?_
                rintro e w3 ⟨rfl, hI3⟩
                have hI3 : Hid (InX w1 p S (3 * i + 3) w3) := hI3
                clear hd
                go_wp2_with fail
                go_roundw
                case rel => exact ⟨i + 1, S, best, del, by omega, by omega, by first | rfl | go_num, rfl, rfl, Lib.hid (hI3.out.more (by omega)), HO⟩
                case measure => simp only [intOf_i]; omega
          · have q4 : decide ((i : Int) < (n1 : Int)) = false := decide_eq_false (by omega)
            have q4' : decide (i < n1) = false := decide_eq_false hd1
            by_cases hw : best < s
            · have q9 : decide (best < s) = true := decide_eq_true hw
              have hd := put_h kK ⟨1, i, s⟩ HI.out (by omega) (by decide) (show (Lit.int .i64 1).wf = true by decide)
              simp only [HN.out] at hd
              rw [q9] at hd
              go_wp2_with fail
              refine hd.mono ?_
              rintro e w3 ⟨rfl, hI3⟩
              have hI3 : Hid (InX w1 p (put1 S kK ⟨1, i, s⟩) (3 * i + 3) w3) := hI3
              clear hd
              go_wp2_with fail
              go_roundw
              case rel => exact ⟨i + 1, _, s, false, by omega, by omega, by first | rfl | go_num, rfl, rfl, Lib.hid (hI3.out.more (by omega)), Lib.hid (Ord.put (x := ⟨1, i, s⟩) HS1.out)⟩
              case measure => simp only [intOf_i]; omega
            · have q9 : decide (best < s) = false := decide_eq_false hw
              have hd := put_h kK ⟨1, i, s⟩ HI.out (by omega) (by decide) (show (Lit.int .i64 1).wf = true by decide)
              simp only [HN.out] at hd
              rw [q9] at hd
              go_wp2_with fail
              refine hd.mono ?_
              rintro e w3 ⟨rfl, hI3⟩
              have hI3 : Hid (InX w1 p S (3 * i + 3) w3) := hI3
              clear hd
              go_wp2_with fail
              go_roundw
              case rel => exact ⟨i + 1, S, best, del, by omega, by omega, by first | rfl | go_num, rfl, rfl, Lib.hid (hI3.out.more (by omega)), HO⟩
              case measure => simp only [intOf_i]; omega
      · obtain rfl : i = 40 := by omega
        have q2 : decide (((40 : Nat) : Int) < 40) = false := by decide
        clear hlt4
        have hg := get_h kK HI.out (by decide)
        have hpos := HO.out.pos
        by_cases hb0 : best = 0
        · obtain ⟨e1, _⟩ := HO.out.none_ hb0
          rw [e1] at hg
          subst hb0
          simp only [Option.getD_none, Option.isSome_none, locV] at hg
          go_wp2_with fail
          refine hg.mono ?_
          rintro e w3 ⟨rfl, hI3, hb3⟩
          obtain ⟨w4, w5, hw4, hst, hk5, hb5⟩ := own_loc w3 ⟨0, 0, 0⟩
          simp only [locV] at hst
          have HB5 := Lib.hid (hI3.out.bel.trans (hb5.mono hI3.out.bel.size))
          clear hg hk5 hb5 hb3
          go_wp2_with fail
          go_ret
          exact ⟨rfl, HB1.out.trans (HB5.out.mono HB1.out.size)⟩
        · have hb1 : 0 < best := by omega
          have q5 : decide (0 < best) = true := decide_eq_true hb1
          cases del with
          | true =>
            obtain ⟨e1, _⟩ := HO.out.gone hb1 rfl
            rw [e1] at hg
            simp only [Option.getD_none, Option.isSome_none, locV] at hg
            go_wp2_with fail
            refine hg.mono ?_
            rintro e w3 ⟨rfl, hI3, hb3⟩
            obtain ⟨w4, w5, hw4, hst, hk5, hb5⟩ := own_loc w3 ⟨0, 0, 0⟩
            simp only [locV] at hst
            have HB5 := Lib.hid (hI3.out.bel.trans (hb5.mono hI3.out.bel.size))
            clear hg hk5 hb5 hb3
            go_wp2_with fail
            go_ret
            exact ⟨rfl, HB1.out.trans (HB5.out.mono HB1.out.size)⟩
          | false =>
            obtain ⟨x, e1, e2⟩ := HO.out.here hb1 rfl
            rw [e1] at hg
            simp only [Option.getD_some, Option.isSome_some, locV] at hg
            go_wp2_with fail
            refine hg.mono ?_
            rintro e w3 ⟨rfl, hI3, hb3⟩
            obtain ⟨w4, w5, hw4, hst, hk5, hb5⟩ := own_loc w3 x
            simp only [locV] at hst
            have c5 : w5.cell? ⟨w3.heap.size, 2, none⟩ = some (.int .i64 x.seq) := hk5.cell rfl
            have q6 : (x.seq == best) = true := by simp [e2]
            have HB5 := Lib.hid (hI3.out.bel.trans (hb5.mono hI3.out.bel.size))
            clear hg hk5 hb5 hb3 e2
            go_wp2_with fail
            go_ret
            exact ⟨rfl, HB1.out.trans (HB5.out.mono HB1.out.size)⟩
    · obtain rfl : i = n0 := by omega
      have q1 : decide ((i : Int) < (i : Int)) = false := decide_eq_false (by omega)
      clear hlt hi
      have hg := get_h kK HI.out (by decide)
      have hpos := HO.out.pos
      by_cases hb0 : best = 0
      · obtain ⟨e1, _⟩ := HO.out.none_ hb0
        rw [e1] at hg
        subst hb0
        simp only [Option.getD_none, Option.isSome_none, locV] at hg
        go_wp2_with fail
        refine hg.mono ?_
        rintro e w3 ⟨rfl, hI3, hb3⟩
        obtain ⟨w4, w5, hw4, hst, hk5, hb5⟩ := own_loc w3 ⟨0, 0, 0⟩
        simp only [locV] at hst
        have HB5 := Lib.hid (hI3.out.bel.trans (hb5.mono hI3.out.bel.size))
        clear hg hk5 hb5 hb3
        go_wp2_with fail
        go_ret
        exact ⟨rfl, HB1.out.trans (HB5.out.mono HB1.out.size)⟩
      · have hb1 : 0 < best := by omega
        have q5 : decide (0 < best) = true := decide_eq_true hb1
        cases del with
        | true =>
          obtain ⟨e1, _⟩ := HO.out.gone hb1 rfl
          rw [e1] at hg
          simp only [Option.getD_none, Option.isSome_none, locV] at hg
          go_wp2_with fail
          refine hg.mono ?_
          rintro e w3 ⟨rfl, hI3, hb3⟩
          obtain ⟨w4, w5, hw4, hst, hk5, hb5⟩ := own_loc w3 ⟨0, 0, 0⟩
          simp only [locV] at hst
          have HB5 := Lib.hid (hI3.out.bel.trans (hb5.mono hI3.out.bel.size))
          clear hg hk5 hb5 hb3
          go_wp2_with fail
          go_ret
          exact ⟨rfl, HB1.out.trans (HB5.out.mono HB1.out.size)⟩
        | false =>
          obtain ⟨x, e1, e2⟩ := HO.out.here hb1 rfl
          rw [e1] at hg
          simp only [Option.getD_some, Option.isSome_some, locV] at hg
          go_wp2_with fail
          refine hg.mono ?_
          rintro e w3 ⟨rfl, hI3, hb3⟩
          obtain ⟨w4, w5, hw4, hst, hk5, hb5⟩ := own_loc w3 x
          simp only [locV] at hst
          have c5 : w5.cell? ⟨w3.heap.size, 2, none⟩ = some (.int .i64 x.seq) := hk5.cell rfl
          have q6 : (x.seq == best) = true := by simp [e2]
          have HB5 := Lib.hid (hI3.out.bel.trans (hb5.mono hI3.out.bel.size))
          clear hg hk5 hb5 hb3 e2
          go_wp2_with fail
          go_ret
          exact ⟨rfl, HB1.out.trans (HB5.out.mono HB1.out.size)⟩
end Go.Proofs.Ythgpdnffahmhjaa.S20
