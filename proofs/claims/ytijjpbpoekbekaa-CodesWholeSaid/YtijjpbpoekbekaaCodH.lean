/- foliolaw1.Ints, foliolaw7.cut, foliolaw7.begun: contracts. -/
import Derived.Test.YtijjpbpoekbekaaCodG
set_option linter.unusedSimpArgs false
set_option linter.unusedVariables false
namespace Go.Proofs.Ytijjpbpoekbekaa
open Go.RowKit Pl
set_option maxHeartbeats 1000000 in
theorem ints_same (v1 v2 : Value) (A : List Int) (w : World) (h1 : IsInts w v1 A) (h2 : IsInts w v2 A) (hl : A.length ≤ 8589934592) :
    Calls Try.prog 22 #[v1, v2] w fun e w' => e = .returned (.bool true) ∧ Below w.heap.size w w' := by
  obtain ⟨a1, c1, rfl, _, _⟩ := h1.slice
  obtain ⟨a2, c2, rfl, _, _⟩ := h2.slice
  have H1 := Lib.hid h1
  have H2 := Lib.hid h2
  have hbn : ((A.length : Int) != (A.length : Int)) = false := bne_f rfl
  clear h1 h2
  go_enter Try.func22, Try.ntmps22
  go_wp2
  clear hbn
  go_loopw [5] (fun x wr => ∃ i : Nat, i ≤ A.length ∧ x = .int .i64 i ∧ ∃ m, wr = w.drewN m) (fun x _ => A.length - (intOf x).toNat)
  case atStart => exact ⟨0, by omega, rfl, 0, rfl⟩
  case round =>
    obtain ⟨i, hi, rfl, m, rfl⟩ := hrel
    by_cases hlt : i < A.length
    · obtain ⟨b1, o1, k1, hs1, _, _, _, hc1⟩ := H1.out.cells (by omega)
      simp at hs1
      obtain ⟨rfl, rfl⟩ := hs1
      obtain ⟨b2, o2, k2, hs2, _, _, _, hc2⟩ := H2.out.cells (by omega)
      simp at hs2
      obtain ⟨rfl, rfl⟩ := hs2
      have d1 := hc1 i hlt
      have d2 := hc2 i hlt
      clear hc1 hc2
      generalize A.getD i 0 = x at *
      have ht : (x != x) = false := bne_f rfl
      go_wp2_with fail
      go_quiet (fail)
      go_wp2_with fail
      go_roundw
      case rel => exact ⟨i + 1, by omega, by go_num, _, rfl⟩
      case measure => simp [intOf]; omega
    · obtain rfl : i = A.length := by omega
      go_wp2_with fail
      go_ret
      exact ⟨rfl, bel_drewN (Below.refl _ _) m⟩
set_option maxHeartbeats 1000000 in
theorem cut_any (a : Option Addr) (n cap : Nat) (F : List Int) (w : World) (hv : IsInts w (.slice a n cap) F) (hn : F.length = n) (hc : n ≤ cap) (hm : cap ≤ maxLen) :
    Calls Try.prog 10 #[.slice a n cap] w fun e w' => (∃ m, e = .returned (.slice a m cap) ∧ m = (F.take 302).length ∧ m ≤ 302 ∧ IsInts w (.slice a m cap) (F.take 302)) ∧ w = w' := by
  have HV := Lib.hid hv
  have HN := Lib.hid hn
  unfold maxLen at hm
  clear hv hn
  by_cases h : 302 < n
  · have h1 : (302 : Int) ≤ (cap : Int) := by omega
    go_enter Try.func10, Try.ntmps10
    go_wp2
    go_ret
    have hl : (F.take 302).length = 302 := by rw [List.length_take, HN.out]; omega
    refine ⟨⟨302, rfl, hl.symm, Nat.le_refl _, ?_⟩, rfl⟩
    have := IsCells.take (n := n) (by have := HV.out; unfold IsInts at this; rw [HN.out] at this; exact this) 302 302 (by omega)
    unfold IsInts
    rw [hl]
    simpa [i64s, List.map_take] using this
  · go_enter Try.func10, Try.ntmps10
    go_wp2
    go_ret
    have hl : F.take 302 = F := List.take_of_length_le (by rw [HN.out]; omega)
    exact ⟨⟨n, rfl, by rw [hl, HN.out], by omega, by rw [hl]; exact HV.out⟩, rfl⟩
attribute [local go_sem ↓] build29_eq
attribute [local go_sem] run_build29
theorem ok_begun : okL [2, 1, 2] := ⟨by decide, by intro x hx; simp at hx; omega, by decide +kernel⟩
theorem codes_begun : cdVs (codesL [2, 1, 2]) = [.int .u32 2, .int .i64 2, .int .u32 0, .int .i64 1, .int .u32 3, .int .i64 2] := by
  have : codesL [2, 1, 2] = [(2, 2), (0, 1), (3, 2)] := by decide +kernel
  rw [this]; rfl
theorem coded_begun : [1, 0, 2].any (noCd [2, 1, 2]) = false := by decide +kernel
theorem bits_begun : codeBs [2, 1, 2] [1, 0, 2] = [false, true, false, true, true] := by decide +kernel
theorem bytes_begun : bytesOf [false, true, false, true, true] = [88] := by decide +kernel
theorem rd_begun : rdF [2, 1, 2] 2 (9 : Int).toNat ((bitsB [88]).drop 0) [] 0 = ([1, 0, 2], 0, 5) := by decide +kernel
theorem ints_new (w : World) (a b c : Int) : IsInts (w.alloc (.cells #[.int .i64 a, .int .i64 b, .int .i64 c] 3)) (.slice (some ⟨w.heap.size, 0, none⟩) 3 3) [a, b, c] :=
  isInts_blk (n := 3) (Blk.new w 3 [.int .i64 a, .int .i64 b, .int .i64 c]) rfl (by unfold maxLen; omega)
set_option maxHeartbeats 8000000 in
theorem begun_any (w : World) : Calls Try.prog 9 #[] w fun e w' => e = .returned (.bool true) ∧ Below w.heap.size w w' := by
  have hmf : ∀ (fn : Fn) (first cap : Array Value) (w : World), (Instr.makeFunc fn first cap).run Try.prog w = .ok (.func fn first cap) w := fun _ _ _ _ => rfl
  go_enter Try.func9, Try.ntmps9
  go_wp2_with fail
  refine (of_any _ [2, 1, 2] _ (ints_new w 2 1 2) (by decide)).mono ?_
  rintro e w1 ⟨hb1, ⟨_, c, rfl, hcw, hc⟩ | ⟨hn, _⟩⟩
  rotate_left
  · exact absurd ok_begun hn
  rw [codes_begun] at hc
  have HB1 : Hid (Below w.heap.size w w1) := Lib.hid (((Below.refl _ _).alloc (Nat.le_refl _) _).trans (hb1.mono (by simp)))
  have HC1 := Lib.hid hc
  clear hb1 hc
  go_wp2_with fail
  have hsz1 := HB1.out.size
  obtain ⟨g, hg⟩ : ∃ g, g = w1.heap.size := ⟨_, rfl⟩
  have hW : Wr (w1.alloc (.cells (wcells none []).toArray 41)) g [] := by rw [hg]; exact Wr.fresh w1
  have hI1 := ints_new (w1.alloc (.cells (wcells none []).toArray 41)) 2 1 2
  have hI2 := ints_new ((w1.alloc (.cells (wcells none []).toArray 41)).alloc (.cells #[.int .i64 2, .int .i64 1, .int .i64 2] 3)) 1 0 2
  have hs1 : (w1.alloc (.cells (wcells none []).toArray 41)).heap.size = g + 1 := by simp [hg]
  have hs2 : ((w1.alloc (.cells (wcells none []).toArray 41)).alloc (.cells #[.int .i64 2, .int .i64 1, .int .i64 2] 3)).heap.size = g + 1 + 1 := by simp [hg]
  have hI1' := hI1.below ((Below.refl _ _).alloc (Nat.le_refl _) (.cells #[.int .i64 1, .int .i64 0, .int .i64 2] 3))
  rw [hs1] at hI1'
  rw [hs2] at hI2
  have hW' := (hW.alloc (.cells #[.int .i64 2, .int .i64 1, .int .i64 2] 3)).alloc (.cells #[.int .i64 1, .int .i64 0, .int .i64 2] 3)
  have hC' := ((HC1.out.alloc (.cells (wcells none []).toArray 41)).alloc (.cells #[.int .i64 2, .int .i64 1, .int .i64 2] 3)).alloc (.cells #[.int .i64 1, .int .i64 0, .int .i64 2] 3)
  have hB' := ((HB1.out.alloc hsz1 (.cells (wcells none []).toArray 41)).alloc (by simp; omega) (.cells #[.int .i64 2, .int .i64 1, .int .i64 2] 3)).alloc (by simp; omega) (.cells #[.int .i64 1, .int .i64 0, .int .i64 2] 3)
  rw [← hg]
  have hgw : w.heap.size ≤ g := by omega
  clear hI1 hW hs1 hs2 hg
  generalize ((w1.alloc (.cells (wcells none []).toArray 41)).alloc (.cells #[.int .i64 2, .int .i64 1, .int .i64 2] 3)).alloc (.cells #[.int .i64 1, .int .i64 0, .int .i64 2] 3) = w2 at *
  have HC2 := Lib.hid hC'
  have HB2 := Lib.hid hB'
  clear hC' hB'
  refine (write_any _ _ [2, 1, 2] [1, 0, 2] g [] w2 hI1' (by decide) hI2 (by decide) hW' (by decide) (by intro _ ad m c h; simp at h; obtain ⟨rfl, _⟩ := h; show g + 1 + 1 ≠ g; omega)).mono ?_
  rintro e w3 (⟨hn, _⟩ | ⟨_, hn, _⟩ | ⟨_, _, rfl, hw3, hg3⟩)
  · exact absurd ok_begun hn
  · rw [coded_begun] at hn; simp at hn
  rw [List.nil_append, bits_begun] at hw3
  have hcg : c ≠ g := HC2.out.ne (by exact hW'.blk.choose_spec) (by decide)
  have HC3 := Lib.hid (HC2.out.grown hg3 (by simpa using hcg))
  have HB3 := Lib.hid (HB2.out.trans (hg3.below HB2.out.size hgw))
  have HW3 := Lib.hid hw3
  clear hw3 hg3 hI1' hI2 hW' HC1 HB1 HC2 HB2 hcw
  go_wp2_with fail
  refine (bytes_any g _ _ HW3.out (by decide)).mono ?_
  rintro e w4 ⟨rfl, hk4, hb4⟩
  have HK4 : Hid (IsBytes w4 (.slice (some ⟨w3.heap.size, 0, none⟩) 1 1) [88]) := Lib.hid (by rw [← bytes_begun]; exact isBytes_new hk4 rfl (by decide))
  have HW4 := Lib.hid (HW3.out.below hb4)
  have HB4 := Lib.hid (HB3.out.trans (hb4.mono HB3.out.size))
  have HC4 := Lib.hid (HC3.out.below hb4 HC3.out.lt)
  clear hk4 hb4 HW3 HB3 HC3
  go_wp2_with fail
  refine (read_any _ [88] _ HK4.out (by decide)).mono ?_
  rintro e w5 ⟨r, rfl, hr, hb5⟩
  have HW5 := Lib.hid (HW4.out.below hb5)
  have HB5 := Lib.hid (HB4.out.trans (hb5.mono HB4.out.size))
  have HC5 := Lib.hid (HC4.out.below hb5 HC4.out.lt)
  have HR5 := Lib.hid hr
  have hrw : w.heap.size ≤ r := Nat.le_trans HB4.out.size hr.1
  clear hr hb5 HW4 HB4 HC4 HK4
  go_wp2_with fail
  refine (read_codes _ [2, 1, 2] 2 9 r _ [88] 0 _ (ints_new w5 2 1 2) (by decide) (by decide) (HR5.out.alloc _) (by omega)).mono ?_
  rintro e w6 ⟨hg6, ⟨hn, _⟩ | ⟨_, L, er, n, sp, cp, hrd, rfl, ho6, _⟩⟩
  · exact absurd ok_begun hn
  rw [rd_begun] at hrd
  simp at hrd
  obtain ⟨rfl, rfl, rfl⟩ := hrd
  obtain ⟨cs, hcs⟩ := (HR5.out.alloc (.cells #[.int .i64 2, .int .i64 1, .int .i64 2] 3)).blk
  have hC6 := (HC5.out.alloc (.cells #[.int .i64 2, .int .i64 1, .int .i64 2] 3)).grown hg6 (by have := (HC5.out.alloc (.cells #[.int .i64 2, .int .i64 1, .int .i64 2] 3)).ne hcs (by decide); simpa using this)
  have HW6 := Lib.hid ((HW5.out.alloc (.cells #[.int .i64 2, .int .i64 1, .int .i64 2] 3)).grown hg6 hcs (by decide) (by decide))
  have HB6 := Lib.hid ((HB5.out.alloc HB5.out.size (.cells #[.int .i64 2, .int .i64 1, .int .i64 2] 3)).trans (hg6.below (by have := HB5.out.size; simp; omega) hrw))
  have HI6 := Lib.hid (isInts_own (L := [1, 0, 2]) rfl ho6)
  have c0 := hC6.cell (o := 0) rfl
  have c2 := hC6.cell (o := 2) rfl
  have c4 := hC6.cell (o := 4) rfl
  clear hC6 hg6 ho6 hcs HW5 HB5 HC5 HR5
  go_wp2_with fail
  refine (len_any g _ _ HW6.out).mono ?_
  rintro e w7 ⟨rfl, rfl⟩
  go_wp2_with fail
  refine (ints_same _ _ [1, 0, 2] _ (HI6.out.below ((Below.refl _ _).alloc (Nat.le_refl _) _)) (ints_new w6 1 0 2) (by decide)).mono ?_
  rintro e w8 ⟨rfl, hb8⟩
  have HB8 := Lib.hid (HB6.out.trans (((Below.refl _ _).alloc (Nat.le_refl _) _).trans (hb8.mono (by simp)) |>.mono HB6.out.size))
  clear hb8
  go_wp2_with fail
  go_ret
  exact ⟨rfl, HB8.out⟩
end Go.Proofs.Ytijjpbpoekbekaa
