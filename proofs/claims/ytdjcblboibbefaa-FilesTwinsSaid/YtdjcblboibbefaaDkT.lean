/- foliolaw13: begun; FilesNone. -/
import Derived.Test.YtdjcblboibbefaaDkS
import Derived.Test.YtdjcblboibbefaaStrs
import Derived.Lib.SmallJoins
set_option linter.unusedSimpArgs false
set_option linter.unusedVariables false
set_option maxRecDepth 100000
namespace Go.Proofs.Ytdjcblboibbefaa.S13
open Go.RowKit Go.Maps Go.Shelf Dk
def g0 : St := new 100
def g1 : St := (create g0 [97]).1
def g2 : St := (append g1 [97] [120, 121, 122]).1
theorem g_1 : create g0 [97] = (g1, 0) := by kernel_rfl
theorem g_2 : append g1 [97] [120, 121, 122] = (g2, 0) := by kernel_rfl
theorem g_c : g2.calls = 2 := by kernel_rfl
theorem g_u : g2.used = 3 := by kernel_rfl
theorem g_r1 : readF (crash g2 1 [2]) [97] = some [120, 121] := by kernel_rfl
theorem g_r2 : readF (crash g2 0 []) [97] = none := by kernel_rfl
theorem isRow_one (w : World) (c : Int) (hc : (Lit.int .i64 c).wf = true) : IsRow .i64 (w.alloc (.cells #[.int .i64 c] 3)) (some ⟨w.heap.size, 0, none⟩) 1 1 [c] := by
  refine .inr ⟨_, rfl, Nat.le_refl _, by unfold maxLen; omega, rfl, fun i hi => ?_, fun n hn => by simp at hn; subst hn; exact hc⟩
  have : i = 0 := by simpa using hi
  subst this
  exact (Blk.new w 3 [.int .i64 c]).cell rfl
theorem row_below {k : IntKind} {w w' : World} {a : Option Addr} {len cap : Nat} {zs : List Int} (h : IsRow k w a len cap zs) (hb : Below w.heap.size w w') : IsRow k w' a len cap zs := by
  obtain h | ⟨x, rfl, h1, h2, h3, hc, hw⟩ := h
  · exact .inl h
  · refine .inr ⟨x, rfl, h1, h2, h3, fun i hi => ?_, hw⟩
    have := hc i hi
    rw [hb.cell (p := x.add i) (World.block_lt_of_cell? w _ this)]
    exact this
theorem isRow_nil (w : World) : IsRow .i64 w none 0 0 [] := .inl ⟨rfl, rfl, rfl, rfl⟩
attribute [local go_sem ↓] conv_eq
set_option maxHeartbeats 16000000 in
theorem begun_any (w : World) : Calls Try.prog 12 #[] w fun e w' => e = .returned (.bool true) ∧ Below w.heap.size w w' := by
  have kc := fun (w : World) (C : Array Value) (n c : Nat) => Lib.run_convert_bytes_const (P := Try.prog) w 23 5 C n c Try.underlying23 Try.underlying5
  have hnew := new_h (w0 := w) 100 (Below.refl w.heap.size w)
  go_enter Try.func12, Try.ntmps12
  go_wp2_with fail
  refine hnew.mono ?_
  rintro e w1 ⟨p, rfl, hI1, _⟩
  clear hnew
  have hcr := create_h ⟨#[97]⟩ hI1 (by decide) (by decide)
  change Calls _ _ _ _ (HPost w p (create g0 [97])) at hcr
  rw [g_1] at hcr
  clear hI1
  go_wp2_with fail
  refine hcr.mono ?_
  rintro e w2 ⟨rfl, hI2⟩
  clear hcr
  unfold errV
  obtain ⟨w3, hw3⟩ : ∃ w3, w2.alloc (.cells #[.int .u8 120, .int .u8 121, .int .u8 122] 5 (3, 4)) = w3 := ⟨_, rfl⟩
  have hI3 : InH w p g1 w3 := by rw [← hw3]; exact hI2.below ((Below.refl _ _).alloc (Nat.le_refl _) _)
  have hap := append_h ⟨#[97]⟩ (.slice (some ⟨w2.heap.size, 0, none⟩) 3 3) [120, 121, 122] hI3 (by decide) (by decide) (by rw [← hw3]; exact isBytes_mark w2 [120, 121, 122] _ (by simp) (by simp [maxLen])) (by decide)
  change Calls _ _ _ _ (HPost w p (append g1 [97] [120, 121, 122])) at hap
  rw [g_2] at hap
  clear hI2 hI3
  go_wp2_with fail
  refine hap.mono ?_
  rintro e w4 ⟨rfl, hI4⟩
  clear hap hw3
  unfold errV
  obtain ⟨w5, hw5⟩ : ∃ w5, w4.alloc (.cells #[.int .i64 2] 3) = w5 := ⟨_, rfl⟩
  have hI5 : InH w p g2 w5 := by rw [← hw5]; exact hI4.below ((Below.refl _ _).alloc (Nat.le_refl _) _)
  have hcx := crash_h 1 (some ⟨w4.heap.size, 0, none⟩) 1 1 [2] hI5 (by rw [← hw5]; exact isRow_one w4 2 (by decide)) (by decide)
  simp only [List.take_succ_cons, List.take_zero] at hcx
  have HI5 := Lib.hid hI5
  clear hI4 hI5
  go_wp2_with fail
  refine hcx.mono ?_
  rintro e w6 ⟨q, rfl, hC, hb6⟩
  have hI6 := HI5.out.below hb6
  clear hcx HI5 hb6 hw5
  have hrd := read_h ⟨#[97]⟩ hC (by decide)
  change Calls _ _ _ _ (ReadPost (readF (crash g2 1 [2]) [97]) w6) at hrd
  rw [g_r1] at hrd
  have HI6 := Lib.hid hI6
  clear hI6 hC
  go_wp2_with fail
  refine hrd.mono ?_
  rintro e w7 ⟨hb7, sp, cap, rfl, ho, hx⟩
  have hI7 := HI6.out.below hb7.out
  have hbt := isBytes_own hx.out ho.out
  simp only [List.length_cons, List.length_nil, Nat.zero_add, Nat.reduceAdd] at hbt
  clear hrd HI6 hb7 ho hx
  unfold errV
  have hc2 := crash_h 0 none 0 0 [] hI7 (isRow_nil w7) (by decide)
  simp only [List.take_nil] at hc2
  have HI7 := Lib.hid hI7
  have HBT := Lib.hid hbt
  clear hI7 hbt
  simp only [List.length_cons, List.length_nil, Nat.zero_add, Nat.reduceAdd]
  go_wp2_with fail
  refine hc2.mono ?_
  rintro e w8 ⟨q2, rfl, hC2, hb8⟩
  have hI8 := HI7.out.below hb8
  have hbt := HBT.out.below hb8
  clear hc2 HI7 HBT hb8
  have hrd := read_h ⟨#[97]⟩ hC2 (by decide)
  change Calls _ _ _ _ (ReadPost (readF (crash g2 0 []) [97]) w8) at hrd
  rw [g_r2] at hrd
  have HI8 := Lib.hid hI8
  have HBT := Lib.hid hbt
  clear hI8 hC2 hbt
  go_wp2_with fail
  refine hrd.mono ?_
  rintro e w9 ⟨hb9, rfl⟩
  have hI9 := HI8.out.below hb9.out
  have hbt := HBT.out.below hb9.out
  have hcv := run_conv hbt
  have hst : str [120, 121] = ⟨#[120, 121]⟩ := by decide
  rw [hst] at hcv
  have hca := calls_h hI9
  have hus := used_h hI9
  rw [g_c] at hca
  rw [g_u] at hus
  have HI9 := Lib.hid hI9
  clear hrd HI8 hb9 hI9 hbt HBT hst
  unfold errV
  go_wp2_with fail
  refine hca.mono ?_
  rintro e w10 ⟨rfl, rfl⟩
  clear hca
  go_wp2_with fail
  refine hus.mono ?_
  rintro e w11 ⟨rfl, hb11⟩
  have HB := Lib.hid (HI9.out.bel.trans (hb11.mono HI9.out.bel.size))
  clear hus hb11
  go_wp2_with fail
  go_ret
  exact ⟨rfl, HB.out⟩
set_option maxHeartbeats 16000000 in
theorem filesNone_walk (w : World) : Calls Try.prog 3 #[] w fun e w' => e = .returned (.bool true) ∧ Below w.heap.size w w' := by
  go_enter Try.func3, Try.ntmps3
  go_wp2_with fail
  refine (read_nil _ _).mono ?_
  rintro e w' ⟨rfl, rfl⟩
  go_wp2_with fail
  refine (fail_nil _ _).mono ?_
  rintro e w' ⟨rfl, rfl⟩
  go_wp2_with fail
  refine (room_nil _ _).mono ?_
  rintro e w' ⟨rfl, rfl⟩
  go_wp2_with fail
  refine (begun_any _).mono ?_
  rintro e w1 ⟨rfl, hb⟩
  have HB := Lib.hid hb
  clear hb
  go_wp2_with fail
  refine (create_nil _ _).mono ?_
  rintro e w' ⟨rfl, rfl⟩
  try unfold errV
  go_wp2_with fail
  refine (append_nil _ _ _).mono ?_
  rintro e w' ⟨rfl, rfl⟩
  try unfold errV
  go_wp2_with fail
  refine (sync_nil _ _).mono ?_
  rintro e w' ⟨rfl, rfl⟩
  try unfold errV
  go_wp2_with fail
  refine (syncDir_nil _).mono ?_
  rintro e w' ⟨rfl, rfl⟩
  try unfold errV
  go_wp2_with fail
  refine (rename_nil _ _ _).mono ?_
  rintro e w' ⟨rfl, rfl⟩
  try unfold errV
  go_wp2_with fail
  refine (remove_nil _ _).mono ?_
  rintro e w' ⟨rfl, rfl⟩
  try unfold errV
  go_wp2_with fail
  refine (names_nil _).mono ?_
  rintro e w' ⟨rfl, rfl⟩
  try unfold errV
  go_wp2_with fail
  refine (used_nil _).mono ?_
  rintro e w' ⟨rfl, rfl⟩
  try unfold errV
  go_wp2_with fail
  refine (calls_nil _).mono ?_
  rintro e w' ⟨rfl, rfl⟩
  try unfold errV
  go_wp2_with fail
  refine (crash_nil _ _ _).mono ?_
  rintro e w' ⟨rfl, rfl⟩
  try unfold errV
  go_wp2_with fail
  refine (rot_nil _ _ _ _).mono ?_
  rintro e w' ⟨rfl, rfl⟩
  try unfold errV
  go_wp2_with fail
  go_ret
  exact ⟨rfl, HB.out⟩
end Go.Proofs.Ytdjcblboibbefaa.S13
