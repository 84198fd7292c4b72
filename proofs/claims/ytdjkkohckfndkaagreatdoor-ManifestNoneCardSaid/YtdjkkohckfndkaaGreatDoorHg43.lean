/- Texts put together: MaF. -/
import Derived.Test.YtdjkkohckfndkaaGreatDoorHg42
import Derived.Lib.SmallJoins
set_option linter.unusedSimpArgs false
set_option linter.unusedVariables false
set_option maxRecDepth 100000
namespace Go.Proofs.YtdjkkohckfndkaaGreatDoor.S19
open Go.RowKit Go.Maps Go.Shelf Go.Sort S18 S13 S13.Dk S15 S3 S2.Pl S3.Pl
section
variable (w : World)
set_option maxHeartbeats 2000000
theorem rewrite_nil : Calls Tryz.prog 28 #[.pointer none] w fun e w' => e = .returned (.int .i64 9) ∧ w' = w := by
  go_enter Tryz.func28, Tryz.ntmps28
  go_wp2_with fail
  go_ret
  exact ⟨rfl, rfl⟩
theorem segs_nil : Calls Tryz.prog 29 #[.pointer none] w fun e w' => e = .returned (.slice none 0 0) ∧ w' = w := by
  go_enter Tryz.func29, Tryz.ntmps29
  go_wp2_with fail
  go_ret
  exact ⟨rfl, rfl⟩
theorem pars_nil : Calls Tryz.prog 31 #[.pointer none] w fun e w' => e = .returned (.slice none 0 0) ∧ w' = w := by
  go_enter Tryz.func31, Tryz.ntmps31
  go_wp2_with fail
  go_ret
  exact ⟨rfl, rfl⟩
theorem next_nil : Calls Tryz.prog 25 #[.pointer none] w fun e w' => e = .returned (.int .i64 0) ∧ w' = w := by
  go_enter Tryz.func25, Tryz.ntmps25
  go_wp2_with fail
  go_ret
  exact ⟨rfl, rfl⟩
theorem seq_nil : Calls Tryz.prog 32 #[.pointer none] w fun e w' => e = .returned (.int .i64 0) ∧ w' = w := by
  go_enter Tryz.func32, Tryz.ntmps32
  go_wp2_with fail
  go_ret
  exact ⟨rfl, rfl⟩
theorem old_nil : Calls Tryz.prog 30 #[.pointer none] w fun e w' => e = .returned (.slice none 0 0) ∧ w' = w := by
  go_enter Tryz.func30, Tryz.ntmps30
  go_wp2_with fail
  go_ret
  exact ⟨rfl, rfl⟩
theorem commit_nil : Calls Tryz.prog 26 #[.pointer none, .agg #[.int .i64 0, .int .i64 0, .slice none 0 0, .slice none 0 0, .slice none 0 0, .slice none 0 0]] w fun e w' => e = .returned (.int .i64 9) ∧ Below w.heap.size w w' := by
  have hb : Below w.heap.size w (w.alloc (.cells #[.int .i64 0, .int .i64 0, .slice none 0 0, .slice none 0 0, .slice none 0 0, .slice none 0 0] 56)) := (Below.refl _ _).alloc (Nat.le_refl _) _
  have HB := Lib.hid hb
  clear hb
  go_enter Tryz.func26, Tryz.ntmps26
  go_wp2_with fail
  go_ret
  exact ⟨rfl, HB.out⟩
end
def noB : List Nat := [110, 111, 116, 104, 105, 110, 103, 32, 116, 104, 97, 116, 32, 119, 97, 115, 32, 115, 101, 97, 108, 101, 100]
theorem noB_lt : ∀ x ∈ noB, x < 256 := by decide
theorem noB_load : loadA noB = none := by
  have h : pscan noB = ([], 0, false) := pscan_head (by decide) (by decide)
  unfold loadA scanE
  rw [h]
  rfl
theorem run_buildE0' (w : World) : (buildE #[]).run Tryz.prog w = .ok (.agg #[.int .i64 0, .int .i64 0, .slice none 0 0, .slice none 0 0, .slice none 0 0, .slice none 0 0]) w := by kernel_rfl
theorem create_new (n : Int) : create (new n) nM = (stM (clampN n) nM [] [] 0 1 [] [([], nM, some 0)], 0) := rfl
attribute [local go_sem ↓] buildE_eq
attribute [local go_sem] run_buildE0'
set_option maxHeartbeats 16000000 in
theorem manifestNone_walk (w : World) (hT : Tab w) : Calls Tryz.prog 7 #[] w fun e w' => e = .returned (.bool true) ∧ Below w.heap.size w w' := by
  have kc := fun (w : World) (C : Array Value) (n c : Nat) => Lib.run_convert_bytes_const (P := Tryz.prog) w 23 5 C n c Tryz.underlying23 Tryz.underlying5
  have hnew := new_n 1000 w
  have HTT := Lib.hid hT
  clear hT
  go_enter Tryz.func7, Tryz.ntmps7
  go_wp2_with fail
  refine hnew.mono ?_
  rintro e w1 ⟨p, rfl, hI1⟩
  have hcr := create_z nmM hI1.toZ0 (by decide) (by show 0 ≤ _; omega)
  rw [nmM_is, create_new] at hcr
  unfold nmM at hcr
  clear hnew hI1
  go_wp2_with fail
  refine hcr.mono ?_
  rintro e w2 ⟨rfl, hI2, _⟩
  obtain ⟨w3, hw3⟩ : ∃ w3, w2.alloc (.cells #[.int .u8 110, .int .u8 111, .int .u8 116, .int .u8 104, .int .u8 105, .int .u8 110, .int .u8 103, .int .u8 32, .int .u8 116, .int .u8 104, .int .u8 97, .int .u8 116, .int .u8 32, .int .u8 119, .int .u8 97, .int .u8 115, .int .u8 32, .int .u8 115, .int .u8 101, .int .u8 97, .int .u8 108, .int .u8 101, .int .u8 100] 5 (23, 24)) = w3 := ⟨_, rfl⟩
  have hb3 : Below w2.heap.size w2 w3 := by rw [← hw3]; exact (Below.refl _ _).alloc (Nat.le_refl _) _
  have hv3 : IsBytes w3 (.slice (some ⟨w2.heap.size, 0, none⟩) 23 23) noB := by rw [← hw3]; exact isBytes_mark w2 noB (23, 24) noB_lt (by unfold maxLen; decide)
  have hap := append_z nmM _ noB (hI2.below hb3) (by decide) (by show 1 ≤ _; omega) hv3 (by decide)
  rw [nmM_is, stM_app, if_neg (by decide)] at hap
  unfold nmM at hap
  clear hcr hI2 hb3 hv3
  go_wp2_with fail
  refine hap.mono ?_
  rintro e w4 ⟨rfl, hI4, _⟩
  unfold errV
  have hld := load_any noB w4 hI4.toH HTT.out (stM_read _ _ _ _ _ _ _ _) (by decide) (by show 2 ≤ _; omega) (fun M h => by rw [noB_load] at h; cases h)
  unfold LoadPost at hld
  rw [noB_load] at hld
  unfold nilT at hld
  have HB4 := Lib.hid hI4.bel
  clear hap hI4 hw3 kc
  go_wp2_with fail
  refine hld.mono ?_
  rintro e w5 ⟨rfl, hb5⟩
  have HB5 : Hid (Below w.heap.size w w5) := Lib.hid (HB4.out.trans (hb5.mono HB4.out.size))
  have hbg := begun_any w5 (HTT.out.below HB5.out)
  clear hld hb5
  go_wp2_with fail
  refine hbg.mono ?_
  rintro e w6 ⟨rfl, hb6⟩
  have HB6 : Hid (Below w.heap.size w w6) := Lib.hid (HB5.out.trans (hb6.mono HB5.out.size))
  have hcn := commit_nil w6
  clear hbg hb6
  go_wp2_with fail
  refine hcn.mono ?_
  rintro e w7 ⟨rfl, hb7⟩
  have HB7 : Hid (Below w.heap.size w w7) := Lib.hid (HB6.out.trans (hb7.mono HB6.out.size))
  clear hcn hb7
  have hn := rewrite_nil w7
  go_wp2_with fail
  refine hn.mono ?_
  rintro e wX ⟨rfl, hwX⟩
  obtain rfl := hwX.symm
  clear hn
  have hn := segs_nil w7
  go_wp2_with fail
  refine hn.mono ?_
  rintro e wX ⟨rfl, hwX⟩
  obtain rfl := hwX.symm
  clear hn
  have hn := pars_nil w7
  go_wp2_with fail
  refine hn.mono ?_
  rintro e wX ⟨rfl, hwX⟩
  obtain rfl := hwX.symm
  clear hn
  have hn := next_nil w7
  go_wp2_with fail
  refine hn.mono ?_
  rintro e wX ⟨rfl, hwX⟩
  obtain rfl := hwX.symm
  clear hn
  have hn := seq_nil w7
  go_wp2_with fail
  refine hn.mono ?_
  rintro e wX ⟨rfl, hwX⟩
  obtain rfl := hwX.symm
  clear hn
  have hn := old_nil w7
  go_wp2_with fail
  refine hn.mono ?_
  rintro e wX ⟨rfl, hwX⟩
  obtain rfl := hwX.symm
  clear hn
  go_wp2_with fail
  go_ret
  exact ⟨rfl, HB7.out⟩
end Go.Proofs.YtdjkkohckfndkaaGreatDoor.S19
