/- Texts put together: MaH. -/
import Derived.Test.YtdjkkohckfndkaaGreatDoorHg2
import Derived.Test.YtdjkkohckfndkaaGreatDoorHg42
set_option linter.unusedSimpArgs false
set_option linter.unusedVariables false
set_option maxRecDepth 100000
namespace Go.Proofs.YtdjkkohckfndkaaGreatDoor.S19
open Go.RowKit Go.Maps Go.Shelf Go.Sort S18 S13 S13.Dk S15 S3 S2.Pl S3.Pl
def eN (n : Int) : ED := ⟨n + 1, 0, [], [], [], []⟩
theorem fine_N {n : Int} (h : 0 ≤ n ∧ n < 1125899906842624) : Fine (eN n) := by
  refine ⟨?_, by simp [eN, EdW]⟩
  rw [edB_iff]
  refine ⟨?_, rfl, rfl, rfl, rfl, rfl⟩
  rw [inB_iff]
  simp only [eN]
  omega
theorem app_N {M : MS} (hM : MOk M) (h : M.next < 1125899906842624) : applyM M (eN M.next) false = some ⟨M.next + 1, M.seq, M.segs, M.pars⟩ := by
  have h0 := wfI hM.next
  have h1 : upC M.next (M.next + 1) = M.next + 1 := by unfold upC; rw [if_neg (by omega)]
  have h2 : upOk M.next (M.next + 1) = true := by unfold upOk; simp; omega
  have h3 : addK SG.num (M.next + 1) M.segs [] = some M.segs := by simp only [addK]; rw [if_pos hM.sl]
  have h4 : addK PT.group (M.next + 1) M.pars [] = some M.pars := by simp only [addK]; rw [if_pos hM.pl]
  have := ap_ok (s := M) (e := eN M.next) (f := false) (A := M.segs) (A' := M.segs) (B := M.pars) (B' := M.pars) h2 rfl rfl rfl (by show addK SG.num (upC M.next (M.next + 1)) M.segs [] = _; rw [h1]; exact h3) (by show addK PT.group (upC M.next (M.next + 1)) M.pars [] = _; rw [h1]; exact h4) (.inr rfl)
  rw [this]
  show some (MS.mk (upC M.next (M.next + 1)) (upC M.seq 0) M.segs M.pars) = _
  rw [h1]
  rfl
theorem after_load (B : List Nat) (M : MS) (hM : MOk M) (hB : B.length ≤ 200) : ∃ P C y c last pend, (if (scanE B).2.1 < B.length then (rewr (stM R20 nM [] B B.length 4 [(nM, 0)] []) nN nM (encE (wholeM M))).1 else stM R20 nM [] B B.length 4 [(nM, 0)] []) = stM R20 nM P C y c last pend ∧ C.length ≤ 20012 ∧ c ≤ 9 := by
  have hl := encE_len (whole_ok hM).2
  split
  · rw [rewr_stM' (by rw [R20_is]; omega)]
    exact ⟨_, _, _, _, _, _, rfl, hl, by omega⟩
  · exact ⟨_, _, _, _, _, _, rfl, by omega, by omega⟩
attribute [local go_sem ↓] buildE_eq
attribute [local go_sem] run_buildE00
set_option maxHeartbeats 16000000 in
theorem manifestAny_walk (v : Value) (B0 : List Nat) (w : World) (hT : Tab w) (hv : IsBytes w v B0) : Calls Tryz.prog 4 #[v] w fun e w' => e = .returned (.bool true) ∧ Below w.heap.size w w' := by
  have HT := Lib.hid hT
  have HV := Lib.hid hv
  have hbg := begun_any w hT
  clear hT hv
  go_enter Tryz.func4, Tryz.ntmps4
  go_wp2_with fail
  refine hbg.mono ?_
  rintro e w1 ⟨rfl, hb1⟩
  have hnew := new_n 1048576 w1
  have HB1 := Lib.hid hb1
  clear hbg hb1
  go_wp2_with fail
  refine hnew.mono ?_
  rintro e w2 ⟨p, rfl, hI2⟩
  have hcr := create_z nmM hI2.toZ0 (by decide) (by show 0 ≤ _; omega)
  rw [nmM_is, create_new0] at hcr
  unfold nmM at hcr
  clear hnew hI2
  go_wp2_with fail
  refine hcr.mono ?_
  rintro e w3 ⟨rfl, hI3, _⟩
  unfold errV
  obtain ⟨B, hB⟩ : ∃ B, B0.take 200 = B := ⟨_, rfl⟩
  have hBl : B.length ≤ 200 := by rw [← hB, List.length_take]; omega
  have HBl := Lib.hid hBl
  have hv3 : IsBytes w3 v B0 := (HV.out.below HB1.out).below hI3.bel
  have hsh := short_any v B0 200 w3 hv3 (by omega)
  have hsh : Calls Tryz.prog 14 #[v, .int .i64 200] w3 (ShortPost B0 200 w3) := hsh
  unfold ShortPost at hsh
  rw [hB] at hsh
  have HI3 := Lib.hid hI3
  clear hcr hv3 hI3 hBl hB
  go_wp2_with fail
  refine hsh.mono ?_
  rintro e w4 ⟨v', rfl, hv4, hw4⟩
  obtain rfl := hw4
  have hap := append_z nmM v' B HI3.out (by decide) (by show 1 ≤ _; omega) hv4 (by have := HBl.out; omega)
  rw [nmM_is] at hap
  try simp only at hap
  rw [stM_app, if_neg (by have := HBl.out; show ¬ (0 + B.length > R20); rw [R20_is]; omega), List.nil_append] at hap
  unfold nmM at hap
  clear hsh hv4
  go_wp2_with fail
  refine hap.mono ?_
  rintro e w5 ⟨rfl, hI5, _⟩
  unfold errV
  have hsy := sync_z nmM hI5 (by decide) (by show 2 ≤ _; omega)
  rw [nmM_is] at hsy
  try simp only at hsy
  rw [stM_sync] at hsy
  unfold nmM at hsy
  clear hap hI5
  go_wp2_with fail
  refine hsy.mono ?_
  rintro e w6 ⟨rfl, hI6, _⟩
  unfold errV
  have hsd := syncDir_z hI6 (by show 3 ≤ _; omega)
  try simp only at hsd
  rw [stM_syncDir] at hsd
  clear hsy hI6
  go_wp2_with fail
  refine hsd.mono ?_
  rintro e w7 ⟨rfl, hI7, _⟩
  unfold errV
  have hT1 : Tab w1 := HT.out.below HB1.out
  have hld := load_any B w7 (InZ.toH hI7) hT1 (stM_read _ _ _ _ _ _ _ _) (by have := HBl.out; omega) (by show 4 ≤ _; omega) (fun M hA hM _ => by
    rw [nmM_is, nmN_is]
    have := rewr_stM' (room := R20) (P := []) (B := B) (C := encE (wholeM M)) (y := B.length) (c := 4) (last := [(nM, 0)]) (pend := []) (by have := encE_len (whole_ok hM).2; have := HBl.out; rw [R20_is]; omega)
    show (rewr (stM R20 nM [] B B.length 4 [(nM, 0)] []) nN nM (encE (wholeM M))).2 = 0
    rw [this])
  have HI7 := Lib.hid (InZ.bel hI7)
  have HT1 := Lib.hid hT1
  unfold LoadPost at hld
  clear hsd hI7 hT1
  obtain ⟨la, hla⟩ : ∃ la, loadA B = la := ⟨_, rfl⟩
  rw [hla] at hld
  have HLA := Lib.hid hla
  clear hla
  cases la with
  | none =>
    simp only at hld
    unfold nilT at hld
    go_wp2_with fail
    refine hld.mono ?_
    rintro e w8 ⟨rfl, hb8⟩
    have HB8 : Hid (Below w.heap.size w w8) := Lib.hid (HB1.out.trans ((HI7.out.trans (hb8.mono HI7.out.size)).mono HB1.out.size))
    clear hld hb8
    go_wp2_with fail
    go_ret
    exact ⟨rfl, HB8.out⟩
  | some M =>
    simp only at hld
    go_wp2_with fail
    refine hld.mono ?_
    rintro e w8 ⟨q, sv, pv, D, rfl, hI8⟩
    have hM := hI8.out.ok
    obtain ⟨P8, C8, y8, c8, l8, p8, hS8, hC8, hc8⟩ := after_load B M hM HBl.out
    have hI9 := hI8.out
    rw [nmM_is, nmN_is] at hI9
    have hI9 : InM w1 p (stM R20 nM P8 C8 y8 c8 l8 p8) q M w8 sv pv D := by rw [← hS8]; exact hI9
    have hnx := next_any hI9.toY
    have hwf := wfI hM.next
    have HM := Lib.hid hM
    have HI9 := Lib.hid hI9
    have HC8 := Lib.hid hC8
    have Hc8 := Lib.hid hc8
    obtain ⟨nx, hn⟩ : ∃ nx, M.next = nx := ⟨_, rfl⟩
    have HN := Lib.hid hn
    rw [hn] at hnx hwf
    clear hld hI8 hI9 hM hS8 hC8 hc8 hn
    go_wp2_with fail
    refine hnx.mono ?_
    rintro e w9 ⟨rfl, hw9⟩
    obtain rfl := hw9.symm
    clear hnx
    by_cases hge : 1125899906842624 ≤ nx
    · have q1 : decide (1125899906842624 ≤ nx) = true := decide_eq_true hge
      have HB8 : Hid (Below w.heap.size w w8) := Lib.hid (HB1.out.trans (HI9.out.fs.bel.mono HB1.out.size))
      go_wp2_with fail
      go_ret
      exact ⟨rfl, HB8.out⟩
    · have q1 : decide (1125899906842624 ≤ nx) = false := decide_eq_false hge
      have hlt : nx < 1125899906842624 := by omega
      have hfine := fine_N (n := nx) ⟨hwf.1, hlt⟩
      have hel := encE_len hfine.2
      have hX : extd (stM R20 nM P8 C8 y8 c8 l8 p8) nM (encE (eN nx)) = (stM R20 nM P8 (C8 ++ encE (eN nx)) (C8 ++ encE (eN nx)).length (c8 + 2) l8 p8, 0) := extd_stM (by have := HC8.out; rw [R20_is]; omega)
      have hco : Calls Tryz.prog 26 #[pP q, .agg #[.int .i64 (nx + 1), .int .i64 0, .slice none 0 0, .slice none 0 0, .slice none 0 0, .slice none 0 0]] w8 (ComPost w1 p (stM R20 nM P8 (C8 ++ encE (eN nx)) (C8 ++ encE (eN nx)).length (c8 + 2) l8 p8) q ⟨nx + 1, M.seq, M.segs, M.pars⟩ (fun _ => False) w8) := by
        have hA := app_N HM.out (by rw [HN.out]; exact hlt)
        rw [HN.out] at hA
        have := commit_ok (De := fun _ => False) (eN nx) ⟨none, 0, none, 0, none, 0, none, 0⟩ HI9.out.toY HT1.out ⟨RowD.nil, RowD.nil, RowD.nil, RowD.nil⟩ hfine.1 (fun b hb => hb.elim) (by have := Hc8.out; show c8 ≤ _; omega) hA (by rw [nmM_is, hX])
        rw [nmM_is, hX] at this
        exact this
      clear hfine hel hX
      go_wp2_with fail
      refine hco.mono ?_
      rintro e w10 ⟨rfl, sv2, pv2, D2, hI10, _⟩
      have hn2 := next_any hI10.out
      simp only at hn2
      have HB10 : Hid (Below w.heap.size w w10) := Lib.hid (HB1.out.trans (hI10.out.bel.mono HB1.out.size))
      clear hco hI10
      go_wp2_with fail
      refine hn2.mono ?_
      rintro e w11 ⟨rfl, hw11⟩
      obtain rfl := hw11.symm
      clear hn2
      go_wp2_with fail
      go_ret
      exact ⟨rfl, HB10.out⟩
theorem manifestAny_law (a : Option Addr) (len cap : Nat) (zs : List Int) (w : World) (hT : Tab w) (hr : IsRow .u8 w a len cap zs) :
    Calls Tryz.prog 4 #[.slice a len cap] w fun e w' => e = .returned (.bool true) ∧ Below w.heap.size w w' := by
  obtain ⟨hby, hbl⟩ := isBytes_row hr
  exact manifestAny_walk _ _ w hT hby
end Go.Proofs.YtdjkkohckfndkaaGreatDoor.S19
