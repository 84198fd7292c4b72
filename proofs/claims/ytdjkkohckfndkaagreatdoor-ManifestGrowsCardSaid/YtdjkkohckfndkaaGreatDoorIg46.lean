/- Texts put together: MaGr. -/
import Derived.Test.YtdjkkohckfndkaaGreatDoorIg45
set_option linter.unusedSimpArgs false
set_option linter.unusedVariables false
set_option maxRecDepth 100000
namespace Go.Proofs.YtdjkkohckfndkaaGreatDoor.S19
open Go.RowKit Go.Maps Go.Shelf Go.Sort S18 S13 S13.Dk S15 S3 S2.Pl S3.Pl
theorem one_num (w : World) (n : Int) : IsNums (fun b => b = w.heap.size) (w.alloc (.cells #[.int .i64 n] 2)) (.slice (some ⟨w.heap.size, 0, none⟩) 1 1) [n] := by
  have hb := Blk.new w 2 [.int .i64 n]
  refine ⟨_, _, rfl, Nat.le_refl _, by unfold maxLen; omega, (fun e => by cases e), fun h0 => ⟨w.heap.size, 0, rfl, rfl, hb.lt, fun i x hx => ?_⟩⟩
  have hi : i = 0 := by have := (List.getElem?_eq_some_iff.1 hx).1; simp at this; exact this
  subst hi
  simp at hx
  subst hx
  exact ⟨[.int .i64 n], rfl, fun j u hj => by rw [Nat.zero_mul, Nat.zero_add]; simpa using hb.cell hj⟩
theorem seg_head {base : Nat} {w : World} {a : Option Addr} {c : Nat} {s : SG} (h : OwnD base 60 6 segC w (.slice a 1 c) [s]) : ∃ g, a = some ⟨g, 0, none⟩ ∧ w.cell? ⟨g, 0, none⟩ = some (.int .i64 s.num) := by
  have hv : ∃ g, a = some ⟨g, 0, none⟩ := by
    obtain ⟨cs, _, ⟨_, hh⟩, _⟩ := h
    rcases hh with ⟨he, h0⟩ | ⟨g, cap, cur, hv, _⟩
    · simp at h0
    · simp at hv
      exact ⟨g, hv.1⟩
  obtain ⟨g, rfl⟩ := hv
  obtain ⟨b, off, x, cs, he, _, _, hx, hR, hc⟩ := RowD.at (OwnD.row (D := fun _ => True) h fun _ _ _ _ => trivial) (i := 0) (by simp)
  simp at he hx
  obtain ⟨rfl, rfl⟩ := he
  subst hx
  obtain ⟨rfl, _⟩ := hR
  have := hc 0 (.int .i64 s.num) rfl
  exact ⟨g, rfl, by simpa using this⟩
attribute [local go_sem ↓] buildE_eq buildS_eq loadE_eq storeE_eq
attribute [local go_sem] run_buildE02 run_buildS1
set_option maxHeartbeats 16000000 in
theorem manifestGrows_walk (n : Int) (w : World) (hT : Tab w) (hn : (Lit.int .i64 n).wf = true) : Calls Tryz.prog 5 #[.int .i64 n] w fun e w' => e = .returned (.bool true) ∧ Below w.heap.size w w' := by
  have HT := Lib.hid hT
  have hbg := begun_any w hT
  clear hT hn
  go_enter Tryz.func5, Tryz.ntmps5
  go_wp2_with fail
  refine hbg.mono ?_
  rintro e w1 ⟨rfl, hb1⟩
  have HB1 := Lib.hid hb1
  clear hbg
  by_cases hlo : n < 1
  · have q1 : decide (n < 1) = true := decide_eq_true hlo
    go_wp2_with fail
    go_ret
    exact ⟨rfl, HB1.out⟩
  have q1 : decide (n < 1) = false := decide_eq_false hlo
  by_cases hhi : 50 < n
  · have q2 : decide (50 < n) = true := decide_eq_true hhi
    go_wp2_with fail
    go_ret
    exact ⟨rfl, HB1.out⟩
  have q2 : decide (50 < n) = false := decide_eq_false hhi
  obtain ⟨N, hN⟩ : ∃ N : Nat, n = N := ⟨n.toNat, by omega⟩
  obtain ⟨i, hi⟩ : ∃ i, N = i + 1 := ⟨N - 1, by omega⟩
  subst hN
  have hN50 : N ≤ 50 := by omega
  have HN : Hid (N = i + 1 ∧ i < 50) := Lib.hid ⟨hi, by omega⟩
  have hnew := new_n 1048576 w1
  have HT1 : Hid (Tab w1) := Lib.hid (HT.out.below hb1)
  clear hb1 hlo hhi hi
  go_wp2_with fail
  refine hnew.mono ?_
  rintro e w2 ⟨p, rfl, hI2⟩
  have hlen1 : (encE E1).length ≤ 20012 := encE_len fine_1.2
  have hR : rewr (new 1048576) nN nM (encE E1) = (stM R20 nM [] (encE E1) (encE E1).length 5 [(nM, 0)] [], 0) := rewr_new (by show _ ≤ R20; rw [R20_is]; omega)
  have hcr := create_ok (S := new 1048576) w2 hI2 HT1.out (by simp [new]) (by simp [new]) (by simp [new]) (by rw [nmM_is, nmN_is]; show (rewr _ nN nM (encE E1)).2 = 0; rw [hR])
  rw [nmM_is, nmN_is] at hcr
  simp only [show wholeM MS1 = E1 from rfl, hR] at hcr
  have HL1 := Lib.hid hlen1
  clear hnew hI2 hR hlen1
  go_wp2_with fail
  refine hcr.mono ?_
  rintro e w3 ⟨q, sv3, pv3, D3, rfl, hI3⟩
  have HI3 := Lib.hid hI3.out.toY
  clear hcr hI3
  go_wp2_with fail
  go_loopw [7] (fun v wr => ∃ (k : Nat) (B : List Nat) (y c : Nat) (sv pv : Option Nat) (D : Nat → Prop), k ≤ N ∧ v = .int .i64 k ∧ Hid (InY w1 p (stM R20 nM [] B y c [(nM, 0)] []) q (MG k) wr sv pv D fun _ => False) ∧ Hid (B.length ≤ 20012 * (k + 1) ∧ 18 * k ≤ B.length ∧ c ≤ 5 + 2 * k)) (fun v _ => N - (intOf v).toNat)
  case atStart => exact ⟨0, encE E1, _, _, _, _, _, by omega, rfl, HI3, Lib.hid ⟨by have := HL1.out; omega, by omega, by omega⟩⟩
  case round =>
    obtain ⟨k, B, y, c, sv, pv, D, hkN, rfl, HI, HBL⟩ := hrel
    by_cases hk : k < N
    · have hk50 : k < 50 := by omega
      have q3 : decide ((k : Int) < (N : Int)) = true := decide_eq_true (by omega)
      obtain ⟨wa, hwa⟩ : ∃ wa, wr.alloc (.cells #[.int .i64 (9 + (k : Int)), .bool false, .int .i64 0, .int .i64 0, .int .i64 0, .int .u32 0] 60) = wa := ⟨_, rfl⟩
      have hsa : IsSegs (fun b => b = wr.heap.size) wa (.slice (some ⟨wr.heap.size, 0, none⟩) 1 1) [sG k] := by rw [← hwa]; exact one_seg wr (sG k) (by simp [sumW, sG])
      have hba : Below wr.heap.size wr wa := by rw [← hwa]; exact (Below.refl _ _).alloc (Nat.le_refl _) _
      have hsza : wa.heap.size = wr.heap.size + 1 := by rw [← hwa]; simp
      obtain ⟨wb, hwb⟩ : ∃ wb, wa.alloc (.cells #[.int .i64 0, .int .i64 0, .slice none 0 0, .slice none 0 0, .slice none 0 0, .slice none 0 0] 56) = wb := ⟨_, rfl⟩
      have hkb : Blk wb wa.heap.size 56 [.int .i64 0, .int .i64 0, .slice none 0 0, .slice none 0 0, .slice none 0 0, .slice none 0 0] := by rw [← hwb]; exact Blk.new wa _ _
      have hbb : Below wa.heap.size wa wb := by rw [← hwb]; exact (Below.refl _ _).alloc (Nat.le_refl _) _
      obtain ⟨wc, hst, hkc, hgc⟩ := putE ⟨10 + (k : Int), 0, [sG k], [], [], []⟩ (a1 := some ⟨wr.heap.size, 0, none⟩) (c1 := 1) (a2 := none) (c2 := 0) (a3 := none) (c3 := 0) (a4 := none) (c4 := 0) hkb rfl
      have hst : (storeE (.pointer (some ⟨wa.heap.size, 0, none⟩)) (.agg #[.int .i64 (10 + (k : Int)), .int .i64 0, .slice (some ⟨wr.heap.size, 0, none⟩) 1 1, .slice none 0 0, .slice none 0 0, .slice none 0 0])).run Tryz.prog wb = .ok () wc := hst
      have hbc : Below wa.heap.size wa wc := hbb.grown hgc.out hbb.size (fun j hj => by cases hj; exact Nat.le_refl _)
      have hbrc : Below wr.heap.size wr wc := hba.trans (hbc.mono hba.size)
      have hsc : IsSegs (fun b => b = wr.heap.size) wc (.slice (some ⟨wr.heap.size, 0, none⟩) 1 1) [sG k] := hsa.keep (keep_below hbc) fun _ _ h => h
      have HSGc := Lib.hid hsc
      have HBRC := Lib.hid hbrc
      have HKC := hkc
      have HSA := Lib.hid hsza
      have hcsz : wa.heap.size < wc.heap.size := hkc.out.lt
      have HCS := Lib.hid hcsz
      clear hsa hba hsza hkb hbb hgc hbc hbrc hsc hkc hcsz
      by_cases hk0 : 0 < k
      · have q4 : decide (0 < (k : Int)) = true := decide_eq_true (by omega)
        obtain ⟨wd, hwd⟩ : ∃ wd, wc.alloc (.cells #[.int .i64 (8 + (k : Int))] 2) = wd := ⟨_, rfl⟩
        have hbd : Below wc.heap.size wc wd := by rw [← hwd]; exact (Below.refl _ _).alloc (Nat.le_refl _) _
        have hnd : IsNums (fun b => b = wc.heap.size) wd (.slice (some ⟨wc.heap.size, 0, none⟩) 1 1) [8 + (k : Int)] := by rw [← hwd]; exact one_num wc _
        have hkd := HKC.out.below hbd HKC.out.lt
        have c3 := hkd.cell (o := 3) rfl
        have f3 := hkd.frozen 3
        have hge : wd.grownBy (wd.setCell ⟨wa.heap.size, 3, none⟩ (.slice (some ⟨wc.heap.size, 0, none⟩) 1 1)) (some wa.heap.size) := Gr.setCell (Gr.refl _ _) _ _
        have hke := hkd.set 3 (.slice (some ⟨wc.heap.size, 0, none⟩) 1 1)
        obtain ⟨we, hwe⟩ : ∃ we, wd.setCell ⟨wa.heap.size, 3, none⟩ (.slice (some ⟨wc.heap.size, 0, none⟩) 1 1) = we := ⟨_, rfl⟩
        rw [hwe] at hge hke
        have hke : Blk we wa.heap.size 56 (edL ⟨10 + (k : Int), 0, [sG k], [8 + (k : Int)], [], []⟩ (some ⟨wr.heap.size, 0, none⟩) 1 (some ⟨wc.heap.size, 0, none⟩) 1 none 0 none 0) := hke
        have hld := run_loadE_blk ⟨10 + (k : Int), 0, [sG k], [8 + (k : Int)], [], []⟩ hke
        have hld : (loadE (.pointer (some ⟨wa.heap.size, 0, none⟩))).run Tryz.prog we = .ok (.agg #[.int .i64 (10 + (k : Int)), .int .i64 0, .slice (some ⟨wr.heap.size, 0, none⟩) 1 1, .slice (some ⟨wc.heap.size, 0, none⟩) 1 1, .slice none 0 0, .slice none 0 0]) we := hld
        have HDN : Hid (IsNums (fun b => b = wr.heap.size ∨ b = wc.heap.size) we (.slice (some ⟨wc.heap.size, 0, none⟩) 1 1) [8 + (k : Int)]) := Lib.hid (hnd.keep' (keep_gr hge fun b hb hl => ⟨.inr hb, by have := HCS.out; simp; omega⟩))
        have HSG : Hid (IsSegs (fun b => b = wr.heap.size ∨ b = wc.heap.size) we (.slice (some ⟨wr.heap.size, 0, none⟩) 1 1) [sG k]) := Lib.hid ((HSGc.out.keep (keep_below hbd) fun _ _ h => h).keep (keep_gr hge fun b hb hl => ⟨.inl hb, by have := HSA.out; simp; omega⟩) fun _ _ h => h)
        have hbre : Below wr.heap.size wr we := (HBRC.out.trans (hbd.mono HBRC.out.size)).grown hge (by have := HBRC.out.size; have := hbd.size; omega) (fun j hj => by cases hj; have := HSA.out; omega)
        have HI5 := Lib.hid (HI.out.below hbre)
        have HLT : Hid (wr.heap.size < we.heap.size ∧ wc.heap.size < we.heap.size) := Lib.hid (by
          have h1 := hge.size
          have h2 : wd.heap.size = wc.heap.size + 1 := by rw [← hwd]; simp
          have := HBRC.out.size
          omega)
        clear hbd hnd hkd hge hke hbre

        have hco : Calls Tryz.prog 26 #[pP q, .agg #[.int .i64 (10 + (k : Int)), .int .i64 0, .slice (some ⟨wr.heap.size, 0, none⟩) 1 1, .slice (some ⟨wc.heap.size, 0, none⟩) 1 1, .slice none 0 0, .slice none 0 0]] we (ComPost w1 p (stM R20 nM [] (B ++ encE (eG k)) (B ++ encE (eG k)).length (c + 2) [(nM, 0)] []) q (MG (k + 1)) (fun _ => False) we) := by
          have hX : extd (stM R20 nM [] B y c [(nM, 0)] []) nM (encE (eG k)) = (stM R20 nM [] (B ++ encE (eG k)) (B ++ encE (eG k)).length (c + 2) [(nM, 0)] [], 0) := extd_stM (by have := encE_len (fine_G k hk50).2; have := HBL.out.1; rw [R20_is]; omega)
          have hfine := fine_G k hk50
          have heq : eG k = ⟨10 + (k : Int), 0, [sG k], [8 + (k : Int)], [], []⟩ := by unfold eG dG; rw [if_pos hk0]
          rw [heq] at hX hfine ⊢
          have := commit_ok (De := fun b => b = wr.heap.size ∨ b = wc.heap.size) ⟨10 + (k : Int), 0, [sG k], [8 + (k : Int)], [], []⟩ ⟨some ⟨wr.heap.size, 0, none⟩, 1, some ⟨wc.heap.size, 0, none⟩, 1, none, 0, none, 0⟩ HI5.out HT1.out ⟨HSG.out, HDN.out, RowD.nil, RowD.nil⟩ hfine.1 (fun b hb => by have := HLT.out; rcases hb with rfl | rfl <;> omega) (by have := HBL.out.2.2; show c ≤ _; omega) (by rw [← heq]; exact app_G k hk50) (by rw [nmM_is, hX])
          rw [nmM_is, hX] at this
          exact this
        go_wp2_with fail
        refine hco.mono ?_
        rintro e w9 ⟨rfl, sv9, pv9, D9, hI9, _⟩
        have HBL9 : Hid ((B ++ encE (eG k)).length ≤ 20012 * (k + 1 + 1) ∧ 18 * (k + 1) ≤ (B ++ encE (eG k)).length ∧ c + 2 ≤ 5 + 2 * (k + 1)) := Lib.hid (by
          have h1 := encE_len (fine_G k hk50).2
          have h2 := lenG k hk50
          have h3 := HBL.out
          rw [List.length_append]
          omega)
        clear hco
        go_wp2_with fail
        go_roundw
        case rel => exact ⟨k + 1, _, _, _, _, _, _, by omega, by first | rfl | go_num, hI9, HBL9⟩
        case measure => simp only [intOf_i]; omega
      · have q4 : decide (0 < (k : Int)) = false := decide_eq_false (by omega)
        have hld := run_loadE_blk ⟨10 + (k : Int), 0, [sG k], [], [], []⟩ HKC.out
        have hld : (loadE (.pointer (some ⟨wa.heap.size, 0, none⟩))).run Tryz.prog wc = .ok (.agg #[.int .i64 (10 + (k : Int)), .int .i64 0, .slice (some ⟨wr.heap.size, 0, none⟩) 1 1, .slice none 0 0, .slice none 0 0, .slice none 0 0]) wc := hld
        have HSG := HSGc
        have HI5 := Lib.hid (HI.out.below HBRC.out)
        have HLT : Hid (wr.heap.size < wc.heap.size) := Lib.hid (by have := HSA.out; have := HCS.out; omega)

        have hco : Calls Tryz.prog 26 #[pP q, .agg #[.int .i64 (10 + (k : Int)), .int .i64 0, .slice (some ⟨wr.heap.size, 0, none⟩) 1 1, .slice none 0 0, .slice none 0 0, .slice none 0 0]] wc (ComPost w1 p (stM R20 nM [] (B ++ encE (eG k)) (B ++ encE (eG k)).length (c + 2) [(nM, 0)] []) q (MG (k + 1)) (fun _ => False) wc) := by
          have hX : extd (stM R20 nM [] B y c [(nM, 0)] []) nM (encE (eG k)) = (stM R20 nM [] (B ++ encE (eG k)) (B ++ encE (eG k)).length (c + 2) [(nM, 0)] [], 0) := extd_stM (by have := encE_len (fine_G k hk50).2; have := HBL.out.1; rw [R20_is]; omega)
          have hfine := fine_G k hk50
          have heq : eG k = ⟨10 + (k : Int), 0, [sG k], [], [], []⟩ := by unfold eG dG; rw [if_neg hk0]
          rw [heq] at hX hfine ⊢
          have := commit_ok (De := fun b => b = wr.heap.size) ⟨10 + (k : Int), 0, [sG k], [], [], []⟩ ⟨some ⟨wr.heap.size, 0, none⟩, 1, none, 0, none, 0, none, 0⟩ HI5.out HT1.out ⟨HSG.out, RowD.nil, RowD.nil, RowD.nil⟩ hfine.1 (fun b hb => by have := HLT.out; rw [hb]; omega) (by have := HBL.out.2.2; show c ≤ _; omega) (by rw [← heq]; exact app_G k hk50) (by rw [nmM_is, hX])
          rw [nmM_is, hX] at this
          exact this
        go_wp2_with fail
        refine hco.mono ?_
        rintro e w9 ⟨rfl, sv9, pv9, D9, hI9, _⟩
        have HBL9 : Hid ((B ++ encE (eG k)).length ≤ 20012 * (k + 1 + 1) ∧ 18 * (k + 1) ≤ (B ++ encE (eG k)).length ∧ c + 2 ≤ 5 + 2 * (k + 1)) := Lib.hid (by
          have h1 := encE_len (fine_G k hk50).2
          have h2 := lenG k hk50
          have h3 := HBL.out
          rw [List.length_append]
          omega)
        clear hco
        go_wp2_with fail
        go_roundw
        case rel => exact ⟨k + 1, _, _, _, _, _, _, by omega, by first | rfl | go_num, hI9, HBL9⟩
        case measure => simp only [intOf_i]; omega
    · have hkeq : k = N := by omega
      obtain rfl : N = k := hkeq.symm
      have q3 : decide ((N : Int) < (N : Int)) = false := decide_eq_false (by omega)
      have hI := HI.out
      rw [show MG N = MG (i + 1) by rw [HN.out.1]] at hI
      have hrd := read_h nmM hI.fs.toH (by decide)
      rw [nmM_is, stM_read] at hrd
      unfold nmM ReadPost errV at hrd
      have HI := Lib.hid hI
      obtain ⟨bl, hbl⟩ : ∃ bl, B.length = bl := ⟨_, rfl⟩
      have HBB := Lib.hid hbl
      simp only at hrd
      rw [hbl] at hrd
      clear hI hbl
      go_wp2_with fail
      refine hrd.mono ?_
      rintro e w4 ⟨hb4, sp4, cp4, rfl, _, _⟩
      have hI4 := HI.out.below hb4.out
      have hC30 := lenW i HN.out.2
      have hRW : rewr (stM R20 nM [] B y c [(nM, 0)] []) nN nM (encE (wholeM (MG (i + 1)))) = (stM R20 nM ([] ++ [(B, y)]) (encE (wholeM (MG (i + 1)))) (encE (wholeM (MG (i + 1)))).length (c + 5) [(nM, 0 + 1)] [], 0) := rewr_stM' (by have := HBL.out.1; rw [R20_is]; omega)
      have hrw := rewrite_ok hI4 HT1.out (by have := HBL.out.2.2; show c ≤ _; omega) (by rw [nmM_is, nmN_is, hRW])
      rw [nmM_is, nmN_is, hRW] at hrw
      have HC30 := Lib.hid hC30
      clear hrd hb4 hI4 hC30 hRW
      go_wp2_with fail
      refine hrw.mono ?_
      rintro e w5 ⟨rfl, HI5, _⟩
      have hrd5 := read_h nmM HI5.out.fs.toH (by decide)
      rw [nmM_is, stM_read] at hrd5
      unfold nmM ReadPost errV at hrd5
      obtain ⟨cl, hcl⟩ : ∃ cl, (encE (wholeM (MG (i + 1)))).length = cl := ⟨_, rfl⟩
      have HCL := Lib.hid hcl
      simp only at hrd5
      rw [hcl] at hrd5
      clear hrw hcl
      go_wp2_with fail
      refine hrd5.mono ?_
      rintro e w6 ⟨hb6, sp6, cp6, rfl, _, _⟩
      have hI6 := HI5.out.below hb6.out
      have hcr6 := crash_new 0 none 0 0 [] hI6.fs.toH (row_nil .i64 w6) (by have := HBL.out.2.2; show c + 5 ≤ _; omega)
      rw [show ([] : List Int).take 0 = [] from rfl, show crash (stM R20 nM ([] ++ [(B, y)]) (encE (wholeM (MG (i + 1)))) (encE (wholeM (MG (i + 1)))).length (c + 5) [(nM, 0 + 1)] []) 0 [] = stM R20 nM [] (encE (wholeM (MG (i + 1)))) (encE (wholeM (MG (i + 1)))).length 0 [(nM, 0)] [] from stM_crash R20 nM [(B, y)] _ (c + 5) [] rfl] at hcr6
      have HI6 := Lib.hid hI6
      clear hrd5 hb6 hI6
      go_wp2_with fail
      refine hcr6.mono ?_
      rintro e w7 ⟨p7, rfl, hI7⟩
      have hT6 : Tab w6 := HT1.out.below HI6.out.bel
      have hld := load_any (encE (wholeM (MG (i + 1)))) w7 hI7 hT6 (stM_read R20 nM [] _ _ _ _ _) (by have := HC30.out; omega) (by show 0 ≤ _; omega) (fun M _ _ h => by rw [scan_one (fine_W i HN.out.2)] at h; exact absurd h (Nat.lt_irrefl _))
      unfold LoadPost at hld
      rw [load_G i HN.out.2] at hld
      simp only at hld
      rw [if_neg (by rw [scan_one (fine_W i HN.out.2)]; exact Nat.lt_irrefl _)] at hld
      have HB67 := Lib.hid hI7.bel
      clear hcr6 hI7 hT6
      go_wp2_with fail
      refine hld.mono ?_
      rintro e w8 ⟨q8, sv8, pv8, D8, rfl, hI8⟩
      have HL6 := Lib.hid hI8.out.toY
      have HM6 := Lib.hid (HI6.out.below hI8.out.fs.bel)
      have hsg := segs_any HL6.out
      simp only [show (MG (i + 1)).segs.length = 1 from rfl] at hsg
      clear hld hI8
      have h67 : (cl : Int) < (bl : Int) ∨ (N : Int) < 6 := by
        have h1 := HC30.out
        have h2 := HBL.out.2.1
        rw [HCL.out] at h1
        rw [HBB.out] at h2
        omega
      obtain ⟨b6, q6⟩ : ∃ b6, decide ((N : Int) < 6) = b6 := ⟨_, rfl⟩
      obtain ⟨b7, q7⟩ : ∃ b7, decide ((cl : Int) < (bl : Int)) = b7 := ⟨_, rfl⟩
      have q7' : decide (cl < bl) = b7 := by rw [← q7]; simp
      cases b6
      · cases b7
        · simp at q6 q7
          omega
        · clear h67

          go_wp2_with fail
          refine hsg.mono ?_
          rintro e wA ⟨aA, cA, rfl, hoA, hbA⟩
          have hIA := HL6.out.below hbA
          have HMA := Lib.hid (HM6.out.below (hbA))
          have hsgA := segs_any hIA
          simp only [show (MG (i + 1)).segs.length = 1 from rfl] at hsgA
          have HIA := Lib.hid hIA
          clear hsg hIA
          go_wp2_with fail
          refine hsgA.mono ?_
          rintro e wB ⟨aB, cB, rfl, hoB, hbB⟩
          obtain ⟨gB, rfl, cnum⟩ := seg_head hoB
          rw [show (sG i).num = 8 + (N : Int) from by have := HN.out; show (9 : Int) + (i : Int) = _; omega] at cnum
          have hIB := HIA.out.below hbB
          have hnxB := next_any hIB
          rw [show (MG (i + 1)).next = 9 + (N : Int) from by have := HN.out; show (10 : Int) + (i : Int) = _; omega] at hnxB
          have HMB := Lib.hid (HMA.out.below hbB)
          clear hsgA hoB hbB hIB
          go_wp2_with fail
          refine hnxB.mono ?_
          rintro e wC ⟨rfl, hwC⟩
          obtain rfl := hwC.symm
          have hold := old_any (fun _ _ => True) HMB.out rfl (fun s hs => by
            rw [show (MG (i + 1)).segs = [sG i] from rfl, List.mem_singleton] at hs
            subst hs
            have h50 := HN.out
            by_cases h10 : 9 + i < 10
            · exact fmt_of _ (9 + i) (by omega) (fun w => (small_lo (9 + i) h10 w).mono fun e w' h => ⟨by obtain ⟨⟨d, h1, h2, _⟩, _⟩ := h; exact ⟨d, h1, h2, trivial⟩, h.2⟩)
            · exact fmt_of _ (9 + i) (by omega) (fun w => small_hi (9 + i) (by omega) (by omega) w)) ⟨by show 0 < 1; omega, by show 1 ≤ _; omega⟩
          have HBB := Lib.hid HMB.out.bel
          clear hnxB
          go_wp2_with fail
          refine hold.mono ?_
          rintro e wD ⟨v, L, rfl, hv, hin, hbD⟩
          have hv0 : IsStrs wD v [] := by
            have := hv.out
            rw [show (List.map (fun x => x.1) (stM R20 nM ([] ++ [(B, y)]) (encE (wholeM (MG (i + 1)))) (encE (wholeM (MG (i + 1)))).length (c + 5) [(nM, 0 + 1)] []).now) = [nM] from rfl] at this
            simpa [hin.1] using this
          obtain ⟨aD, cD, rfl, _, _⟩ := hv0
          simp only [List.length_nil]
          have HF : Hid (Below w.heap.size w wD) := Lib.hid (HB1.out.trans ((HBB.out.trans (hbD.mono HBB.out.size)).mono HB1.out.size))
          clear hold hv hbD
          go_wp2_with fail
          go_ret
          exact ⟨rfl, HF.out⟩
      · clear h67

        go_wp2_with fail
        refine hsg.mono ?_
        rintro e wA ⟨aA, cA, rfl, hoA, hbA⟩
        have hIA := HL6.out.below hbA
        have HMA := Lib.hid (HM6.out.below (hbA))
        have hsgA := segs_any hIA
        simp only [show (MG (i + 1)).segs.length = 1 from rfl] at hsgA
        have HIA := Lib.hid hIA
        clear hsg hIA
        go_wp2_with fail
        refine hsgA.mono ?_
        rintro e wB ⟨aB, cB, rfl, hoB, hbB⟩
        obtain ⟨gB, rfl, cnum⟩ := seg_head hoB
        rw [show (sG i).num = 8 + (N : Int) from by have := HN.out; show (9 : Int) + (i : Int) = _; omega] at cnum
        have hIB := HIA.out.below hbB
        have hnxB := next_any hIB
        rw [show (MG (i + 1)).next = 9 + (N : Int) from by have := HN.out; show (10 : Int) + (i : Int) = _; omega] at hnxB
        have HMB := Lib.hid (HMA.out.below hbB)
        clear hsgA hoB hbB hIB
        go_wp2_with fail
        refine hnxB.mono ?_
        rintro e wC ⟨rfl, hwC⟩
        obtain rfl := hwC.symm
        have hold := old_any (fun _ _ => True) HMB.out rfl (fun s hs => by
          rw [show (MG (i + 1)).segs = [sG i] from rfl, List.mem_singleton] at hs
          subst hs
          have h50 := HN.out
          by_cases h10 : 9 + i < 10
          · exact fmt_of _ (9 + i) (by omega) (fun w => (small_lo (9 + i) h10 w).mono fun e w' h => ⟨by obtain ⟨⟨d, h1, h2, _⟩, _⟩ := h; exact ⟨d, h1, h2, trivial⟩, h.2⟩)
          · exact fmt_of _ (9 + i) (by omega) (fun w => small_hi (9 + i) (by omega) (by omega) w)) ⟨by show 0 < 1; omega, by show 1 ≤ _; omega⟩
        have HBB := Lib.hid HMB.out.bel
        clear hnxB
        go_wp2_with fail
        refine hold.mono ?_
        rintro e wD ⟨v, L, rfl, hv, hin, hbD⟩
        have hv0 : IsStrs wD v [] := by
          have := hv.out
          rw [show (List.map (fun x => x.1) (stM R20 nM ([] ++ [(B, y)]) (encE (wholeM (MG (i + 1)))) (encE (wholeM (MG (i + 1)))).length (c + 5) [(nM, 0 + 1)] []).now) = [nM] from rfl] at this
          simpa [hin.1] using this
        obtain ⟨aD, cD, rfl, _, _⟩ := hv0
        simp only [List.length_nil]
        have HF : Hid (Below w.heap.size w wD) := Lib.hid (HB1.out.trans ((HBB.out.trans (hbD.mono HBB.out.size)).mono HB1.out.size))
        clear hold hv hbD
        go_wp2_with fail
        go_ret
        exact ⟨rfl, HF.out⟩
end Go.Proofs.YtdjkkohckfndkaaGreatDoor.S19
