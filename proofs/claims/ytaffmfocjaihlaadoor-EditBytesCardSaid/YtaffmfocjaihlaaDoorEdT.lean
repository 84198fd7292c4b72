/- EditBytes, walked. -/
import Derived.Test.YtaffmfocjaihlaaDoorEdR
import Derived.Test.YtaffmfocjaihlaaDoorEdS
import Derived.Test.YtaffmfocjaihlaaDoorEdN
import Derived.Test.YtaffmfocjaihlaaDoorEdV
set_option linter.unusedSimpArgs false
set_option linter.unusedVariables false
set_option maxRecDepth 100000
namespace Go.Proofs.YtaffmfocjaihlaaDoor.S18
open Go.RowKit S2.Pl S3 S3.Pl
attribute [local go_sem ↓] loadS_eq storeS_eq loadP_eq storeP_eq loadE_eq storeE_eq
theorem bytes_two {w : World} {base n m : Nat} {x y : ED} {sp : Option Addr} {cap : Nat} (hA : (encE x).length = n) (hB : (encE y).length = m) (h : w.ownsRow base 5 1 (.slice sp (n + m) cap) (n + m) (u8s (encE x) ++ u8s (encE y))) : IsBytes w (.slice sp (n + m) cap) (encE x ++ encE y) := by
  subst hA hB
  rw [← u8s_append, ← List.length_append] at h
  rw [← List.length_append]
  refine isBytes_own (fun z hz => ?_) h
  rw [List.mem_append] at hz
  exact hz.elim (encE_lt x z) (encE_lt y z)
/-- an edit in a block of its own -/
def EdB (W : World) (g : Nat) (e : ED) : Prop := ∃ a1 c1 a2 c2 a3 c3 a4 c4, Blk W g 26 (edL e a1 c1 a2 c2 a3 c3 a4 c4) ∧ EdIn (fun _ => True) W e a1 c1 a2 c2 a3 c3 a4 c4
theorem EdB.below {W W' : World} {g : Nat} {e : ED} (h : EdB W g e) (hb : Below W.heap.size W W') : EdB W' g e := by
  obtain ⟨a1, c1, a2, c2, a3, c3, a4, c4, h1, h2⟩ := h
  exact ⟨a1, c1, a2, c2, a3, c3, a4, c4, h1.below hb h1.lt, h2.keep (keep_below hb)⟩
theorem cutE_w {e : ED} {D : Nat → Prop} {w : World} {a1 : Option Addr} {c1 : Nat} {a2 : Option Addr} {c2 : Nat} {a3 : Option Addr} {c3 : Nat} {a4 : Option Addr} {c4 : Nat} (h : EdIn D w e a1 c1 a2 c2 a3 c3 a4 c4) : EdW e := h.w
set_option maxHeartbeats 32000000 in
theorem editBytes_walk (a : ED) (a1 : Option Addr) (c1 : Nat) (a2 : Option Addr) (c2 : Nat) (a3 : Option Addr) (c3 : Nat) (a4 : Option Addr) (c4 : Nat) (b : ED) (b1 : Option Addr) (d1 : Nat) (b2 : Option Addr) (d2 : Nat) (b3 : Option Addr) (d3 : Nat) (b4 : Option Addr) (d4 : Nat) (w : World) (hT : Tab w) (ha : EdIn (fun k => k < w.heap.size) w a a1 c1 a2 c2 a3 c3 a4 c4) (hb : EdIn (fun k => k < w.heap.size) w b b1 d1 b2 d2 b3 d3 b4 d4) :
    Calls Tryd.prog 3 #[.agg #[.int .i64 a.next, .int .i64 a.seq, .slice a1 a.adds.length c1, .slice a2 a.dels.length c2, .slice a3 a.pars.length c3, .slice a4 a.drops.length c4], .agg #[.int .i64 b.next, .int .i64 b.seq, .slice b1 b.adds.length d1, .slice b2 b.dels.length d2, .slice b3 b.pars.length d3, .slice b4 b.drops.length d4]] w fun r w' => r = .returned (.bool true) ∧ Below w.heap.size w w' := by
  have hb1 : Below w.heap.size w (w.alloc (.cells #[.int .i64 a.next, .int .i64 a.seq, .slice a1 a.adds.length c1, .slice a2 a.dels.length c2, .slice a3 a.pars.length c3, .slice a4 a.drops.length c4] 26)) := (Below.refl _ _).alloc (Nat.le_refl _) _
  have hk1 := Blk.new w 26 (edL a a1 c1 a2 c2 a3 c3 a4 c4)
  obtain ⟨w1, hw1⟩ : ∃ w1, w.alloc (.cells #[.int .i64 a.next, .int .i64 a.seq, .slice a1 a.adds.length c1, .slice a2 a.dels.length c2, .slice a3 a.pars.length c3, .slice a4 a.drops.length c4] 26) = w1 := ⟨_, rfl⟩
  rw [hw1] at hb1
  have hk1' : Blk w1 w.heap.size 26 (edL a a1 c1 a2 c2 a3 c3 a4 c4) := by rw [← hw1]; exact hk1
  have hb2 : Below w1.heap.size w1 (w1.alloc (.cells #[.int .i64 b.next, .int .i64 b.seq, .slice b1 b.adds.length d1, .slice b2 b.dels.length d2, .slice b3 b.pars.length d3, .slice b4 b.drops.length d4] 26)) := (Below.refl _ _).alloc (Nat.le_refl _) _
  have hk2 := Blk.new w1 26 (edL b b1 d1 b2 d2 b3 d3 b4 d4)
  obtain ⟨w2, hw2⟩ : ∃ w2, w1.alloc (.cells #[.int .i64 b.next, .int .i64 b.seq, .slice b1 b.adds.length d1, .slice b2 b.dels.length d2, .slice b3 b.pars.length d3, .slice b4 b.drops.length d4] 26) = w2 := ⟨_, rfl⟩
  rw [hw2] at hb2
  have KB : Hid (Blk w2 w1.heap.size 26 (edL b b1 d1 b2 d2 b3 d3 b4 d4)) := Lib.hid (by rw [← hw2]; exact hk2)
  have KA : Hid (Blk w2 w.heap.size 26 (edL a a1 c1 a2 c2 a3 c3 a4 c4)) := Lib.hid (hk1'.below hb2 hk1'.lt)
  have HB2 : Hid (Below w.heap.size w w2) := Lib.hid (hb1.trans (hb2.mono hb1.size))
  have HLT : Hid (w.heap.size < w1.heap.size) := Lib.hid hk1'.lt
  have HA := Lib.hid ha
  have HBb := Lib.hid hb
  have HT := Lib.hid hT
  have HBEG := Lib.hid (begun_any w2 (hT.below HB2.out))
  have EVA : Hid ((Value.agg #[.int .i64 a.next, .int .i64 a.seq, .slice a1 a.adds.length c1, .slice a2 a.dels.length c2, .slice a3 a.pars.length c3, .slice a4 a.drops.length c4]) = .agg (edL a a1 c1 a2 c2 a3 c3 a4 c4).toArray) := Lib.hid rfl
  have EVB : Hid ((Value.agg #[.int .i64 b.next, .int .i64 b.seq, .slice b1 b.adds.length d1, .slice b2 b.dels.length d2, .slice b3 b.pars.length d3, .slice b4 b.drops.length d4]) = .agg (edL b b1 d1 b2 d2 b3 d3 b4 d4).toArray) := Lib.hid rfl
  clear hb1 hk1 hk1' hb2 hk2 ha hb hT
  go_enter Tryd.func3, Tryd.ntmps3
  go_wp2_with fail
  refine HBEG.out.mono ?_
  rintro r w3 ⟨rfl, hb3⟩
  have KA3 := Lib.hid (KA.out.below hb3 KA.out.lt)
  have KB3 := Lib.hid (KB.out.below hb3 KB.out.lt)
  have HB3 := Lib.hid (HB2.out.trans (hb3.mono HB2.out.size))
  clear hb3 HBEG KA KB hw1 hw2
  obtain ⟨ga, hga⟩ : ∃ g, w.heap.size = g := ⟨_, rfl⟩
  obtain ⟨gb, hgb⟩ : ∃ g, w1.heap.size = g := ⟨_, rfl⟩
  go_upto_region 4 with fail
  rw [hga] at KA3 HLT
  rw [hgb] at KB3 HLT
  try rw [hga]
  try rw [hgb]
  have GA := Lib.hid hga
  have GB := Lib.hid hgb
  clear hga hgb
  have CA : Hid (∀ W, Below w.heap.size w W → Calls Tryd.prog 9 #[.agg (edL a a1 c1 a2 c2 a3 c3 a4 c4).toArray] W (CutPost w.heap.size a W)) := Lib.hid fun W hW => cut_any w.heap.size a a1 c1 a2 c2 a3 c3 a4 c4 W hW.size (HA.out.keep (keep_below hW))
  have CB : Hid (∀ W, Below w.heap.size w W → Calls Tryd.prog 9 #[.agg (edL b b1 d1 b2 d2 b3 d3 b4 d4).toArray] W (CutPost w.heap.size b W)) := Lib.hid fun W hW => cut_any w.heap.size b b1 d1 b2 d2 b3 d3 b4 d4 W hW.size (HBb.out.keep (keep_below hW))
  go_cut [] (fun wx => EdB wx ga (cutE a) ∧ EdB wx gb (cutE b) ∧ Below w.heap.size w wx)
  case first =>
    have hka : Blk w3.drew ga 26 (edL a a1 c1 a2 c2 a3 c3 a4 c4) := KA3.out
    have hkb : Blk w3.drew gb 26 (edL b b1 d1 b2 d2 b3 d3 b4 d4) := KB3.out
    have hbw : Below w.heap.size w w3.drew := HB3.out.drew
    have la := run_loadE (w := w3.drew) (g := ga) (o := 0) (cs := edL a a1 c1 a2 c2 a3 c3 a4 c4) rfl fun q u hq => by rw [Nat.zero_add]; exact hka.cell hq
    have lb := run_loadE (w := w3.drew) (g := gb) (o := 0) (cs := edL b b1 d1 b2 d2 b3 d3 b4 d4) rfl fun q u hq => by rw [Nat.zero_add]; exact hkb.cell hq
    refine wp_region_noPanic ?_
    refine wpAnyH_start (n := 6) (l := #[false, false, false, false, false, false]) (S := fun _ => True) (by kernel_rfl) (trivial) (by kernel_rfl) (by kernel_rfl) ?_
    refine wpAnyH_ready (rs := [0, 2]) (by kernel_rfl) (by simp) ?_
    refine AllReadyH.cons (o := _) rfl (fun K hK => ?_) (AllReadyH.cons (o := _) rfl (fun K hK => ?_) AllReadyH.nil)
    · simp only [List.getElem_toArray, List.getElem_cons_zero, List.getElem_cons_succ]
      go_simp
      refine hK.out _ _ trivial (fun _ => ?_)
      clear hK K
      simp only [Act.put, List.setIfInBounds_toArray, List.set_cons_zero, List.set_cons_succ, List.getElem_toArray, List.getElem_cons_zero, List.getElem_cons_succ]
      refine wpAnyH_ready (rs := [1, 2]) (by kernel_rfl) (by simp) ?_
      refine AllReadyH.cons (o := _) rfl (fun K hK => ?_) (AllReadyH.cons (o := _) rfl (fun K hK => ?_) AllReadyH.nil)
      · simp only [List.getElem_toArray, List.getElem_cons_zero, List.getElem_cons_succ]
        go_simp
        refine (CA.out w3.drew hbw).mono ?_
        rintro r w4 ⟨x1, y1, x2, y2, x3, y3, x4, y4, rfl, hiA, hbA⟩
        refine hK.out _ _ trivial (fun _ => ?_)
        clear hK K
        simp only [Act.put, List.setIfInBounds_toArray, List.set_cons_zero, List.set_cons_succ, List.getElem_toArray, List.getElem_cons_zero, List.getElem_cons_succ]
        have lb4 := run_loadE (w := w4) (g := gb) (o := 0) (cs := edL b b1 d1 b2 d2 b3 d3 b4 d4) rfl fun q u hq => by rw [Nat.zero_add]; exact (hkb.below hbA.out hkb.lt).cell hq
        refine wpAnyH_ready (rs := [2]) (by kernel_rfl) (by simp) ?_
        refine AllReadyH.cons (o := _) rfl (fun K hK => ?_) AllReadyH.nil
        simp only [List.getElem_toArray, List.getElem_cons_zero, List.getElem_cons_succ]
        go_simp
        refine hK.out _ _ trivial (fun _ => ?_)
        clear hK K
        simp only [Act.put, List.setIfInBounds_toArray, List.set_cons_zero, List.set_cons_succ, List.getElem_toArray, List.getElem_cons_zero, List.getElem_cons_succ]
        clear lb4
        refine wpAnyH_ready (rs := [3]) (by kernel_rfl) (by simp) ?_
        refine AllReadyH.cons (o := _) rfl (fun K hK => ?_) AllReadyH.nil
        simp only [List.getElem_toArray, List.getElem_cons_zero, List.getElem_cons_succ]
        go_simp
        refine (CB.out w4 (hbw.trans (hbA.out.mono hbw.size))).mono ?_
        rintro r w5 ⟨u1, v1, u2, v2, u3, v3, u4, v4, rfl, hiB, hbB⟩
        refine hK.out _ _ trivial (fun _ => ?_)
        clear hK K
        simp only [Act.put, List.setIfInBounds_toArray, List.set_cons_zero, List.set_cons_succ, List.getElem_toArray, List.getElem_cons_zero, List.getElem_cons_succ]

        have hka5 : Blk w5 ga 26 (edL a a1 c1 a2 c2 a3 c3 a4 c4) := (hka.below hbA.out hka.lt).below hbB.out (hka.below hbA.out hka.lt).lt
        have hkb5 : Blk w5 gb 26 (edL b b1 d1 b2 d2 b3 d3 b4 d4) := (hkb.below hbA.out hkb.lt).below hbB.out (hkb.below hbA.out hkb.lt).lt
        have hw5 : Below w.heap.size w w5 := hbw.trans ((hbA.out.trans (hbB.out.mono hbA.out.size)).mono hbw.size)
        have hne : ga ≠ gb := by have := HLT.out; omega
        obtain ⟨wA, stA, kA, sA⟩ := putE (a1 := x1) (c1 := y1) (a2 := x2) (c2 := y2) (a3 := x3) (c3 := y3) (a4 := x4) (c4 := y4) (cutE a) hka5 rfl
        obtain ⟨wB, stB, kB, sB⟩ := putE (a1 := u1) (c1 := v1) (a2 := u2) (c2 := v2) (a3 := u3) (c3 := v3) (a4 := u4) (c4 := v4) (cutE b) (hkb5.grown sA.out (by intro e; simp at e; omega)) rfl
        have GAle : w.heap.size ≤ ga := by rw [GA.out]; exact Nat.le_refl _
        have GBle : w.heap.size ≤ gb := by have := HLT.out; omega
        have hwA : Below w.heap.size w wA := hw5.trans (Gr.below sA.out hw5.size GAle)
        have hwB : Below w.heap.size w wB := hwA.trans (Gr.below sB.out hwA.size GBle)
        have hlt3 : ga < w3.heap.size := KA3.out.lt
        have hlt3b : gb < w3.heap.size := KB3.out.lt
        have kp : ∀ base W, w3.heap.size ≤ base → Keep (CD w.heap.size base W) (fun k => k ≠ ga ∧ k ≠ gb) W W := fun base W hbs => keep_weak fun k hk _ => by
          rcases hk with h | ⟨h, _⟩
          · exact ⟨by omega, by omega⟩
          · exact ⟨by omega, by omega⟩
        have kA5 : EdIn (fun k => k ≠ ga ∧ k ≠ gb) w4 (cutE a) x1 y1 x2 y2 x3 y3 x4 y4 := hiA.out.keep (kp _ _ (Nat.le_refl _))
        have kB5 : EdIn (fun k => k ≠ ga ∧ k ≠ gb) w5 (cutE b) u1 v1 u2 v2 u3 v3 u4 v4 := hiB.out.keep (kp _ _ hbA.out.size)
        have kk : Keep (fun k => k ≠ ga ∧ k ≠ gb) (fun _ => True) w5 wB := Keep.trans (keep_gr sA.out fun k hk hl => ⟨hk, by intro e; simp at e; exact hk.1 e⟩ : Keep (fun k => k ≠ ga ∧ k ≠ gb) (fun k => k ≠ ga ∧ k ≠ gb) w5 wA) (keep_gr sB.out fun k hk hl => ⟨trivial, by intro e; simp at e; exact hk.2 e⟩)
        have EAB : EdB wB ga (cutE a) := ⟨x1, y1, x2, y2, x3, y3, x4, y4, kA.out.grown sB.out (by intro e; simp at e; omega), (kA5.keep (keep_below hbB.out)).keep kk⟩
        have EBB : EdB wB gb (cutE b) := ⟨u1, v1, u2, v2, u3, v3, u4, v4, kB.out, kB5.keep kk⟩
        have HEA := Lib.hid EAB
        have HEB := Lib.hid EBB
        have HWB := Lib.hid hwB
        clear hka5 hkb5 hw5 kA kB sA sB GAle GBle hwA hwB hlt3 hlt3b kp kA5 kB5 kk EAB EBB hiA hbA hiB hbB la lb hka hkb
        refine wpAnyH_ready (rs := [4]) (by kernel_rfl) (by simp) ?_
        refine AllReadyH.cons (o := _) rfl (fun K hK => ?_) AllReadyH.nil
        simp only [List.getElem_toArray, List.getElem_cons_zero, List.getElem_cons_succ]
        go_simp
        refine hK.out _ _ trivial (fun _ => ?_)
        clear hK K
        simp only [Act.put, List.setIfInBounds_toArray, List.set_cons_zero, List.set_cons_succ, List.getElem_toArray, List.getElem_cons_zero, List.getElem_cons_succ]
        refine wpAnyH_ready (rs := [5]) (by kernel_rfl) (by simp) ?_
        refine AllReadyH.cons (o := _) rfl (fun K hK => ?_) AllReadyH.nil
        simp only [List.getElem_toArray, List.getElem_cons_zero, List.getElem_cons_succ]
        go_simp
        refine hK.out _ _ trivial (fun _ => ?_)
        clear hK K
        simp only [Act.put, List.setIfInBounds_toArray, List.set_cons_zero, List.set_cons_succ, List.getElem_toArray, List.getElem_cons_zero, List.getElem_cons_succ]
        refine wpAnyH_done (by kernel_rfl) ?_ _
        refine NoPanic.normal ?_
        go_wp2_with fail
        go_meet
        case rel => exact ⟨HEA.out, HEB.out, HWB.out⟩
      · simp only [List.getElem_toArray, List.getElem_cons_zero, List.getElem_cons_succ]
        go_simp
        refine hK.out _ _ trivial (fun _ => ?_)
        clear hK K
        simp only [Act.put, List.setIfInBounds_toArray, List.set_cons_zero, List.set_cons_succ, List.getElem_toArray, List.getElem_cons_zero, List.getElem_cons_succ]
        refine wpAnyH_ready (rs := [1]) (by kernel_rfl) (by simp) ?_
        refine AllReadyH.cons (o := _) rfl (fun K hK => ?_) AllReadyH.nil
        simp only [List.getElem_toArray, List.getElem_cons_zero, List.getElem_cons_succ]
        go_simp
        refine (CA.out w3.drew hbw).mono ?_
        rintro r w4 ⟨x1, y1, x2, y2, x3, y3, x4, y4, rfl, hiA, hbA⟩
        refine hK.out _ _ trivial (fun _ => ?_)
        clear hK K
        simp only [Act.put, List.setIfInBounds_toArray, List.set_cons_zero, List.set_cons_succ, List.getElem_toArray, List.getElem_cons_zero, List.getElem_cons_succ]
        refine wpAnyH_ready (rs := [3]) (by kernel_rfl) (by simp) ?_
        refine AllReadyH.cons (o := _) rfl (fun K hK => ?_) AllReadyH.nil
        simp only [List.getElem_toArray, List.getElem_cons_zero, List.getElem_cons_succ]
        go_simp
        refine (CB.out w4 (hbw.trans (hbA.out.mono hbw.size))).mono ?_
        rintro r w5 ⟨u1, v1, u2, v2, u3, v3, u4, v4, rfl, hiB, hbB⟩
        refine hK.out _ _ trivial (fun _ => ?_)
        clear hK K
        simp only [Act.put, List.setIfInBounds_toArray, List.set_cons_zero, List.set_cons_succ, List.getElem_toArray, List.getElem_cons_zero, List.getElem_cons_succ]

        have hka5 : Blk w5 ga 26 (edL a a1 c1 a2 c2 a3 c3 a4 c4) := (hka.below hbA.out hka.lt).below hbB.out (hka.below hbA.out hka.lt).lt
        have hkb5 : Blk w5 gb 26 (edL b b1 d1 b2 d2 b3 d3 b4 d4) := (hkb.below hbA.out hkb.lt).below hbB.out (hkb.below hbA.out hkb.lt).lt
        have hw5 : Below w.heap.size w w5 := hbw.trans ((hbA.out.trans (hbB.out.mono hbA.out.size)).mono hbw.size)
        have hne : ga ≠ gb := by have := HLT.out; omega
        obtain ⟨wA, stA, kA, sA⟩ := putE (a1 := x1) (c1 := y1) (a2 := x2) (c2 := y2) (a3 := x3) (c3 := y3) (a4 := x4) (c4 := y4) (cutE a) hka5 rfl
        obtain ⟨wB, stB, kB, sB⟩ := putE (a1 := u1) (c1 := v1) (a2 := u2) (c2 := v2) (a3 := u3) (c3 := v3) (a4 := u4) (c4 := v4) (cutE b) (hkb5.grown sA.out (by intro e; simp at e; omega)) rfl
        have GAle : w.heap.size ≤ ga := by rw [GA.out]; exact Nat.le_refl _
        have GBle : w.heap.size ≤ gb := by have := HLT.out; omega
        have hwA : Below w.heap.size w wA := hw5.trans (Gr.below sA.out hw5.size GAle)
        have hwB : Below w.heap.size w wB := hwA.trans (Gr.below sB.out hwA.size GBle)
        have hlt3 : ga < w3.heap.size := KA3.out.lt
        have hlt3b : gb < w3.heap.size := KB3.out.lt
        have kp : ∀ base W, w3.heap.size ≤ base → Keep (CD w.heap.size base W) (fun k => k ≠ ga ∧ k ≠ gb) W W := fun base W hbs => keep_weak fun k hk _ => by
          rcases hk with h | ⟨h, _⟩
          · exact ⟨by omega, by omega⟩
          · exact ⟨by omega, by omega⟩
        have kA5 : EdIn (fun k => k ≠ ga ∧ k ≠ gb) w4 (cutE a) x1 y1 x2 y2 x3 y3 x4 y4 := hiA.out.keep (kp _ _ (Nat.le_refl _))
        have kB5 : EdIn (fun k => k ≠ ga ∧ k ≠ gb) w5 (cutE b) u1 v1 u2 v2 u3 v3 u4 v4 := hiB.out.keep (kp _ _ hbA.out.size)
        have kk : Keep (fun k => k ≠ ga ∧ k ≠ gb) (fun _ => True) w5 wB := Keep.trans (keep_gr sA.out fun k hk hl => ⟨hk, by intro e; simp at e; exact hk.1 e⟩ : Keep (fun k => k ≠ ga ∧ k ≠ gb) (fun k => k ≠ ga ∧ k ≠ gb) w5 wA) (keep_gr sB.out fun k hk hl => ⟨trivial, by intro e; simp at e; exact hk.2 e⟩)
        have EAB : EdB wB ga (cutE a) := ⟨x1, y1, x2, y2, x3, y3, x4, y4, kA.out.grown sB.out (by intro e; simp at e; omega), (kA5.keep (keep_below hbB.out)).keep kk⟩
        have EBB : EdB wB gb (cutE b) := ⟨u1, v1, u2, v2, u3, v3, u4, v4, kB.out, kB5.keep kk⟩
        have HEA := Lib.hid EAB
        have HEB := Lib.hid EBB
        have HWB := Lib.hid hwB
        clear hka5 hkb5 hw5 kA kB sA sB GAle GBle hwA hwB hlt3 hlt3b kp kA5 kB5 kk EAB EBB hiA hbA hiB hbB la lb hka hkb
        refine wpAnyH_ready (rs := [4]) (by kernel_rfl) (by simp) ?_
        refine AllReadyH.cons (o := _) rfl (fun K hK => ?_) AllReadyH.nil
        simp only [List.getElem_toArray, List.getElem_cons_zero, List.getElem_cons_succ]
        go_simp
        refine hK.out _ _ trivial (fun _ => ?_)
        clear hK K
        simp only [Act.put, List.setIfInBounds_toArray, List.set_cons_zero, List.set_cons_succ, List.getElem_toArray, List.getElem_cons_zero, List.getElem_cons_succ]
        refine wpAnyH_ready (rs := [5]) (by kernel_rfl) (by simp) ?_
        refine AllReadyH.cons (o := _) rfl (fun K hK => ?_) AllReadyH.nil
        simp only [List.getElem_toArray, List.getElem_cons_zero, List.getElem_cons_succ]
        go_simp
        refine hK.out _ _ trivial (fun _ => ?_)
        clear hK K
        simp only [Act.put, List.setIfInBounds_toArray, List.set_cons_zero, List.set_cons_succ, List.getElem_toArray, List.getElem_cons_zero, List.getElem_cons_succ]
        refine wpAnyH_done (by kernel_rfl) ?_ _
        refine NoPanic.normal ?_
        go_wp2_with fail
        go_meet
        case rel => exact ⟨HEA.out, HEB.out, HWB.out⟩
    · simp only [List.getElem_toArray, List.getElem_cons_zero, List.getElem_cons_succ]
      go_simp
      refine hK.out _ _ trivial (fun _ => ?_)
      clear hK K
      simp only [Act.put, List.setIfInBounds_toArray, List.set_cons_zero, List.set_cons_succ, List.getElem_toArray, List.getElem_cons_zero, List.getElem_cons_succ]
      refine wpAnyH_ready (rs := [0]) (by kernel_rfl) (by simp) ?_
      refine AllReadyH.cons (o := _) rfl (fun K hK => ?_) AllReadyH.nil
      simp only [List.getElem_toArray, List.getElem_cons_zero, List.getElem_cons_succ]
      go_simp
      refine hK.out _ _ trivial (fun _ => ?_)
      clear hK K
      simp only [Act.put, List.setIfInBounds_toArray, List.set_cons_zero, List.set_cons_succ, List.getElem_toArray, List.getElem_cons_zero, List.getElem_cons_succ]
      refine wpAnyH_ready (rs := [1]) (by kernel_rfl) (by simp) ?_
      refine AllReadyH.cons (o := _) rfl (fun K hK => ?_) AllReadyH.nil
      simp only [List.getElem_toArray, List.getElem_cons_zero, List.getElem_cons_succ]
      go_simp
      refine (CA.out w3.drew hbw).mono ?_
      rintro r w4 ⟨x1, y1, x2, y2, x3, y3, x4, y4, rfl, hiA, hbA⟩
      refine hK.out _ _ trivial (fun _ => ?_)
      clear hK K
      simp only [Act.put, List.setIfInBounds_toArray, List.set_cons_zero, List.set_cons_succ, List.getElem_toArray, List.getElem_cons_zero, List.getElem_cons_succ]
      refine wpAnyH_ready (rs := [3]) (by kernel_rfl) (by simp) ?_
      refine AllReadyH.cons (o := _) rfl (fun K hK => ?_) AllReadyH.nil
      simp only [List.getElem_toArray, List.getElem_cons_zero, List.getElem_cons_succ]
      go_simp
      refine (CB.out w4 (hbw.trans (hbA.out.mono hbw.size))).mono ?_
      rintro r w5 ⟨u1, v1, u2, v2, u3, v3, u4, v4, rfl, hiB, hbB⟩
      refine hK.out _ _ trivial (fun _ => ?_)
      clear hK K
      simp only [Act.put, List.setIfInBounds_toArray, List.set_cons_zero, List.set_cons_succ, List.getElem_toArray, List.getElem_cons_zero, List.getElem_cons_succ]

      have hka5 : Blk w5 ga 26 (edL a a1 c1 a2 c2 a3 c3 a4 c4) := (hka.below hbA.out hka.lt).below hbB.out (hka.below hbA.out hka.lt).lt
      have hkb5 : Blk w5 gb 26 (edL b b1 d1 b2 d2 b3 d3 b4 d4) := (hkb.below hbA.out hkb.lt).below hbB.out (hkb.below hbA.out hkb.lt).lt
      have hw5 : Below w.heap.size w w5 := hbw.trans ((hbA.out.trans (hbB.out.mono hbA.out.size)).mono hbw.size)
      have hne : ga ≠ gb := by have := HLT.out; omega
      obtain ⟨wA, stA, kA, sA⟩ := putE (a1 := x1) (c1 := y1) (a2 := x2) (c2 := y2) (a3 := x3) (c3 := y3) (a4 := x4) (c4 := y4) (cutE a) hka5 rfl
      obtain ⟨wB, stB, kB, sB⟩ := putE (a1 := u1) (c1 := v1) (a2 := u2) (c2 := v2) (a3 := u3) (c3 := v3) (a4 := u4) (c4 := v4) (cutE b) (hkb5.grown sA.out (by intro e; simp at e; omega)) rfl
      have GAle : w.heap.size ≤ ga := by rw [GA.out]; exact Nat.le_refl _
      have GBle : w.heap.size ≤ gb := by have := HLT.out; omega
      have hwA : Below w.heap.size w wA := hw5.trans (Gr.below sA.out hw5.size GAle)
      have hwB : Below w.heap.size w wB := hwA.trans (Gr.below sB.out hwA.size GBle)
      have hlt3 : ga < w3.heap.size := KA3.out.lt
      have hlt3b : gb < w3.heap.size := KB3.out.lt
      have kp : ∀ base W, w3.heap.size ≤ base → Keep (CD w.heap.size base W) (fun k => k ≠ ga ∧ k ≠ gb) W W := fun base W hbs => keep_weak fun k hk _ => by
        rcases hk with h | ⟨h, _⟩
        · exact ⟨by omega, by omega⟩
        · exact ⟨by omega, by omega⟩
      have kA5 : EdIn (fun k => k ≠ ga ∧ k ≠ gb) w4 (cutE a) x1 y1 x2 y2 x3 y3 x4 y4 := hiA.out.keep (kp _ _ (Nat.le_refl _))
      have kB5 : EdIn (fun k => k ≠ ga ∧ k ≠ gb) w5 (cutE b) u1 v1 u2 v2 u3 v3 u4 v4 := hiB.out.keep (kp _ _ hbA.out.size)
      have kk : Keep (fun k => k ≠ ga ∧ k ≠ gb) (fun _ => True) w5 wB := Keep.trans (keep_gr sA.out fun k hk hl => ⟨hk, by intro e; simp at e; exact hk.1 e⟩ : Keep (fun k => k ≠ ga ∧ k ≠ gb) (fun k => k ≠ ga ∧ k ≠ gb) w5 wA) (keep_gr sB.out fun k hk hl => ⟨trivial, by intro e; simp at e; exact hk.2 e⟩)
      have EAB : EdB wB ga (cutE a) := ⟨x1, y1, x2, y2, x3, y3, x4, y4, kA.out.grown sB.out (by intro e; simp at e; omega), (kA5.keep (keep_below hbB.out)).keep kk⟩
      have EBB : EdB wB gb (cutE b) := ⟨u1, v1, u2, v2, u3, v3, u4, v4, kB.out, kB5.keep kk⟩
      have HEA := Lib.hid EAB
      have HEB := Lib.hid EBB
      have HWB := Lib.hid hwB
      clear hka5 hkb5 hw5 kA kB sA sB GAle GBle hwA hwB hlt3 hlt3b kp kA5 kB5 kk EAB EBB hiA hbA hiB hbB la lb hka hkb
      refine wpAnyH_ready (rs := [4]) (by kernel_rfl) (by simp) ?_
      refine AllReadyH.cons (o := _) rfl (fun K hK => ?_) AllReadyH.nil
      simp only [List.getElem_toArray, List.getElem_cons_zero, List.getElem_cons_succ]
      go_simp
      refine hK.out _ _ trivial (fun _ => ?_)
      clear hK K
      simp only [Act.put, List.setIfInBounds_toArray, List.set_cons_zero, List.set_cons_succ, List.getElem_toArray, List.getElem_cons_zero, List.getElem_cons_succ]
      refine wpAnyH_ready (rs := [5]) (by kernel_rfl) (by simp) ?_
      refine AllReadyH.cons (o := _) rfl (fun K hK => ?_) AllReadyH.nil
      simp only [List.getElem_toArray, List.getElem_cons_zero, List.getElem_cons_succ]
      go_simp
      refine hK.out _ _ trivial (fun _ => ?_)
      clear hK K
      simp only [Act.put, List.setIfInBounds_toArray, List.set_cons_zero, List.set_cons_succ, List.getElem_toArray, List.getElem_cons_zero, List.getElem_cons_succ]
      refine wpAnyH_done (by kernel_rfl) ?_ _
      refine NoPanic.normal ?_
      go_wp2_with fail
      go_meet
      case rel => exact ⟨HEA.out, HEB.out, HWB.out⟩
  case rest =>
  obtain ⟨hea, heb, hbx⟩ := hcut
  obtain ⟨w6, hw6⟩ : ∃ v, v = wc := ⟨_, rfl⟩
  subst hw6
  have EA6 := Lib.hid hea
  have EB6 := Lib.hid heb
  have HB6 := Lib.hid hbx
  clear hea heb hbx CA CB KA3 KB3 EVA EVB
  have HWA : Hid (EdW (cutE a)) := Lib.hid (by obtain ⟨_, _, _, _, _, _, _, _, _, h⟩ := EA6.out; exact h.w)
  have HWB : Hid (EdW (cutE b)) := Lib.hid (by obtain ⟨_, _, _, _, _, _, _, _, _, h⟩ := EB6.out; exact h.w)
  generalize cutE a = x at *
  generalize cutE b = y at *
  have RA : Hid (∀ W, From w6 W → ∃ p1 q1 p2 q2 p3 q3 p4 q4, (loadE (.pointer (some ⟨ga, 0, none⟩))).run Tryd.prog W = .ok (.agg (edL x p1 q1 p2 q2 p3 q3 p4 q4).toArray) W ∧ EdIn (fun _ => True) W x p1 q1 p2 q2 p3 q3 p4 q4) := Lib.hid fun W hW => by
    obtain ⟨p1, q1, p2, q2, p3, q3, p4, q4, h1, h2⟩ := EA6.out.below hW
    exact ⟨p1, q1, p2, q2, p3, q3, p4, q4, run_loadE_blk _ h1, h2⟩
  obtain ⟨p1, q1, p2, q2, p3, q3, p4, q4, ka, ia⟩ := EA6.out
  obtain ⟨r1, s1, r2, s2, r3, s3, r4, s4, kb, ib⟩ := EB6.out
  have LA : Hid (∀ W, From w6 W → (loadE (.pointer (some ⟨ga, 0, none⟩))).run Tryd.prog W = .ok (.agg (edL x p1 q1 p2 q2 p3 q3 p4 q4).toArray) W) := Lib.hid fun W hW => run_loadE_blk _ (ka.below hW ka.lt)
  have LB : Hid (∀ W, From w6 W → (loadE (.pointer (some ⟨gb, 0, none⟩))).run Tryd.prog W = .ok (.agg (edL y r1 s1 r2 s2 r3 s3 r4 s4).toArray) W) := Lib.hid fun W hW => run_loadE_blk _ (kb.below hW kb.lt)
  have IA : Hid (∀ W, From w6 W → EdIn (fun _ => True) W x p1 q1 p2 q2 p3 q3 p4 q4) := Lib.hid fun W hW => ia.keep (keep_below hW)
  have IB : Hid (∀ W, From w6 W → EdIn (fun _ => True) W y r1 s1 r2 s2 r3 s3 r4 s4) := Lib.hid fun W hW => ib.keep (keep_below hW)
  have HTW : Hid (∀ W, From w6 W → Tab W) := Lib.hid fun W hW => HT.out.below (HB6.out.trans (Below.mono hW HB6.out.size))
  clear RA ka ia kb ib EA6 EB6
  have la := LA.out w6 (From.refl _)
  have hen : Calls Tryd.prog 10 #[.agg (edL x p1 q1 p2 q2 p3 q3 p4 q4).toArray] w6 (EncPost x w6) := encode_any x p1 q1 p2 q2 p3 q3 p4 q4 w6 (HTW.out w6 (From.refl _)) (IA.out w6 (From.refl _))
  go_wp2_with fail
  refine hen.mono ?_
  rintro r w7 ⟨sp, n, cap, rfl, hn, ho7, hb7⟩
  have HN := Lib.hid hn
  have HO7 := Lib.hid ho7.out
  have F7 : Hid (From w6 w7) := Lib.hid hb7.out
  clear hen la hn ho7 hb7
  have la := LA.out w7 F7.out
  have hmay : Calls Tryd.prog 11 #[.agg (edL x p1 q1 p2 q2 p3 q3 p4 q4).toArray] w7 fun r w' => r = .returned (.bool (edB x)) ∧ Below w7.heap.size w7 w' := mayEdit_any x p1 q1 p2 q2 p3 q3 p4 q4 w7 (IA.out w7 F7.out)
  obtain ⟨ok, hok⟩ : ∃ b, edB x = b := ⟨_, rfl⟩
  rw [hok] at hmay
  have HOK := Lib.hid hok
  have HCK : Hid (chkE x = if ok = true then 0 else 10) := Lib.hid (by unfold chkE; rw [hok])
  clear hok
  cases ok with
  | false =>
    have hck : chkE x = 10 := HCK.out
    have hn0 : n = 0 := by have h := HN.out; rw [(enc_bad HOK.out).1] at h; exact h.symm
    subst hn0
    rw [hck]
    clear hck
    go_wp2_with fail
    refine hmay.mono ?_
    rintro r w8 ⟨rfl, hb8⟩
    have F8 : Hid (From w6 w8) := Lib.hid (F7.out.trans hb8)
    have hc : Calls Tryd.prog 12 #[.agg (edL x p1 q1 p2 q2 p3 q3 p4 q4).toArray] w8 fun r w' => r = .returned (.int .i64 (chkE x : Nat)) ∧ Below w8.heap.size w8 w' := check_any x p1 q1 p2 q2 p3 q3 p4 q4 w8 (IA.out w8 F8.out)
    have la8 := LA.out w8 F8.out
    clear la hmay hb8
    go_wp2_with fail
    refine hc.mono ?_
    rintro r w9 ⟨rfl, hb9⟩
    have hck : chkE x = 10 := HCK.out
    rw [hck]
    have HB9 : Hid (Below w.heap.size w w9) := Lib.hid (HB6.out.trans (Below.mono (F8.out.trans hb9) HB6.out.size))
    clear hc hb9 la8
    go_wp2
    go_ret
    exact ⟨rfl, HB9.out⟩
  | true =>
    have hck : chkE x = 0 := HCK.out
    have HFX : Hid (Fine x) := Lib.hid ⟨HOK.out, HWA.out⟩
    rw [hck]
    clear hck
    go_wp2_with fail
    refine hmay.mono ?_
    rintro r w8 ⟨rfl, hb8⟩
    have F8 : Hid (From w6 w8) := Lib.hid (F7.out.trans hb8)
    have hc : Calls Tryd.prog 12 #[.agg (edL x p1 q1 p2 q2 p3 q3 p4 q4).toArray] w8 fun r w' => r = .returned (.int .i64 (chkE x : Nat)) ∧ Below w8.heap.size w8 w' := check_any x p1 q1 p2 q2 p3 q3 p4 q4 w8 (IA.out w8 F8.out)
    have la8 := LA.out w8 F8.out
    have G8 := Lib.hid hb8
    clear la hmay hb8
    go_wp2_with fail
    refine hc.mono ?_
    rintro r w9 ⟨rfl, hb9⟩
    have hck : chkE x = 0 := HCK.out
    rw [hck]
    have F9 : Hid (From w6 w9) := Lib.hid (F8.out.trans hb9)
    have G9 : Hid (From w7 w9) := Lib.hid (From.trans G8.out hb9)
    have lb9 := LB.out w9 F9.out
    have hen : Calls Tryd.prog 10 #[.agg (edL y r1 s1 r2 s2 r3 s3 r4 s4).toArray] w9 (EncPost y w9) := encode_any y r1 s1 r2 s2 r3 s3 r4 s4 w9 (HTW.out w9 F9.out) (IB.out w9 F9.out)
    clear hc hb9 la8 hck
    go_wp2_with fail
    refine hen.mono ?_
    rintro r w10 ⟨sq, n2, cap2, rfl, hn2, ho10, hb10⟩
    have HN2 := Lib.hid hn2
    have F10 : Hid (From w6 w10) := Lib.hid (F9.out.trans hb10.out)
    have HIP : Hid (IsBytes w10 (.slice sp n cap) (encE x)) := Lib.hid ((bytes_of HN.out HO7.out).below (From.trans G9.out hb10.out))
    have HIQ : Hid (IsBytes w10 (.slice sq n2 cap2) (encE y)) := Lib.hid (bytes_of hn2 ho10.out)
    have hl1 : n ≤ 20012 := by rw [← HN.out]; exact encE_len HWA.out
    have hl2 : n2 ≤ 20012 := by rw [← hn2]; exact encE_len HWB.out
    have e1 : (encE x).length = n := HN.out
    have e2 : (encE y).length = n2 := hn2
    clear hen lb9 hn2 ho10 hb10
    obtain ⟨ck, hckk⟩ : ∃ c, chkE y = c := ⟨_, rfl⟩
    rw [hckk]
    have HCY := Lib.hid hckk
    clear hckk
    go_wp2_with (first | (at_builtin; refine wpList_append_bytes rfl (.const (.slice none 0 0)) (.tmp 53) rfl w10.heap.size (.slice none 0 0) 0 [] rfl (own_nil _ _) (.slice sp n cap) (encE x) rfl HIP.out (by rw [e1]; omega) (Nat.le_refl _) ?_; intro v11 w11 ho11 hgr11; rw [Nat.zero_add, List.nil_append, e1] at ho11; have HO11 := Lib.hid ho11; have G11 : Hid (From w10 w11) := Lib.hid (Below.grown (Below.refl _ _) hgr11 (Nat.le_refl _) (fun b hb => by cases hb)); obtain ⟨t11, k11, rfl, _, _⟩ := ownsRow_slice ho11; clear ho11 hgr11) | (at_builtin; refine wpList_append_bytes rfl (.tmp 54) (.tmp 55) rfl w10.heap.size (.slice t11 n k11) n (u8s (encE x)) rfl HO11.out (.slice sq n2 cap2) (encE y) rfl (HIQ.out.below G11.out) (by rw [e2]; omega) G11.out.size ?_; intro v12 w12 ho12 hgr12; rw [e2] at ho12; obtain ⟨t12, k12, rfl, _, _⟩ := ownsRow_slice ho12; have HO12 : Hid (IsBytes w12 (.slice t12 (n + n2) k12) (encE x ++ encE y)) := Lib.hid (bytes_two e1 e2 ho12); have G12 : Hid (From w10 w12) := Lib.hid (Below.grown G11.out hgr12 G11.out.size (fun b hb => (World.ownsRow.lt HO11.out b hb).1)); clear ho12 hgr12))
    have hF12 : From w6 w12 := F10.out.trans G12.out
    have F12 := Lib.hid hF12
    have hl12 : (encE x ++ encE y).length = n + n2 := by rw [List.length_append, e1, e2]
    have hsc := scan_any (.slice t12 (n + n2) k12) (encE x ++ encE y) w12 (HTW.out w12 hF12) HO12.out (by rw [hl12]; omega)
    unfold ScanPost at hsc
    have HBW : Hid (∀ W, From w12 W → Below w.heap.size w W) := Lib.hid fun W hW => HB6.out.trans (Below.mono (F12.out.trans hW) HB6.out.size)
    clear hF12 hl12 HO7 HIP HIQ HO11 HO12
    by_cases hy : edB y = true
    · have hcy : ck = 0 := by rw [← HCY.out]; exact (enc_good hy).2
      have HFY : Fine y := ⟨hy, HWB.out⟩
      have henc : encE x ++ encE y = encs [x, y] := by rw [encE_fine HFX.out, encE_fine HFY]; simp [encs]
      have hsn : scanE (encE x ++ encE y) = ([x, y], n + n2, true) := by
        rw [henc, scanE_all (by intro e he; simp at he; rcases he with rfl | rfl; exact HFX.out; exact HFY), ← henc, List.length_append, e1, e2]
      rw [hsn] at hsc
      have HSC := Lib.hid hsc
      clear hsc hsn henc HFY e1 e2
      subst hcy
      go_wp2_with fail
      refine HSC.out.mono ?_
      rintro r w13 ⟨sz, cz, rfl, ho13, hb13⟩
      have hrow := OwnEds.row ho13.out
      obtain ⟨bk, off, x1, y1, x2, y2, x3, y3, x4, y4, rfl, hbl, hu1, hI1⟩ := eds_cells hrow (i := 0) (e := x) rfl
      obtain ⟨bk', off', u1, v1, u2, v2, u3, v3, u4, v4, hbe, _, hu2, hI2⟩ := eds_cells hrow (i := 1) (e := y) rfl
      simp at hbe
      obtain ⟨rfl, rfl⟩ := hbe
      have F13 : Hid (From w6 w13) := Lib.hid (F12.out.trans hb13.out)
      have L1 : Hid (∀ W, From w13 W → (loadE (.pointer (some ⟨bk, off, none⟩))).run Tryd.prog W = .ok (.agg (edL x x1 y1 x2 y2 x3 y3 x4 y4).toArray) W) := Lib.hid fun W hW => run_loadE rfl fun j v hj => by have := hu1 j v hj; rw [Nat.zero_mul, Nat.add_zero] at this; rw [← this]; exact Below.cell (p := ⟨bk, _, none⟩) hW hbl
      have L2 : Hid (∀ W, From w13 W → (loadE (.pointer (some ⟨bk, off + 6, none⟩))).run Tryd.prog W = .ok (.agg (edL y u1 v1 u2 v2 u3 v3 u4 v4).toArray) W) := Lib.hid fun W hW => run_loadE rfl fun j v hj => by have := hu2 j v hj; rw [Nat.one_mul] at this; rw [← this]; exact Below.cell (p := ⟨bk, _, none⟩) hW hbl
      have L3 : Hid (∀ W, From w13 W → (loadE (.pointer (some ⟨ga, 0, none⟩))).run Tryd.prog W = .ok (.agg (edL x p1 q1 p2 q2 p3 q3 p4 q4).toArray) W) := Lib.hid fun W hW => LA.out W (F13.out.trans hW)
      have L4 : Hid (∀ W, From w13 W → (loadE (.pointer (some ⟨gb, 0, none⟩))).run Tryd.prog W = .ok (.agg (edL y r1 s1 r2 s2 r3 s3 r4 s4).toArray) W) := Lib.hid fun W hW => LB.out W (F13.out.trans hW)
      have Q1 : Hid (∀ W, From w13 W → Calls Tryd.prog 14 #[.agg (edL x x1 y1 x2 y2 x3 y3 x4 y4).toArray, .agg (edL x p1 q1 p2 q2 p3 q3 p4 q4).toArray] W fun r w' => r = .returned (.bool true) ∧ Below W.heap.size W w') := Lib.hid fun W hW => eqEdit_same x _ _ _ _ _ _ _ _ _ _ _ _ _ _ _ _ W (hI1.keep (keep_below hW)) (IA.out W (F13.out.trans hW))
      have Q2 : Hid (∀ W, From w13 W → Calls Tryd.prog 14 #[.agg (edL y u1 v1 u2 v2 u3 v3 u4 v4).toArray, .agg (edL y r1 s1 r2 s2 r3 s3 r4 s4).toArray] W fun r w' => r = .returned (.bool true) ∧ Below W.heap.size W w') := Lib.hid fun W hW => eqEdit_same y _ _ _ _ _ _ _ _ _ _ _ _ _ _ _ _ W (hI2.keep (keep_below hW)) (IB.out W (F13.out.trans hW))
      have HBX : Hid (∀ W, From w13 W → Below w.heap.size w W) := Lib.hid fun W hW => HBW.out W (From.trans hb13.out hW)
      clear HSC ho13 hb13 hrow hu1 hu2 hI1 hI2
      have hwr : IntKind.i64.wrap ((n : Int) + (n2 : Int)) = (n : Int) + (n2 : Int) := by rw [IntKind.wrap_i64]; omega
      go_wp2_with fail
      have hHeld : From w13 w13.drew := (Below.refl _ _).drew
      refine wp_region_noPanic ?_
      refine wpAnyH_start (n := 30) (l := #[false, false, false, false, false, false, false, false, false, false, false, false, false, false, false, false, false, false, false, false, false, false, false, false, false, false, false, false, false, false]) (S := From w13) (by kernel_rfl) (hHeld) (by kernel_rfl) (by kernel_rfl) ?_
      refine wpAnyH_take (i := 0) (oi := _) (v := ?_) rfl (by kernel_rfl) (by kernel_rfl) (by kernel_rfl) (fun _ _ _ h => h) (Or.inl ⟨by rfl, ?_⟩) (by assumption) ?_
      rotate_left
      · intro wq hSw; go_simp; try with_reducible rfl
      simp only [Act.put, List.setIfInBounds_toArray, List.set_cons_zero, List.set_cons_succ, List.getElem_toArray, List.getElem_cons_zero, List.getElem_cons_succ]
      refine wpAnyH_take (i := 1) (oi := _) (v := ?_) rfl (by kernel_rfl) (by kernel_rfl) (by kernel_rfl) (fun _ _ _ h => h) (Or.inl ⟨by rfl, ?_⟩) (by assumption) ?_
      rotate_left
      · intro wq hSw; go_simp; try with_reducible rfl
      simp only [Act.put, List.setIfInBounds_toArray, List.set_cons_zero, List.set_cons_succ, List.getElem_toArray, List.getElem_cons_zero, List.getElem_cons_succ]
      refine wpAnyH_take (i := 2) (oi := _) (v := ?_) rfl (by kernel_rfl) (by kernel_rfl) (by kernel_rfl) (fun _ _ _ h => h) (Or.inl ⟨by rfl, ?_⟩) (by assumption) ?_
      rotate_left
      · intro wq hSw; go_simp; try with_reducible rfl
      simp only [Act.put, List.setIfInBounds_toArray, List.set_cons_zero, List.set_cons_succ, List.getElem_toArray, List.getElem_cons_zero, List.getElem_cons_succ]
      refine wpAnyH_take (i := 3) (oi := _) (v := ?_) rfl (by kernel_rfl) (by kernel_rfl) (by kernel_rfl) (fun _ _ _ h => h) (Or.inl ⟨by rfl, ?_⟩) (by assumption) ?_
      rotate_left
      · intro wq hSw; go_simp; try with_reducible rfl
      simp only [Act.put, List.setIfInBounds_toArray, List.set_cons_zero, List.set_cons_succ, List.getElem_toArray, List.getElem_cons_zero, List.getElem_cons_succ]
      refine wpAnyH_take (i := 4) (oi := _) (v := ?_) rfl (by kernel_rfl) (by kernel_rfl) (by kernel_rfl) (fun _ _ _ h => h) (Or.inl ⟨by rfl, ?_⟩) (by assumption) ?_
      rotate_left
      · intro wq hSw; go_simp; try with_reducible rfl
      simp only [Act.put, List.setIfInBounds_toArray, List.set_cons_zero, List.set_cons_succ, List.getElem_toArray, List.getElem_cons_zero, List.getElem_cons_succ]
      refine wpAnyH_take (i := 5) (oi := _) (v := ?_) rfl (by kernel_rfl) (by kernel_rfl) (by kernel_rfl) (fun _ _ _ h => h) (Or.inl ⟨by rfl, ?_⟩) (by assumption) ?_
      rotate_left
      · intro wq hSw; go_simp; try with_reducible rfl
      simp only [Act.put, List.setIfInBounds_toArray, List.set_cons_zero, List.set_cons_succ, List.getElem_toArray, List.getElem_cons_zero, List.getElem_cons_succ]
      refine wpAnyH_take (i := 6) (oi := _) (v := ?_) rfl (by kernel_rfl) (by kernel_rfl) (by kernel_rfl) (fun _ _ _ h => h) (Or.inl ⟨by rfl, ?_⟩) (by assumption) ?_
      rotate_left
      · intro wq hSw; go_simp; try with_reducible rfl
      simp only [Act.put, List.setIfInBounds_toArray, List.set_cons_zero, List.set_cons_succ, List.getElem_toArray, List.getElem_cons_zero, List.getElem_cons_succ]
      refine wpAnyH_take (i := 7) (oi := _) (v := ?_) rfl (by kernel_rfl) (by kernel_rfl) (by kernel_rfl) (fun _ _ _ h => h) (Or.inl ⟨by rfl, ?_⟩) (by assumption) ?_
      rotate_left
      · intro wq hSw; go_simp; try with_reducible rfl
      simp only [Act.put, List.setIfInBounds_toArray, List.set_cons_zero, List.set_cons_succ, List.getElem_toArray, List.getElem_cons_zero, List.getElem_cons_succ]
      refine wpAnyH_take (i := 8) (oi := _) (v := ?_) rfl (by kernel_rfl) (by kernel_rfl) (by kernel_rfl) (fun _ _ _ h => h) (Or.inl ⟨by rfl, ?_⟩) (by assumption) ?_
      rotate_left
      · intro wq hSw; go_simp; try with_reducible rfl
      simp only [Act.put, List.setIfInBounds_toArray, List.set_cons_zero, List.set_cons_succ, List.getElem_toArray, List.getElem_cons_zero, List.getElem_cons_succ]
      refine wpAnyH_take (i := 9) (oi := _) (v := ?_) rfl (by kernel_rfl) (by kernel_rfl) (by kernel_rfl) (fun _ _ _ h => h) (Or.inl ⟨by rfl, ?_⟩) (by assumption) ?_
      rotate_left
      · intro wq hSw; go_simp; try with_reducible rfl
      simp only [Act.put, List.setIfInBounds_toArray, List.set_cons_zero, List.set_cons_succ, List.getElem_toArray, List.getElem_cons_zero, List.getElem_cons_succ]
      refine wpAnyH_take (i := 10) (oi := _) (v := ?_) rfl (by kernel_rfl) (by kernel_rfl) (by kernel_rfl) (fun _ _ _ h => h) (Or.inl ⟨by rfl, ?_⟩) (by assumption) ?_
      rotate_left
      · intro wq hSw; go_simp; try with_reducible rfl
      simp only [Act.put, List.setIfInBounds_toArray, List.set_cons_zero, List.set_cons_succ, List.getElem_toArray, List.getElem_cons_zero, List.getElem_cons_succ]
      refine wpAnyH_take (i := 11) (oi := _) (v := ?_) rfl (by kernel_rfl) (by kernel_rfl) (by kernel_rfl) (fun _ _ _ h => h) (Or.inl ⟨by rfl, ?_⟩) (by assumption) ?_
      rotate_left
      · intro wq hSw; go_simp; try with_reducible rfl
      simp only [Act.put, List.setIfInBounds_toArray, List.set_cons_zero, List.set_cons_succ, List.getElem_toArray, List.getElem_cons_zero, List.getElem_cons_succ]
      refine wpAnyH_take (i := 12) (oi := _) (v := ?_) rfl (by kernel_rfl) (by kernel_rfl) (by kernel_rfl) (fun _ _ _ h => h) (Or.inl ⟨by rfl, ?_⟩) (by assumption) ?_
      rotate_left
      · intro wq hSw; go_simp; try with_reducible rfl
      simp only [Act.put, List.setIfInBounds_toArray, List.set_cons_zero, List.set_cons_succ, List.getElem_toArray, List.getElem_cons_zero, List.getElem_cons_succ]
      refine wpAnyH_take (i := 13) (oi := _) (v := ?_) rfl (by kernel_rfl) (by kernel_rfl) (by kernel_rfl) (fun _ _ _ h => h) (Or.inl ⟨by rfl, ?_⟩) (by assumption) ?_
      rotate_left
      · intro wq hSw; go_simp; try with_reducible rfl
      simp only [Act.put, List.setIfInBounds_toArray, List.set_cons_zero, List.set_cons_succ, List.getElem_toArray, List.getElem_cons_zero, List.getElem_cons_succ]
      refine wpAnyH_take (i := 14) (oi := _) (v := ?_) rfl (by kernel_rfl) (by kernel_rfl) (by kernel_rfl) (fun _ _ _ h => h) (Or.inl ⟨by rfl, ?_⟩) (by assumption) ?_
      rotate_left
      · intro wq hSw; go_simp; try with_reducible rfl
      simp only [Act.put, List.setIfInBounds_toArray, List.set_cons_zero, List.set_cons_succ, List.getElem_toArray, List.getElem_cons_zero, List.getElem_cons_succ]
      refine wpAnyH_take (i := 15) (oi := _) (v := ?_) rfl (by kernel_rfl) (by kernel_rfl) (by kernel_rfl) (fun _ _ _ h => h) (Or.inl ⟨by rfl, ?_⟩) (by assumption) ?_
      rotate_left
      · intro wq hSw; go_simp; try with_reducible rfl
      simp only [Act.put, List.setIfInBounds_toArray, List.set_cons_zero, List.set_cons_succ, List.getElem_toArray, List.getElem_cons_zero, List.getElem_cons_succ]
      refine wpAnyH_take (i := 16) (oi := _) (v := ?_) rfl (by kernel_rfl) (by kernel_rfl) (by kernel_rfl) (fun _ _ _ h => h) (Or.inl ⟨by rfl, ?_⟩) (by assumption) ?_
      rotate_left
      · intro wq hSw; go_simp; try with_reducible rfl
      simp only [Act.put, List.setIfInBounds_toArray, List.set_cons_zero, List.set_cons_succ, List.getElem_toArray, List.getElem_cons_zero, List.getElem_cons_succ]
      refine wpAnyH_take (i := 17) (oi := _) (v := ?_) rfl (by kernel_rfl) (by kernel_rfl) (by kernel_rfl) (fun _ _ _ h => h) (Or.inl ⟨by rfl, ?_⟩) (by assumption) ?_
      rotate_left
      · intro wq hSw; go_simp; try with_reducible rfl
      simp only [Act.put, List.setIfInBounds_toArray, List.set_cons_zero, List.set_cons_succ, List.getElem_toArray, List.getElem_cons_zero, List.getElem_cons_succ]
      refine wpAnyH_take (i := 18) (oi := _) (v := ?_) rfl (by kernel_rfl) (by kernel_rfl) (by kernel_rfl) (fun _ _ _ h => h) (Or.inl ⟨by rfl, ?_⟩) (by assumption) ?_
      rotate_left
      · intro wq hSw; have hl := L1.out wq hSw; go_simp; try with_reducible rfl
      simp only [Act.put, List.setIfInBounds_toArray, List.set_cons_zero, List.set_cons_succ, List.getElem_toArray, List.getElem_cons_zero, List.getElem_cons_succ]
      refine wpAnyH_take (i := 19) (oi := _) (v := ?_) rfl (by kernel_rfl) (by kernel_rfl) (by kernel_rfl) (fun _ _ _ h => h) (Or.inl ⟨by rfl, ?_⟩) (by assumption) ?_
      rotate_left
      · intro wq hSw; have hl := L3.out wq hSw; go_simp; try with_reducible rfl
      simp only [Act.put, List.setIfInBounds_toArray, List.set_cons_zero, List.set_cons_succ, List.getElem_toArray, List.getElem_cons_zero, List.getElem_cons_succ]
      refine wpAnyH_ready (rs := [20]) (by kernel_rfl) (by simp) ?_
      refine AllReadyH.cons (o := _) rfl (fun K hK => ?_) AllReadyH.nil
      simp only [List.getElem_toArray, List.getElem_cons_zero, List.getElem_cons_succ]
      go_simp
      refine (Q1.out _ hHeld).mono ?_
      rintro r w14 ⟨rfl, hbq⟩
      have f1 : Hid (From w13 w14) := Lib.hid (From.trans hHeld hbq)
      clear hbq
      refine hK.out _ _ f1.out (fun _ => ?_)
      clear hK K
      simp only [Act.put, List.setIfInBounds_toArray, List.set_cons_zero, List.set_cons_succ, List.getElem_toArray, List.getElem_cons_zero, List.getElem_cons_succ]
      have hHw14 := f1.out
      refine wpAnyH_take (i := 21) (oi := _) (v := ?_) rfl (by kernel_rfl) (by kernel_rfl) (by kernel_rfl) (fun _ _ _ h => h) (Or.inl ⟨by rfl, ?_⟩) (by assumption) ?_
      rotate_left
      · intro wq hSw; go_simp; try with_reducible rfl
      simp only [Act.put, List.setIfInBounds_toArray, List.set_cons_zero, List.set_cons_succ, List.getElem_toArray, List.getElem_cons_zero, List.getElem_cons_succ]
      refine wpAnyH_take (i := 22) (oi := _) (v := ?_) rfl (by kernel_rfl) (by kernel_rfl) (by kernel_rfl) (fun _ _ _ h => h) (Or.inl ⟨by rfl, ?_⟩) (by assumption) ?_
      rotate_left
      · intro wq hSw; go_simp; try with_reducible rfl
      simp only [Act.put, List.setIfInBounds_toArray, List.set_cons_zero, List.set_cons_succ, List.getElem_toArray, List.getElem_cons_zero, List.getElem_cons_succ]
      refine wpAnyH_take (i := 23) (oi := _) (v := ?_) rfl (by kernel_rfl) (by kernel_rfl) (by kernel_rfl) (fun _ _ _ h => h) (Or.inl ⟨by rfl, ?_⟩) (by assumption) ?_
      rotate_left
      · intro wq hSw; go_simp; try with_reducible rfl
      simp only [Act.put, List.setIfInBounds_toArray, List.set_cons_zero, List.set_cons_succ, List.getElem_toArray, List.getElem_cons_zero, List.getElem_cons_succ]
      refine wpAnyH_take (i := 24) (oi := _) (v := ?_) rfl (by kernel_rfl) (by kernel_rfl) (by kernel_rfl) (fun _ _ _ h => h) (Or.inl ⟨by rfl, ?_⟩) (by assumption) ?_
      rotate_left
      · intro wq hSw; go_simp; try with_reducible rfl
      simp only [Act.put, List.setIfInBounds_toArray, List.set_cons_zero, List.set_cons_succ, List.getElem_toArray, List.getElem_cons_zero, List.getElem_cons_succ]
      refine wpAnyH_take (i := 25) (oi := _) (v := ?_) rfl (by kernel_rfl) (by kernel_rfl) (by kernel_rfl) (fun _ _ _ h => h) (Or.inl ⟨by rfl, ?_⟩) (by assumption) ?_
      rotate_left
      · intro wq hSw; have hl := L2.out wq hSw; go_simp; try with_reducible rfl
      simp only [Act.put, List.setIfInBounds_toArray, List.set_cons_zero, List.set_cons_succ, List.getElem_toArray, List.getElem_cons_zero, List.getElem_cons_succ]
      refine wpAnyH_take (i := 26) (oi := _) (v := ?_) rfl (by kernel_rfl) (by kernel_rfl) (by kernel_rfl) (fun _ _ _ h => h) (Or.inl ⟨by rfl, ?_⟩) (by assumption) ?_
      rotate_left
      · intro wq hSw; have hl := L4.out wq hSw; go_simp; try with_reducible rfl
      simp only [Act.put, List.setIfInBounds_toArray, List.set_cons_zero, List.set_cons_succ, List.getElem_toArray, List.getElem_cons_zero, List.getElem_cons_succ]
      refine wpAnyH_ready (rs := [27]) (by kernel_rfl) (by simp) ?_
      refine AllReadyH.cons (o := _) rfl (fun K hK => ?_) AllReadyH.nil
      simp only [List.getElem_toArray, List.getElem_cons_zero, List.getElem_cons_succ]
      go_simp
      refine (Q2.out _ hHw14).mono ?_
      rintro r w15 ⟨rfl, hbq⟩
      have f2 : Hid (From w13 w15) := Lib.hid (From.trans hHw14 hbq)
      clear hbq
      refine hK.out _ _ f2.out (fun _ => ?_)
      clear hK K
      simp only [Act.put, List.setIfInBounds_toArray, List.set_cons_zero, List.set_cons_succ, List.getElem_toArray, List.getElem_cons_zero, List.getElem_cons_succ]
      have hHw15 := f2.out
      refine wpAnyH_take (i := 28) (oi := _) (v := ?_) rfl (by kernel_rfl) (by kernel_rfl) (by kernel_rfl) (fun _ _ _ h => h) (Or.inl ⟨by rfl, ?_⟩) (by assumption) ?_
      rotate_left
      · intro wq hSw; go_simp; try with_reducible rfl
      simp only [Act.put, List.setIfInBounds_toArray, List.set_cons_zero, List.set_cons_succ, List.getElem_toArray, List.getElem_cons_zero, List.getElem_cons_succ]
      refine wpAnyH_take (i := 29) (oi := _) (v := ?_) rfl (by kernel_rfl) (by kernel_rfl) (by kernel_rfl) (fun _ _ _ h => h) (Or.inl ⟨by rfl, ?_⟩) (by assumption) ?_
      rotate_left
      · intro wq hSw; go_simp; try with_reducible rfl
      simp only [Act.put, List.setIfInBounds_toArray, List.set_cons_zero, List.set_cons_succ, List.getElem_toArray, List.getElem_cons_zero, List.getElem_cons_succ]
      refine wpAnyH_done (by kernel_rfl) ?_ _
      refine NoPanic.normal ?_
      clear hHeld
      go_wp2
      go_ret
      exact ⟨rfl, HBX.out _ f2.out⟩
    · have hyf : edB y = false := by cases h : edB y with
        | false => rfl
        | true => exact absurd h hy
      have hcy : ck = 10 := by rw [← HCY.out]; exact (enc_bad hyf).2
      have hn20 : n2 = 0 := by rw [← e2, (enc_bad hyf).1]; rfl
      have hsn : scanE (encE x ++ encE y) = ([x], n, true) := by rw [(enc_bad hyf).1, List.append_nil, scan_one HFX.out, e1]
      rw [hsn] at hsc
      have HSC := Lib.hid hsc
      clear hsc hsn e1 e2 hy hyf
      subst hcy hn20
      go_wp2_with fail
      refine HSC.out.mono ?_
      rintro r w13 ⟨sz, cz, rfl, ho13, hb13⟩
      have hrow := OwnEds.row ho13.out
      obtain ⟨bk, off, x1, y1, x2, y2, x3, y3, x4, y4, rfl, hbl, hu1, hI1⟩ := eds_cells hrow (i := 0) (e := x) rfl
      have F13 : Hid (From w6 w13) := Lib.hid (F12.out.trans hb13.out)
      have L1 : Hid (∀ W, From w13 W → (loadE (.pointer (some ⟨bk, off, none⟩))).run Tryd.prog W = .ok (.agg (edL x x1 y1 x2 y2 x3 y3 x4 y4).toArray) W) := Lib.hid fun W hW => run_loadE rfl fun j v hj => by have := hu1 j v hj; rw [Nat.zero_mul, Nat.add_zero] at this; rw [← this]; exact Below.cell (p := ⟨bk, _, none⟩) hW hbl
      have L3 : Hid (∀ W, From w13 W → (loadE (.pointer (some ⟨ga, 0, none⟩))).run Tryd.prog W = .ok (.agg (edL x p1 q1 p2 q2 p3 q3 p4 q4).toArray) W) := Lib.hid fun W hW => LA.out W (F13.out.trans hW)
      have Q1 : Hid (∀ W, From w13 W → Calls Tryd.prog 14 #[.agg (edL x x1 y1 x2 y2 x3 y3 x4 y4).toArray, .agg (edL x p1 q1 p2 q2 p3 q3 p4 q4).toArray] W fun r w' => r = .returned (.bool true) ∧ Below W.heap.size W w') := Lib.hid fun W hW => eqEdit_same x _ _ _ _ _ _ _ _ _ _ _ _ _ _ _ _ W (hI1.keep (keep_below hW)) (IA.out W (F13.out.trans hW))
      have HBX : Hid (∀ W, From w13 W → Below w.heap.size w W) := Lib.hid fun W hW => HBW.out W (From.trans hb13.out hW)
      clear HSC ho13 hb13 hrow hu1 hI1
      have e18 := L1.out w13.drew (Below.refl _ _).drew
      have e19 := L3.out w13.drew (Below.refl _ _).drew
      have hq := Q1.out w13.drew (Below.refl _ _).drew
      go_wp2_with fail
      go_still_tail 17, (by kernel_rfl)
      change wpList _ _ _ _ _ w13.drew
      go_wp2_with fail
      refine hq.mono ?_
      rintro r w14 ⟨rfl, hb14⟩
      have f1 : Hid (From w13 w14) := Lib.hid (Below.trans (Below.refl _ _).drew hb14)
      clear hq hb14 e18 e19
      go_wp2
      go_ret
      exact ⟨rfl, HBX.out _ f1.out⟩
end Go.Proofs.YtaffmfocjaihlaaDoor.S18
