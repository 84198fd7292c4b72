/- Texts put together: EdF. -/
import Derived.Test.YthgpdnffahmhjaaGreatDoorMg18
set_option linter.unusedSimpArgs false
set_option linter.unusedVariables false
set_option maxRecDepth 100000
namespace Go.Proofs.YthgpdnffahmhjaaGreatDoor.S18
open Go.RowKit
theorem run_buildP2 (w : World) (g : Int) (a : Option Addr) (n c : Nat) : (buildP #[(0, .int .i64 g), (1, .slice a n c)]).run Tryz.prog w = .ok (.agg #[.int .i64 g, .slice a n c, .slice none 0 0, .int .i64 0, .int .u32 0]) w := by kernel_rfl
attribute [local go_sem] run_buildP2
attribute [local go_sem ↓] loadS_eq storeS_eq buildS_eq loadP_eq storeP_eq buildP_eq sliceU8_eq
def parTs : List TypeId := [2, 3]
def ParPost (x : PT) (s' : RS) (p : Nat) (w : World) (e : Ending) (w' : World) : Prop :=
  ∃ a1 c1 a2 c2, e = .returned (.agg #[.int .i64 x.group, .slice a1 x.nums.length c1, .slice a2 x.sizes.length c2, .int .i64 x.size, .int .u32 x.sum]) ∧ parC (TyD parTs w.heap.size w') w' x (parL x a1 c1 a2 c2) ∧ RdAt w' p s' ∧ Gr w w' p
theorem rPar_is {s s1 s2 s3 s4 s5 : RS} {a z u : Int} {b c : List Int} (h1 : rNum s = (a, s1)) (h2 : rList 3 rNum s1 = (b, s2)) (h3 : rTimes rSize b.length s2 = (c, s3)) (h4 : rSize s3 = (z, s4)) (h5 : rSum s4 = (u, s5)) : rPar s = (⟨a, b, c, z, u⟩, s5) := by
  unfold rPar
  simp only [h1, h2, h3, h4, h5]
theorem rList_len {α : Type} {one : RS → α × RS} {m : Nat} {s s' : RS} {L : List α} (h : rList m one s = (L, s')) : L.length ≤ m := by
  have ht : ∀ (n : Nat) (s : RS), (rTimes one n s).1.length = n := fun n => by
    induction n with
    | zero => intro s; rfl
    | succ n ih => intro s; simp only [rTimes, List.length_cons, ih]
  have h1 := ht (upT m s).1 (upT m s).2
  have h2 := (upT_le m s).1
  have e : (rTimes one (upT m s).1 (upT m s).2).1 = L := by
    have : rTimes one (upT m s).1 (upT m s).2 = (L, s') := h
    rw [this]
  rw [e] at h1
  omega
theorem ret_par {fn : Func} {q : Tmp} {a : Act} {w0 w : World} {g p : Nat} {t : TypeId} {x : PT} {a1 : Option Addr} {c1 : Nat} {a2 : Option Addr} {c2 : Nat} {s' : RS} (h : fn.results = #[.cell q 95]) (hd : a.defers = []) (hp : a.tmps.getD q undef = .pointer (some ⟨g, 0, none⟩)) (hk : Blk w g t (parL x a1 c1 a2 c2)) (hc : parC (TyD parTs w0.heap.size w) w x (parL x a1 c1 a2 c2)) (hr : RdAt w p s') (hg : Gr w0 w p) :
    bodyPost Tryz.prog fn (ParPost x s' p w0) Exit.ret a w := by
  refine bodyPost_ret (v := .agg #[.int .i64 x.group, .slice a1 x.nums.length c1, .slice a2 x.sizes.length c2, .int .i64 x.size, .int .u32 x.sum]) ?_ hd ⟨a1, c1, a2, c2, rfl, hc, hr, hg⟩
  exact results_cell_row h _ _ g t (parL x a1 c1 a2 c2).toArray (0, 0) _ hp hk Tryz.underlying95 rfl (by kernel_rfl)
theorem gr_drew {w w' : World} {p : Nat} (h : Gr w w' p) : Gr w w'.drew p := ⟨h.os, h.tape, h.output, h.size, h.block⟩
theorem RdAt.drew {w : World} {p : Nat} {s : RS} (h : RdAt w p s) : RdAt w.drew p s := h
set_option maxHeartbeats 16000000 in
theorem par_any (s : RS) (p : Nat) (w : World) (h : RdAt w p s) {x : PT} {s' : RS} (hu : rPar s = (x, s')) :
    Calls Tryz.prog 93 #[.pointer (some ⟨p, 0, none⟩)] w (ParPost x s' p w) := by
  obtain ⟨a, s1, h1⟩ : ∃ k s1, rNum s = (k, s1) := ⟨_, _, rfl⟩
  obtain ⟨ns, s2, h2⟩ : ∃ k t, rList 3 rNum s1 = (k, t) := ⟨_, _, rfl⟩
  obtain ⟨zs, s3, h3⟩ : ∃ k t, rTimes rSize ns.length s2 = (k, t) := ⟨_, _, rfl⟩
  obtain ⟨z, s4, h4⟩ : ∃ k t, rSize s3 = (k, t) := ⟨_, _, rfl⟩
  obtain ⟨u, s5, h5⟩ : ∃ k t, rSum s4 = (k, t) := ⟨_, _, rfl⟩
  have e := (rPar_is h1 h2 h3 h4 h5).symm.trans hu
  simp only [Prod.mk.injEq] at e
  obtain ⟨rfl, rfl⟩ := e
  have hlt := h.lt
  have hns := rList_len h2
  have hb1 : Below w.heap.size w (w.alloc (.cells #[.int .i64 0, .slice none 0 0, .slice none 0 0, .int .i64 0, .int .u32 0] 95)) := (Below.refl _ _).alloc (Nat.le_refl _) _
  have hk1 := Blk.new w 95 (parL zP none 0 none 0)
  obtain ⟨w1, hw1⟩ : ∃ w1, w.alloc (.cells #[.int .i64 0, .slice none 0 0, .slice none 0 0, .int .i64 0, .int .u32 0] 95) = w1 := ⟨_, rfl⟩
  rw [hw1] at hb1
  have HK1 : Hid (Blk w1 w.heap.size 95 (parL zP none 0 none 0)) := Lib.hid (by rw [← hw1]; exact hk1)
  have HG1 : Hid (Gr w w1 p) := Lib.hid (Gr.ofBelow hb1)
  have hr1 := h.below hb1
  have f1 := num_any s p w1 hr1 h1
  have H2 := Lib.hid h2
  have H3 := Lib.hid h3
  have H4 := Lib.hid h4
  have H5 := Lib.hid h5
  have HUW : Hid (sumW u) := Lib.hid (rSum_w h5)
  clear hb1 hk1 hr1 h h1 h2 h3 h4 h5 hu
  go_enter Tryz.func93, Tryz.ntmps93
  go_wp2_with fail
  refine f1.mono ?_
  rintro e w2 ⟨rfl, r2, g2⟩
  have HK2 := Lib.hid (HK1.out.grown g2 (by intro e; simp at e; omega))
  have HG2 := Lib.hid (HG1.out.trans g2)
  have f2 := list_num 3 s1 p w2 (by decide) r2 H2.out
  clear g2 r2 f1
  go_wp2_with fail
  refine f2.mono ?_
  rintro e w3 ⟨a1, n1, c1, rfl, hn1, ho3, r3, g3⟩
  have HK3 := Lib.hid (HK2.out.grown g3 (by intro e; simp at e; omega))
  have HG3 := Lib.hid (HG2.out.trans g3)
  have HO3 : Hid (OwnD w.heap.size 2 1 numC w3 (.slice a1 n1 c1) ns) := Lib.hid (ho3.base HG2.out.size)
  have HR3 := Lib.hid r3
  have HN1 := Lib.hid hn1
  have hn13 : n1 ≤ 3 := by rw [← hn1]; exact hns
  clear g3 r3 f2 ho3 hns
  subst hn1
  have hA4 : Below w3.heap.size w3 (w3.alloc (.cells #[.int .i64 0, .slice none 0 0, .slice none 0 0, .int .i64 0, .int .u32 0] 95)) := (Below.refl _ _).alloc (Nat.le_refl _) _
  obtain ⟨w4, hst, HK4, HS4⟩ := putP (a1 := a1) (c1 := c1) (a2 := none) (c2 := 0) ⟨a, ns, [], 0, 0⟩ (Blk.new w3 95 (parL zP none 0 none 0)) rfl
  have HW4 : Hid (Gr w3 w4 p) := Lib.hid (gr_newO (Gr.ofBelow hA4) HS4.out (by intro g e; simp at e; omega))
  simp only [parL, zP, List.length_nil] at hst
  have d41 : w4.cell? ⟨w3.heap.size, 1, none⟩ = some (.slice a1 ns.length c1) := HK4.out.cell rfl
  have HR4 : Hid (RdAt w4 p s2) := Lib.hid ((HR3.out.below hA4).keep HS4.out (by intro g e; have := HG3.out.size; simp at e; omega))
  obtain ⟨n1, hn1⟩ : ∃ n, ns.length = n := ⟨_, rfl⟩
  rw [hn1] at hn13 hst d41 ⊢
  have HN1 := Lib.hid hn1
  clear hA4 hn1
  go_wp2_with fail
  obtain ⟨g1, hg1⟩ : ∃ g, w3.heap.size = g := ⟨_, rfl⟩
  rw [hg1] at HK4 ⊢
  have HGE := Lib.hid hg1
  have HLT4 : Hid (g1 < w4.heap.size) := Lib.hid HK4.out.lt
  have HPG : Hid (p < g1) := Lib.hid (by rw [← hg1]; have := HG3.out.size; omega)
  clear hg1 hst d41
  go_loopw [12] (fun y wr => ∃ i : Nat, i ≤ n1 ∧ y = .int .i64 i ∧ ∃ (F : List Int) (t2 : RS) (a2 : Option Addr) (c2 : Nat), LTo rSize n1 s2 i F t2 ∧ Blk wr g1 95 (parL ⟨a, ns, F, 0, 0⟩ a1 c1 a2 c2) ∧ OwnD w4.heap.size 3 1 numC wr (.slice a2 F.length c2) F ∧ RdAt wr p t2 ∧ Gr w3 wr p ∧ w4.heap.size ≤ wr.heap.size) (fun y _ => n1 - (intOf y).toNat)
  case atStart => exact ⟨0, by omega, rfl, [], s2, none, 0, LTo.start _ _ _, HK4.out, OwnD.nil _ _ _ _ _, HR4.out, HW4.out, Nat.le_refl _⟩
  case round =>
    obtain ⟨i, hi, rfl, F, t2, a2, c2, hto, hk, ho, hr, hg, hsz'⟩ := hrel
    have HSZ : Hid (w4.heap.size ≤ wr.heap.size) := Lib.hid hsz'
    have HTO := Lib.hid hto
    have HK := Lib.hid hk
    have HO := Lib.hid ho
    have HR := Lib.hid hr
    have HG := Lib.hid hg
    have hFi : F.length ≤ 3 := by rw [hto.1]; omega
    clear hto hk ho hr hg hsz'
    by_cases hlt : i < n1
    · obtain ⟨y, t3, hy⟩ : ∃ y t3, rSize t2 = (y, t3) := ⟨_, _, rfl⟩
      have HY := Lib.hid hy
      have HKd : Hid (Blk wr.drew g1 95 (parL ⟨a, ns, F, 0, 0⟩ a1 c1 a2 c2)) := Lib.hid HK.out
      have dz : wr.drew.cell? ⟨g1, 2, none⟩ = some (.slice a2 F.length c2) := HKd.out.cell rfl
      have f2 := size_any t2 p wr.drew HR.out.drew hy
      clear hy
      go_wp2_with fail
      refine wp_region_noPanic ?_
      refine wpAnyH_start (n := 8) (l := #[false, false, false, false, false, false, false, false]) (S := fun _ => True) (by kernel_rfl) trivial (by kernel_rfl) (by kernel_rfl) ?_
      refine wpAnyH_take (i := 0) (oi := _) (v := ?_) rfl (by kernel_rfl) (by kernel_rfl) (by kernel_rfl) (fun _ _ _ h => h) (Or.inl ⟨by rfl, ?_⟩) (trivial) ?_
      rotate_left
      · intro wq hSw; go_simp; try with_reducible rfl
      simp only [Act.put, List.setIfInBounds_toArray, List.set_cons_zero, List.set_cons_succ, List.getElem_toArray, List.getElem_cons_zero, List.getElem_cons_succ]
      refine wpAnyH_take (i := 2) (oi := _) (v := ?_) rfl (by kernel_rfl) (by kernel_rfl) (by kernel_rfl) (fun _ _ _ h => h) (Or.inl ⟨by rfl, ?_⟩) (trivial) ?_
      rotate_left
      · intro wq hSw; go_simp; try with_reducible rfl
      simp only [Act.put, List.setIfInBounds_toArray, List.set_cons_zero, List.set_cons_succ, List.getElem_toArray, List.getElem_cons_zero, List.getElem_cons_succ]

      refine wpAnyH_ready (rs := [1, 3]) (by kernel_rfl) (by simp) ?_
      refine AllReadyH.cons (o := _) rfl (fun K hK => ?_) (AllReadyH.cons (o := _) rfl (fun K hK => ?_) AllReadyH.nil)
      · simp only [List.getElem_toArray, List.getElem_cons_zero, List.getElem_cons_succ]
        go_simp
        refine hK.out _ _ trivial (fun _ => ?_)
        clear hK K
        simp only [Act.put, List.setIfInBounds_toArray, List.set_cons_zero, List.set_cons_succ, List.getElem_toArray, List.getElem_cons_zero, List.getElem_cons_succ]
        refine wpAnyH_ready (rs := [3]) (by kernel_rfl) (by simp) ?_
        refine AllReadyH.cons (o := _) rfl (fun K hK => ?_) AllReadyH.nil
        simp only [List.getElem_toArray, List.getElem_cons_zero, List.getElem_cons_succ]

        go_simp
        refine f2.mono ?_
        rintro e w5 ⟨rfl, r5, g5⟩
        refine hK.out _ _ trivial (fun _ => ?_)
        clear hK K dz f2
        simp only [Act.put, List.setIfInBounds_toArray, List.set_cons_zero, List.set_cons_succ, List.getElem_toArray, List.getElem_cons_zero, List.getElem_cons_succ]
        focus
          have HG5 : Hid (Gr w3 w5 p) := Lib.hid ((gr_drew HG.out).trans g5)
          have HK5 : Hid (Blk w5 g1 95 (parL ⟨a, ns, F, 0, 0⟩ a1 c1 a2 c2)) := Lib.hid (HKd.out.grown g5 (by intro e; simp at e; have := HPG.out; omega))
          have HO5 : Hid (OwnD w4.heap.size 3 1 numC w5 (.slice a2 F.length c2) F) := Lib.hid (OwnD.keep (w := wr.drew) HO.out g5 (fun b hb e => by have := (HO.out.lt b hb).1; have := HPG.out; have := HLT4.out; simp at e; omega) fun _ _ h => h)
          have HR5 := Lib.hid r5
          have hsz5 : w4.heap.size ≤ w5.heap.size := Nat.le_trans HSZ.out g5.size
          clear g5 r5 HKd
          refine wpAnyH_ready (rs := [4]) (by kernel_rfl) (by simp) ?_
          refine AllReadyH.cons (o := _) rfl (fun K hK => ?_) AllReadyH.nil
          simp only [List.getElem_toArray, List.getElem_cons_zero, List.getElem_cons_succ]

          go_simp
          refine hK.out _ _ trivial (fun _ => ?_)
          clear hK K
          simp only [Act.put, List.setIfInBounds_toArray, List.set_cons_zero, List.set_cons_succ, List.getElem_toArray, List.getElem_cons_zero, List.getElem_cons_succ]
          refine wpAnyH_ready (rs := [5]) (by kernel_rfl) (by simp) ?_
          refine AllReadyH.cons (o := _) rfl (fun K hK => ?_) AllReadyH.nil
          simp only [List.getElem_toArray, List.getElem_cons_zero, List.getElem_cons_succ]

          rw [if_pos (by rfl)]
          refine wp_append_D 80 3 1 (.int .i64 0) 8 Tryz.underlying80 infoI rfl (by decide) (by decide) (.tmp 15) (.tmp 18) rfl w4.heap.size numC _ F rfl HO5.out y [.int .i64 y] rfl rfl (by intro u hu; simp at hu; subst hu; rfl) rfl (by omega) hsz5 ?_
          intro v6 w6 ho6 hgr6
          have hA5 : Below w5.heap.size w5 (w5.alloc (.cells [.int .i64 y].toArray 3 (0, 0))) := (Below.refl _ _).alloc (Nat.le_refl _) _
          have hO5 : ∀ b, (Value.slice a2 F.length c2).ownBlock = some b → g1 < b := fun b hb => by have := (HO5.out.lt b hb).1; have := HLT4.out; omega
          have HK6 : Hid (Blk w6 g1 95 (parL ⟨a, ns, F, 0, 0⟩ a1 c1 a2 c2)) := Lib.hid ((HK5.out.alloc _).grown hgr6 (fun e => by have := hO5 g1 e.symm; omega))
          have HG6 : Hid (Gr w3 w6 p) := Lib.hid (gr_newO (gr_newO HG5.out (gr_below hA5) (by simp)) hgr6 (fun b hb => by have := hO5 b hb; have := HGE.out; omega))
          have HR6 : Hid (RdAt w6 p t3) := Lib.hid ((HR5.out.below hA5).keep hgr6 (fun b hb => by have := hO5 b hb; have := HPG.out; omega))
          obtain ⟨a3, c3, rfl, hc3, hm3⟩ := ho6.slice
          have HO6 := Lib.hid ho6
          have hsz6 : w4.heap.size ≤ w6.heap.size := Nat.le_trans hsz5 (Nat.le_trans hA5.size hgr6.size)
          refine hK.out _ _ trivial (fun _ => ?_)
          clear hK K ho6 hgr6 hA5 hO5 hsz5 HO5 HG5 HR5 HK5
          simp only [Act.put, List.setIfInBounds_toArray, List.set_cons_zero, List.set_cons_succ, List.getElem_toArray, List.getElem_cons_zero, List.getElem_cons_succ]
          refine wpAnyH_take (i := 6) (oi := _) (v := ?_) rfl (by kernel_rfl) (by kernel_rfl) (by kernel_rfl) (fun _ _ _ h => h) (Or.inl ⟨by rfl, ?_⟩) (trivial) ?_
          rotate_left
          · intro wq hSw; go_simp; try with_reducible rfl
          simp only [Act.put, List.setIfInBounds_toArray, List.set_cons_zero, List.set_cons_succ, List.getElem_toArray, List.getElem_cons_zero, List.getElem_cons_succ]
          refine wpAnyH_ready (rs := [7]) (by kernel_rfl) (by simp) ?_
          refine AllReadyH.cons (o := _) rfl (fun K hK => ?_) AllReadyH.nil
          simp only [List.getElem_toArray, List.getElem_cons_zero, List.getElem_cons_succ]

          have d2 : w6.cell? ⟨g1, 2, none⟩ = some (.slice a2 F.length c2) := HK6.out.cell rfl
          have z2 : w6.frozen? ⟨g1, 2, none⟩ = false := HK6.out.frozen 2
          have eFy : (F ++ [y]).length = F.length + 1 := by simp
          go_simp
          refine hK.out _ _ trivial (fun _ => ?_)
          clear hK K
          simp only [Act.put, List.setIfInBounds_toArray, List.set_cons_zero, List.set_cons_succ, List.getElem_toArray, List.getElem_cons_zero, List.getElem_cons_succ]
          refine wpAnyH_done (by kernel_rfl) ?_ _
          refine NoPanic.normal ?_
          have HK7 : Hid (Blk (w6.setCell ⟨g1, 2, none⟩ (.slice a3 (F.length + 1) c3)) g1 95 (parL ⟨a, ns, F ++ [y], 0, 0⟩ a1 c1 a3 c3)) := Lib.hid (by
            have e : (F ++ [y]).length = F.length + 1 := by simp
            unfold parL
            simp only [e]
            exact HK6.out.set 2 _)
          have HS7 : Hid (Gr w6 (w6.setCell ⟨g1, 2, none⟩ (.slice a3 (F.length + 1) c3)) g1) := Lib.hid ((Gr.refl w6 g1).setCell 2 _)
          generalize hgen : (w6.setCell ⟨g1, 2, none⟩ (.slice a3 (F.length + 1) c3)) = w7 at HK7 HS7 ⊢
          have HSZ7 : Hid (w6.heap.size ≤ w7.heap.size) := Lib.hid HS7.out.size
          have HR7 : Hid (RdAt w7 p t3) := Lib.hid (HR6.out.keep HS7.out (by intro g e; simp at e; have := HPG.out; omega))
          have HO7 : Hid (OwnD w4.heap.size 3 1 numC w7 (.slice a3 (F ++ [y]).length c3) (F ++ [y])) := Lib.hid (HO6.out.keep HS7.out (fun b hb e => by have := (HO6.out.lt b hb).1; have := HLT4.out; simp at e; omega) fun _ _ h => h)
          have HG7 : Hid (Gr w3 w7 p) := Lib.hid (gr_new HG6.out HS7.out (by have := HGE.out; omega))
          clear hgen d2 z2 HO6 HR6 HG6 HK6 HS7
          go_wp2
          go_roundw
          case rel => exact ⟨i + 1, hlt, by go_num, F ++ [y], t3, a3, c3, HTO.out.step hlt HY.out, HK7.out, HO7.out, HR7.out, HG7.out, Nat.le_trans hsz6 HSZ7.out⟩
          case measure => simp [intOf]; omega
      · simp only [List.getElem_toArray, List.getElem_cons_zero, List.getElem_cons_succ]
        go_simp
        refine f2.mono ?_
        rintro e w5 ⟨rfl, r5, g5⟩
        have dz5 : w5.cell? ⟨g1, 2, none⟩ = some (.slice a2 F.length c2) := (HKd.out.grown g5 (by intro e; simp at e; have := HPG.out; omega)).cell rfl
        refine hK.out _ _ trivial (fun _ => ?_)
        clear hK K dz f2
        simp only [Act.put, List.setIfInBounds_toArray, List.set_cons_zero, List.set_cons_succ, List.getElem_toArray, List.getElem_cons_zero, List.getElem_cons_succ]
        have HG5 : Hid (Gr w3 w5 p) := Lib.hid ((gr_drew HG.out).trans g5)
        have HK5 : Hid (Blk w5 g1 95 (parL ⟨a, ns, F, 0, 0⟩ a1 c1 a2 c2)) := Lib.hid (HKd.out.grown g5 (by intro e; simp at e; have := HPG.out; omega))
        have HO5 : Hid (OwnD w4.heap.size 3 1 numC w5 (.slice a2 F.length c2) F) := Lib.hid (OwnD.keep (w := wr.drew) HO.out g5 (fun b hb e => by have := (HO.out.lt b hb).1; have := HPG.out; have := HLT4.out; simp at e; omega) fun _ _ h => h)
        have HR5 := Lib.hid r5
        have hsz5 : w4.heap.size ≤ w5.heap.size := Nat.le_trans HSZ.out g5.size
        clear g5 r5 HKd
        refine wpAnyH_ready (rs := [1, 4]) (by kernel_rfl) (by simp) ?_
        refine AllReadyH.cons (o := _) rfl (fun K hK => ?_) (AllReadyH.cons (o := _) rfl (fun K hK => ?_) AllReadyH.nil)
        · simp only [List.getElem_toArray, List.getElem_cons_zero, List.getElem_cons_succ]
          go_simp
          refine hK.out _ _ trivial (fun _ => ?_)
          clear hK K dz5
          simp only [Act.put, List.setIfInBounds_toArray, List.set_cons_zero, List.set_cons_succ, List.getElem_toArray, List.getElem_cons_zero, List.getElem_cons_succ]
          refine wpAnyH_ready (rs := [4]) (by kernel_rfl) (by simp) ?_
          refine AllReadyH.cons (o := _) rfl (fun K hK => ?_) AllReadyH.nil
          simp only [List.getElem_toArray, List.getElem_cons_zero, List.getElem_cons_succ]

          go_simp
          refine hK.out _ _ trivial (fun _ => ?_)
          clear hK K
          simp only [Act.put, List.setIfInBounds_toArray, List.set_cons_zero, List.set_cons_succ, List.getElem_toArray, List.getElem_cons_zero, List.getElem_cons_succ]
          refine wpAnyH_ready (rs := [5]) (by kernel_rfl) (by simp) ?_
          refine AllReadyH.cons (o := _) rfl (fun K hK => ?_) AllReadyH.nil
          simp only [List.getElem_toArray, List.getElem_cons_zero, List.getElem_cons_succ]

          rw [if_pos (by rfl)]
          refine wp_append_D 80 3 1 (.int .i64 0) 8 Tryz.underlying80 infoI rfl (by decide) (by decide) (.tmp 15) (.tmp 18) rfl w4.heap.size numC _ F rfl HO5.out y [.int .i64 y] rfl rfl (by intro u hu; simp at hu; subst hu; rfl) rfl (by omega) hsz5 ?_
          intro v6 w6 ho6 hgr6
          have hA5 : Below w5.heap.size w5 (w5.alloc (.cells [.int .i64 y].toArray 3 (0, 0))) := (Below.refl _ _).alloc (Nat.le_refl _) _
          have hO5 : ∀ b, (Value.slice a2 F.length c2).ownBlock = some b → g1 < b := fun b hb => by have := (HO5.out.lt b hb).1; have := HLT4.out; omega
          have HK6 : Hid (Blk w6 g1 95 (parL ⟨a, ns, F, 0, 0⟩ a1 c1 a2 c2)) := Lib.hid ((HK5.out.alloc _).grown hgr6 (fun e => by have := hO5 g1 e.symm; omega))
          have HG6 : Hid (Gr w3 w6 p) := Lib.hid (gr_newO (gr_newO HG5.out (gr_below hA5) (by simp)) hgr6 (fun b hb => by have := hO5 b hb; have := HGE.out; omega))
          have HR6 : Hid (RdAt w6 p t3) := Lib.hid ((HR5.out.below hA5).keep hgr6 (fun b hb => by have := hO5 b hb; have := HPG.out; omega))
          obtain ⟨a3, c3, rfl, hc3, hm3⟩ := ho6.slice
          have HO6 := Lib.hid ho6
          have hsz6 : w4.heap.size ≤ w6.heap.size := Nat.le_trans hsz5 (Nat.le_trans hA5.size hgr6.size)
          refine hK.out _ _ trivial (fun _ => ?_)
          clear hK K ho6 hgr6 hA5 hO5 hsz5 HO5 HG5 HR5 HK5
          simp only [Act.put, List.setIfInBounds_toArray, List.set_cons_zero, List.set_cons_succ, List.getElem_toArray, List.getElem_cons_zero, List.getElem_cons_succ]
          refine wpAnyH_take (i := 6) (oi := _) (v := ?_) rfl (by kernel_rfl) (by kernel_rfl) (by kernel_rfl) (fun _ _ _ h => h) (Or.inl ⟨by rfl, ?_⟩) (trivial) ?_
          rotate_left
          · intro wq hSw; go_simp; try with_reducible rfl
          simp only [Act.put, List.setIfInBounds_toArray, List.set_cons_zero, List.set_cons_succ, List.getElem_toArray, List.getElem_cons_zero, List.getElem_cons_succ]
          refine wpAnyH_ready (rs := [7]) (by kernel_rfl) (by simp) ?_
          refine AllReadyH.cons (o := _) rfl (fun K hK => ?_) AllReadyH.nil
          simp only [List.getElem_toArray, List.getElem_cons_zero, List.getElem_cons_succ]

          have d2 : w6.cell? ⟨g1, 2, none⟩ = some (.slice a2 F.length c2) := HK6.out.cell rfl
          have z2 : w6.frozen? ⟨g1, 2, none⟩ = false := HK6.out.frozen 2
          have eFy : (F ++ [y]).length = F.length + 1 := by simp
          go_simp
          refine hK.out _ _ trivial (fun _ => ?_)
          clear hK K
          simp only [Act.put, List.setIfInBounds_toArray, List.set_cons_zero, List.set_cons_succ, List.getElem_toArray, List.getElem_cons_zero, List.getElem_cons_succ]
          refine wpAnyH_done (by kernel_rfl) ?_ _
          refine NoPanic.normal ?_
          have HK7 : Hid (Blk (w6.setCell ⟨g1, 2, none⟩ (.slice a3 (F.length + 1) c3)) g1 95 (parL ⟨a, ns, F ++ [y], 0, 0⟩ a1 c1 a3 c3)) := Lib.hid (by
            have e : (F ++ [y]).length = F.length + 1 := by simp
            unfold parL
            simp only [e]
            exact HK6.out.set 2 _)
          have HS7 : Hid (Gr w6 (w6.setCell ⟨g1, 2, none⟩ (.slice a3 (F.length + 1) c3)) g1) := Lib.hid ((Gr.refl w6 g1).setCell 2 _)
          generalize hgen : (w6.setCell ⟨g1, 2, none⟩ (.slice a3 (F.length + 1) c3)) = w7 at HK7 HS7 ⊢
          have HSZ7 : Hid (w6.heap.size ≤ w7.heap.size) := Lib.hid HS7.out.size
          have HR7 : Hid (RdAt w7 p t3) := Lib.hid (HR6.out.keep HS7.out (by intro g e; simp at e; have := HPG.out; omega))
          have HO7 : Hid (OwnD w4.heap.size 3 1 numC w7 (.slice a3 (F ++ [y]).length c3) (F ++ [y])) := Lib.hid (HO6.out.keep HS7.out (fun b hb e => by have := (HO6.out.lt b hb).1; have := HLT4.out; simp at e; omega) fun _ _ h => h)
          have HG7 : Hid (Gr w3 w7 p) := Lib.hid (gr_new HG6.out HS7.out (by have := HGE.out; omega))
          clear hgen d2 z2 HO6 HR6 HG6 HK6 HS7
          go_wp2
          go_roundw
          case rel => exact ⟨i + 1, hlt, by go_num, F ++ [y], t3, a3, c3, HTO.out.step hlt HY.out, HK7.out, HO7.out, HR7.out, HG7.out, Nat.le_trans hsz6 HSZ7.out⟩
          case measure => simp [intOf]; omega
        · simp only [List.getElem_toArray, List.getElem_cons_zero, List.getElem_cons_succ]
          go_simp
          refine hK.out _ _ trivial (fun _ => ?_)
          clear hK K dz5
          simp only [Act.put, List.setIfInBounds_toArray, List.set_cons_zero, List.set_cons_succ, List.getElem_toArray, List.getElem_cons_zero, List.getElem_cons_succ]
          have dz6 : ∀ o, (w5.alloc o).cell? ⟨g1, 2, none⟩ = some (.slice a2 F.length c2) := fun o => (HK5.out.alloc o).cell rfl
          refine wpAnyH_ready (rs := [1]) (by kernel_rfl) (by simp) ?_
          refine AllReadyH.cons (o := _) rfl (fun K hK => ?_) AllReadyH.nil
          simp only [List.getElem_toArray, List.getElem_cons_zero, List.getElem_cons_succ]
          go_simp
          refine hK.out _ _ trivial (fun _ => ?_)
          clear hK K dz6
          simp only [Act.put, List.setIfInBounds_toArray, List.set_cons_zero, List.set_cons_succ, List.getElem_toArray, List.getElem_cons_zero, List.getElem_cons_succ]
          refine wpAnyH_ready (rs := [5]) (by kernel_rfl) (by simp) ?_
          refine AllReadyH.cons (o := _) rfl (fun K hK => ?_) AllReadyH.nil
          simp only [List.getElem_toArray, List.getElem_cons_zero, List.getElem_cons_succ]

          rw [if_pos (by rfl)]
          refine wp_append_D 80 3 1 (.int .i64 0) 8 Tryz.underlying80 infoI rfl (by decide) (by decide) (.tmp 15) (.tmp 18) rfl w4.heap.size numC _ F rfl HO5.out y [.int .i64 y] rfl rfl (by intro u hu; simp at hu; subst hu; rfl) rfl (by omega) hsz5 ?_
          intro v6 w6 ho6 hgr6
          have hA5 : Below w5.heap.size w5 (w5.alloc (.cells [.int .i64 y].toArray 3 (0, 0))) := (Below.refl _ _).alloc (Nat.le_refl _) _
          have hO5 : ∀ b, (Value.slice a2 F.length c2).ownBlock = some b → g1 < b := fun b hb => by have := (HO5.out.lt b hb).1; have := HLT4.out; omega
          have HK6 : Hid (Blk w6 g1 95 (parL ⟨a, ns, F, 0, 0⟩ a1 c1 a2 c2)) := Lib.hid ((HK5.out.alloc _).grown hgr6 (fun e => by have := hO5 g1 e.symm; omega))
          have HG6 : Hid (Gr w3 w6 p) := Lib.hid (gr_newO (gr_newO HG5.out (gr_below hA5) (by simp)) hgr6 (fun b hb => by have := hO5 b hb; have := HGE.out; omega))
          have HR6 : Hid (RdAt w6 p t3) := Lib.hid ((HR5.out.below hA5).keep hgr6 (fun b hb => by have := hO5 b hb; have := HPG.out; omega))
          obtain ⟨a3, c3, rfl, hc3, hm3⟩ := ho6.slice
          have HO6 := Lib.hid ho6
          have hsz6 : w4.heap.size ≤ w6.heap.size := Nat.le_trans hsz5 (Nat.le_trans hA5.size hgr6.size)
          refine hK.out _ _ trivial (fun _ => ?_)
          clear hK K ho6 hgr6 hA5 hO5 hsz5 HO5 HG5 HR5 HK5
          simp only [Act.put, List.setIfInBounds_toArray, List.set_cons_zero, List.set_cons_succ, List.getElem_toArray, List.getElem_cons_zero, List.getElem_cons_succ]
          refine wpAnyH_take (i := 6) (oi := _) (v := ?_) rfl (by kernel_rfl) (by kernel_rfl) (by kernel_rfl) (fun _ _ _ h => h) (Or.inl ⟨by rfl, ?_⟩) (trivial) ?_
          rotate_left
          · intro wq hSw; go_simp; try with_reducible rfl
          simp only [Act.put, List.setIfInBounds_toArray, List.set_cons_zero, List.set_cons_succ, List.getElem_toArray, List.getElem_cons_zero, List.getElem_cons_succ]
          refine wpAnyH_ready (rs := [7]) (by kernel_rfl) (by simp) ?_
          refine AllReadyH.cons (o := _) rfl (fun K hK => ?_) AllReadyH.nil
          simp only [List.getElem_toArray, List.getElem_cons_zero, List.getElem_cons_succ]

          have d2 : w6.cell? ⟨g1, 2, none⟩ = some (.slice a2 F.length c2) := HK6.out.cell rfl
          have z2 : w6.frozen? ⟨g1, 2, none⟩ = false := HK6.out.frozen 2
          have eFy : (F ++ [y]).length = F.length + 1 := by simp
          go_simp
          refine hK.out _ _ trivial (fun _ => ?_)
          clear hK K
          simp only [Act.put, List.setIfInBounds_toArray, List.set_cons_zero, List.set_cons_succ, List.getElem_toArray, List.getElem_cons_zero, List.getElem_cons_succ]
          refine wpAnyH_done (by kernel_rfl) ?_ _
          refine NoPanic.normal ?_
          have HK7 : Hid (Blk (w6.setCell ⟨g1, 2, none⟩ (.slice a3 (F.length + 1) c3)) g1 95 (parL ⟨a, ns, F ++ [y], 0, 0⟩ a1 c1 a3 c3)) := Lib.hid (by
            have e : (F ++ [y]).length = F.length + 1 := by simp
            unfold parL
            simp only [e]
            exact HK6.out.set 2 _)
          have HS7 : Hid (Gr w6 (w6.setCell ⟨g1, 2, none⟩ (.slice a3 (F.length + 1) c3)) g1) := Lib.hid ((Gr.refl w6 g1).setCell 2 _)
          generalize hgen : (w6.setCell ⟨g1, 2, none⟩ (.slice a3 (F.length + 1) c3)) = w7 at HK7 HS7 ⊢
          have HSZ7 : Hid (w6.heap.size ≤ w7.heap.size) := Lib.hid HS7.out.size
          have HR7 : Hid (RdAt w7 p t3) := Lib.hid (HR6.out.keep HS7.out (by intro g e; simp at e; have := HPG.out; omega))
          have HO7 : Hid (OwnD w4.heap.size 3 1 numC w7 (.slice a3 (F ++ [y]).length c3) (F ++ [y])) := Lib.hid (HO6.out.keep HS7.out (fun b hb e => by have := (HO6.out.lt b hb).1; have := HLT4.out; simp at e; omega) fun _ _ h => h)
          have HG7 : Hid (Gr w3 w7 p) := Lib.hid (gr_new HG6.out HS7.out (by have := HGE.out; omega))
          clear hgen d2 z2 HO6 HR6 HG6 HK6 HS7
          go_wp2
          go_roundw
          case rel => exact ⟨i + 1, hlt, by go_num, F ++ [y], t3, a3, c3, HTO.out.step hlt HY.out, HK7.out, HO7.out, HR7.out, HG7.out, Nat.le_trans hsz6 HSZ7.out⟩
          case measure => simp [intOf]; omega
    · obtain rfl : i = n1 := by omega
      have h3' := H3.out
      rw [HN1.out] at h3'
      obtain ⟨rfl, rfl⟩ := HTO.out.done h3'
      clear h3'
      have HOF := Lib.hid HO.out
      have f4 := size_any t2 p wr HR.out H4.out
      go_wp2_with fail
      refine f4.mono ?_
      rintro e w6 ⟨rfl, r6, g6⟩
      have f5 := sum_any s4 p w6 r6 H5.out
      have HG6 := Lib.hid (HG.out.trans g6)
      have HK6 := Lib.hid (HK.out.grown g6 (by intro e; simp at e; have := HPG.out; omega))
      have HO6 : Hid (OwnD w4.heap.size 3 1 numC w6 (.slice a2 F.length c2) F) := Lib.hid (HO.out.keep g6 (fun b hb e => by have := (HO.out.lt b hb).1; have := HPG.out; have := HLT4.out; simp at e; omega) fun _ _ h => h)
      clear f4 g6 r6 HO HK HG HR
      go_wp2_with fail
      refine f5.mono ?_
      rintro e w7 ⟨rfl, r7, g7⟩
      have HG7 := Lib.hid (HG6.out.trans g7)
      have HK7 := Lib.hid (HK6.out.grown g7 (by intro e; simp at e; have := HPG.out; omega))
      have HO7 : Hid (OwnD w4.heap.size 3 1 numC w7 (.slice a2 F.length c2) F) := Lib.hid (HO6.out.keep g7 (fun b hb e => by have := (HO6.out.lt b hb).1; have := HPG.out; have := HLT4.out; simp at e; omega) fun _ _ h => h)
      have HR7 := Lib.hid r7
      clear f5 g7 r7 HO6 HK6 HG6
      have q3 : w7.cell? ⟨g1, 3, none⟩ = some (.int .i64 0) := HK7.out.cell rfl
      have q4 : w7.cell? ⟨g1, 4, none⟩ = some (.int .u32 0) := HK7.out.cell rfl
      have z3 : w7.frozen? ⟨g1, 3, none⟩ = false := HK7.out.frozen 3
      have z4 : w7.frozen? ⟨g1, 4, none⟩ = false := HK7.out.frozen 4
      obtain ⟨w8, hw8⟩ : ∃ w8, (w7.setCell ⟨g1, 3, none⟩ (.int .i64 z)).setCell ⟨g1, 4, none⟩ (.int .u32 u) = w8 := ⟨_, rfl⟩
      have HK8 : Hid (Blk w8 g1 95 (parL ⟨a, ns, F, z, u⟩ a1 c1 a2 c2)) := Lib.hid (by rw [← hw8]; exact (HK7.out.set 3 _).set 4 _)
      have HS8 : Hid (Gr w7 w8 g1) := Lib.hid (by rw [← hw8]; exact ((Gr.refl w7 g1).setCell 3 _).setCell 4 _)
      have hld := run_loadP_blk _ HK8.out
      have hg0 : w.heap.size < g1 := by have := HK3.out.lt; have := HGE.out; omega
      have HP0 : Hid (Blk w8 w.heap.size 95 (parL zP none 0 none 0)) := Lib.hid ((HK3.out.grown HG7.out (by intro e; simp at e; omega)).grown HS8.out (by intro e; simp at e; omega))
      obtain ⟨w9, hst9, HK9, HS9⟩ := putP (a1 := a1) (c1 := c1) (a2 := a2) (c2 := c2) ⟨a, ns, F, z, u⟩ HP0.out rfl
      have HR8 := Lib.hid (HR7.out.keep HS8.out (by intro g e; simp at e; have := HPG.out; omega))
      have HR9 := Lib.hid (HR8.out.keep HS9.out (by intro g e; simp at e; omega))
      have HG8 : Hid (Gr w w8 p) := Lib.hid (gr_new (HG3.out.trans HG7.out) HS8.out (by omega))
      have HG9 : Hid (Gr w w9 p) := Lib.hid (gr_new HG8.out HS9.out (Nat.le_refl _))
      have hsz8 : w.heap.size < w4.heap.size := by have := HLT4.out; omega
      have hO4 : ∀ b, (Value.slice a2 F.length c2).ownBlock = some b → g1 < b := fun b hb => by have := (HO7.out.lt b hb).1; have := HLT4.out; omega
      have hO3 : ∀ b, (Value.slice a1 i c1).ownBlock = some b → b < g1 := fun b hb => by have := (HO3.out.lt b (by rw [HN1.out]; exact hb)).2; have := HGE.out; omega
      have hO3p : ∀ b, (Value.slice a1 i c1).ownBlock = some b → w.heap.size ≤ b := fun b hb => (HO3.out.lt b (by rw [HN1.out]; exact hb)).1
      have hty3 : ∀ b, (Value.slice a1 i c1).ownBlock = some b → b ≠ w.heap.size := fun b hb e => by
        obtain ⟨c, hc⟩ := HO3.out.ty b (by rw [HN1.out]; exact hb)
        exact hc.ne HK3.out (by decide) e
      have ho9 : OwnD w.heap.size 3 1 numC w9 (.slice a2 F.length c2) F := (((HO7.out.base (Nat.le_of_lt hsz8)).keep HS8.out (fun b hb e => by have := hO4 b hb; simp at e; omega) fun _ _ h => h).keep HS9.out (fun b hb e => by have := hO4 b hb; simp at e; omega) fun _ _ h => h)
      have hn9 : OwnD w.heap.size 2 1 numC w9 (.slice a1 i c1) ns := by
        have h3 := HO3.out
        rw [HN1.out] at h3
        exact ((h3.keep HG7.out (fun b hb e => by have := hO3p b hb; simp at e; omega) fun _ _ h => h).keep HS8.out (fun b hb e => by have := hO3 b hb; simp at e; omega) fun _ _ h => h).keep HS9.out (fun b hb e => hty3 b hb (by simp at e; exact e.symm)) fun _ _ h => h
      have HC9 : Hid (parC (TyD parTs w.heap.size w9) w9 ⟨a, ns, F, z, u⟩ (parL ⟨a, ns, F, z, u⟩ a1 c1 a2 c2)) := Lib.hid ⟨a1, c1, a2, c2, rfl, by
        show IsNums _ w9 (.slice a1 ns.length c1) ns
        rw [HN1.out]
        exact hn9.row fun b c hb hk => ⟨hb, _, c, by simp [parTs], hk⟩, ho9.row fun b c hb hk => ⟨hb, _, c, by simp [parTs], hk⟩, HUW.out⟩
      simp only [parL] at hst9 hld
      rw [HN1.out] at hst9 hld
      clear hO4 hO3 hO3p hty3 ho9 hn9 hsz8 hg0
      go_wp2
      exact ret_par (x := ⟨a, ns, F, z, u⟩) rfl rfl rfl HK9.out HC9.out HR9.out HG9.out
end Go.Proofs.YthgpdnffahmhjaaGreatDoor.S18
