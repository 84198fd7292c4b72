/- The verifier's eqNums, EqSegs, EqPars, EqEdit, where both are the same: contracts. -/
import Derived.Test.YtaffmfocjaihlaaDoorEdB
set_option linter.unusedSimpArgs false
set_option linter.unusedVariables false
set_option maxRecDepth 100000
namespace Go.Proofs.YtaffmfocjaihlaaDoor.S18
open Go.RowKit
attribute [local go_sem ↓] loadS_eq storeS_eq loadP_eq storeP_eq loadE_eq storeE_eq
theorem bel_q {B : Nat} {a w : World} (h : Below B a w) (n : Nat) : Below B a (w.drewN n) := bel_drewN h n
set_option maxHeartbeats 8000000 in
theorem eqNums_same {D D' : Nat → Prop} (va vb : Value) (L : List Int) (w : World) (ha : IsNums D w va L) (hb : IsNums D' w vb L) : Calls Tryd.prog 32 #[va, vb] w fun e w' => e = .returned (.bool true) ∧ Below w.heap.size w w' := by
  obtain ⟨a, ca, rfl, hca, hma⟩ := RowD.slice ha
  obtain ⟨b, cb, rfl, hcb, hmb⟩ := RowD.slice hb
  unfold maxLen at hma hmb
  have HA := Lib.hid ha
  have HB := Lib.hid hb
  clear ha hb
  go_enter Tryd.func32, Tryd.ntmps32
  go_wp2_with fail
  go_loopw [5] (fun x wr => ∃ i : Nat, i ≤ L.length ∧ x = .int .i64 i ∧ Below w.heap.size w wr) (fun x _ => L.length - (intOf x).toNat)
  case atStart => exact ⟨0, by omega, rfl, Below.refl _ _⟩
  case round =>
    obtain ⟨i, hi, rfl, hbel⟩ := hrel
    have HBEL := Lib.hid hbel
    by_cases hlt : i < L.length
    · obtain ⟨b1, o1, rfl, _, _, hc1⟩ := IsNums.cell (HA.out.keep' (keep_below hbel)) hlt
      obtain ⟨b2, o2, rfl, _, _, hc2⟩ := IsNums.cell (HB.out.keep' (keep_below hbel)) hlt
      obtain ⟨y, hy⟩ : ∃ y, L.getD i 0 = y := ⟨_, rfl⟩
      rw [hy] at hc1 hc2
      clear hy hbel
      go_wp2_with fail
      go_quiet (fail)
      go_wp2_with fail
      go_roundw
      case rel => exact ⟨i + 1, by omega, by go_num, bel_q HBEL.out _⟩
      case measure => simp [intOf]; omega
    · obtain rfl : i = L.length := by omega
      clear hbel
      go_wp2_with fail
      go_ret
      exact ⟨rfl, HBEL.out⟩
theorem twoS (cx cy : List Value) {w W : World} {ga gb : Nat} {zc : List Value} (ha : Blk W ga 45 zc) (hb : Blk W gb 45 zc) (hne : ga ≠ gb) (hF : From w W) (hga : w.heap.size ≤ ga) (hgb : w.heap.size ≤ gb) (hz : zc.length = 6 := by rfl) (hx : cx.length = 6 := by rfl) (hy : cy.length = 6 := by rfl) (ox : ∀ u ∈ cx, u.oneCell' = true := by first | exact segL_one _ | exact parL_one _ _ _ _ _) (oy : ∀ u ∈ cy, u.oneCell' = true := by first | exact segL_one _ | exact parL_one _ _ _ _ _) :
    ∃ W1 W2, (storeS (.pointer (some ⟨ga, 0, none⟩)) (.agg cx.toArray)).run Tryd.prog W = .ok () W1 ∧ (storeS (.pointer (some ⟨gb, 0, none⟩)) (.agg cy.toArray)).run Tryd.prog W1 = .ok () W2 ∧ Hid (Blk W2 ga 45 cx) ∧ Hid (Blk W2 gb 45 cy) ∧ Hid (From w W1) ∧ Hid (From w W2) := by
  have h1 := run_storeS ha hz hx ox
  have hb1 := hb.setRowOther (g := ga) (fun e => hne e.symm) cx.toArray
  have h2 := run_storeS hb1 hz hy oy
  have f : ∀ (V : World) (g : Nat) (c : Array Value), From w V → w.heap.size ≤ g → From w (V.setRow g c) := fun V g c hV hg => Below.trans hV ⟨rfl, rfl, rfl, by simp, fun k hk => setRow_other _ _ _ _ (by omega)⟩
  exact ⟨_, _, h1, h2, Lib.hid ((ha.setRow cx).setRowOther hne _), Lib.hid (hb1.setRow cy), Lib.hid (f _ _ _ hF hga), Lib.hid (f _ _ _ (f _ _ _ hF hga) hgb)⟩
theorem twoP (cx cy : List Value) {w W : World} {ga gb : Nat} {zc : List Value} (ha : Blk W ga 49 zc) (hb : Blk W gb 49 zc) (hne : ga ≠ gb) (hF : From w W) (hga : w.heap.size ≤ ga) (hgb : w.heap.size ≤ gb) (hz : zc.length = 5 := by rfl) (hx : cx.length = 5 := by rfl) (hy : cy.length = 5 := by rfl) (ox : ∀ u ∈ cx, u.oneCell' = true := by first | exact segL_one _ | exact parL_one _ _ _ _ _) (oy : ∀ u ∈ cy, u.oneCell' = true := by first | exact segL_one _ | exact parL_one _ _ _ _ _) :
    ∃ W1 W2, (storeP (.pointer (some ⟨ga, 0, none⟩)) (.agg cx.toArray)).run Tryd.prog W = .ok () W1 ∧ (storeP (.pointer (some ⟨gb, 0, none⟩)) (.agg cy.toArray)).run Tryd.prog W1 = .ok () W2 ∧ Hid (Blk W2 ga 49 cx) ∧ Hid (Blk W2 gb 49 cy) ∧ Hid (From w W1) ∧ Hid (From w W2) := by
  have h1 := run_storeP ha hz hx ox
  have hb1 := hb.setRowOther (g := ga) (fun e => hne e.symm) cx.toArray
  have h2 := run_storeP hb1 hz hy oy
  have f : ∀ (V : World) (g : Nat) (c : Array Value), From w V → w.heap.size ≤ g → From w (V.setRow g c) := fun V g c hV hg => Below.trans hV ⟨rfl, rfl, rfl, by simp, fun k hk => setRow_other _ _ _ _ (by omega)⟩
  exact ⟨_, _, h1, h2, Lib.hid ((ha.setRow cx).setRowOther hne _), Lib.hid (hb1.setRow cy), Lib.hid (f _ _ _ hF hga), Lib.hid (f _ _ _ (f _ _ _ hF hga) hgb)⟩
set_option maxHeartbeats 16000000 in
theorem eqSegs_same {D D' : Nat → Prop} (va vb : Value) (L : List SG) (w : World) (ha : IsSegs D w va L) (hb : IsSegs D' w vb L) : Calls Tryd.prog 30 #[va, vb] w fun e w' => e = .returned (.bool true) ∧ Below w.heap.size w w' := by
  obtain ⟨a, ca, rfl, hca, hma⟩ := RowD.slice ha
  obtain ⟨b, cb, rfl, hcb, hmb⟩ := RowD.slice hb
  unfold maxLen at hma hmb
  have HA := Lib.hid ha
  have HB := Lib.hid hb
  clear ha hb
  go_enter Tryd.func30, Tryd.ntmps30
  go_wp2_with fail
  go_loopw [5] (fun x wr => ∃ i : Nat, i ≤ L.length ∧ x = .int .i64 i ∧ Below w.heap.size w wr) (fun x _ => L.length - (intOf x).toNat)
  case atStart => exact ⟨0, by omega, rfl, Below.refl _ _⟩
  case round =>
    obtain ⟨i, hi, rfl, hbel⟩ := hrel
    have HBEL := Lib.hid hbel
    by_cases hlt : i < L.length
    · obtain ⟨b1, o1, x, c, rfl, _, hl1, hx, ⟨rfl, _⟩, hu1⟩ := RowD.at (RowD.keep HA.out (keep_below hbel) fun _ _ h => h) hlt
      obtain ⟨b2, o2, x', c', rfl, _, hl2, hx', ⟨rfl, _⟩, hu2⟩ := RowD.at (RowD.keep HB.out (keep_below hbel) fun _ _ h => h) hlt
      obtain rfl : x = x' := by rw [hx] at hx'; cases hx'; rfl
      have LDA := Lib.hid (fun (W : World) (hW : From wr W) => run_loadS (w := W) (cs := segL x) rfl fun j u hj => (Below.cell (p := ⟨b1, _, none⟩) hW hl1).trans (hu1 j u hj))
      have LDB := Lib.hid (fun (W : World) (hW : From wr W) => run_loadS (w := W) (cs := segL x) rfl fun j u hj => (Below.cell (p := ⟨b2, _, none⟩) hW hl2).trans (hu2 j u hj))
      clear hu1 hu2 hx hx' hbel
      go_wp2_with fail
      refine wp_region_noPanic ?_
      have hHeld : From wr wr.drew := (Below.refl _ _).drew
      refine wpAnyH_start (n := 12) (l := #[false, false, false, false, false, false, false, false, false, false, false, false]) (S := From wr) (by kernel_rfl) hHeld (by kernel_rfl) (by kernel_rfl) ?_
      refine wpAnyH_take (i := 0) (oi := _) (v := ?_) rfl (by kernel_rfl) (by kernel_rfl) (by kernel_rfl) (fun _ _ _ h => h) (Or.inl ⟨by rfl, ?_⟩) (by assumption) ?_
      rotate_left
      · intro wq hSw; go_simp; try with_reducible rfl
      simp only [Act.put, List.setIfInBounds_toArray, List.set_cons_zero, List.set_cons_succ, List.getElem_toArray, List.getElem_cons_zero, List.getElem_cons_succ]
      refine wpAnyH_take (i := 1) (oi := _) (v := ?_) rfl (by kernel_rfl) (by kernel_rfl) (by kernel_rfl) (fun _ _ _ h => h) (Or.inl ⟨by rfl, ?_⟩) (by assumption) ?_
      rotate_left
      · intro wq hSw; go_simp; try with_reducible rfl
      simp only [Act.put, List.setIfInBounds_toArray, List.set_cons_zero, List.set_cons_succ, List.getElem_toArray, List.getElem_cons_zero, List.getElem_cons_succ]
      refine wpAnyH_take (i := 2) (oi := _) (v := ?_) rfl (by kernel_rfl) (by kernel_rfl) (by kernel_rfl) (fun _ _ _ h => h) (Or.inl ⟨by rfl, ?_⟩) (by assumption) ?_
      rotate_left
      · intro wq hSw; go_simp; try with_reducible rfl
      simp only [Act.put, List.setIfInBounds_toArray, List.set_cons_zero, List.set_cons_succ, List.getElem_toArray, List.getElem_cons_zero, List.getElem_cons_succ]
      refine wpAnyH_take (i := 3) (oi := _) (v := ?_) rfl (by kernel_rfl) (by kernel_rfl) (by kernel_rfl) (fun _ _ _ h => h) (Or.inl ⟨by rfl, ?_⟩) (by assumption) ?_
      rotate_left
      · intro wq hSw; have hl := LDA.out wq hSw; go_simp; try with_reducible rfl
      simp only [Act.put, List.setIfInBounds_toArray, List.set_cons_zero, List.set_cons_succ, List.getElem_toArray, List.getElem_cons_zero, List.getElem_cons_succ]
      refine wpAnyH_take (i := 4) (oi := _) (v := ?_) rfl (by kernel_rfl) (by kernel_rfl) (by kernel_rfl) (fun _ _ _ h => h) (Or.inl ⟨by rfl, ?_⟩) (by assumption) ?_
      rotate_left
      · intro wq hSw; go_simp; try with_reducible rfl
      simp only [Act.put, List.setIfInBounds_toArray, List.set_cons_zero, List.set_cons_succ, List.getElem_toArray, List.getElem_cons_zero, List.getElem_cons_succ]
      refine wpAnyH_take (i := 5) (oi := _) (v := ?_) rfl (by kernel_rfl) (by kernel_rfl) (by kernel_rfl) (fun _ _ _ h => h) (Or.inl ⟨by rfl, ?_⟩) (by assumption) ?_
      rotate_left
      · intro wq hSw; go_simp; try with_reducible rfl
      simp only [Act.put, List.setIfInBounds_toArray, List.set_cons_zero, List.set_cons_succ, List.getElem_toArray, List.getElem_cons_zero, List.getElem_cons_succ]
      refine wpAnyH_take (i := 6) (oi := _) (v := ?_) rfl (by kernel_rfl) (by kernel_rfl) (by kernel_rfl) (fun _ _ _ h => h) (Or.inl ⟨by rfl, ?_⟩) (by assumption) ?_
      rotate_left
      · intro wq hSw; go_simp; try with_reducible rfl
      simp only [Act.put, List.setIfInBounds_toArray, List.set_cons_zero, List.set_cons_succ, List.getElem_toArray, List.getElem_cons_zero, List.getElem_cons_succ]
      refine wpAnyH_take (i := 7) (oi := _) (v := ?_) rfl (by kernel_rfl) (by kernel_rfl) (by kernel_rfl) (fun _ _ _ h => h) (Or.inl ⟨by rfl, ?_⟩) (by assumption) ?_
      rotate_left
      · intro wq hSw; have hl := LDB.out wq hSw; go_simp; try with_reducible rfl
      simp only [Act.put, List.setIfInBounds_toArray, List.set_cons_zero, List.set_cons_succ, List.getElem_toArray, List.getElem_cons_zero, List.getElem_cons_succ]
      refine wpAnyH_ready (rs := [8, 9]) (by kernel_rfl) (by simp) ?_
      refine AllReadyH.cons (o := _) rfl (fun K hK => ?_) (AllReadyH.cons (o := _) rfl (fun K hK => ?_) AllReadyH.nil)
      all_goals simp only [List.getElem_toArray, List.getElem_cons_zero, List.getElem_cons_succ]
      all_goals go_simp
      all_goals refine hK.out _ _ (hHeld.alloc (Nat.le_refl _) _) (fun hH8 => ?_)
      all_goals clear hK K
      all_goals simp only [Act.put, List.setIfInBounds_toArray, List.set_cons_zero, List.set_cons_succ, List.getElem_toArray, List.getElem_cons_zero, List.getElem_cons_succ]
      · refine wpAnyH_ready (rs := [9]) (by kernel_rfl) (by simp) ?_
        refine AllReadyH.cons (o := _) rfl (fun K hK => ?_) AllReadyH.nil
        simp only [List.getElem_toArray, List.getElem_cons_zero, List.getElem_cons_succ]
        go_simp
        refine hK.out _ _ (Below.alloc hH8 hH8.size _) (fun hH9 => ?_)
        clear hK K
        simp only [Act.put, List.setIfInBounds_toArray, List.set_cons_zero, List.set_cons_succ, List.getElem_toArray, List.getElem_cons_zero, List.getElem_cons_succ]
        have hz : (wr.alloc (Obj.cells #[.int .i64 0, .bool false, .int .i64 0, .int .i64 0, .int .i64 0, .int .u32 0] 45)).heap.size = wr.heap.size + 1 := by simp
        have hA1 : Blk ((wr.alloc (Obj.cells #[.int .i64 0, .bool false, .int .i64 0, .int .i64 0, .int .i64 0, .int .u32 0] 45)).alloc (Obj.cells #[.int .i64 0, .bool false, .int .i64 0, .int .i64 0, .int .i64 0, .int .u32 0] 45)).drew wr.heap.size 45 (segL zS) := (Blk.new wr 45 (segL zS)).alloc _
        have hA2 : Blk ((wr.alloc (Obj.cells #[.int .i64 0, .bool false, .int .i64 0, .int .i64 0, .int .i64 0, .int .u32 0] 45)).alloc (Obj.cells #[.int .i64 0, .bool false, .int .i64 0, .int .i64 0, .int .i64 0, .int .u32 0] 45)).drew (wr.heap.size + 1) 45 (segL zS) := by have := Blk.new (wr.alloc (Obj.cells #[.int .i64 0, .bool false, .int .i64 0, .int .i64 0, .int .i64 0, .int .u32 0] 45)) 45 (segL zS); rw [hz] at this; exact this
        obtain ⟨W1, W2, p1, p2, k1, k2, f1, f2⟩ := twoS (segL x) (segL x) hA1 hA2 (by omega) hH9 (by omega) (by omega)
        clear hA1 hA2 hH8 hH9 hz hHeld
        refine wpAnyH_ready (rs := [10]) (by kernel_rfl) (by simp) ?_
        refine AllReadyH.cons (o := _) rfl (fun K hK => ?_) AllReadyH.nil
        simp only [List.getElem_toArray, List.getElem_cons_zero, List.getElem_cons_succ]
        go_simp
        refine hK.out _ _ f1.out (fun _ => ?_)
        clear hK K p1
        simp only [Act.put, List.setIfInBounds_toArray, List.set_cons_zero, List.set_cons_succ, List.getElem_toArray, List.getElem_cons_zero, List.getElem_cons_succ]
        refine wpAnyH_ready (rs := [11]) (by kernel_rfl) (by simp) ?_
        refine AllReadyH.cons (o := _) rfl (fun K hK => ?_) AllReadyH.nil
        simp only [List.getElem_toArray, List.getElem_cons_zero, List.getElem_cons_succ]
        go_simp
        refine hK.out _ _ f2.out (fun _ => ?_)
        clear hK K p2
        simp only [Act.put, List.setIfInBounds_toArray, List.set_cons_zero, List.set_cons_succ, List.getElem_toArray, List.getElem_cons_zero, List.getElem_cons_succ]
        refine wpAnyH_done (by kernel_rfl) ?_ _
        refine NoPanic.normal ?_
        have a0 : W2.cell? ⟨wr.heap.size, 0, none⟩ = some (.int .i64 x.num) := k1.out.cell rfl
        have a1 : W2.cell? ⟨wr.heap.size, 1, none⟩ = some (.bool x.sealed) := k1.out.cell rfl
        have a2 : W2.cell? ⟨wr.heap.size, 2, none⟩ = some (.int .i64 x.group) := k1.out.cell rfl
        have a3 : W2.cell? ⟨wr.heap.size, 3, none⟩ = some (.int .i64 x.member) := k1.out.cell rfl
        have a4 : W2.cell? ⟨wr.heap.size, 4, none⟩ = some (.int .i64 x.size) := k1.out.cell rfl
        have a5 : W2.cell? ⟨wr.heap.size, 5, none⟩ = some (.int .u32 x.sum) := k1.out.cell rfl
        have b0 : W2.cell? ⟨wr.heap.size + 1, 0, none⟩ = some (.int .i64 x.num) := k2.out.cell rfl
        have b1 : W2.cell? ⟨wr.heap.size + 1, 1, none⟩ = some (.bool x.sealed) := k2.out.cell rfl
        have b2 : W2.cell? ⟨wr.heap.size + 1, 2, none⟩ = some (.int .i64 x.group) := k2.out.cell rfl
        have b3 : W2.cell? ⟨wr.heap.size + 1, 3, none⟩ = some (.int .i64 x.member) := k2.out.cell rfl
        have b4 : W2.cell? ⟨wr.heap.size + 1, 4, none⟩ = some (.int .i64 x.size) := k2.out.cell rfl
        have b5 : W2.cell? ⟨wr.heap.size + 1, 5, none⟩ = some (.int .u32 x.sum) := k2.out.cell rfl
        clear k1 k2
        go_wp2
        go_roundw
        case rel => exact ⟨i + 1, by omega, by go_num, HBEL.out.trans (Below.mono f2.out HBEL.out.size)⟩
        case measure => simp [intOf]; omega
      · refine wpAnyH_ready (rs := [8]) (by kernel_rfl) (by simp) ?_
        refine AllReadyH.cons (o := _) rfl (fun K hK => ?_) AllReadyH.nil
        simp only [List.getElem_toArray, List.getElem_cons_zero, List.getElem_cons_succ]
        go_simp
        refine hK.out _ _ (Below.alloc hH8 hH8.size _) (fun hH9 => ?_)
        clear hK K
        simp only [Act.put, List.setIfInBounds_toArray, List.set_cons_zero, List.set_cons_succ, List.getElem_toArray, List.getElem_cons_zero, List.getElem_cons_succ]
        have hz : (wr.alloc (Obj.cells #[.int .i64 0, .bool false, .int .i64 0, .int .i64 0, .int .i64 0, .int .u32 0] 45)).heap.size = wr.heap.size + 1 := by simp
        have hA1 : Blk ((wr.alloc (Obj.cells #[.int .i64 0, .bool false, .int .i64 0, .int .i64 0, .int .i64 0, .int .u32 0] 45)).alloc (Obj.cells #[.int .i64 0, .bool false, .int .i64 0, .int .i64 0, .int .i64 0, .int .u32 0] 45)).drew wr.heap.size 45 (segL zS) := (Blk.new wr 45 (segL zS)).alloc _
        have hA2 : Blk ((wr.alloc (Obj.cells #[.int .i64 0, .bool false, .int .i64 0, .int .i64 0, .int .i64 0, .int .u32 0] 45)).alloc (Obj.cells #[.int .i64 0, .bool false, .int .i64 0, .int .i64 0, .int .i64 0, .int .u32 0] 45)).drew (wr.heap.size + 1) 45 (segL zS) := by have := Blk.new (wr.alloc (Obj.cells #[.int .i64 0, .bool false, .int .i64 0, .int .i64 0, .int .i64 0, .int .u32 0] 45)) 45 (segL zS); rw [hz] at this; exact this
        obtain ⟨W1, W2, p1, p2, k1, k2, f1, f2⟩ := twoS (segL x) (segL x) hA2 hA1 (by omega) hH9 (by omega) (by omega)
        clear hA1 hA2 hH8 hH9 hz hHeld
        refine wpAnyH_ready (rs := [10]) (by kernel_rfl) (by simp) ?_
        refine AllReadyH.cons (o := _) rfl (fun K hK => ?_) AllReadyH.nil
        simp only [List.getElem_toArray, List.getElem_cons_zero, List.getElem_cons_succ]
        go_simp
        refine hK.out _ _ f1.out (fun _ => ?_)
        clear hK K p1
        simp only [Act.put, List.setIfInBounds_toArray, List.set_cons_zero, List.set_cons_succ, List.getElem_toArray, List.getElem_cons_zero, List.getElem_cons_succ]
        refine wpAnyH_ready (rs := [11]) (by kernel_rfl) (by simp) ?_
        refine AllReadyH.cons (o := _) rfl (fun K hK => ?_) AllReadyH.nil
        simp only [List.getElem_toArray, List.getElem_cons_zero, List.getElem_cons_succ]
        go_simp
        refine hK.out _ _ f2.out (fun _ => ?_)
        clear hK K p2
        simp only [Act.put, List.setIfInBounds_toArray, List.set_cons_zero, List.set_cons_succ, List.getElem_toArray, List.getElem_cons_zero, List.getElem_cons_succ]
        refine wpAnyH_done (by kernel_rfl) ?_ _
        refine NoPanic.normal ?_
        have a0 : W2.cell? ⟨wr.heap.size + 1, 0, none⟩ = some (.int .i64 x.num) := k1.out.cell rfl
        have a1 : W2.cell? ⟨wr.heap.size + 1, 1, none⟩ = some (.bool x.sealed) := k1.out.cell rfl
        have a2 : W2.cell? ⟨wr.heap.size + 1, 2, none⟩ = some (.int .i64 x.group) := k1.out.cell rfl
        have a3 : W2.cell? ⟨wr.heap.size + 1, 3, none⟩ = some (.int .i64 x.member) := k1.out.cell rfl
        have a4 : W2.cell? ⟨wr.heap.size + 1, 4, none⟩ = some (.int .i64 x.size) := k1.out.cell rfl
        have a5 : W2.cell? ⟨wr.heap.size + 1, 5, none⟩ = some (.int .u32 x.sum) := k1.out.cell rfl
        have b0 : W2.cell? ⟨wr.heap.size, 0, none⟩ = some (.int .i64 x.num) := k2.out.cell rfl
        have b1 : W2.cell? ⟨wr.heap.size, 1, none⟩ = some (.bool x.sealed) := k2.out.cell rfl
        have b2 : W2.cell? ⟨wr.heap.size, 2, none⟩ = some (.int .i64 x.group) := k2.out.cell rfl
        have b3 : W2.cell? ⟨wr.heap.size, 3, none⟩ = some (.int .i64 x.member) := k2.out.cell rfl
        have b4 : W2.cell? ⟨wr.heap.size, 4, none⟩ = some (.int .i64 x.size) := k2.out.cell rfl
        have b5 : W2.cell? ⟨wr.heap.size, 5, none⟩ = some (.int .u32 x.sum) := k2.out.cell rfl
        clear k1 k2
        go_wp2
        go_roundw
        case rel => exact ⟨i + 1, by omega, by go_num, HBEL.out.trans (Below.mono f2.out HBEL.out.size)⟩
        case measure => simp [intOf]; omega
    · obtain rfl : i = L.length := by omega
      clear hbel
      go_wp2_with fail
      go_ret
      exact ⟨rfl, HBEL.out⟩
set_option maxHeartbeats 16000000 in
theorem eqPars_same {D D' : Nat → Prop} (va vb : Value) (L : List PT) (w : World) (ha : IsPars D w va L) (hb : IsPars D' w vb L) : Calls Tryd.prog 31 #[va, vb] w fun e w' => e = .returned (.bool true) ∧ Below w.heap.size w w' := by
  obtain ⟨a, ca, rfl, hca, hma⟩ := RowD.slice ha
  obtain ⟨b, cb, rfl, hcb, hmb⟩ := RowD.slice hb
  unfold maxLen at hma hmb
  have HA := Lib.hid ha
  have HB := Lib.hid hb
  clear ha hb
  go_enter Tryd.func31, Tryd.ntmps31
  go_wp2_with fail
  go_loopw [5] (fun x wr => ∃ i : Nat, i ≤ L.length ∧ x = .int .i64 i ∧ Below w.heap.size w wr) (fun x _ => L.length - (intOf x).toNat)
  case atStart => exact ⟨0, by omega, rfl, Below.refl _ _⟩
  case round =>
    obtain ⟨i, hi, rfl, hbel⟩ := hrel
    obtain ⟨wo, hwo⟩ : ∃ wo, wo = wr := ⟨_, rfl⟩
    subst hwo
    have HBEL := Lib.hid hbel
    by_cases hlt : i < L.length
    · obtain ⟨b1, o1, x, c, rfl, _, hl1, hx, ⟨p1', d1, p2', d2, rfl, hn1, hn2, _⟩, hu1⟩ := RowD.at (RowD.keep HA.out (keep_below hbel) fun _ _ h => h.keep (keep_below hbel)) hlt
      obtain ⟨b2, o2, x', c', rfl, _, hl2, hx', ⟨e1, f1', e2, f2', rfl, hm1, hm2, _⟩, hu2⟩ := RowD.at (RowD.keep HB.out (keep_below hbel) fun _ _ h => h.keep (keep_below hbel)) hlt
      obtain rfl : x = x' := by rw [hx] at hx'; cases hx'; rfl
      obtain ⟨_, hzl1, hzl2⟩ := RowD.cap hn2
      unfold maxLen at hzl2
      have HN1 := Lib.hid hn1
      have HN2 := Lib.hid hn2
      have HM1 := Lib.hid hm1
      have HM2 := Lib.hid hm2
      have LDA := Lib.hid (fun (W : World) (hW : From wo W) => run_loadP (w := W) (cs := parL x p1' d1 p2' d2) rfl fun j u hj => (Below.cell (p := ⟨b1, _, none⟩) hW hl1).trans (hu1 j u hj))
      have LDB := Lib.hid (fun (W : World) (hW : From wo W) => run_loadP (w := W) (cs := parL x e1 f1' e2 f2') rfl fun j u hj => (Below.cell (p := ⟨b2, _, none⟩) hW hl2).trans (hu2 j u hj))
      clear hu1 hu2 hx hx' hbel hn1 hn2 hm1 hm2
      go_wp2_with fail
      refine wp_region_noPanic ?_
      have hHeld : From wo wo.drew := (Below.refl _ _).drew
      refine wpAnyH_start (n := 12) (l := #[false, false, false, false, false, false, false, false, false, false, false, false]) (S := From wo) (by kernel_rfl) hHeld (by kernel_rfl) (by kernel_rfl) ?_
      refine wpAnyH_take (i := 0) (oi := _) (v := ?_) rfl (by kernel_rfl) (by kernel_rfl) (by kernel_rfl) (fun _ _ _ h => h) (Or.inl ⟨by rfl, ?_⟩) (by assumption) ?_
      rotate_left
      · intro wq hSw; go_simp; try with_reducible rfl
      simp only [Act.put, List.setIfInBounds_toArray, List.set_cons_zero, List.set_cons_succ, List.getElem_toArray, List.getElem_cons_zero, List.getElem_cons_succ]
      refine wpAnyH_take (i := 1) (oi := _) (v := ?_) rfl (by kernel_rfl) (by kernel_rfl) (by kernel_rfl) (fun _ _ _ h => h) (Or.inl ⟨by rfl, ?_⟩) (by assumption) ?_
      rotate_left
      · intro wq hSw; go_simp; try with_reducible rfl
      simp only [Act.put, List.setIfInBounds_toArray, List.set_cons_zero, List.set_cons_succ, List.getElem_toArray, List.getElem_cons_zero, List.getElem_cons_succ]
      refine wpAnyH_take (i := 2) (oi := _) (v := ?_) rfl (by kernel_rfl) (by kernel_rfl) (by kernel_rfl) (fun _ _ _ h => h) (Or.inl ⟨by rfl, ?_⟩) (by assumption) ?_
      rotate_left
      · intro wq hSw; go_simp; try with_reducible rfl
      simp only [Act.put, List.setIfInBounds_toArray, List.set_cons_zero, List.set_cons_succ, List.getElem_toArray, List.getElem_cons_zero, List.getElem_cons_succ]
      refine wpAnyH_take (i := 3) (oi := _) (v := ?_) rfl (by kernel_rfl) (by kernel_rfl) (by kernel_rfl) (fun _ _ _ h => h) (Or.inl ⟨by rfl, ?_⟩) (by assumption) ?_
      rotate_left
      · intro wq hSw; have hl := LDA.out wq hSw; go_simp; try with_reducible rfl
      simp only [Act.put, List.setIfInBounds_toArray, List.set_cons_zero, List.set_cons_succ, List.getElem_toArray, List.getElem_cons_zero, List.getElem_cons_succ]
      refine wpAnyH_take (i := 4) (oi := _) (v := ?_) rfl (by kernel_rfl) (by kernel_rfl) (by kernel_rfl) (fun _ _ _ h => h) (Or.inl ⟨by rfl, ?_⟩) (by assumption) ?_
      rotate_left
      · intro wq hSw; go_simp; try with_reducible rfl
      simp only [Act.put, List.setIfInBounds_toArray, List.set_cons_zero, List.set_cons_succ, List.getElem_toArray, List.getElem_cons_zero, List.getElem_cons_succ]
      refine wpAnyH_take (i := 5) (oi := _) (v := ?_) rfl (by kernel_rfl) (by kernel_rfl) (by kernel_rfl) (fun _ _ _ h => h) (Or.inl ⟨by rfl, ?_⟩) (by assumption) ?_
      rotate_left
      · intro wq hSw; go_simp; try with_reducible rfl
      simp only [Act.put, List.setIfInBounds_toArray, List.set_cons_zero, List.set_cons_succ, List.getElem_toArray, List.getElem_cons_zero, List.getElem_cons_succ]
      refine wpAnyH_take (i := 6) (oi := _) (v := ?_) rfl (by kernel_rfl) (by kernel_rfl) (by kernel_rfl) (fun _ _ _ h => h) (Or.inl ⟨by rfl, ?_⟩) (by assumption) ?_
      rotate_left
      · intro wq hSw; go_simp; try with_reducible rfl
      simp only [Act.put, List.setIfInBounds_toArray, List.set_cons_zero, List.set_cons_succ, List.getElem_toArray, List.getElem_cons_zero, List.getElem_cons_succ]
      refine wpAnyH_take (i := 7) (oi := _) (v := ?_) rfl (by kernel_rfl) (by kernel_rfl) (by kernel_rfl) (fun _ _ _ h => h) (Or.inl ⟨by rfl, ?_⟩) (by assumption) ?_
      rotate_left
      · intro wq hSw; have hl := LDB.out wq hSw; go_simp; try with_reducible rfl
      simp only [Act.put, List.setIfInBounds_toArray, List.set_cons_zero, List.set_cons_succ, List.getElem_toArray, List.getElem_cons_zero, List.getElem_cons_succ]
      refine wpAnyH_ready (rs := [8, 9]) (by kernel_rfl) (by simp) ?_
      refine AllReadyH.cons (o := _) rfl (fun K hK => ?_) (AllReadyH.cons (o := _) rfl (fun K hK => ?_) AllReadyH.nil)
      all_goals simp only [List.getElem_toArray, List.getElem_cons_zero, List.getElem_cons_succ]
      all_goals go_simp
      all_goals refine hK.out _ _ (hHeld.alloc (Nat.le_refl _) _) (fun hH8 => ?_)
      all_goals clear hK K
      all_goals simp only [Act.put, List.setIfInBounds_toArray, List.set_cons_zero, List.set_cons_succ, List.getElem_toArray, List.getElem_cons_zero, List.getElem_cons_succ]
      · refine wpAnyH_ready (rs := [9]) (by kernel_rfl) (by simp) ?_
        refine AllReadyH.cons (o := _) rfl (fun K hK => ?_) AllReadyH.nil
        simp only [List.getElem_toArray, List.getElem_cons_zero, List.getElem_cons_succ]
        go_simp
        refine hK.out _ _ (Below.alloc hH8 hH8.size _) (fun hH9 => ?_)
        clear hK K
        simp only [Act.put, List.setIfInBounds_toArray, List.set_cons_zero, List.set_cons_succ, List.getElem_toArray, List.getElem_cons_zero, List.getElem_cons_succ]
        have hz : (wo.alloc (Obj.cells #[.int .i64 0, .slice none 0 0, .slice none 0 0, .int .i64 0, .int .u32 0] 49)).heap.size = wo.heap.size + 1 := by simp
        have hA1 : Blk ((wo.alloc (Obj.cells #[.int .i64 0, .slice none 0 0, .slice none 0 0, .int .i64 0, .int .u32 0] 49)).alloc (Obj.cells #[.int .i64 0, .slice none 0 0, .slice none 0 0, .int .i64 0, .int .u32 0] 49)).drew wo.heap.size 49 (parL zP none 0 none 0) := (Blk.new wo 49 (parL zP none 0 none 0)).alloc _
        have hA2 : Blk ((wo.alloc (Obj.cells #[.int .i64 0, .slice none 0 0, .slice none 0 0, .int .i64 0, .int .u32 0] 49)).alloc (Obj.cells #[.int .i64 0, .slice none 0 0, .slice none 0 0, .int .i64 0, .int .u32 0] 49)).drew (wo.heap.size + 1) 49 (parL zP none 0 none 0) := by have := Blk.new (wo.alloc (Obj.cells #[.int .i64 0, .slice none 0 0, .slice none 0 0, .int .i64 0, .int .u32 0] 49)) 49 (parL zP none 0 none 0); rw [hz] at this; exact this
        obtain ⟨W1, W2, p1, p2, k1, k2, f1, f2⟩ := twoP (parL x p1' d1 p2' d2) (parL x e1 f1' e2 f2') hA1 hA2 (by omega) hH9 (by omega) (by omega)
        clear hA1 hA2 hH8 hH9 hz hHeld
        refine wpAnyH_ready (rs := [10]) (by kernel_rfl) (by simp) ?_
        refine AllReadyH.cons (o := _) rfl (fun K hK => ?_) AllReadyH.nil
        simp only [List.getElem_toArray, List.getElem_cons_zero, List.getElem_cons_succ]
        go_simp
        refine hK.out _ _ f1.out (fun _ => ?_)
        clear hK K p1
        simp only [Act.put, List.setIfInBounds_toArray, List.set_cons_zero, List.set_cons_succ, List.getElem_toArray, List.getElem_cons_zero, List.getElem_cons_succ]
        refine wpAnyH_ready (rs := [11]) (by kernel_rfl) (by simp) ?_
        refine AllReadyH.cons (o := _) rfl (fun K hK => ?_) AllReadyH.nil
        simp only [List.getElem_toArray, List.getElem_cons_zero, List.getElem_cons_succ]
        go_simp
        refine hK.out _ _ f2.out (fun _ => ?_)
        clear hK K p2
        simp only [Act.put, List.setIfInBounds_toArray, List.set_cons_zero, List.set_cons_succ, List.getElem_toArray, List.getElem_cons_zero, List.getElem_cons_succ]
        refine wpAnyH_done (by kernel_rfl) ?_ _
        refine NoPanic.normal ?_
        have a0 : W2.cell? ⟨wo.heap.size, 0, none⟩ = some (.int .i64 x.group) := k1.out.cell rfl
        have b0 : W2.cell? ⟨wo.heap.size + 1, 0, none⟩ = some (.int .i64 x.group) := k2.out.cell rfl
        have a1 : W2.cell? ⟨wo.heap.size, 1, none⟩ = some (.slice p1' x.nums.length d1) := k1.out.cell rfl
        have b1' : W2.cell? ⟨wo.heap.size + 1, 1, none⟩ = some (.slice e1 x.nums.length f1') := k2.out.cell rfl
        have a3 : W2.cell? ⟨wo.heap.size, 3, none⟩ = some (.int .i64 x.size) := k1.out.cell rfl
        have b3 : W2.cell? ⟨wo.heap.size + 1, 3, none⟩ = some (.int .i64 x.size) := k2.out.cell rfl
        have a4 : W2.cell? ⟨wo.heap.size, 4, none⟩ = some (.int .u32 x.sum) := k1.out.cell rfl
        have b4 : W2.cell? ⟨wo.heap.size + 1, 4, none⟩ = some (.int .u32 x.sum) := k2.out.cell rfl
        have feq := eqNums_same _ _ x.nums W2 (HN1.out.keep' (keep_below f2.out)) (HM1.out.keep' (keep_below f2.out))
        have HN2' := Lib.hid (HN2.out.keep' (keep_below f2.out))
        have HM2' := Lib.hid (HM2.out.keep' (keep_below f2.out))
        go_wp2_with fail
        refine feq.mono ?_
        rintro e W3 ⟨rfl, hb3⟩
        have K1 := Lib.hid (k1.out.below hb3 k1.out.lt)
        have K2 := Lib.hid (k2.out.below hb3 k2.out.lt)
        have HN3 := Lib.hid (HN2'.out.keep' (keep_below hb3))
        have HM3 := Lib.hid (HM2'.out.keep' (keep_below hb3))
        have F3 : Hid (From wo W3) := Lib.hid (From.trans f2.out hb3)
        have a2 : W3.cell? ⟨wo.heap.size, 2, none⟩ = some (.slice p2' x.sizes.length d2) := K1.out.cell rfl
        have b2' : W3.cell? ⟨wo.heap.size + 1, 2, none⟩ = some (.slice e2 x.sizes.length f2') := K2.out.cell rfl
        clear feq k1 k2 f1 f2 hb3 HN2' HM2' a0 b0 a1 b1' a3 b3 a4 b4
        go_wp2_with fail
        go_loopw [8] (fun y wq => ∃ j : Nat, j ≤ x.sizes.length ∧ y = .int .i64 j ∧ From W3 wq) (fun y _ => x.sizes.length - (intOf y).toNat)
        case atStart => exact ⟨0, by omega, rfl, From.refl _⟩
        case round =>
          clear a2 b2'
          obtain ⟨j, hj, rfl, hF⟩ := hrel
          have HF := Lib.hid hF
          have a2 : wr.cell? ⟨wo.heap.size, 2, none⟩ = some (.slice p2' x.sizes.length d2) := (K1.out.below hF K1.out.lt).cell rfl
          have b2' : wr.cell? ⟨wo.heap.size + 1, 2, none⟩ = some (.slice e2 x.sizes.length f2') := (K2.out.below hF K2.out.lt).cell rfl
          by_cases hjl : j < x.sizes.length
          · obtain ⟨kb1, ko1, rfl, _, _, hc1⟩ := IsNums.cell (HN3.out.keep' (keep_below hF)) hjl
            obtain ⟨kb2, ko2, rfl, _, _, hc2⟩ := IsNums.cell (HM3.out.keep' (keep_below hF)) hjl
            obtain ⟨z, hz⟩ : ∃ z, x.sizes.getD j 0 = z := ⟨_, rfl⟩
            rw [hz] at hc1 hc2
            clear hz hF
            go_wp2_with fail
            go_quiet (fail)
            go_wp2_with fail
            go_roundw
            case rel => exact ⟨j + 1, by omega, by go_num, bel_q HF.out _⟩
            case measure => simp [intOf]; omega
          · obtain rfl : j = x.sizes.length := by omega
            clear hF
            go_wp2
            go_roundw
            case rel => exact ⟨i + 1, by omega, by go_num, HBEL.out.trans (Below.mono (From.trans F3.out HF.out) HBEL.out.size)⟩
            case measure => simp [intOf]; omega
      · refine wpAnyH_ready (rs := [8]) (by kernel_rfl) (by simp) ?_
        refine AllReadyH.cons (o := _) rfl (fun K hK => ?_) AllReadyH.nil
        simp only [List.getElem_toArray, List.getElem_cons_zero, List.getElem_cons_succ]
        go_simp
        refine hK.out _ _ (Below.alloc hH8 hH8.size _) (fun hH9 => ?_)
        clear hK K
        simp only [Act.put, List.setIfInBounds_toArray, List.set_cons_zero, List.set_cons_succ, List.getElem_toArray, List.getElem_cons_zero, List.getElem_cons_succ]
        have hz : (wo.alloc (Obj.cells #[.int .i64 0, .slice none 0 0, .slice none 0 0, .int .i64 0, .int .u32 0] 49)).heap.size = wo.heap.size + 1 := by simp
        have hA1 : Blk ((wo.alloc (Obj.cells #[.int .i64 0, .slice none 0 0, .slice none 0 0, .int .i64 0, .int .u32 0] 49)).alloc (Obj.cells #[.int .i64 0, .slice none 0 0, .slice none 0 0, .int .i64 0, .int .u32 0] 49)).drew wo.heap.size 49 (parL zP none 0 none 0) := (Blk.new wo 49 (parL zP none 0 none 0)).alloc _
        have hA2 : Blk ((wo.alloc (Obj.cells #[.int .i64 0, .slice none 0 0, .slice none 0 0, .int .i64 0, .int .u32 0] 49)).alloc (Obj.cells #[.int .i64 0, .slice none 0 0, .slice none 0 0, .int .i64 0, .int .u32 0] 49)).drew (wo.heap.size + 1) 49 (parL zP none 0 none 0) := by have := Blk.new (wo.alloc (Obj.cells #[.int .i64 0, .slice none 0 0, .slice none 0 0, .int .i64 0, .int .u32 0] 49)) 49 (parL zP none 0 none 0); rw [hz] at this; exact this
        obtain ⟨W1, W2, p1, p2, k1, k2, f1, f2⟩ := twoP (parL x p1' d1 p2' d2) (parL x e1 f1' e2 f2') hA2 hA1 (by omega) hH9 (by omega) (by omega)
        clear hA1 hA2 hH8 hH9 hz hHeld
        refine wpAnyH_ready (rs := [10]) (by kernel_rfl) (by simp) ?_
        refine AllReadyH.cons (o := _) rfl (fun K hK => ?_) AllReadyH.nil
        simp only [List.getElem_toArray, List.getElem_cons_zero, List.getElem_cons_succ]
        go_simp
        refine hK.out _ _ f1.out (fun _ => ?_)
        clear hK K p1
        simp only [Act.put, List.setIfInBounds_toArray, List.set_cons_zero, List.set_cons_succ, List.getElem_toArray, List.getElem_cons_zero, List.getElem_cons_succ]
        refine wpAnyH_ready (rs := [11]) (by kernel_rfl) (by simp) ?_
        refine AllReadyH.cons (o := _) rfl (fun K hK => ?_) AllReadyH.nil
        simp only [List.getElem_toArray, List.getElem_cons_zero, List.getElem_cons_succ]
        go_simp
        refine hK.out _ _ f2.out (fun _ => ?_)
        clear hK K p2
        simp only [Act.put, List.setIfInBounds_toArray, List.set_cons_zero, List.set_cons_succ, List.getElem_toArray, List.getElem_cons_zero, List.getElem_cons_succ]
        refine wpAnyH_done (by kernel_rfl) ?_ _
        refine NoPanic.normal ?_
        have a0 : W2.cell? ⟨wo.heap.size + 1, 0, none⟩ = some (.int .i64 x.group) := k1.out.cell rfl
        have b0 : W2.cell? ⟨wo.heap.size, 0, none⟩ = some (.int .i64 x.group) := k2.out.cell rfl
        have a1 : W2.cell? ⟨wo.heap.size + 1, 1, none⟩ = some (.slice p1' x.nums.length d1) := k1.out.cell rfl
        have b1' : W2.cell? ⟨wo.heap.size, 1, none⟩ = some (.slice e1 x.nums.length f1') := k2.out.cell rfl
        have a3 : W2.cell? ⟨wo.heap.size + 1, 3, none⟩ = some (.int .i64 x.size) := k1.out.cell rfl
        have b3 : W2.cell? ⟨wo.heap.size, 3, none⟩ = some (.int .i64 x.size) := k2.out.cell rfl
        have a4 : W2.cell? ⟨wo.heap.size + 1, 4, none⟩ = some (.int .u32 x.sum) := k1.out.cell rfl
        have b4 : W2.cell? ⟨wo.heap.size, 4, none⟩ = some (.int .u32 x.sum) := k2.out.cell rfl
        have feq := eqNums_same _ _ x.nums W2 (HN1.out.keep' (keep_below f2.out)) (HM1.out.keep' (keep_below f2.out))
        have HN2' := Lib.hid (HN2.out.keep' (keep_below f2.out))
        have HM2' := Lib.hid (HM2.out.keep' (keep_below f2.out))
        go_wp2_with fail
        refine feq.mono ?_
        rintro e W3 ⟨rfl, hb3⟩
        have K1 := Lib.hid (k1.out.below hb3 k1.out.lt)
        have K2 := Lib.hid (k2.out.below hb3 k2.out.lt)
        have HN3 := Lib.hid (HN2'.out.keep' (keep_below hb3))
        have HM3 := Lib.hid (HM2'.out.keep' (keep_below hb3))
        have F3 : Hid (From wo W3) := Lib.hid (From.trans f2.out hb3)
        have a2 : W3.cell? ⟨wo.heap.size + 1, 2, none⟩ = some (.slice p2' x.sizes.length d2) := K1.out.cell rfl
        have b2' : W3.cell? ⟨wo.heap.size, 2, none⟩ = some (.slice e2 x.sizes.length f2') := K2.out.cell rfl
        clear feq k1 k2 f1 f2 hb3 HN2' HM2' a0 b0 a1 b1' a3 b3 a4 b4
        go_wp2_with fail
        go_loopw [8] (fun y wq => ∃ j : Nat, j ≤ x.sizes.length ∧ y = .int .i64 j ∧ From W3 wq) (fun y _ => x.sizes.length - (intOf y).toNat)
        case atStart => exact ⟨0, by omega, rfl, From.refl _⟩
        case round =>
          clear a2 b2'
          obtain ⟨j, hj, rfl, hF⟩ := hrel
          have HF := Lib.hid hF
          have a2 : wr.cell? ⟨wo.heap.size + 1, 2, none⟩ = some (.slice p2' x.sizes.length d2) := (K1.out.below hF K1.out.lt).cell rfl
          have b2' : wr.cell? ⟨wo.heap.size, 2, none⟩ = some (.slice e2 x.sizes.length f2') := (K2.out.below hF K2.out.lt).cell rfl
          by_cases hjl : j < x.sizes.length
          · obtain ⟨kb1, ko1, rfl, _, _, hc1⟩ := IsNums.cell (HN3.out.keep' (keep_below hF)) hjl
            obtain ⟨kb2, ko2, rfl, _, _, hc2⟩ := IsNums.cell (HM3.out.keep' (keep_below hF)) hjl
            obtain ⟨z, hz⟩ : ∃ z, x.sizes.getD j 0 = z := ⟨_, rfl⟩
            rw [hz] at hc1 hc2
            clear hz hF
            go_wp2_with fail
            go_quiet (fail)
            go_wp2_with fail
            go_roundw
            case rel => exact ⟨j + 1, by omega, by go_num, bel_q HF.out _⟩
            case measure => simp [intOf]; omega
          · obtain rfl : j = x.sizes.length := by omega
            clear hF
            go_wp2
            go_roundw
            case rel => exact ⟨i + 1, by omega, by go_num, HBEL.out.trans (Below.mono (From.trans F3.out HF.out) HBEL.out.size)⟩
            case measure => simp [intOf]; omega
    · obtain rfl : i = L.length := by omega
      clear hbel
      go_wp2_with fail
      go_ret
      exact ⟨rfl, HBEL.out⟩
end Go.Proofs.YtaffmfocjaihlaaDoor.S18
