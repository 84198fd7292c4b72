/- An index beside blocks; IndexMoves. -/
import Derived.Test.YthgpdnffahmhjaaIxH
set_option linter.unusedSimpArgs false
set_option linter.unusedVariables false
set_option linter.unusedSectionVars false
set_option maxRecDepth 100000
namespace Go.Proofs.Ythgpdnffahmhjaa.S20
open Go.RowKit Go.Maps Go.Shelf
/-- block p is an index that the call made, apart from the blocks Y -/
def InY (w0 : World) (p : Nat) (Y : Nat → Prop) (S : IX) (N : Nat) (w : World) : Prop := ∃ l, l.p = p ∧ IsIX w l S N ∧ LOk S ∧ Below w0.heap.size w0 w ∧ (∀ b, l.at b → w0.heap.size ≤ b) ∧ ∀ b, Y b → b < w.heap.size ∧ ¬ l.at b
namespace InY
variable {w0 w w' : World} {p : Nat} {Y Y' : Nat → Prop} {S S' : IX} {N N' : Nat}
theorem of (h : InX w0 p S N w) : InY w0 p (fun _ => False) S N w := by
  obtain ⟨l, e, hi, hl, hw, hf⟩ := h
  exact ⟨l, e, hi, hl, hw, hf, fun b h => h.elim⟩
theorem bel (h : InY w0 p Y S N w) : Below w0.heap.size w0 w := by obtain ⟨_, _, _, _, h, _⟩ := h; exact h
/-- the world goes on elsewhere; blocks that are new, or that Y has, or that were there ahead of all -/
theorem on (h : InY w0 p Y S N w) (hb : Below w.heap.size w w') (hY : ∀ b, Y' b → b < w'.heap.size ∧ (Y b ∨ w.heap.size ≤ b ∨ b < w0.heap.size)) : InY w0 p Y' S N w' := by
  obtain ⟨l, e, hi, hl, hw, hf, hy⟩ := h
  refine ⟨l, e, hi.below hb, hl, hw.trans (hb.mono hw.size), hf, fun b hb' => ⟨(hY b hb').1, fun ha => ?_⟩⟩
  rcases (hY b hb').2 with h | h | h
  · exact (hy b h).2 ha
  · have := hi.lt b ha; omega
  · have := hf b ha; omega
theorem drew (h : InY w0 p Y S N w) : InY w0 p Y S N w.drew := by
  obtain ⟨l, e, hi, hl, hw, hf, hy⟩ := h
  exact ⟨l, e, hi.drew, hl, ⟨hw.os, hw.tape, hw.output, hw.size, hw.block⟩, hf, hy⟩
/-- a block of Y turns -/
theorem turn {g : Nat} (h : InY w0 p Y S N w) (hg : w.grownBy w' (some g)) (hY : Y g) (h0 : w0.heap.size ≤ g) : InY w0 p Y S N w' := by
  obtain ⟨l, e, hi, hl, hw, hf, hy⟩ := h
  have hne : ∀ b, l.at b → b ≠ g := fun b hb e => (hy g hY).2 (e ▸ hb)
  exact ⟨l, e, hi.keep fun b hb => hg.block b (hi.lt b hb) (by simpa using hne b hb), hl, hw.trans (Gr.below hg hw.size h0), hf, fun b hb => ⟨Nat.lt_of_lt_of_le (hy b hb).1 hg.size, (hy b hb).2⟩⟩
theorem more (h : InY w0 p Y S N w) (hN : N ≤ N') : InY w0 p Y S N' w := by
  obtain ⟨l, e, hi, hl, hw, hf, hy⟩ := h
  exact ⟨l, e, hi.more hN, hl, hw, hf, hy⟩
theorem less (h : InY w0 p Y S N w) (hY : ∀ b, Y' b → Y b) : InY w0 p Y' S N w := by
  obtain ⟨l, e, hi, hl, hw, hf, hy⟩ := h
  exact ⟨l, e, hi, hl, hw, hf, fun b hb => hy b (hY b hb)⟩
theorem toX (h : InY w0 p Y S N w) : InX w0 p S N w := by
  obtain ⟨l, e, hi, hl, hw, hf, hy⟩ := h
  exact ⟨l, e, hi, hl, hw, hf⟩
theorem gone {l : IL} (hp : l.p = p) (hi : IsIX w l S N) (hw : Below w0.heap.size w0 w) (hf : ∀ b, l.at b → w0.heap.size ≤ b) (hy : ∀ b, Y b → b < w.heap.size ∧ ¬ l.at b) (hl : LOk S') (h : Gone w l S' N' w') : InY w0 p Y S' N' w' ∧ ∀ b, Y b → w'.heap[b]? = w.heap[b]? := by
  obtain ⟨l2, e, hi2, hs⟩ := h
  refine ⟨⟨l2, e.trans hp, hi2.out, hl, hw.trans (hs.out.below hw.size hf), hs.out.base hw.size hf, fun b hb => ⟨Nat.lt_of_lt_of_le (hy b hb).1 hs.out.size, fun ha => ?_⟩⟩, fun b hb => hs.out.block b (hy b hb).1 (hy b hb).2⟩
  rcases hs.out.more b ha with h | h
  · exact (hy b hb).2 h
  · have := (hy b hb).1; omega
end InY
section
variable {w0 w : World} {p : Nat} {Y : Nat → Prop} {S : IX} {N : Nat}
theorem put_y (k : ByteArray) (x : LT) (h : InY w0 p Y S N w) (hN : N ≤ 99999980) (hk : k.size ≤ 1000000) (hx : (Lit.int .i64 x.seg).wf = true) :
    Calls Try.prog 11 #[pI p, .string k, .agg #[.int .i64 x.seg, .int .i64 x.pos, .int .i64 x.seq]] w fun e w' => e = .returned (.bool (newsB S k x.seq)) ∧ Hid (InY w0 p Y (if newsB S k x.seq then put1 S k x else S) (N + 3) w') ∧ Hid (∀ b, Y b → w'.heap[b]? = w.heap[b]?) := by
  obtain ⟨l, rfl, hi, hl, hw, hf, hy⟩ := h
  refine (put_any l S N k x w hi hN hk hx hl).mono ?_
  rintro e w' ⟨rfl, hG⟩
  obtain ⟨h1, h2⟩ := InY.gone rfl hi hw hf hy (by split; exact put1_ok hl k hx; exact hl) hG
  exact ⟨rfl, Lib.hid h1, Lib.hid h2⟩
theorem move_y (k : ByteArray) (x y : LT) (h : InY w0 p Y S N w) (hN : N ≤ 99999980) (hk : k.size ≤ 1000000) (hx : (Lit.int .i64 y.seg).wf = true) :
    Calls Try.prog 14 #[pI p, .string k, .agg #[.int .i64 x.seg, .int .i64 x.pos, .int .i64 x.seq], .agg #[.int .i64 y.seg, .int .i64 y.pos, .int .i64 y.seq]] w fun e w' => e = .returned (.bool (mayMove S k x y)) ∧ Hid (InY w0 p Y (if mayMove S k x y then place1 S k y else S) (N + 3) w') ∧ Hid (∀ b, Y b → w'.heap[b]? = w.heap[b]?) := by
  obtain ⟨l, rfl, hi, hl, hw, hf, hy⟩ := h
  refine (move_any l S N k x y w hi hN hk hx hl).mono ?_
  rintro e w' ⟨rfl, hG⟩
  obtain ⟨h1, h2⟩ := InY.gone rfl hi hw hf hy (by split; exact place1_ok hl k hx; exact hl) hG
  exact ⟨rfl, Lib.hid h1, Lib.hid h2⟩
end
def kJ : ByteArray := ⟨#[106]⟩
/-- one key, which lies in the segment sg at i -/
structure Sm (S : IX) (sg i : Int) : Prop where
  k : S.loc kK = some ⟨sg, i, 7⟩
  j : S.loc kJ = none
  n : S.n = 1
  c : ∀ a, S.cnt a = if a = sg then 1 else 0
theorem Sm.step {S : IX} {sg i : Int} (h : Sm S sg i) (t j : Int) : Sm (place1 S kK ⟨t, j, 7⟩) t j := by
  have hd : drop1 S kK = { S with loc := fdel S.loc kK, n := S.n - 1, cnt := cadd S.cnt sg (-1) } := by unfold drop1; rw [h.k]
  refine ⟨by simp [place1, fput], ?_, ?_, fun a => ?_⟩
  · simp only [place1, hd, fput, fdel]
    rw [if_neg (by decide), if_neg (by decide), h.j]
  · simp only [place1, hd]; rw [h.n]
  · simp only [place1, hd, cadd, h.c]
    by_cases h1 : a = t <;> by_cases h2 : a = sg <;> by_cases h3 : t = sg <;> simp_all
theorem Sm.m1 {S : IX} {sg i : Int} (h : Sm S sg i) (y : LT) : mayMove S kK ⟨sg, i + 100, 7⟩ y = false := by
  unfold mayMove; rw [h.k]
  exact decide_eq_false (by rintro ⟨e, _⟩; simp only [LT.mk.injEq] at e; omega)
theorem Sm.m2 {S : IX} {sg i : Int} (h : Sm S sg i) (x y : LT) : mayMove S kJ x y = false := by
  unfold mayMove; rw [h.j]
theorem Sm.m3 {S : IX} {sg i : Int} (h : Sm S sg i) (t j : Int) : mayMove S kK ⟨sg, i, 7⟩ ⟨t, j, 8⟩ = false := by
  unfold mayMove; rw [h.k]
  exact decide_eq_false (by rintro ⟨_, e⟩; simp at e)
theorem Sm.m4 {S : IX} {sg i : Int} (h : Sm S sg i) (t j : Int) : mayMove S kK ⟨sg, i, 7⟩ ⟨t, j, 7⟩ = true := by
  unfold mayMove; rw [h.k]
  exact decide_eq_true ⟨rfl, rfl⟩
theorem sm_start : newsB S0 kK 7 = true ∧ Sm (put1 S0 kK ⟨1, 0, 7⟩) 1 0 := by
  refine ⟨rfl, by decide +kernel, by decide +kernel, rfl, fun a => ?_⟩
  simp only [put1, place1, drop1, S0, cadd]
  split <;> simp_all
attribute [local go_sem ↓] loadL_eq storeL_eq buildL_eq
attribute [local go_sem] run_buildL0 run_buildL1 run_buildL2 run_buildL3
set_option maxHeartbeats 16000000 in
theorem indexMoves_walk (a0 : Option Addr) (n0 cap0 : Nat) (z0 : List Int) (w : World) (h0 : IsRow .i64 w a0 n0 cap0 z0) : Calls Try.prog 5 #[.slice a0 n0 cap0] w fun e w' => e = .returned (.bool true) ∧ Below w.heap.size w w' := by
  have hbg := begun_any w
  have H0 := Lib.hid h0
  have hm0 : n0 ≤ 9223372036854775807 := by have := h0.len_le; unfold maxLen at this; omega
  clear h0
  go_enter Try.func5, Try.ntmps5
  go_wp2_with fail
  refine hbg.mono ?_
  rintro e w1 ⟨rfl, hb1⟩
  have HB1 := Lib.hid hb1
  have hnew := new_any w1
  clear hbg hb1
  go_wp2_with fail
  refine hnew.mono ?_
  rintro e w2 ⟨p, rfl, hI2⟩
  obtain ⟨w3, w4, hw3, hst, hk4, hb4⟩ := own_loc w2 ⟨1, 0, 7⟩
  simp only [locV] at hst
  have hld := run_loadL_blk hk4
  obtain ⟨g, hg⟩ : ∃ g, w2.heap.size = g := ⟨_, rfl⟩
  rw [hg] at hk4 hld hst
  have hI4 : InY w1 p (fun x => x = g) S0 0 w4 := (InY.of hI2.out).on hb4 (fun b hb => by subst hb; exact ⟨hk4.lt, .inr (.inl (by omega))⟩)
  have HG1 := Lib.hid (show w1.heap.size ≤ g by have := hI2.out.bel.size; omega)
  have hpu := put_y kK ⟨1, 0, 7⟩ hI4 (by omega) (by decide) (show (Lit.int .i64 1).wf = true by decide)
  simp only [sm_start.1, if_true] at hpu
  have HK4 := Lib.hid hk4
  clear hnew hb4 hk4 hI4 hI2
  go_wp2_with fail
  refine hpu.mono ?_
  rintro e w5 ⟨rfl, hI5, hh5⟩
  have HK5 : Hid (Blk w5 g 30 (locC ⟨1, 0, 7⟩)) := Lib.hid ((hh5.out g rfl).trans HK4.out)
  clear hpu hh5 HK4 hld hg
  go_wp2_with fail
  go_loopw [6] (fun v wr => ∃ (i : Nat) (S : IX) (sg : Int), i ≤ n0 ∧ i ≤ 30 ∧ v = .int .i64 i ∧ Hid (InY w1 p (fun x => x = g) S (20 * i + 10) wr) ∧ Hid (Sm S sg i) ∧ Hid (Blk wr g 30 (locC ⟨sg, i, 7⟩))) (fun v _ => 30 - (intOf v).toNat)
  case atStart => exact ⟨0, _, 1, by omega, by omega, rfl, Lib.hid (hI5.out.more (by omega)), Lib.hid sm_start.2, HK5⟩
  case round =>
    obtain ⟨i, S, sg, hi, hi30, rfl, HI, HO, HK⟩ := hrel
    by_cases hlt : i < n0
    · have q1 : decide ((i : Int) < (n0 : Int)) = true := decide_eq_true (by omega)
      have q1' : decide (i < n0) = true := decide_eq_true hlt
      by_cases hlt3 : i < 30
      · have q2 : decide ((i : Int) < 30) = true := decide_eq_true (by omega)
        have q2' : decide (i < 30) = true := decide_eq_true hlt3
        obtain ⟨b, o, rfl, hbl, hz, hmx, hc, hwf⟩ := H0.out.cells (by omega)
        have c0 := hc i hlt
        have HWF := Lib.hid (hwf i hlt)
        obtain ⟨t, ht⟩ : ∃ t, z0.getD i 0 = t := ⟨_, rfl⟩
        rw [ht] at c0 HWF
        have HBL := Lib.hid hbl
        have HC0 := Lib.hid c0
        have c1 : wr.cell? ⟨b, o + i, none⟩ = some (.int .i64 t) := ((HB1.out.trans (HI.out.bel.mono HB1.out.size)).cell (p := ⟨b, o + i, none⟩) hbl).trans c0
        clear hc hwf c0 ht hz hmx hbl
        obtain ⟨wa, wb, hwa, hsta, hkb, hbb⟩ := own_loc wr ⟨t, i + 1, 7⟩
        simp only [locV] at hsta
        have hkg := HK.out.below hbb HK.out.lt
        have hldb := run_loadL_blk hkg
        obtain ⟨wc, wd, hwc, hstc, hkd, hbd⟩ := own_loc wb ⟨sg, i, 7⟩
        simp only [locV] at hstc
        have hkT := hkb.below hbd hkb.lt
        have hkG := hkg.below hbd hkg.lt
        obtain ⟨gt, hgt⟩ : ∃ gt, wr.heap.size = gt := ⟨_, rfl⟩
        obtain ⟨gw, hgw⟩ : ∃ gw, wb.heap.size = gw := ⟨_, rfl⟩
        rw [hgt] at hkT hsta
        rw [hgw] at hkd hstc
        have cw := hkd.cell (o := 1) rfl
        have fw := hkd.frozen 1
        have q3 : IntKind.i64.wrap ((i : Int) + 100) = (i : Int) + 100 := by rw [IntKind.wrap_i64]; omega
        obtain ⟨we, hwe⟩ : ∃ we, wd.setCell ⟨gw, 1, none⟩ (.int .i64 ((i : Int) + 100)) = we := ⟨_, rfl⟩
        have hge : wd.grownBy we (some gw) := by rw [← hwe]; exact Gr.setCell (Gr.refl _ _) _ _
        have hkW : Blk we gw 30 (locC ⟨sg, i + 100, 7⟩) := by rw [← hwe]; exact hkd.set 1 _
        have hs1 : gt < wb.heap.size := by rw [← hgt]; exact hkb.lt
        have hs2 : g < wr.heap.size := HK.out.lt
        have hkTe : Blk we gt 30 (locC ⟨t, i + 1, 7⟩) := hkT.grown hge (by simp; omega)
        have hkGe : Blk we g 30 (locC ⟨sg, i, 7⟩) := hkG.grown hge (by simp; omega)
        have hIY : InY w1 p (fun x => x = g ∨ x = gt ∨ x = gw ∨ x = b) S (20 * i + 10) wd := HI.out.on (hbb.trans (hbd.mono hbb.size)) (fun x hx => by
          have hl := hkd.lt
          have hb2 := hbd.size
          have hb3 := hbb.size
          have hw1 := HI.out.bel.size
          have hw0 := HB1.out.size
          have hbl := HBL.out
          rcases hx with rfl | rfl | rfl | rfl
          · exact ⟨by omega, .inl rfl⟩
          · exact ⟨by omega, .inr (.inl (by omega))⟩
          · exact ⟨by omega, .inr (.inl (by omega))⟩
          · exact ⟨by omega, .inr (.inr (by omega))⟩)
        have HIE := Lib.hid (hIY.turn hge (.inr (.inr (.inl rfl))) (by have := HI.out.bel.size; have := hbb.size; omega))
        have HBE : Hid (Below w.heap.size w we) := Lib.hid (HB1.out.trans (HIE.out.bel.mono HB1.out.size))
        have HLW : Hid (∀ W : World, (∀ x, x = g ∨ x = gt ∨ x = gw ∨ x = b → W.heap[x]? = we.heap[x]?) → (loadL (.pointer (some ⟨gw, 0, none⟩))).run Try.prog W = .ok (.agg #[.int .i64 sg, .int .i64 ((i : Int) + 100), .int .i64 7]) W) := Lib.hid fun W hW => run_loadL_blk (l := ⟨sg, i + 100, 7⟩) ((hW gw (.inr (.inr (.inl rfl)))).trans hkW)
        have HLT : Hid (∀ W : World, (∀ x, x = g ∨ x = gt ∨ x = gw ∨ x = b → W.heap[x]? = we.heap[x]?) → (loadL (.pointer (some ⟨gt, 0, none⟩))).run Try.prog W = .ok (.agg #[.int .i64 t, .int .i64 ((i : Int) + 1), .int .i64 7]) W) := Lib.hid fun W hW => run_loadL_blk (l := ⟨t, i + 1, 7⟩) ((hW gt (.inr (.inl rfl))).trans hkTe)
        have HLG : Hid (∀ W : World, (∀ x, x = g ∨ x = gt ∨ x = gw ∨ x = b → W.heap[x]? = we.heap[x]?) → (loadL (.pointer (some ⟨g, 0, none⟩))).run Try.prog W = .ok (.agg #[.int .i64 sg, .int .i64 (i : Int), .int .i64 7]) W) := Lib.hid fun W hW => run_loadL_blk (l := ⟨sg, i, 7⟩) ((hW g (.inl rfl)).trans hkGe)
        have HCR : Hid (∀ W : World, (∀ x, x = g ∨ x = gt ∨ x = gw ∨ x = b → W.heap[x]? = we.heap[x]?) → W.cell? ⟨b, o + i, none⟩ = some (.int .i64 t)) := Lib.hid fun W hW => by
          have h1 : W.heap[b]? = w.heap[b]? := (hW b (.inr (.inr (.inr rfl)))).trans (HBE.out.block b HBL.out)
          have h2 := HC0.out
          simp only [World.cell?] at h2 ⊢
          rw [h1]
          exact h2
        have HGE := Lib.hid hkGe
        have HTE := Lib.hid hkTe
        have hHeld : ∀ x, x = g ∨ x = gt ∨ x = gw ∨ x = b → we.drew.heap[x]? = we.heap[x]? := fun _ _ => rfl
        have hm1 := move_y kK ⟨sg, i + 100, 7⟩ ⟨t, i + 1, 7⟩ (show InY w1 p (fun x => x = g ∨ x = gt ∨ x = gw ∨ x = b) S (20 * i + 10) we.drew from HIE.out.drew) (by omega) (by decide) HWF.out
        simp only [HO.out.m1] at hm1
        clear hkb hbb hkg hbd hkT hkG hkd hge hkW hkTe hkGe hIY hs1 hs2
        go_wp2_with fail
        refine wp_region_noPanic ?_
        refine wpAnyH_start (n := 20) (l := #[false, false, false, false, false, false, false, false, false, false, false, false, false, false, false, false, false, false, false, false]) (S := fun W => ∀ x, x = g ∨ x = gt ∨ x = gw ∨ x = b → W.heap[x]? = we.heap[x]?) (by kernel_rfl) (hHeld) (by kernel_rfl) (by kernel_rfl) ?_
        refine wpAnyH_take (i := 0) (oi := _) (v := ?_) rfl (by kernel_rfl) (by kernel_rfl) (by kernel_rfl) (fun _ _ _ h => h) (Or.inl ⟨by rfl, ?_⟩) (by assumption) ?_
        rotate_left
        · intro wq hSw; go_simp; try with_reducible rfl
        simp only [Act.put, List.setIfInBounds_toArray, List.set_cons_zero, List.set_cons_succ, List.getElem_toArray, List.getElem_cons_zero, List.getElem_cons_succ]
        refine wpAnyH_take (i := 1) (oi := _) (v := ?_) rfl (by kernel_rfl) (by kernel_rfl) (by kernel_rfl) (fun _ _ _ h => h) (Or.inl ⟨by rfl, ?_⟩) (by assumption) ?_
        rotate_left
        · intro wq hSw; have lq := HLW.out wq hSw; go_simp; try with_reducible rfl
        simp only [Act.put, List.setIfInBounds_toArray, List.set_cons_zero, List.set_cons_succ, List.getElem_toArray, List.getElem_cons_zero, List.getElem_cons_succ]
        refine wpAnyH_take (i := 2) (oi := _) (v := ?_) rfl (by kernel_rfl) (by kernel_rfl) (by kernel_rfl) (fun _ _ _ h => h) (Or.inl ⟨by rfl, ?_⟩) (by assumption) ?_
        rotate_left
        · intro wq hSw; have lq := HLT.out wq hSw; go_simp; try with_reducible rfl
        simp only [Act.put, List.setIfInBounds_toArray, List.set_cons_zero, List.set_cons_succ, List.getElem_toArray, List.getElem_cons_zero, List.getElem_cons_succ]
        refine wpAnyH_ready (rs := [3]) (by kernel_rfl) (by simp) ?_
        refine AllReadyH.cons (o := _) rfl (fun K hK => ?_) AllReadyH.nil
        simp only [List.getElem_toArray, List.getElem_cons_zero, List.getElem_cons_succ]
        go_simp
        refine hm1.mono ?_; rintro r w6 ⟨rfl, hI6, hh6⟩
        refine hK.out _ _ (hh6.out) (fun _ => ?_)
        clear hK K
        have HI6 : Hid (InY w1 p (fun x => x = g ∨ x = gt ∨ x = gw ∨ x = b) S (20 * i + 13) w6) := hI6
        have hHeld := hh6.out
        have HH6 := Lib.hid hHeld
        have hm2 := move_y kJ ⟨sg, i, 7⟩ ⟨t, i + 1, 7⟩ HI6.out (by omega) (by decide) HWF.out
        simp only [HO.out.m2] at hm2
        clear hm1 hI6 hh6
        simp only [Act.put, List.setIfInBounds_toArray, List.set_cons_zero, List.set_cons_succ, List.getElem_toArray, List.getElem_cons_zero, List.getElem_cons_succ]
        refine wpAnyH_take (i := 4) (oi := _) (v := ?_) rfl (by kernel_rfl) (by kernel_rfl) (by kernel_rfl) (fun _ _ _ h => h) (Or.inl ⟨by rfl, ?_⟩) (by assumption) ?_
        rotate_left
        · intro wq hSw; go_simp; try with_reducible rfl
        simp only [Act.put, List.setIfInBounds_toArray, List.set_cons_zero, List.set_cons_succ, List.getElem_toArray, List.getElem_cons_zero, List.getElem_cons_succ]
        refine wpAnyH_take (i := 5) (oi := _) (v := ?_) rfl (by kernel_rfl) (by kernel_rfl) (by kernel_rfl) (fun _ _ _ h => h) (Or.inl ⟨by rfl, ?_⟩) (by assumption) ?_
        rotate_left
        · intro wq hSw; go_simp; try with_reducible rfl
        simp only [Act.put, List.setIfInBounds_toArray, List.set_cons_zero, List.set_cons_succ, List.getElem_toArray, List.getElem_cons_zero, List.getElem_cons_succ]
        refine wpAnyH_take (i := 6) (oi := _) (v := ?_) rfl (by kernel_rfl) (by kernel_rfl) (by kernel_rfl) (fun _ _ _ h => h) (Or.inl ⟨by rfl, ?_⟩) (by assumption) ?_
        rotate_left
        · intro wq hSw; have lq := HLG.out wq hSw; go_simp; try with_reducible rfl
        simp only [Act.put, List.setIfInBounds_toArray, List.set_cons_zero, List.set_cons_succ, List.getElem_toArray, List.getElem_cons_zero, List.getElem_cons_succ]
        refine wpAnyH_take (i := 7) (oi := _) (v := ?_) rfl (by kernel_rfl) (by kernel_rfl) (by kernel_rfl) (fun _ _ _ h => h) (Or.inl ⟨by rfl, ?_⟩) (by assumption) ?_
        rotate_left
        · intro wq hSw; have lq := HLT.out wq hSw; go_simp; try with_reducible rfl
        simp only [Act.put, List.setIfInBounds_toArray, List.set_cons_zero, List.set_cons_succ, List.getElem_toArray, List.getElem_cons_zero, List.getElem_cons_succ]
        refine wpAnyH_ready (rs := [8]) (by kernel_rfl) (by simp) ?_
        refine AllReadyH.cons (o := _) rfl (fun K hK => ?_) AllReadyH.nil
        simp only [List.getElem_toArray, List.getElem_cons_zero, List.getElem_cons_succ]
        go_simp
        refine hm2.mono ?_; rintro r w7 ⟨rfl, hI7, hh7⟩
        refine hK.out _ _ (fun x hx => (hh7.out x hx).trans (HH6.out x hx)) (fun _ => ?_)
        clear hK K
        have HI7 : Hid (InY w1 p (fun x => x = g ∨ x = gt ∨ x = gw ∨ x = b) S (20 * i + 16) w7) := hI7
        have hHeld : ∀ x, x = g ∨ x = gt ∨ x = gw ∨ x = b → w7.heap[x]? = we.heap[x]? := fun x hx => (hh7.out x hx).trans (HH6.out x hx)
        have HH7 := Lib.hid hHeld
        have hm3 := move_y kK ⟨sg, i, 7⟩ ⟨t, 0, 8⟩ HI7.out (by omega) (by decide) HWF.out
        simp only [HO.out.m3] at hm3
        clear hm2 hI7 hh7 HI6 HH6
        simp only [Act.put, List.setIfInBounds_toArray, List.set_cons_zero, List.set_cons_succ, List.getElem_toArray, List.getElem_cons_zero, List.getElem_cons_succ]
        refine wpAnyH_take (i := 9) (oi := _) (v := ?_) rfl (by kernel_rfl) (by kernel_rfl) (by kernel_rfl) (fun _ _ _ h => h) (Or.inl ⟨by rfl, ?_⟩) (by assumption) ?_
        rotate_left
        · intro wq hSw; go_simp; try with_reducible rfl
        simp only [Act.put, List.setIfInBounds_toArray, List.set_cons_zero, List.set_cons_succ, List.getElem_toArray, List.getElem_cons_zero, List.getElem_cons_succ]
        refine wpAnyH_take (i := 10) (oi := _) (v := ?_) rfl (by kernel_rfl) (by kernel_rfl) (by kernel_rfl) (fun _ _ _ h => h) (Or.inl ⟨by rfl, ?_⟩) (by assumption) ?_
        rotate_left
        · intro wq hSw; go_simp; try with_reducible rfl
        simp only [Act.put, List.setIfInBounds_toArray, List.set_cons_zero, List.set_cons_succ, List.getElem_toArray, List.getElem_cons_zero, List.getElem_cons_succ]
        refine wpAnyH_take (i := 11) (oi := _) (v := ?_) rfl (by kernel_rfl) (by kernel_rfl) (by kernel_rfl) (fun _ _ _ h => h) (Or.inl ⟨by rfl, ?_⟩) (by assumption) ?_
        rotate_left
        · intro wq hSw; go_simp; try with_reducible rfl
        simp only [Act.put, List.setIfInBounds_toArray, List.set_cons_zero, List.set_cons_succ, List.getElem_toArray, List.getElem_cons_zero, List.getElem_cons_succ]
        refine wpAnyH_take (i := 12) (oi := _) (v := ?_) rfl (by kernel_rfl) (by kernel_rfl) (by kernel_rfl) (fun _ _ _ h => h) (Or.inl ⟨by rfl, ?_⟩) (by assumption) ?_
        rotate_left
        · intro wq hSw; have lq := HLG.out wq hSw; go_simp; try with_reducible rfl
        simp only [Act.put, List.setIfInBounds_toArray, List.set_cons_zero, List.set_cons_succ, List.getElem_toArray, List.getElem_cons_zero, List.getElem_cons_succ]
        refine wpAnyH_take (i := 13) (oi := _) (v := ?_) rfl (by kernel_rfl) (by kernel_rfl) (by kernel_rfl) (fun _ _ _ h => h) (Or.inl ⟨by rfl, ?_⟩) (by assumption) ?_
        rotate_left
        · intro wq hSw; go_simp; try with_reducible rfl
        simp only [Act.put, List.setIfInBounds_toArray, List.set_cons_zero, List.set_cons_succ, List.getElem_toArray, List.getElem_cons_zero, List.getElem_cons_succ]
        refine wpAnyH_take (i := 14) (oi := _) (v := ?_) rfl (by kernel_rfl) (by kernel_rfl) (by kernel_rfl) (fun _ _ _ h => h) (Or.inl ⟨by rfl, ?_⟩) (by assumption) ?_
        rotate_left
        · intro wq hSw; go_simp; try with_reducible rfl
        simp only [Act.put, List.setIfInBounds_toArray, List.set_cons_zero, List.set_cons_succ, List.getElem_toArray, List.getElem_cons_zero, List.getElem_cons_succ]
        refine wpAnyH_take (i := 15) (oi := _) (v := ?_) rfl (by kernel_rfl) (by kernel_rfl) (by kernel_rfl) (fun _ _ _ h => h) (Or.inl ⟨by rfl, ?_⟩) (by assumption) ?_
        rotate_left
        · intro wq hSw; go_simp; try with_reducible rfl
        simp only [Act.put, List.setIfInBounds_toArray, List.set_cons_zero, List.set_cons_succ, List.getElem_toArray, List.getElem_cons_zero, List.getElem_cons_succ]
        refine wpAnyH_take (i := 16) (oi := _) (v := ?_) rfl (by kernel_rfl) (by kernel_rfl) (by kernel_rfl) (fun _ _ _ h => h) (Or.inl ⟨by rfl, ?_⟩) (by assumption) ?_
        rotate_left
        · intro wq hSw; have cq := HCR.out wq hSw; go_simp; try with_reducible rfl
        simp only [Act.put, List.setIfInBounds_toArray, List.set_cons_zero, List.set_cons_succ, List.getElem_toArray, List.getElem_cons_zero, List.getElem_cons_succ]
        refine wpAnyH_take (i := 17) (oi := _) (v := ?_) rfl (by kernel_rfl) (by kernel_rfl) (by kernel_rfl) (fun _ _ _ h => h) (Or.inl ⟨by rfl, ?_⟩) (by assumption) ?_
        rotate_left
        · intro wq hSw; go_simp; try with_reducible rfl
        simp only [Act.put, List.setIfInBounds_toArray, List.set_cons_zero, List.set_cons_succ, List.getElem_toArray, List.getElem_cons_zero, List.getElem_cons_succ]
        refine wpAnyH_ready (rs := [18]) (by kernel_rfl) (by simp) ?_
        refine AllReadyH.cons (o := _) rfl (fun K hK => ?_) AllReadyH.nil
        simp only [List.getElem_toArray, List.getElem_cons_zero, List.getElem_cons_succ]
        go_simp
        refine hm3.mono ?_; rintro r w8 ⟨rfl, hI8, hh8⟩
        refine hK.out _ _ (fun x hx => (hh8.out x hx).trans (HH7.out x hx)) (fun _ => ?_)
        clear hK K
        have HI8 : Hid (InY w1 p (fun x => x = g ∨ x = gt ∨ x = gw ∨ x = b) S (20 * i + 19) w8) := hI8
        have hHeld : ∀ x, x = g ∨ x = gt ∨ x = gw ∨ x = b → w8.heap[x]? = we.heap[x]? := fun x hx => (hh8.out x hx).trans (HH7.out x hx)
        have HH8 := Lib.hid hHeld
        clear hm3 hI8 hh8 HI7 HH7
        simp only [Act.put, List.setIfInBounds_toArray, List.set_cons_zero, List.set_cons_succ, List.getElem_toArray, List.getElem_cons_zero, List.getElem_cons_succ]
        refine wpAnyH_take (i := 19) (oi := _) (v := ?_) rfl (by kernel_rfl) (by kernel_rfl) (by kernel_rfl) (fun _ _ _ h => h) (Or.inl ⟨by rfl, ?_⟩) (by assumption) ?_
        rotate_left
        · intro wq hSw; go_simp; try with_reducible rfl
        simp only [Act.put, List.setIfInBounds_toArray, List.set_cons_zero, List.set_cons_succ, List.getElem_toArray, List.getElem_cons_zero, List.getElem_cons_succ]
        refine wpAnyH_done (by kernel_rfl) ?_ _
        refine NoPanic.normal ?_
        have hkT8 : Blk w8 gt 30 (locC ⟨t, i + 1, 7⟩) := (HH8.out gt (.inr (.inl rfl))).trans HTE.out
        have hkG8 : Blk w8 g 30 (locC ⟨sg, i, 7⟩) := (HH8.out g (.inl rfl)).trans HGE.out
        have hl1 := run_loadL_blk hkT8
        have hl2 := run_loadL_blk hkG8
        have hm4 := move_y kK ⟨sg, i, 7⟩ ⟨t, i + 1, 7⟩ HI8.out (by omega) (by decide) HWF.out
        simp only [HO.out.m4, if_true] at hm4
        have HT8 := Lib.hid hkT8
        have HG8 := Lib.hid hkG8
        clear hkT8 hkG8 hHeld HH8
        go_wp2_with fail
        refine hm4.mono ?_
        rintro r w9 ⟨rfl, hI9, hh9⟩
        have hkT9 : Blk w9 gt 30 (locC ⟨t, i + 1, 7⟩) := (hh9.out gt (.inr (.inl rfl))).trans HT8.out
        have hkG9 : Blk w9 g 30 (locC ⟨sg, i, 7⟩) := (hh9.out g (.inl rfl)).trans HG8.out
        have hl3 := run_loadL_blk hkT9
        obtain ⟨w10, hst10, hk10, hg10⟩ := putL ⟨t, i + 1, 7⟩ hkG9 rfl
        have HI10 := Lib.hid (hI9.out.turn hg10.out (.inl rfl) HG1.out)
        have HS := Lib.hid (HO.out.step t (i + 1))
        have hg := get_h kK HI10.out.toX (by decide)
        rw [HS.out.k] at hg
        simp only [Option.getD_some, Option.isSome_some, locV] at hg
        clear hm4 hl1 hl2 hh9 hkT9 hkG9 hg10 hI9
        go_wp2_with fail
        refine hg.mono ?_
        rintro e w11 ⟨rfl, _, hb11⟩
        obtain ⟨w12, w13, hw12, hst13, hk13, hb13⟩ := own_loc w11 ⟨t, i + 1, 7⟩
        simp only [locV] at hst13
        have hb1013 := hb11.out.trans (hb13.mono hb11.out.size)
        have hkG13 := hk10.out.below hb1013 hk10.out.lt
        have d0 : w13.cell? ⟨w11.heap.size, 0, none⟩ = some (.int .i64 t) := hk13.cell rfl
        have d1 : w13.cell? ⟨w11.heap.size, 1, none⟩ = some (.int .i64 (i + 1)) := hk13.cell rfl
        have e0 : w13.cell? ⟨g, 0, none⟩ = some (.int .i64 t) := hkG13.cell rfl
        have e1 : w13.cell? ⟨g, 1, none⟩ = some (.int .i64 (i + 1)) := hkG13.cell rfl
        have HI13 : Hid (InY w1 p (fun x => x = g) _ _ w13) := Lib.hid (HI10.out.on hb1013 (fun b hb => by subst hb; exact ⟨hkG13.lt, .inl (.inl rfl)⟩))
        have hct := count_h t HI13.out.toX HWF.out
        rw [HS.out.c t, if_pos rfl] at hct
        have HK13 := Lib.hid hkG13
        have q5 : (t == t) = true := by simp
        have q6 : ((i : Int) + 1 == (i : Int) + 1) = true := by simp
        clear hg hb11 hk10 hk13 hb13 hb1013 hkG13
        go_wp2_with fail
        refine hct.mono ?_
        rintro e w14 ⟨rfl, rfl⟩
        clear hct
        go_wp2_with fail
        go_roundw
        case rel => exact ⟨i + 1, _, t, by omega, by omega, by first | rfl | go_num, Lib.hid (HI13.out.more (by omega)), HS, HK13⟩
        case measure => simp only [intOf_i]; omega
      · obtain rfl : i = 30 := by omega
        have q2 : decide (((30 : Nat) : Int) < 30) = false := by decide
        have hln := len_h HI.out.toX
        rw [HO.out.n] at hln
        clear hlt3
        go_wp2_with fail
        refine hln.mono ?_
        rintro e w6 ⟨rfl, rfl⟩
        clear hln
        go_wp2_with fail
        go_ret
        exact ⟨rfl, HB1.out.trans (HI.out.bel.mono HB1.out.size)⟩
    · obtain rfl : i = n0 := by omega
      have q1 : decide ((i : Int) < (i : Int)) = false := decide_eq_false (by omega)
      have hln := len_h HI.out.toX
      rw [HO.out.n] at hln
      clear hlt hi
      go_wp2_with fail
      refine hln.mono ?_
      rintro e w6 ⟨rfl, rfl⟩
      clear hln
      go_wp2_with fail
      go_ret
      exact ⟨rfl, HB1.out.trans (HI.out.bel.mono HB1.out.size)⟩
end Go.Proofs.Ythgpdnffahmhjaa.S20
