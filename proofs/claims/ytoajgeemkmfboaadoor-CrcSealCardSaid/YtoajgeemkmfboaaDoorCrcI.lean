/- CrcSeal, walked. -/
import Derived.Test.YtoajgeemkmfboaaDoorCrcH
set_option linter.unusedSimpArgs false
set_option linter.unusedVariables false
namespace Go.Proofs.YtoajgeemkmfboaaDoor
open Go.RowKit Pl

theorem openOk_more (B : List Nat) (c : Nat) (h : B.length < 4294967296) : openOk (pseal B ++ [c]) = false := by
  unfold openOk
  rw [seal_endAt B [c] h]
  have : ((12 + B.length) == (pseal B ++ [c]).length) = false := by simp [pseal_length]
  rw [this]
  simp
theorem MadePost.c {B : List Nat} {w w' : World} {e : Ending} {n : Nat} (hx : ∀ x ∈ B, x < 256) (hn : B.length = n) (h : MadePost B w e w') : MadeC (str B) n w e w' := h.s.c hx hn
theorem open_no {C : List Nat} {w w' : World} {e : Ending} (h : OpenPost C w e w') (hC : openOk C = false) : ∃ a c, e = .returned (.tuple #[.slice a 0 c, .bool false]) ∧ Below w.heap.size w w' := by
  obtain ⟨v', he, hb, hi⟩ := h
  rw [hC] at he hi
  obtain ⟨a, c, rfl, _, _⟩ := hi.slice
  exact ⟨a, c, he, hb⟩

attribute [local go_sem ↓] conv_eq
set_option maxHeartbeats 4000000 in
set_option maxRecDepth 100000 in
theorem crcSeal_walk (a : Option Addr) (len cap : Nat) (z : List Int) (w : World) (hT : Tab w) (hr : IsRow .u8 w a len cap z) :
    Calls Tryd.prog 4 #[.slice a len cap] w fun e w' => e = .returned (.bool true) ∧ Below w.heap.size w w' := by
  obtain ⟨hV, hlen⟩ := isBytes_row hr
  have HV := Lib.hid hV
  have HT := Lib.hid hT
  clear hV hT hr
  go_enter Tryd.func4, Tryd.ntmps4
  go_wp2_with fail
  refine (begun_any _ HT.out).mono ?_
  rintro e w1 ⟨rfl, hb1⟩
  have HV1 := Lib.hid (HV.out.below hb1)
  have HT1 := Lib.hid (HT.out.below hb1)
  have HB1 := Lib.hid hb1
  clear hb1 HV HT
  go_wp2_with fail
  refine (short_any _ _ 300 _ HV1.out (by omega)).mono ?_
  rintro e w2 ⟨v2, rfl, hi2, rfl⟩
  obtain ⟨S, hS⟩ : ∃ S, S = (bytesZ z len).take 300 := ⟨_, rfl⟩
  have hSl : S.length ≤ 300 := by rw [hS, List.length_take]; omega
  rw [← hS] at hi2
  obtain ⟨a2, c2, rfl, hc2, hm2⟩ := hi2.slice
  unfold maxLen at hm2
  have HI := Lib.hid hi2
  clear hi2 hS HV1
  go_wp2_with fail
  refine (seal_any _ _ _ HT1.out HI.out (by omega)).mono ?_
  intro e w3 h3
  obtain ⟨sp3, cp3, rfl, ho3, hb3⟩ := h3.s
  have HI3 := Lib.hid (isBytes_own (pseal_lt HI.out.1) ho3)
  have HJ3 := Lib.hid (HI.out.below hb3)
  have HB3 := Lib.hid (HB1.out.trans (hb3.mono HB1.out.size))
  have HT3 := Lib.hid (HT1.out.below hb3)
  clear h3 ho3 hb3 HB1 HT1
  obtain ⟨n, hn⟩ : ∃ n, n = (pseal S).length := ⟨_, rfl⟩
  have hn312 : n ≤ 312 := by rw [hn, pseal_length]; omega
  rw [← hn] at HI3 ⊢
  have HN := Lib.hid hn
  clear hn
  go_wp2_with fail
  refine (open_any _ (pseal S) _ HT3.out HI3.out (by rw [pseal_length]; omega)).mono ?_
  intro e w4 h4
  obtain ⟨a4, c4, rfl, hb4, hi4⟩ := open_ok h4 rfl HI.out.1 (by omega)
  have HI4 := Lib.hid (HI3.out.below hb4)
  have HJ4 := Lib.hid (HJ3.out.below hb4)
  have HK4 := Lib.hid hi4
  have HB4 := Lib.hid (HB3.out.trans (hb4.mono HB3.out.size))
  have HT4 := Lib.hid (HT3.out.below hb4)
  clear h4 hb4 hi4 HI3 HJ3 HB3 HT3
  go_wp2_with (first | (at_builtin; refine wpList_append_bytes rfl _ (.tmp 22) rfl w4.heap.size (.slice none 0 0) 0 [] rfl (own_nil _ _) _ (pseal S) rfl HI4.out (by rw [← HN.out]; omega) (Nat.le_refl _) ?_; intro v5 w5 hown hgr; rw [← HN.out, Nat.zero_add, List.nil_append] at hown; obtain ⟨sp5, cp5, rfl, _, _⟩ := ownsRow_slice hown; have HO5 := Lib.hid hown; have HB5 : Hid (Below w4.heap.size w4 w5) := Lib.hid ⟨hgr.os, hgr.tape, hgr.output, hgr.size, fun k hk => hgr.block k hk (by simp [Value.ownBlock])⟩; have hsz5 := HB5.out.size; clear hown hgr) | (at_builtin; refine wpList_append_byte rfl (.tmp 23) (.tmp 24) rfl w4.heap.size _ n _ _ rfl HO5.out rfl (by omega) hsz5 ?_; intro v6 w6 hown hgr; obtain ⟨sp6, cp6, rfl, _, _⟩ := ownsRow_slice hown; have HO6 := Lib.hid hown; have HB6 := Lib.hid (bel_append HB5.out _ HO5.out hgr hsz5); clear hown hgr HO5 HB5))
  have hlx : n + 1 = (pseal S ++ [0]).length := by rw [List.length_append, ← HN.out]; rfl
  have HX6 : Hid (IsBytes w6 (.slice sp6 (n + 1) cp6) (pseal S ++ [0])) := Lib.hid (by
    refine isBytes_ownS (base := w4.heap.size) ?_ hlx (by rw [← hlx, u8s_snoc]; exact HO6.out)
    intro x hx
    rw [List.mem_append] at hx
    rcases hx with hx | hx
    · exact pseal_lt HI.out.1 x hx
    · simp at hx; omega)
  have HT6 := Lib.hid (HT4.out.below HB6.out)
  have hX6 := Lib.hid (open_any _ _ _ HT6.out (hlx ▸ HX6.out) (by rw [← hlx]; omega))
  rw [← hlx] at hX6
  clear hlx
  refine hX6.out.mono ?_
  intro e w9 h9
  obtain ⟨a9, c9, rfl, hb9⟩ := open_no h9 (openOk_more S 0 (by omega))
  have hb49 : Below w4.heap.size w4 w9 := HB6.out.trans (hb9.mono HB6.out.size)
  have HB9 := Lib.hid (HB4.out.trans (hb49.mono HB4.out.size))
  have hcs := fun (W : World) (h : From w9 W) => run_conv (HI4.out.below (hb49.trans (Below.mono h hb49.size)))
  have HCX := Lib.hid fun (W : World) (h : From w9 W) => run_conv (HK4.out.below (hb49.trans (Below.mono h hb49.size)))
  have HCB := Lib.hid fun (W : World) (h : From w9 W) => run_conv (HJ4.out.below (hb49.trans (Below.mono h hb49.size)))
  have HRS := Lib.hid fun (W : World) (h : From w9 W) => (refSeal_any _ S W (HJ4.out.below (hb49.trans (Below.mono h hb49.size))) (by omega)).mono fun _ _ hh => MadePost.c (n := n) (pseal_lt HI.out.1) HN.out.symm hh
  clear h9 hb9 hb49 HI HI4 HJ4 HK4 HB4 HT4 HB6 HX6 HT6 hX6 HO6 HN
  generalize str (pseal S) = SS at *
  generalize str S = SB at *
  go_wp2_with fail
  refine wp_region_noPanic ?_
  have hHeld : From w9 w9.drew := (Below.refl _ _).drew
  refine wpAnyH_start (n := 21) (l := #[false, false, false, false, false, false, false, false, false, false, false, false, false, false, false, false, false, false, false, false, false]) (S := From w9) (by kernel_rfl) (hHeld) (by kernel_rfl) (by kernel_rfl) ?_
  refine wpAnyH_take (i := 0) (oi := _) (v := ?_) rfl (by kernel_rfl) (by kernel_rfl) (by kernel_rfl) (fun _ _ _ h => h) (Or.inl ⟨by rfl, ?_⟩) (by assumption) ?_
  rotate_left
  · intro wq hSw; go_simp; try with_reducible rfl
  simp only [Act.put, List.setIfInBounds_toArray, List.set_cons_zero, List.set_cons_succ, List.getElem_toArray, List.getElem_cons_zero, List.getElem_cons_succ]
  refine wpAnyH_take (i := 1) (oi := _) (v := ?_) rfl (by kernel_rfl) (by kernel_rfl) (by kernel_rfl) (fun _ _ _ h => h) (Or.inl ⟨by rfl, ?_⟩) (by assumption) ?_
  rotate_left
  · intro wq hSw; go_simp; try with_reducible rfl
  simp only [Act.put, List.setIfInBounds_toArray, List.set_cons_zero, List.set_cons_succ, List.getElem_toArray, List.getElem_cons_zero, List.getElem_cons_succ]
  clear hcs
  refine wpAnyH_take (i := 2) (oi := _) (v := ?_) rfl (by kernel_rfl) (by kernel_rfl) (by kernel_rfl) (fun _ _ _ h => h) (Or.inl ⟨by rfl, ?_⟩) (by assumption) ?_
  rotate_left
  · intro wq hSw; go_simp; try with_reducible rfl
  simp only [Act.put, List.setIfInBounds_toArray, List.set_cons_zero, List.set_cons_succ, List.getElem_toArray, List.getElem_cons_zero, List.getElem_cons_succ]
  refine wpAnyH_ready (rs := [3]) (by kernel_rfl) (by simp) ?_
  refine AllReadyH.cons (o := _) rfl (fun K hK => ?_) AllReadyH.nil
  simp only [List.getElem_toArray, List.getElem_cons_zero, List.getElem_cons_succ]
  go_simp
  refine (HRS.out _ hHeld).mono ?_; rintro e w7 ⟨sp7, cap7, rfl, h7, hb7⟩; have hE7 := Lib.hid (From.trans hHeld hb7.out)
  refine hK.out _ _ (hE7.out) (fun _ => ?_)
  clear hK K hHeld
  refine wpAnyH_mono (S' := From w7) (fun w' h => From.trans hE7.out h) ?_
  have hHeld := From.refl w7
  have hc7 := h7.out
  have hcx := fun (W : World) (h : From w7 W) => HCX.out W (From.trans hE7.out h)
  have hcb := fun (W : World) (h : From w7 W) => HCB.out W (From.trans hE7.out h)
  clear h7 hb7
  simp only [Act.put, List.setIfInBounds_toArray, List.set_cons_zero, List.set_cons_succ, List.getElem_toArray, List.getElem_cons_zero, List.getElem_cons_succ]
  refine wpAnyH_take (i := 4) (oi := _) (v := ?_) rfl (by kernel_rfl) (by kernel_rfl) (by kernel_rfl) (fun _ _ _ h => h) (Or.inl ⟨by rfl, ?_⟩) (by assumption) ?_
  rotate_left
  · intro wq hSw; go_simp; try with_reducible rfl
  simp only [Act.put, List.setIfInBounds_toArray, List.set_cons_zero, List.set_cons_succ, List.getElem_toArray, List.getElem_cons_zero, List.getElem_cons_succ]
  clear hc7
  refine wpAnyH_take (i := 5) (oi := _) (v := ?_) rfl (by kernel_rfl) (by kernel_rfl) (by kernel_rfl) (fun _ _ _ h => h) (Or.inl ⟨by rfl, ?_⟩) (by assumption) ?_
  rotate_left
  · intro wq hSw; go_simp; try with_reducible rfl
  simp only [Act.put, List.setIfInBounds_toArray, List.set_cons_zero, List.set_cons_succ, List.getElem_toArray, List.getElem_cons_zero, List.getElem_cons_succ]
  refine wpAnyH_take (i := 6) (oi := _) (v := ?_) rfl (by kernel_rfl) (by kernel_rfl) (by kernel_rfl) (fun _ _ _ h => h) (Or.inl ⟨by rfl, ?_⟩) (by assumption) ?_
  rotate_left
  · intro wq hSw; go_simp; try with_reducible rfl
  simp only [Act.put, List.setIfInBounds_toArray, List.set_cons_zero, List.set_cons_succ, List.getElem_toArray, List.getElem_cons_zero, List.getElem_cons_succ]
  refine wpAnyH_take (i := 7) (oi := _) (v := ?_) rfl (by kernel_rfl) (by kernel_rfl) (by kernel_rfl) (fun _ _ _ h => h) (Or.inl ⟨by rfl, ?_⟩) (by assumption) ?_
  rotate_left
  · intro wq hSw; go_simp; try with_reducible rfl
  simp only [Act.put, List.setIfInBounds_toArray, List.set_cons_zero, List.set_cons_succ, List.getElem_toArray, List.getElem_cons_zero, List.getElem_cons_succ]
  refine wpAnyH_take (i := 8) (oi := _) (v := ?_) rfl (by kernel_rfl) (by kernel_rfl) (by kernel_rfl) (fun _ _ _ h => h) (Or.inl ⟨by rfl, ?_⟩) (by assumption) ?_
  rotate_left
  · intro wq hSw; go_simp; try with_reducible rfl
  simp only [Act.put, List.setIfInBounds_toArray, List.set_cons_zero, List.set_cons_succ, List.getElem_toArray, List.getElem_cons_zero, List.getElem_cons_succ]
  refine wpAnyH_take (i := 9) (oi := _) (v := ?_) rfl (by kernel_rfl) (by kernel_rfl) (by kernel_rfl) (fun _ _ _ h => h) (Or.inl ⟨by rfl, ?_⟩) (by assumption) ?_
  rotate_left
  · intro wq hSw; go_simp; try with_reducible rfl
  simp only [Act.put, List.setIfInBounds_toArray, List.set_cons_zero, List.set_cons_succ, List.getElem_toArray, List.getElem_cons_zero, List.getElem_cons_succ]
  refine wpAnyH_take (i := 10) (oi := _) (v := ?_) rfl (by kernel_rfl) (by kernel_rfl) (by kernel_rfl) (fun _ _ _ h => h) (Or.inl ⟨by rfl, ?_⟩) (by assumption) ?_
  rotate_left
  · intro wq hSw; go_simp; try with_reducible rfl
  simp only [Act.put, List.setIfInBounds_toArray, List.set_cons_zero, List.set_cons_succ, List.getElem_toArray, List.getElem_cons_zero, List.getElem_cons_succ]
  refine wpAnyH_take (i := 11) (oi := _) (v := ?_) rfl (by kernel_rfl) (by kernel_rfl) (by kernel_rfl) (fun _ _ _ h => h) (Or.inl ⟨by rfl, ?_⟩) (by assumption) ?_
  rotate_left
  · intro wq hSw; go_simp; try with_reducible rfl
  simp only [Act.put, List.setIfInBounds_toArray, List.set_cons_zero, List.set_cons_succ, List.getElem_toArray, List.getElem_cons_zero, List.getElem_cons_succ]
  refine wpAnyH_take (i := 12) (oi := _) (v := ?_) rfl (by kernel_rfl) (by kernel_rfl) (by kernel_rfl) (fun _ _ _ h => h) (Or.inl ⟨by rfl, ?_⟩) (by assumption) ?_
  rotate_left
  · intro wq hSw; go_simp; try with_reducible rfl
  simp only [Act.put, List.setIfInBounds_toArray, List.set_cons_zero, List.set_cons_succ, List.getElem_toArray, List.getElem_cons_zero, List.getElem_cons_succ]
  refine wpAnyH_take (i := 13) (oi := _) (v := ?_) rfl (by kernel_rfl) (by kernel_rfl) (by kernel_rfl) (fun _ _ _ h => h) (Or.inl ⟨by rfl, ?_⟩) (by assumption) ?_
  rotate_left
  · intro wq hSw; go_simp; try with_reducible rfl
  simp only [Act.put, List.setIfInBounds_toArray, List.set_cons_zero, List.set_cons_succ, List.getElem_toArray, List.getElem_cons_zero, List.getElem_cons_succ]
  refine wpAnyH_take (i := 14) (oi := _) (v := ?_) rfl (by kernel_rfl) (by kernel_rfl) (by kernel_rfl) (fun _ _ _ h => h) (Or.inl ⟨by rfl, ?_⟩) (by assumption) ?_
  rotate_left
  · intro wq hSw; go_simp; try with_reducible rfl
  simp only [Act.put, List.setIfInBounds_toArray, List.set_cons_zero, List.set_cons_succ, List.getElem_toArray, List.getElem_cons_zero, List.getElem_cons_succ]
  refine wpAnyH_take (i := 15) (oi := _) (v := ?_) rfl (by kernel_rfl) (by kernel_rfl) (by kernel_rfl) (fun _ _ _ h => h) (Or.inl ⟨by rfl, ?_⟩) (by assumption) ?_
  rotate_left
  · intro wq hSw; go_simp; try with_reducible rfl
  simp only [Act.put, List.setIfInBounds_toArray, List.set_cons_zero, List.set_cons_succ, List.getElem_toArray, List.getElem_cons_zero, List.getElem_cons_succ]
  refine wpAnyH_take (i := 16) (oi := _) (v := ?_) rfl (by kernel_rfl) (by kernel_rfl) (by kernel_rfl) (fun _ _ _ h => h) (Or.inl ⟨by rfl, ?_⟩) (by assumption) ?_
  rotate_left
  · intro wq hSw; go_simp; try with_reducible rfl
  simp only [Act.put, List.setIfInBounds_toArray, List.set_cons_zero, List.set_cons_succ, List.getElem_toArray, List.getElem_cons_zero, List.getElem_cons_succ]
  refine wpAnyH_take (i := 17) (oi := _) (v := ?_) rfl (by kernel_rfl) (by kernel_rfl) (by kernel_rfl) (fun _ _ _ h => h) (Or.inl ⟨by rfl, ?_⟩) (by assumption) ?_
  rotate_left
  · intro wq hSw; go_simp; try with_reducible rfl
  simp only [Act.put, List.setIfInBounds_toArray, List.set_cons_zero, List.set_cons_succ, List.getElem_toArray, List.getElem_cons_zero, List.getElem_cons_succ]
  refine wpAnyH_take (i := 18) (oi := _) (v := ?_) rfl (by kernel_rfl) (by kernel_rfl) (by kernel_rfl) (fun _ _ _ h => h) (Or.inl ⟨by rfl, ?_⟩) (by assumption) ?_
  rotate_left
  · intro wq hSw; go_simp; try with_reducible rfl
  simp only [Act.put, List.setIfInBounds_toArray, List.set_cons_zero, List.set_cons_succ, List.getElem_toArray, List.getElem_cons_zero, List.getElem_cons_succ]
  refine wpAnyH_take (i := 19) (oi := _) (v := ?_) rfl (by kernel_rfl) (by kernel_rfl) (by kernel_rfl) (fun _ _ _ h => h) (Or.inl ⟨by rfl, ?_⟩) (by assumption) ?_
  rotate_left
  · intro wq hSw; go_simp; try with_reducible rfl
  simp only [Act.put, List.setIfInBounds_toArray, List.set_cons_zero, List.set_cons_succ, List.getElem_toArray, List.getElem_cons_zero, List.getElem_cons_succ]
  refine wpAnyH_take (i := 20) (oi := _) (v := ?_) rfl (by kernel_rfl) (by kernel_rfl) (by kernel_rfl) (fun _ _ _ h => h) (Or.inl ⟨by rfl, ?_⟩) (by assumption) ?_
  rotate_left
  · intro wq hSw; go_simp; try with_reducible rfl
  simp only [Act.put, List.setIfInBounds_toArray, List.set_cons_zero, List.set_cons_succ, List.getElem_toArray, List.getElem_cons_zero, List.getElem_cons_succ]
  refine wpAnyH_done (by kernel_rfl) ?_ _
  refine NoPanic.normal ?_
  go_wp2_with fail
  go_ret
  exact ⟨rfl, HB9.out.trans (Below.mono hE7.out HB9.out.size)⟩
end Go.Proofs.YtoajgeemkmfboaaDoor
