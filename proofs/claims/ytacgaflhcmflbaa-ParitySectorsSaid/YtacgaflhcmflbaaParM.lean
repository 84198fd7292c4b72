/- ParityTwice, ParityTurn, walked. -/
import Derived.Test.YtacgaflhcmflbaaParL
set_option linter.unusedSimpArgs false
set_option linter.unusedVariables false
set_option maxRecDepth 100000
namespace Go.Proofs.Ytacgaflhcmflbaa
open Go.RowKit Pl
/-- append(own, l...) of byte strings, as a step of a drawn region -/
theorem wp_append_rows {w : World} {o : Oper} {a : Act} {K : Act → World → Prop} {Q : Exit → Act → World → Prop} (s x : Operand)
    (ho : o.op = .call { callee := .builtin .append, args := #[s, x], argTypes := #[22, 22] })
    (base : Nat) (v : Value) (L : List (List Nat)) (hs : a.eval s = v) (hown : OwnRows base w v L)
    (ad : Addr) (m c : Nat) (M : List (List Nat)) (hx : a.eval x = .slice (some ad) m c) (hsrc : ElemRows base w (.slice (some ad) m c) M)
    (hbytes : L.length + M.length ≤ 4294967296) (hbase : base ≤ w.heap.size)
    (h : ∀ v' w', OwnRows base w' v' (L ++ M) → w.grownBy w' v.ownBlock → K (a.put o.dst v') w') : o.wp Try.prog a w K Q := by
  obtain ⟨i0, hi, hz0, hz1, hz2⟩ := info_parts infoR
  obtain ⟨he, _⟩ | ⟨ad2, cap, Ws, he, h1, h2, h3, h4, h5, h6⟩ := hsrc
  · cases he
  · cases he
    obtain ⟨Vs, o1, o2⟩ := hown
    have hVl : Vs.length = L.length := by have := o1.1; omega
    refine wp_append_own w s x _ ho base 23 i0 (.slice none 0 0) 1 24 Try.underlying22 hi hz0 hz1 hz2 rfl (by decide) v L.length Vs hs o1 ad M.length c Ws hx (by rw [h3, Nat.mul_one]) h4 h5 (by unfold maxLen; omega) (by omega) hbase fun v' w' h7 h8 _ => h v' w' ?_ h8
    refine ⟨Vs ++ Ws, by rw [List.length_append]; exact h7, fun i u B hu hB => ?_⟩
    by_cases hi : i < L.length
    · rw [List.getElem?_append_left (by omega)] at hu hB
      exact (o2 i u B hu hB).app o1 h8
    · rw [List.getElem?_append_right (by omega)] at hu hB
      rw [hVl] at hu
      exact (h6 _ u B hu hB).app o1 h8
/-- a slice expression on rows of byte strings as one closed step -/
def sliceR (x : Value) (lo hi mx : Option Value) : Sem Value := Instr.sliceAt 22 x lo hi mx
theorem sliceR_eq (x : Value) (lo hi mx : Option Value) : Instr.sliceAt 22 x lo hi mx = sliceR x lo hi mx := rfl
theorem elem_rows : Try.prog.elem 22 = 23 := by kernel_rfl
theorem und_rows : Try.prog.underlying 22 = some (.slice (Try.prog.elem 22)) := by rw [elem_rows]; exact Try.underlying22
theorem run_size_r (w : World) : (sizeOf (Try.prog.elem 22)).run Try.prog w = .ok 1 w := by
  obtain ⟨i0, hi, hz0, hz1, hz2⟩ := info_parts infoR
  rw [elem_rows]
  simp [sizeOf, typeInfo, hi, hz1]
theorem run_fromR {g n cap : Nat} (k : Nat) (hk : k ≤ n) (hc : k < cap) (hcap : n ≤ cap) (W : World) : (sliceR (.slice (some ⟨g, 0, none⟩) n cap) (some (.int .i64 k)) none none).run Try.prog W = .ok (.slice (some ⟨g, k, none⟩) (n - k) (cap - k)) W := by
  unfold sliceR
  rw [run_sliceAt_slice _ _ _ _ _ _ und_rows, run_slice_l _ _ _ _ _ und_rows _ _ (by omega) (by omega), run_size_r, Int.toNat_natCast]
  simp only [Result.andThen, sliced]
  rw [if_neg (by omega)]
  simp [addr_add]
theorem run_uptoR {g n cap : Nat} (k : Nat) (hk : k ≤ n) (hcap : n ≤ cap) (W : World) : (sliceR (.slice (some ⟨g, 0, none⟩) n cap) none (some (.int .i64 k)) none).run Try.prog W = .ok (.slice (some ⟨g, 0, none⟩) k cap) W := by
  unfold sliceR
  rw [run_sliceAt_slice _ _ _ _ _ _ und_rows, run_slice_h _ _ _ _ _ und_rows _ _ (by omega) (by omega), run_size_r, Int.toNat_natCast]
  simp only [Result.andThen, sliced, Nat.sub_zero]
  split <;> simp [addr_add]
/-- a piece of a row of one's own -/
theorem elemRows_sub {base : Nat} {w : World} {g n cap : Nat} {L : List (List Nat)} (h : OwnRows base w (.slice (some ⟨g, 0, none⟩) n cap) L) (k m : Nat) (hkm : k + m ≤ n) : ElemRows base w (.slice (some ⟨g, k, none⟩) m (cap - k)) ((L.drop k).take m) := by
  obtain ⟨_, _, he, hcap, hmax⟩ := h.slice
  simp at he
  obtain ⟨_, hLn, rfl⟩ := he
  obtain ⟨_, h0⟩ | ⟨ad, cap2, Vs, he, h1, h2, h3, h4, h5, h6⟩ := elemRows_own h
  · rename_i he; cases he
  · simp at he
    obtain ⟨rfl, _, rfl⟩ := he
    have hl : ((L.drop k).take m).length = m := by rw [List.length_take, List.length_drop]; omega
    refine .inr ⟨⟨g, k, none⟩, cap - k, (Vs.drop k).take m, by rw [hl], by omega, by omega, by rw [List.length_take, List.length_drop, hl]; omega, fun i u hu => ?_, fun u hu => h5 u (List.mem_of_mem_drop (List.mem_of_mem_take hu)), fun i u B hu hB => ?_⟩
    · have hi := (List.getElem?_eq_some_iff.1 hu).1
      rw [List.length_take, List.length_drop] at hi
      rw [List.getElem?_take_of_lt (by omega), List.getElem?_drop] at hu
      have := h4 _ u hu
      rw [addr_add] at this ⊢
      rw [Nat.zero_add] at this
      exact this
    · have hi := (List.getElem?_eq_some_iff.1 hB).1
      rw [hl] at hi
      rw [List.getElem?_take_of_lt hi, List.getElem?_drop] at hu hB
      exact h6 _ u B hu hB
attribute [local go_sem ↓] sliceR_eq conv_eq
set_option maxHeartbeats 8000000 in
theorem parityTwice_walk (a : Option Addr) (len cap : Nat) (R : List (List Nat)) (w : World) (hr : IsRows w (.slice a len cap) R) :
    Calls Try.prog 8 #[.slice a len cap] w fun e w' => e = .returned (.bool true) ∧ Below w.heap.size w w' := by
  have HR := Lib.hid hr
  have HLT := Lib.hid (cutP_lt hr.lt)
  clear hr
  go_enter Try.func8, Try.ntmps8
  go_wp2_with fail
  refine (begun_any w).mono ?_
  rintro e w1 ⟨rfl, hb1⟩
  have HB1 := Lib.hid hb1
  clear hb1
  go_wp2_with fail
  refine (cut_any _ R w1 (HR.out.below HB1.out)).mono ?_
  rintro e w2 ⟨v2, rfl, ho2, hb2⟩
  obtain ⟨L, hL⟩ : ∃ L, cutP R = L := ⟨_, rfl⟩
  have hL5 := cutP_length R
  have hmx := cutP_mx R
  rw [hL] at ho2 hL5 hmx HLT
  obtain ⟨n, hn⟩ : ∃ n, L.length = n := ⟨_, rfl⟩
  obtain ⟨sp, cp, rfl, hcp, hcm⟩ := ho2.slice
  unfold maxLen at hcm
  rw [hn] at ho2 hL5 hcp ⊢
  have HO2 := Lib.hid ho2
  have HN := Lib.hid hn
  have HMX := Lib.hid hmx
  have HB2 := Lib.hid (HB1.out.trans (hb2.mono HB1.out.size))
  have hs12 : w1.heap.size ≤ w2.heap.size := hb2.size
  clear hL ho2 hn hmx hb2 HR HB1
  by_cases h0 : n = 0
  · have hd0 : ((n : Int) == 0) = true := by rw [beq_iff_eq]; omega
    go_wp2_with fail
    go_ret
    exact ⟨rfl, HB2.out⟩
  have hd0 : ((n : Int) == 0) = false := by rw [beq_eq_false_iff_ne]; omega
  go_wp2_with fail
  refine (make_any _ L w2 HO2.out.isRows (by rw [HN.out]; omega) (by have := HMX.out; omega)).mono ?_
  intro e w4 h4
  obtain ⟨sp4, cp4, rfl, ho4, hb4⟩ := h4.s
  have hE4 : Elem w4.heap.size w4 (.slice sp4 (parP L).length cp4) (parP L) := elem_own (parP_lt HLT.out) ho4
  obtain ⟨np, hnp⟩ : ∃ np, (parP L).length = np := ⟨_, rfl⟩
  rw [hnp] at hE4 ⊢
  have HNP := Lib.hid hnp
  have HE4 := Lib.hid hE4
  have HER := Lib.hid (((elemRows_own HO2.out).below hb4).up (Nat.le_trans hs12 hb4.size))
  have HB4 := Lib.hid (HB2.out.trans (hb4.mono HB2.out.size))
  clear h4 ho4 hE4 hnp hb4 HO2 HB2
  go_wp2_with (first | (at_builtin; refine wpList_append_rows rfl _ (.tmp 17) rfl w4.heap.size (.slice none 0 0) [] rfl (ownRows_nil _ _) _ L rfl HER.out (by rw [HN.out]; simp; omega) (Nat.le_refl _) ?_; intro v5 w5 hO5 hg5; obtain ⟨sp5, cp5, rfl, _, _⟩ := hO5.slice; have HB5 : Hid (Below w4.heap.size w4 w5) := Lib.hid ((Below.refl _ _).grown hg5 (Nat.le_refl _) (by intro q hq; simp [Value.ownBlock] at hq)); have HO5 : Hid (OwnRows w4.heap.size w5 (.slice sp5 n cp5) L) := Lib.hid (by rw [List.nil_append, HN.out] at hO5; exact hO5); have HE5 := Lib.hid (HE4.out.below HB5.out); have hs5 := HB5.out.size; rw [List.nil_append, HN.out]; clear hO5 hg5) | (at_builtin; refine wpList_append_str1 rfl (.tmp 18) (.tmp 20) rfl w4.heap.size (.slice sp5 n cp5) L rfl HO5.out (parP L) _ _ _ HE5.out rfl (by rw [HN.out]; omega) hs5 ?_; intro v6 w6 hO6 hg6; obtain ⟨sp6, cp6, rfl, _, _⟩ := hO6.slice))
  have hO6' : OwnRows w4.heap.size w6 (.slice sp6 (L.length + 1) cp6) (L ++ [parP L]) := by
    have := hO6
    rw [List.length_append] at this
    exact this
  have hb6 : Below w4.heap.size w4 w6 := (HB5.out.alloc hs5 _).grown hg6 (by simp; omega) HO5.out.lt
  have hmx6 : mxL (L ++ [parP L]) ≤ 300 := by
    rw [mxL_append]
    simp only [mxL, parP_length]
    have := HMX.out
    omega
  have hmk := make_any _ (L ++ [parP L]) w6 hO6'.isRows (by rw [List.length_append, HN.out]; simp; omega) (by omega)
  have HMK := Lib.hid hmk
  have HB6 := Lib.hid (HB4.out.trans (hb6.mono HB4.out.size))
  have hnp3 : np ≤ 300 := by have := HNP.out; rw [parP_length] at this; have := HMX.out; omega
  clear hO6 hg6 hO6' hb6 hmx6 hmk HO5 HB5 HE5 HE4 HER HB4 hs5
  refine HMK.out.mono ?_
  intro e w7 h7
  obtain ⟨sp7, cp7, rfl, ho7, hb7⟩ := h7.s
  have hz : parP (L ++ [parP L]) = List.replicate np 0 := by
    rw [par_twice]
    have := HNP.out
    rw [parP_length] at this
    rw [this]
  rw [hz, List.length_replicate] at ho7
  rw [hz, List.length_replicate]
  have HO7 := Lib.hid ho7
  have HB7 := Lib.hid (HB6.out.trans (hb7.mono HB6.out.size))
  clear h7 ho7 hb7 hz HMK HB6
  go_wp2_with fail
  go_loop [6] (fun y => ∃ i : Nat, i ≤ np ∧ y = .int .i64 i) (fun y => np - (intOf y).toNat)
  case atStart => exact ⟨0, by omega, rfl⟩
  case round =>
    obtain ⟨i, hi, rfl⟩ := hrel
    by_cases hlt : i < np
    · obtain ⟨g7, cap7, hsp7, _, _, _, _⟩ := own_open HO7.out (by omega)
      simp at hsp7
      obtain ⟨rfl, rfl⟩ := hsp7
      have c0 := own_cell HO7.out (i := i) hlt
      rw [show (List.replicate np 0).getD i 0 = 0 by rw [List.getD_eq_getElem?_getD, List.getElem?_replicate, if_pos hlt]; rfl] at c0
      go_wp2_with fail
      go_round
      case rel => exact ⟨i + 1, by omega, by go_num⟩
      case measure => simp [intOf]; omega
    · obtain rfl : i = np := by omega
      have hb : ((i : Int) == (i : Int)) = true := beq_t rfl
      go_wp2_with fail
      go_ret
      exact ⟨rfl, HB7.out⟩
set_option maxHeartbeats 16000000 in
theorem parityTurn_walk (a : Option Addr) (len cap : Nat) (R : List (List Nat)) (t : Int) (w : World) (hr : IsRows w (.slice a len cap) R) (ht : (Lit.int .i64 t).wf = true) :
    Calls Try.prog 7 #[.slice a len cap, .int .i64 t] w fun e w' => e = .returned (.bool true) ∧ Below w.heap.size w w' := by
  have HR := Lib.hid hr
  have HLT := Lib.hid (cutP_lt hr.lt)
  clear hr ht
  go_enter Try.func7, Try.ntmps7
  go_wp2_with fail
  refine (begun_any w).mono ?_
  rintro e w1 ⟨rfl, hb1⟩
  have HB1 := Lib.hid hb1
  clear hb1
  go_wp2_with fail
  refine (cut_any _ R w1 (HR.out.below HB1.out)).mono ?_
  rintro e w4 ⟨v2, rfl, ho2, hb2⟩
  obtain ⟨L, hL⟩ : ∃ L, cutP R = L := ⟨_, rfl⟩
  have hL5 := cutP_length R
  have hmx := cutP_mx R
  rw [hL] at ho2 hL5 hmx HLT
  obtain ⟨n, hn⟩ : ∃ n, L.length = n := ⟨_, rfl⟩
  obtain ⟨sp, cp, rfl, hcp, hcm⟩ := ho2.slice
  unfold maxLen at hcm
  rw [hn] at ho2 hL5 hcp ⊢
  have HO2 := Lib.hid ho2
  have HN := Lib.hid hn
  have HMX := Lib.hid hmx
  have HB2 := Lib.hid (HB1.out.trans (hb2.mono HB1.out.size))
  have hs12 : w1.heap.size ≤ w4.heap.size := hb2.size
  clear hL ho2 hn hmx hb2 HR HB1
  by_cases h0 : n = 0
  · have hd0 : ((n : Int) == 0) = true := by rw [beq_iff_eq]; omega
    go_wp2_with fail
    go_ret
    exact ⟨rfl, HB2.out⟩
  have hd0 : ((n : Int) == 0) = false := by rw [beq_eq_false_iff_ne]; omega
  by_cases ht0 : t < 0
  · have ht1 : decide (t < 0) = true := decide_eq_true ht0
    go_wp2_with fail
    go_ret
    exact ⟨rfl, HB2.out⟩
  have ht1 : decide (t < 0) = false := decide_eq_false ht0
  obtain ⟨A, rfl⟩ := Int.eq_ofNat_of_zero_le (show 0 ≤ t by omega)
  obtain ⟨k, hk⟩ : ∃ k, A % n = k := ⟨_, rfl⟩
  have hkn : k < n := by rw [← hk]; exact Nat.mod_lt _ (by omega)
  have ei : (A : Int) % (n : Int) = (k : Int) := by rw [← hk]; rfl
  have hn0 : ¬ ((n : Int) = 0) := by omega
  obtain ⟨g, cap2, hsp, hg1, hg2, hg3, _⟩ := HO2.out.open (by rw [HN.out]; omega)
  rw [HN.out] at hsp hg3
  simp at hsp
  obtain ⟨rfl, rfl⟩ := hsp
  have hsl1 := fun W => run_fromR (g := g) (n := n) (cap := cp) k (by omega) (by omega) hg3 W
  have hsl2 := fun W => run_uptoR (g := g) (n := n) (cap := cp) k (by omega) hg3 W
  have he1 := elemRows_sub HO2.out k (n - k) (by omega)
  rw [List.take_of_length_le (by rw [List.length_drop, HN.out]; omega)] at he1
  have he2 := elemRows_sub HO2.out 0 k (by omega)
  rw [List.drop_zero, Nat.sub_zero] at he2
  have HE1 := Lib.hid (he1.up hs12)
  have HE2 := Lib.hid (he2.up hs12)
  have HOR := Lib.hid HO2.out.isRows
  have HTU : Hid (parP (L.drop k ++ L.take k) = parP L) := Lib.hid (by
    have := par_turn (L.take k) (L.drop k)
    rw [List.take_append_drop] at this
    exact this)
  have hlen5 : (L.drop k).length = n - k := by rw [List.length_drop, HN.out]
  have hlen6 : (L.drop k ++ L.take k).length = n := by rw [List.length_append, List.length_drop, List.length_take, HN.out]; omega
  clear ht0 hk he1 he2 h0
  go_wp2_with fail
  have hHeld : From w4 w4.drew := (Below.refl _ _).drew
  refine wp_region_noPanic ?_
  refine wpAnyH_start (n := 9) (l := #[false, false, false, false, false, false, false, false, false]) (S := From w4) (by kernel_rfl) (hHeld) (by kernel_rfl) (by kernel_rfl) ?_
  refine wpAnyH_take (i := 0) (oi := _) (v := ?_) rfl (by kernel_rfl) (by kernel_rfl) (by kernel_rfl) (fun _ _ _ h => h) (Or.inl ⟨by rfl, ?_⟩) (by assumption) ?_
  rotate_left
  · intro wq hSw; go_simp; try with_reducible rfl
  simp only [Act.put, List.setIfInBounds_toArray, List.set_cons_zero, List.set_cons_succ, List.getElem_toArray, List.getElem_cons_zero, List.getElem_cons_succ]
  refine wpAnyH_take (i := 1) (oi := _) (v := ?_) rfl (by kernel_rfl) (by kernel_rfl) (by kernel_rfl) (fun _ _ _ h => h) (Or.inl ⟨by rfl, ?_⟩) (by assumption) ?_
  rotate_left
  · intro wq hSw; go_simp; try with_reducible rfl
  simp only [Act.put, List.setIfInBounds_toArray, List.set_cons_zero, List.set_cons_succ, List.getElem_toArray, List.getElem_cons_zero, List.getElem_cons_succ]
  refine wpAnyH_take (i := 2) (oi := _) (v := ?_) rfl (by kernel_rfl) (by kernel_rfl) (by kernel_rfl) (fun _ _ _ h => h) (Or.inl ⟨by rfl, ?_⟩) (by assumption) ?_
  rotate_left
  · intro wq hSw; have hl := hsl1 wq; go_simp; try with_reducible rfl
  simp only [Act.put, List.setIfInBounds_toArray, List.set_cons_zero, List.set_cons_succ, List.getElem_toArray, List.getElem_cons_zero, List.getElem_cons_succ]
  refine wpAnyH_take (i := 4) (oi := _) (v := ?_) rfl (by kernel_rfl) (by kernel_rfl) (by kernel_rfl) (fun _ _ _ h => h) (Or.inl ⟨by rfl, ?_⟩) (by assumption) ?_
  rotate_left
  · intro wq hSw; go_simp; try with_reducible rfl
  simp only [Act.put, List.setIfInBounds_toArray, List.set_cons_zero, List.set_cons_succ, List.getElem_toArray, List.getElem_cons_zero, List.getElem_cons_succ]
  refine wpAnyH_take (i := 5) (oi := _) (v := ?_) rfl (by kernel_rfl) (by kernel_rfl) (by kernel_rfl) (fun _ _ _ h => h) (Or.inl ⟨by rfl, ?_⟩) (by assumption) ?_
  rotate_left
  · intro wq hSw; go_simp; try with_reducible rfl
  simp only [Act.put, List.setIfInBounds_toArray, List.set_cons_zero, List.set_cons_succ, List.getElem_toArray, List.getElem_cons_zero, List.getElem_cons_succ]
  refine wpAnyH_take (i := 6) (oi := _) (v := ?_) rfl (by kernel_rfl) (by kernel_rfl) (by kernel_rfl) (fun _ _ _ h => h) (Or.inl ⟨by rfl, ?_⟩) (by assumption) ?_
  rotate_left
  · intro wq hSw; have hl := hsl2 wq; go_simp; try with_reducible rfl
  simp only [Act.put, List.setIfInBounds_toArray, List.set_cons_zero, List.set_cons_succ, List.getElem_toArray, List.getElem_cons_zero, List.getElem_cons_succ]
  refine wpAnyH_ready (rs := [3]) (by kernel_rfl) (by simp) ?_
  refine AllReadyH.cons (o := _) rfl (fun K hK => ?_) AllReadyH.nil
  simp only [List.getElem_toArray, List.getElem_cons_zero, List.getElem_cons_succ]
  rw [if_pos (by rfl)]; refine wp_append_rows _ (.tmp 26) rfl w4.heap.size (.slice none 0 0) [] rfl (ownRows_nil _ _) _ _ _ (L.drop k) rfl (HE1.out.below hHeld) (by rw [List.length_drop, HN.out]; simp; omega) (Below.size hHeld) ?_; intro v5 w5 hO5 hg5; obtain ⟨sp5, cp5, rfl, _, _⟩ := hO5.slice; rw [List.nil_append, hlen5] at hO5 ⊢; have hF5 : From w4 w5 := Below.grown hHeld hg5 (Below.size hHeld) (by intro q hq; simp [Value.ownBlock] at hq)
  refine hK.out _ _ (hF5) (fun _ => ?_)
  clear hK K
  clear hHeld hg5
  have hHeld := hF5
  simp only [Act.put, List.setIfInBounds_toArray, List.set_cons_zero, List.set_cons_succ, List.getElem_toArray, List.getElem_cons_zero, List.getElem_cons_succ]
  refine wpAnyH_ready (rs := [7]) (by kernel_rfl) (by simp) ?_
  refine AllReadyH.cons (o := _) rfl (fun K hK => ?_) AllReadyH.nil
  simp only [List.getElem_toArray, List.getElem_cons_zero, List.getElem_cons_succ]
  rw [if_pos (by rfl)]; refine wp_append_rows (.tmp 27) (.tmp 30) rfl w4.heap.size (.slice sp5 (n - k) cp5) (L.drop k) rfl hO5 _ _ _ (L.take k) rfl (HE2.out.below hHeld) (by rw [List.length_drop, List.length_take, HN.out]; omega) (Below.size hHeld) ?_; intro v6 w6 hO6 hg6; obtain ⟨sp6, cp6, rfl, _, _⟩ := hO6.slice; rw [hlen6] at hO6 ⊢; have hF6 : From w4 w6 := Below.grown hHeld hg6 (Below.size hHeld) hO5.lt
  refine hK.out _ _ (hF6) (fun _ => ?_)
  clear hK K
  clear hHeld hg6
  have hHeld := hF6
  simp only [Act.put, List.setIfInBounds_toArray, List.set_cons_zero, List.set_cons_succ, List.getElem_toArray, List.getElem_cons_zero, List.getElem_cons_succ]
  refine wpAnyH_take (i := 8) (oi := _) (v := ?_) rfl (by kernel_rfl) (by kernel_rfl) (by kernel_rfl) (fun _ _ _ h => h) (Or.inl ⟨by rfl, ?_⟩) (by assumption) ?_
  rotate_left
  · intro wq hSw; go_simp; try with_reducible rfl
  simp only [Act.put, List.setIfInBounds_toArray, List.set_cons_zero, List.set_cons_succ, List.getElem_toArray, List.getElem_cons_zero, List.getElem_cons_succ]
  refine wpAnyH_done (by kernel_rfl) ?_ _
  refine NoPanic.normal ?_
  have HO6 := Lib.hid hO6
  have HF6 := Lib.hid hHeld
  clear hO6 hO5 hHeld hF5 hF6 hsl1 hsl2 HE1 HE2
  go_wp2_with fail
  obtain ⟨w7, hw7⟩ : ∃ w7, w6 = w7 := ⟨_, rfl⟩
  rw [hw7] at HO6 HF6 ⊢
  clear hw7
  have hpl : (parP L).length = mxL L := parP_length L
  have HF : Hid (∀ W, From w7 W → Calls Try.prog 11 #[.slice (some ⟨g, 0, none⟩) n cp] W (MadeC (str (parP L)) (mxL L) W)) := Lib.hid fun W h => (make_any _ L W ((HOR.out.below HF6.out).below h) (by rw [HN.out]; omega) (by have := HMX.out; omega)).mono fun e w' h' => h'.c (parP_lt HLT.out) hpl
  have HD : Hid (∀ W, From w7 W → Calls Try.prog 11 #[.slice sp6 n cp6] W (MadeC (str (parP L)) (mxL L) W)) := Lib.hid fun W h => by
    have hm2 : mxL (L.drop k ++ L.take k) ≤ 300 := by
      have h1 : mxL (L.drop k ++ L.take k) = mxL L := by rw [← parP_length, HTU.out, parP_length]
      have := HMX.out
      omega
    have := make_any _ (L.drop k ++ L.take k) W (HO6.out.isRows.below h) (by rw [List.length_append, List.length_drop, List.length_take, HN.out]; omega) (by omega)
    rw [HTU.out] at this
    exact this.mono fun e w' h' => h'.c (parP_lt HLT.out) hpl
  have hse : ((str (parP L)).toList == (str (parP L)).toList) = true := by simp
  have HBW := Lib.hid (HB2.out.trans (HF6.out.mono HB2.out.size))
  generalize mxL L = q at *
  generalize str (parP L) = ST at *
  clear HO6 HF6 HOR HTU HO2 hpl
  refine wp_region_noPanic ?_
  have hHeld : From w7 w7.drew := (Below.refl _ _).drew
  refine wpAnyH_start (n := 8) (l := #[false, false, false, false, false, false, false, false]) (S := From w7) (by kernel_rfl) (hHeld) (by kernel_rfl) (by kernel_rfl) ?_
  refine wpAnyH_take (i := 0) (oi := _) (v := ?_) rfl (by kernel_rfl) (by kernel_rfl) (by kernel_rfl) (fun _ _ _ h => h) (Or.inl ⟨by rfl, ?_⟩) (by assumption) ?_
  rotate_left
  · intro wq hSw; go_simp; try with_reducible rfl
  simp only [Act.put, List.setIfInBounds_toArray, List.set_cons_zero, List.set_cons_succ, List.getElem_toArray, List.getElem_cons_zero, List.getElem_cons_succ]
  refine wpAnyH_take (i := 3) (oi := _) (v := ?_) rfl (by kernel_rfl) (by kernel_rfl) (by kernel_rfl) (fun _ _ _ h => h) (Or.inl ⟨by rfl, ?_⟩) (by assumption) ?_
  rotate_left
  · intro wq hSw; go_simp; try with_reducible rfl
  simp only [Act.put, List.setIfInBounds_toArray, List.set_cons_zero, List.set_cons_succ, List.getElem_toArray, List.getElem_cons_zero, List.getElem_cons_succ]
  refine wpAnyH_ready (rs := [1]) (by kernel_rfl) (by simp) ?_
  refine AllReadyH.cons (o := _) rfl (fun K hK => ?_) AllReadyH.nil
  simp only [List.getElem_toArray, List.getElem_cons_zero, List.getElem_cons_succ]
  go_simp
  refine (HF.out _ hHeld).mono ?_; rintro e w8 ⟨sp8, cap8, rfl, h8, hb8⟩; have hE8 := Lib.hid (From.trans hHeld hb8.out)
  refine hK.out _ _ (hE8.out) (fun _ => ?_)
  clear hK K hHeld
  refine wpAnyH_mono (S' := From w8) (fun w' h => From.trans hE8.out h) ?_
  have hHeld := From.refl w8
  have hc8 := h8.out
  clear h8 hb8 HF
  simp only [Act.put, List.setIfInBounds_toArray, List.set_cons_zero, List.set_cons_succ, List.getElem_toArray, List.getElem_cons_zero, List.getElem_cons_succ]
  refine wpAnyH_take (i := 2) (oi := _) (v := ?_) rfl (by kernel_rfl) (by kernel_rfl) (by kernel_rfl) (fun _ _ _ h => h) (Or.inl ⟨by rfl, ?_⟩) (by assumption) ?_
  rotate_left
  · intro wq hSw; go_simp; try with_reducible rfl
  simp only [Act.put, List.setIfInBounds_toArray, List.set_cons_zero, List.set_cons_succ, List.getElem_toArray, List.getElem_cons_zero, List.getElem_cons_succ]
  clear hc8
  refine wpAnyH_ready (rs := [4]) (by kernel_rfl) (by simp) ?_
  refine AllReadyH.cons (o := _) rfl (fun K hK => ?_) AllReadyH.nil
  simp only [List.getElem_toArray, List.getElem_cons_zero, List.getElem_cons_succ]
  go_simp
  refine (HD.out _ (From.trans hE8.out hHeld)).mono ?_; rintro e w9 ⟨sp9, cap9, rfl, h9, hb9⟩; have hF9 := Lib.hid (From.trans hHeld hb9.out); have hE9 := Lib.hid (From.trans hE8.out hF9.out)
  refine hK.out _ _ (hF9.out) (fun _ => ?_)
  clear hK K hHeld
  refine wpAnyH_mono (S' := From w9) (fun w' h => From.trans hF9.out h) ?_
  have hHeld := From.refl w9
  have hc9 := h9.out
  clear h9 hb9 HD hE8 hF9
  simp only [Act.put, List.setIfInBounds_toArray, List.set_cons_zero, List.set_cons_succ, List.getElem_toArray, List.getElem_cons_zero, List.getElem_cons_succ]
  refine wpAnyH_take (i := 5) (oi := _) (v := ?_) rfl (by kernel_rfl) (by kernel_rfl) (by kernel_rfl) (fun _ _ _ h => h) (Or.inl ⟨by rfl, ?_⟩) (by assumption) ?_
  rotate_left
  · intro wq hSw; go_simp; try with_reducible rfl
  simp only [Act.put, List.setIfInBounds_toArray, List.set_cons_zero, List.set_cons_succ, List.getElem_toArray, List.getElem_cons_zero, List.getElem_cons_succ]
  clear hc9
  refine wpAnyH_take (i := 6) (oi := _) (v := ?_) rfl (by kernel_rfl) (by kernel_rfl) (by kernel_rfl) (fun _ _ _ h => h) (Or.inl ⟨by rfl, ?_⟩) (by assumption) ?_
  rotate_left
  · intro wq hSw; go_simp; try with_reducible rfl
  simp only [Act.put, List.setIfInBounds_toArray, List.set_cons_zero, List.set_cons_succ, List.getElem_toArray, List.getElem_cons_zero, List.getElem_cons_succ]
  refine wpAnyH_take (i := 7) (oi := _) (v := ?_) rfl (by kernel_rfl) (by kernel_rfl) (by kernel_rfl) (fun _ _ _ h => h) (Or.inl ⟨by rfl, ?_⟩) (by assumption) ?_
  rotate_left
  · intro wq hSw; go_simp; try with_reducible rfl
  simp only [Act.put, List.setIfInBounds_toArray, List.set_cons_zero, List.set_cons_succ, List.getElem_toArray, List.getElem_cons_zero, List.getElem_cons_succ]
  refine wpAnyH_done (by kernel_rfl) ?_ _
  refine NoPanic.normal ?_
  go_wp2_with fail
  go_ret
  exact ⟨rfl, HBW.out.trans (hE9.out.mono HBW.out.size)⟩
end Go.Proofs.Ytacgaflhcmflbaa
