/- Texts put together: EdI. -/
import Derived.Test.YthgpdnffahmhjaaGreatDoorMg15
set_option linter.unusedSimpArgs false
set_option linter.unusedVariables false
set_option maxRecDepth 100000
namespace Go.Proofs.YthgpdnffahmhjaaGreatDoor.S18
open Go.RowKit
attribute [local go_sem ↓] loadS_eq storeS_eq loadP_eq storeP_eq loadE_eq storeE_eq
abbrev OwnN (base : Nat) (w : World) (v : Value) (n : Nat) (R : List Int) : Prop := w.ownsRow base 2 1 v n (i64s R)
theorem wp_app_new {w : World} {o : Oper} {a : Act} {K : Act → World → Prop} {Q : Exit → Act → World → Prop} (s x : Operand)
    (ho : o.op = .call { callee := .builtin .append, args := #[s, x], argTypes := #[31, 31] })
    (base : Nat) (v : Value) (n : Nat) (L : List Int) (hs : a.eval s = v) (hown : OwnN base w v n L) (M : List Int) (m : Nat) (hM : M.length = m) (hx : a.eval x = .slice (some ⟨w.heap.size, 0, none⟩) m m)
    (hbytes : n + m ≤ 17592186044416) (hbase : base ≤ w.heap.size)
    (h : ∀ v' w', OwnN base w' v' (n + m) (L ++ M) → (w.alloc (.cells (i64s M).toArray 2 (0, 0))).grownBy w' v.ownBlock → K (a.put o.dst v') w') : o.wp Tryz.prog a (w.alloc (.cells (i64s M).toArray 2 (0, 0))) K Q := by
  subst hM
  obtain ⟨i0, hi, hz0, hz1, hz2⟩ := infoI_parts info64
  have hA : Below w.heap.size w (w.alloc (.cells (i64s M).toArray 2 (0, 0))) := (Below.refl _ _).alloc (Nat.le_refl _) _
  have hb := Blk.new w 2 (i64s M)
  refine wp_append_own _ s x _ ho base 2 i0 (.int .i64 0) 1 8 Tryz.underlying31 hi hz0 hz1 hz2 rfl (by decide) v n _ hs (own_keepD hown (gr_below hA) (by simp)) ⟨w.heap.size, 0, none⟩ M.length M.length (i64s M) hx (by rw [i64s_length, Nat.mul_one]) (fun j u hj => ?_) (i64s_one M) (by unfold maxLen; omega) (by omega) (by simp; omega) ?_
  · rw [addr_at, Nat.zero_add]
    exact hb.cell hj
  · exact fun v' w' h3 h4 _ => h v' w' (by rw [OwnN, i64s_append]; exact h3) h4
theorem wpList_app_new {w : World} {ops : Array Oper} {rest : List Oper} {o : Oper} {a : Act} {Q : Exit → Act → World → Prop} (hgd : o.guard = none) (s x : Operand)
    (ho : o.op = .call { callee := .builtin .append, args := #[s, x], argTypes := #[31, 31] })
    (base : Nat) (v : Value) (n : Nat) (L : List Int) (hs : a.eval s = v) (hown : OwnN base w v n L) (M : List Int) (m : Nat) (hM : M.length = m) (hx : a.eval x = .slice (some ⟨w.heap.size, 0, none⟩) m m)
    (hbytes : n + m ≤ 17592186044416) (hbase : base ≤ w.heap.size)
    (h : ∀ v' w', OwnN base w' v' (n + m) (L ++ M) → (w.alloc (.cells (i64s M).toArray 2 (0, 0))).grownBy w' v.ownBlock → wpList Tryz.prog ops Q rest (a.put o.dst v') w') : wpList Tryz.prog ops Q (o :: rest) a (w.alloc (.cells (i64s M).toArray 2 (0, 0))) :=
  wpList_plain hgd fun _ hK => wp_app_new s x ho base v n L hs hown M m hM hx hbytes hbase fun v' w' h2 h3 => hK _ _ (h v' w' h2 h3)
theorem app_bel {base : Nat} {w1 w w' : World} {o : Obj} {v : Value} {n : Nat} {R : List Int} (hB : Below base w1 w) (hs : base ≤ w.heap.size) (ho : OwnN base w v n R) (hgr : (w.alloc o).grownBy w' v.ownBlock) : Below base w1 w' := (hB.alloc hs _).grown hgr (by simp; omega) fun k hk => (World.ownsRow.lt ho k hk).1
theorem app_bel0 {base : Nat} {w1 w w' : World} {v : Value} {n : Nat} {R : List Int} (hB : Below base w1 w) (hs : base ≤ w.heap.size) (ho : OwnN base w v n R) (hgr : w.grownBy w' v.ownBlock) : Below base w1 w' := hB.grown hgr hs fun k hk => (World.ownsRow.lt ho k hk).1
theorem own_tyN {base : Nat} {w : World} {v : Value} {n : Nat} {R : List Int} (h : OwnN base w v n R) : ∀ b, v.ownBlock = some b → ∃ c, Blk w b 2 c := by
  obtain ⟨_, ⟨rfl, _⟩ | ⟨g, cap, cur, rfl, _, hh, _⟩⟩ := h
  · intro b hb; cases hb
  · intro b hb
    simp [Value.ownBlock] at hb
    subst hb
    exact ⟨cur.toList, by unfold Blk; simpa using hh⟩
theorem app_blk {base g : Nat} {w w' : World} {o : Obj} {v : Value} {n : Nat} {R : List Int} {t : TypeId} {c : List Value} (hk : Blk w g t c) (ht : t ≠ 2) (ho : OwnN base w v n R) (hgr : (w.alloc o).grownBy w' v.ownBlock) : Blk w' g t c :=
  (hk.alloc o).grown hgr fun e => by
    obtain ⟨d, hd⟩ := own_tyN ho g e.symm
    exact hk.ne hd ht rfl
theorem app_blk0 {base g : Nat} {w w' : World} {v : Value} {n : Nat} {R : List Int} {t : TypeId} {c : List Value} (hk : Blk w g t c) (ht : t ≠ 2) (ho : OwnN base w v n R) (hgr : w.grownBy w' v.ownBlock) : Blk w' g t c :=
  hk.grown hgr fun e => by
    obtain ⟨d, hd⟩ := own_tyN ho g e.symm
    exact hk.ne hd ht rfl
theorem flat_take {α : Type} {L : List α} {i : Nat} {x : α} (f : α → List Int) (hx : L[i]? = some x) : (L.take (i + 1)).flatMap f = (L.take i).flatMap f ++ f x := by
  rw [List.take_add_one, hx]
  simp
theorem wrap_i64u {x : Int} (h : sumW x) : IntKind.i64.wrap x = x := by
  obtain ⟨h1, h2⟩ := h
  unfold IntKind.wrap
  simp [IntKind.signed, IntKind.bits]
  omega
theorem rowE_is (e : ED) : ((([e.next, e.seq, (e.adds.length : Int)] ++ e.adds.flatMap segN) ++ [(e.dels.length : Int)] ++ e.dels ++ [(e.pars.length : Int)]) ++ e.pars.flatMap parN) ++ [(e.drops.length : Int)] ++ e.drops = rowE e := by
  simp [rowE]
theorem parN_is (x : PT) : [x.group, (x.nums.length : Int)] ++ x.nums ++ x.sizes ++ [x.size, x.sum] = parN x := by simp [parN]
theorem own_lower {base base' : Nat} {w : World} {v : Value} {n : Nat} {R : List Int} (h : OwnN base w v n R) (hb : base' ≤ base) : OwnN base' w v n R := by
  obtain ⟨hl, h | ⟨g, cap, cur, hv, hg, hrest⟩⟩ := h
  · exact ⟨hl, .inl h⟩
  · exact ⟨hl, .inr ⟨g, cap, cur, hv, by omega, hrest⟩⟩
def NumPost (R : List Int) (w : World) (r : Ending) (w' : World) : Prop := ∃ sp n cap, r = .returned (.slice sp n cap) ∧ R.length = n ∧ Hid (OwnN w.heap.size w' (.slice sp n cap) n R) ∧ Hid (Below w.heap.size w w')
set_option maxHeartbeats 32000000 in
theorem numbers_any {D : Nat → Prop} (e : ED) (a1 : Option Addr) (c1 : Nat) (a2 : Option Addr) (c2 : Nat) (a3 : Option Addr) (c3 : Nat) (a4 : Option Addr) (c4 : Nat) (w : World) (he : EdIn D w e a1 c1 a2 c2 a3 c3 a4 c4) (hed : edB e = true) :
    Calls Tryz.prog 40 #[.agg #[.int .i64 e.next, .int .i64 e.seq, .slice a1 e.adds.length c1, .slice a2 e.dels.length c2, .slice a3 e.pars.length c3, .slice a4 e.drops.length c4]] w (NumPost (rowE e) w) := by
  have hb1 : Below w.heap.size w (w.alloc (.cells #[.int .i64 e.next, .int .i64 e.seq, .slice a1 e.adds.length c1, .slice a2 e.dels.length c2, .slice a3 e.pars.length c3, .slice a4 e.drops.length c4] 34)) := (Below.refl _ _).alloc (Nat.le_refl _) _
  have hk1 := Blk.new w 34 (edL e a1 c1 a2 c2 a3 c3 a4 c4)
  obtain ⟨w1, hw1⟩ : ∃ w1, w.alloc (.cells #[.int .i64 e.next, .int .i64 e.seq, .slice a1 e.adds.length c1, .slice a2 e.dels.length c2, .slice a3 e.pars.length c3, .slice a4 e.drops.length c4] 34) = w1 := ⟨_, rfl⟩
  rw [hw1] at hb1
  have hk1' : Blk w1 w.heap.size 34 (edL e a1 c1 a2 c2 a3 c3 a4 c4) := by rw [← hw1]; exact hk1
  have HK1 := Lib.hid hk1'
  have HB1 := Lib.hid hb1
  have HE1 := Lib.hid (he.keep (keep_below hb1))
  have HW := Lib.hid he.w
  rw [edB_iff] at hed
  obtain ⟨_, _, l1, l2, l3, l4⟩ := hed
  rw [allB_iff] at l1 l2 l3 l4
  have HPB := Lib.hid l3.2
  have l1 := l1.1
  have l2 := l2.1
  have l3 := l3.1
  have l4 := l4.1
  have HR := Lib.hid (rowE_is e)
  obtain ⟨m1, hm1⟩ : ∃ m, e.adds.length = m := ⟨_, rfl⟩
  obtain ⟨m2, hm2⟩ : ∃ m, e.dels.length = m := ⟨_, rfl⟩
  obtain ⟨m3, hm3⟩ : ∃ m, e.pars.length = m := ⟨_, rfl⟩
  obtain ⟨m4, hm4⟩ : ∃ m, e.drops.length = m := ⟨_, rfl⟩
  have d0 : w1.cell? ⟨w.heap.size, 0, none⟩ = some (.int .i64 e.next) := hk1'.cell rfl
  have d1 : w1.cell? ⟨w.heap.size, 1, none⟩ = some (.int .i64 e.seq) := hk1'.cell rfl
  have d2 : w1.cell? ⟨w.heap.size, 2, none⟩ = some (.slice a1 e.adds.length c1) := hk1'.cell rfl
  have HCB : Hid (∀ W, Below w1.heap.size w1 W → W.cell? ⟨w.heap.size, 2, none⟩ = some (.slice a1 m1 c1) ∧ W.cell? ⟨w.heap.size, 3, none⟩ = some (.slice a2 m2 c2) ∧ W.cell? ⟨w.heap.size, 4, none⟩ = some (.slice a3 m3 c3) ∧ W.cell? ⟨w.heap.size, 5, none⟩ = some (.slice a4 m4 c4)) := Lib.hid fun W hW => by
    have hk := hk1'.below hW hk1'.lt
    rw [← hm1, ← hm2, ← hm3, ← hm4]
    exact ⟨hk.cell rfl, hk.cell rfl, hk.cell rfl, hk.cell rfl⟩
  have hown := own_new w1 (i64s [e.next, e.seq, (m1 : Int)]) 2 (Nat.le_refl _) (by unfold maxLen; simp [i64s])
  have hbel2 : Below w1.heap.size w1 (w1.alloc (.cells (i64s [e.next, e.seq, (m1 : Int)]).toArray 2)) := (Below.refl _ _).alloc (Nat.le_refl _) _
  rw [hm1, hm2, hm3, hm4] at HR
  rw [hm1] at d2 l1
  rw [hm2] at l2
  rw [hm3] at l3
  rw [hm4] at l4
  rw [hm1, hm2, hm3, hm4] at hw1 ⊢
  have HM : Hid (e.adds.length = m1 ∧ e.dels.length = m2 ∧ e.pars.length = m3 ∧ e.drops.length = m4) := Lib.hid ⟨hm1, hm2, hm3, hm4⟩
  have d2' : (w1.alloc (.cells #[.int .i64 e.next, .int .i64 e.seq, .int .i64 m1] 2)).cell? ⟨w.heap.size, 2, none⟩ = some (.slice a1 m1 c1) := (HCB.out _ hbel2).1
  obtain ⟨w2, hw2⟩ : ∃ w2, w1.alloc (.cells #[.int .i64 e.next, .int .i64 e.seq, .int .i64 m1] 2) = w2 := ⟨_, rfl⟩
  rw [hw2] at d2'
  have HO2 : Hid (OwnN w1.heap.size w2 (.slice (some ⟨w1.heap.size, 0, none⟩) 3 3) 3 [e.next, e.seq, (m1 : Int)]) := Lib.hid (by rw [← hw2]; exact hown)
  have HB2 : Hid (Below w1.heap.size w1 w2) := Lib.hid (by rw [← hw2]; exact hbel2)
  obtain ⟨g1, hg1⟩ : ∃ g, w1.heap.size = g := ⟨_, rfl⟩
  clear hb1 hk1 hk1' he hown hbel2 hm1 hm2 hm3 hm4
  go_enter Tryz.func40, Tryz.ntmps40
  go_wp2_with fail
  rw [hg1] at HO2 HB2 HCB
  have HG1 := Lib.hid hg1
  clear hw1 hw2 d0 d1 d2 d2' hg1
  go_loopw [3, 21] (fun v y wr => ∃ i : Nat, i ≤ m1 ∧ y = .int .i64 i ∧ ∃ (R : List Int) (n : Nat), n = 3 + 6 * i ∧ R = [e.next, e.seq, (m1 : Int)] ++ (e.adds.take i).flatMap segN ∧ OwnN g1 wr v n R ∧ Below g1 w1 wr) (fun _ y _ => m1 - (intOf y).toNat)
  case atStart => exact ⟨0, by omega, rfl, _, 3, rfl, by simp, HO2.out, HB2.out⟩
  case round =>
    obtain ⟨i, hi, rfl, R, n, hn, hR, ho, hb⟩ := hrel
    have HN := Lib.hid hn
    have hn4 : n ≤ 400 := by omega
    have HRR := Lib.hid hR
    have HO := Lib.hid ho
    have HB := Lib.hid hb
    obtain ⟨sp, cp, rfl, hcp, hcm⟩ := ownsRow_slice ho
    have hgw : g1 ≤ wr.heap.size := by rw [← HG1.out]; exact hb.size
    have HEr := Lib.hid (HE1.out.keep (keep_below (by have := hb; rw [← HG1.out] at this; exact this)))
    clear hR ho hb hn
    by_cases hlt : i < m1
    · obtain ⟨bk, off, x, c, rfl, _, _, hx, ⟨rfl, hsw⟩, hu⟩ := RowD.at HEr.out.adds (i := i) (by rw [HM.out.1]; exact hlt)
      have hld := run_loadS (w := wr) rfl hu
      have hN := Blk.new wr 40 (segL zS)
      have hA : Below wr.heap.size wr (wr.alloc (.cells #[.int .i64 0, .bool false, .int .i64 0, .int .i64 0, .int .i64 0, .int .u32 0] 40)) := (Below.refl _ _).alloc (Nat.le_refl _) _
      obtain ⟨w5, hst, HK5, HS5⟩ := putS x hN rfl
      simp only [segL, zS] at hst hld
      have HX := Lib.hid hx
      have hb5 : Below wr.heap.size wr w5 := hA.trans (Gr.below HS5.out hA.size (Nat.le_refl _))
      have HB5 : Hid (Below g1 w1 w5) := Lib.hid (HB.out.trans (hb5.mono hgw))
      have HO5 : Hid (OwnN g1 w5 (.slice sp n cp) n R) := Lib.hid (own_keepD HO.out (gr_below hb5) (by simp))
      have hgw5 : g1 ≤ w5.heap.size := Nat.le_trans hgw hb5.size
      have hwu := wrap_i64u hsw
      have hdg := digit_any x.sealed w5.drew
      have HSG : Hid (segN x = [x.num, dig x.sealed, x.group, x.member, x.size, x.sum]) := Lib.hid rfl
      obtain ⟨dg, hdg'⟩ : ∃ d, dig x.sealed = d := ⟨_, rfl⟩
      rw [hdg'] at hdg HSG
      clear hN hA hx hu hb5 hsw hdg'
      go_wp2_with fail
      obtain ⟨gs, hgs⟩ : ∃ g, wr.heap.size = g := ⟨_, rfl⟩
      rw [hgs] at HK5 ⊢
      clear hst hld hgs
      have hHeld : Blk w5.drew gs 40 (segL x) := HK5.out
      refine wp_region_noPanic ?_
      refine wpAnyH_start (n := 18) (l := #[false, false, false, false, false, false, false, false, false, false, false, false, false, false, false, false, false, false]) (S := fun W => Blk W gs 40 (segL x)) (by kernel_rfl) hHeld (by kernel_rfl) (by kernel_rfl) ?_
      refine wpAnyH_take (i := 0) (oi := _) (v := ?_) rfl (by kernel_rfl) (by kernel_rfl) (by kernel_rfl) (fun _ _ _ h => h) (Or.inl ⟨by rfl, ?_⟩) (by assumption) ?_
      rotate_left
      · intro wq hSw; go_simp; try with_reducible rfl
      simp only [Act.put, List.setIfInBounds_toArray, List.set_cons_zero, List.set_cons_succ, List.getElem_toArray, List.getElem_cons_zero, List.getElem_cons_succ]
      refine wpAnyH_take (i := 1) (oi := _) (v := ?_) rfl (by kernel_rfl) (by kernel_rfl) (by kernel_rfl) (fun _ _ _ h => h) (Or.inl ⟨by rfl, ?_⟩) (by assumption) ?_
      rotate_left
      · intro wq hSw; go_simp; try with_reducible rfl
      simp only [Act.put, List.setIfInBounds_toArray, List.set_cons_zero, List.set_cons_succ, List.getElem_toArray, List.getElem_cons_zero, List.getElem_cons_succ]
      refine wpAnyH_take (i := 2) (oi := _) (v := ?_) rfl (by kernel_rfl) (by kernel_rfl) (by kernel_rfl) (fun _ _ _ h => h) (Or.inl ⟨by rfl, ?_⟩) (by assumption) ?_
      rotate_left
      · intro wq hSw; have cq : wq.cell? ⟨gs, 0, none⟩ = some (.int .i64 x.num) := hSw.cell rfl; go_simp; try with_reducible rfl
      simp only [Act.put, List.setIfInBounds_toArray, List.set_cons_zero, List.set_cons_succ, List.getElem_toArray, List.getElem_cons_zero, List.getElem_cons_succ]
      refine wpAnyH_take (i := 3) (oi := _) (v := ?_) rfl (by kernel_rfl) (by kernel_rfl) (by kernel_rfl) (fun _ _ _ h => h) (Or.inl ⟨by rfl, ?_⟩) (by assumption) ?_
      rotate_left
      · intro wq hSw; go_simp; try with_reducible rfl
      simp only [Act.put, List.setIfInBounds_toArray, List.set_cons_zero, List.set_cons_succ, List.getElem_toArray, List.getElem_cons_zero, List.getElem_cons_succ]
      refine wpAnyH_take (i := 4) (oi := _) (v := ?_) rfl (by kernel_rfl) (by kernel_rfl) (by kernel_rfl) (fun _ _ _ h => h) (Or.inl ⟨by rfl, ?_⟩) (by assumption) ?_
      rotate_left
      · intro wq hSw; have cq : wq.cell? ⟨gs, 1, none⟩ = some (.bool x.sealed) := hSw.cell rfl; go_simp; try with_reducible rfl
      simp only [Act.put, List.setIfInBounds_toArray, List.set_cons_zero, List.set_cons_succ, List.getElem_toArray, List.getElem_cons_zero, List.getElem_cons_succ]
      refine wpAnyH_take (i := 6) (oi := _) (v := ?_) rfl (by kernel_rfl) (by kernel_rfl) (by kernel_rfl) (fun _ _ _ h => h) (Or.inl ⟨by rfl, ?_⟩) (by assumption) ?_
      rotate_left
      · intro wq hSw; go_simp; try with_reducible rfl
      simp only [Act.put, List.setIfInBounds_toArray, List.set_cons_zero, List.set_cons_succ, List.getElem_toArray, List.getElem_cons_zero, List.getElem_cons_succ]
      refine wpAnyH_take (i := 7) (oi := _) (v := ?_) rfl (by kernel_rfl) (by kernel_rfl) (by kernel_rfl) (fun _ _ _ h => h) (Or.inl ⟨by rfl, ?_⟩) (by assumption) ?_
      rotate_left
      · intro wq hSw; have cq : wq.cell? ⟨gs, 2, none⟩ = some (.int .i64 x.group) := hSw.cell rfl; go_simp; try with_reducible rfl
      simp only [Act.put, List.setIfInBounds_toArray, List.set_cons_zero, List.set_cons_succ, List.getElem_toArray, List.getElem_cons_zero, List.getElem_cons_succ]
      refine wpAnyH_take (i := 8) (oi := _) (v := ?_) rfl (by kernel_rfl) (by kernel_rfl) (by kernel_rfl) (fun _ _ _ h => h) (Or.inl ⟨by rfl, ?_⟩) (by assumption) ?_
      rotate_left
      · intro wq hSw; go_simp; try with_reducible rfl
      simp only [Act.put, List.setIfInBounds_toArray, List.set_cons_zero, List.set_cons_succ, List.getElem_toArray, List.getElem_cons_zero, List.getElem_cons_succ]
      refine wpAnyH_take (i := 9) (oi := _) (v := ?_) rfl (by kernel_rfl) (by kernel_rfl) (by kernel_rfl) (fun _ _ _ h => h) (Or.inl ⟨by rfl, ?_⟩) (by assumption) ?_
      rotate_left
      · intro wq hSw; have cq : wq.cell? ⟨gs, 3, none⟩ = some (.int .i64 x.member) := hSw.cell rfl; go_simp; try with_reducible rfl
      simp only [Act.put, List.setIfInBounds_toArray, List.set_cons_zero, List.set_cons_succ, List.getElem_toArray, List.getElem_cons_zero, List.getElem_cons_succ]
      refine wpAnyH_take (i := 10) (oi := _) (v := ?_) rfl (by kernel_rfl) (by kernel_rfl) (by kernel_rfl) (fun _ _ _ h => h) (Or.inl ⟨by rfl, ?_⟩) (by assumption) ?_
      rotate_left
      · intro wq hSw; go_simp; try with_reducible rfl
      simp only [Act.put, List.setIfInBounds_toArray, List.set_cons_zero, List.set_cons_succ, List.getElem_toArray, List.getElem_cons_zero, List.getElem_cons_succ]
      refine wpAnyH_take (i := 11) (oi := _) (v := ?_) rfl (by kernel_rfl) (by kernel_rfl) (by kernel_rfl) (fun _ _ _ h => h) (Or.inl ⟨by rfl, ?_⟩) (by assumption) ?_
      rotate_left
      · intro wq hSw; have cq : wq.cell? ⟨gs, 4, none⟩ = some (.int .i64 x.size) := hSw.cell rfl; go_simp; try with_reducible rfl
      simp only [Act.put, List.setIfInBounds_toArray, List.set_cons_zero, List.set_cons_succ, List.getElem_toArray, List.getElem_cons_zero, List.getElem_cons_succ]
      refine wpAnyH_take (i := 12) (oi := _) (v := ?_) rfl (by kernel_rfl) (by kernel_rfl) (by kernel_rfl) (fun _ _ _ h => h) (Or.inl ⟨by rfl, ?_⟩) (by assumption) ?_
      rotate_left
      · intro wq hSw; go_simp; try with_reducible rfl
      simp only [Act.put, List.setIfInBounds_toArray, List.set_cons_zero, List.set_cons_succ, List.getElem_toArray, List.getElem_cons_zero, List.getElem_cons_succ]
      refine wpAnyH_take (i := 13) (oi := _) (v := ?_) rfl (by kernel_rfl) (by kernel_rfl) (by kernel_rfl) (fun _ _ _ h => h) (Or.inl ⟨by rfl, ?_⟩) (by assumption) ?_
      rotate_left
      · intro wq hSw; have cq : wq.cell? ⟨gs, 5, none⟩ = some (.int .u32 x.sum) := hSw.cell rfl; go_simp; try with_reducible rfl
      simp only [Act.put, List.setIfInBounds_toArray, List.set_cons_zero, List.set_cons_succ, List.getElem_toArray, List.getElem_cons_zero, List.getElem_cons_succ]
      refine wpAnyH_take (i := 14) (oi := _) (v := ?_) rfl (by kernel_rfl) (by kernel_rfl) (by kernel_rfl) (fun _ _ _ h => h) (Or.inl ⟨by rfl, ?_⟩) (by assumption) ?_
      rotate_left
      · intro wq hSw; go_simp; try with_reducible rfl
      simp only [Act.put, List.setIfInBounds_toArray, List.set_cons_zero, List.set_cons_succ, List.getElem_toArray, List.getElem_cons_zero, List.getElem_cons_succ]
      refine wpAnyH_ready (rs := [5]) (by kernel_rfl) (by simp) ?_
      refine AllReadyH.cons (o := _) rfl (fun K hK => ?_) AllReadyH.nil
      simp only [List.getElem_toArray, List.getElem_cons_zero, List.getElem_cons_succ]
      go_simp
      refine hdg.mono ?_
      rintro e' w' ⟨rfl, rfl⟩
      refine hK.out _ _ hHeld (fun _ => ?_)
      clear hK K hdg
      simp only [Act.put, List.setIfInBounds_toArray, List.set_cons_zero, List.set_cons_succ, List.getElem_toArray, List.getElem_cons_zero, List.getElem_cons_succ]
      refine wpAnyH_ready (rs := [15]) (by kernel_rfl) (by simp) ?_
      refine AllReadyH.cons (o := _) rfl (fun K hK => ?_) AllReadyH.nil
      simp only [List.getElem_toArray, List.getElem_cons_zero, List.getElem_cons_succ]
      go_simp
      refine hK.out _ _ (hHeld.alloc _) (fun _ => ?_)
      clear hK K
      simp only [Act.put, List.setIfInBounds_toArray, List.set_cons_zero, List.set_cons_succ, List.getElem_toArray, List.getElem_cons_zero, List.getElem_cons_succ]
      refine wpAnyH_ready (rs := [16]) (by kernel_rfl) (by simp) ?_
      refine AllReadyH.cons (o := _) rfl (fun K hK => ?_) AllReadyH.nil
      simp only [List.getElem_toArray, List.getElem_cons_zero, List.getElem_cons_succ]
      rw [if_pos (by rfl)]
      refine wp_app_new (w := w5.drew) (.tmp 25) (.tmp 40) rfl g1 (.slice sp n cp) n R rfl HO5.out [x.num, dg, x.group, x.member, x.size, x.sum] 6 rfl rfl (by omega) hgw5 ?_
      intro v6 w6 ho6 hgr6
      have HK6 : Hid (Blk w6 gs 40 (segL x)) := Lib.hid (app_blk (w := w5.drew) HK5.out (by decide) HO5.out hgr6)
      have HB6 : Hid (Below g1 w1 w6) := Lib.hid (app_bel (w := w5.drew) HB5.out.drew hgw5 HO5.out hgr6)
      obtain ⟨s6, c6, rfl, _, _⟩ := ownsRow_slice ho6
      have HO6 := Lib.hid ho6
      refine hK.out _ _ HK6.out (fun _ => ?_)
      clear hK K ho6 hgr6
      simp only [Act.put, List.setIfInBounds_toArray, List.set_cons_zero, List.set_cons_succ, List.getElem_toArray, List.getElem_cons_zero, List.getElem_cons_succ]
      have hHeld6 := HK6.out
      refine wpAnyH_take (i := 17) (oi := _) (v := ?_) rfl (by kernel_rfl) (by kernel_rfl) (by kernel_rfl) (fun _ _ _ h => h) (Or.inl ⟨by rfl, ?_⟩) (by assumption) ?_
      rotate_left
      · intro wq hSw; go_simp; try with_reducible rfl
      simp only [Act.put, List.setIfInBounds_toArray, List.set_cons_zero, List.set_cons_succ, List.getElem_toArray, List.getElem_cons_zero, List.getElem_cons_succ]
      refine wpAnyH_done (by kernel_rfl) ?_ _
      refine NoPanic.normal ?_
      clear hHeld hHeld6
      have HF := Lib.hid (flat_take segN HX.out)
      go_wp2
      go_roundw
      case rel => exact ⟨i + 1, hlt, by go_num, R ++ [x.num, dg, x.group, x.member, x.size, x.sum], n + 6, by rw [HN.out]; omega, by rw [HF.out, HRR.out, HSG.out, List.append_assoc], HO6.out, HB6.out⟩
      case measure => simp [intOf]; omega
    · obtain rfl : i = m1 := by omega
      have HR1 : Hid (R = [e.next, e.seq, (i : Int)] ++ e.adds.flatMap segN) := Lib.hid (by rw [HRR.out, List.take_of_length_le (by rw [HM.out.1]; exact Nat.le_refl _)])
      obtain ⟨_, q3, q4, q5⟩ := HCB.out wr HB.out
      have hm2 := HM.out.2.1
      have hm3 := HM.out.2.2.1
      have hm4 := HM.out.2.2.2
      have HM2 := Lib.hid hm2
      have HM3 := Lib.hid hm3
      have HM4 := Lib.hid hm4
      have HKP : Hid (∀ W, Below g1 w1 W → Keep D D w1 W) := Lib.hid fun W hW => keep_below (by rw [HG1.out]; exact hW)
      have HDL : Hid (∀ W, Below g1 w1 W → IsNums D W (.slice a2 m2 c2) e.dels) := Lib.hid fun W hW => by rw [← HM2.out]; exact HE1.out.dels.keep' (HKP.out W hW)
      have HDR : Hid (∀ W, Below g1 w1 W → IsNums D W (.slice a4 m4 c4) e.drops) := Lib.hid fun W hW => by rw [← HM4.out]; exact HE1.out.drops.keep' (HKP.out W hW)
      have HPR : Hid (IsPars D w1 (.slice a3 m3 c3) e.pars) := Lib.hid (by rw [← HM3.out]; exact HE1.out.pars)
      clear q4 q5 hm2 hm3 hm4
      go_wp2_with (first | (at_builtin; refine wpList_app_new rfl (.tmp 43) (.tmp 47) rfl g1 (.slice sp n cp) n R rfl HO.out [(m2 : Int)] 1 rfl rfl (by omega) hgw ?_; intro v20 w20 ho20 hgr20; obtain ⟨n20, hn20⟩ : ∃ k, n + 1 = k := ⟨_, rfl⟩; obtain ⟨R20, hR20⟩ : ∃ k, R ++ [(m2 : Int)] = k := ⟨_, rfl⟩; rw [hn20, hR20] at ho20; obtain ⟨s20, k20, rfl, _, _⟩ := ownsRow_slice ho20; have HB20 := Lib.hid (app_bel HB.out hgw HO.out hgr20); have HO20 := Lib.hid ho20; have HR20 := Lib.hid hR20; have hz20 : g1 ≤ w20.heap.size := (by have := HB20.out.size; rw [HG1.out] at this; exact this); have hb20 : n20 ≤ 401 := (by omega); have q20 := (HCB.out w20 HB20.out).2.1; have hd20 := HDL.out w20 HB20.out; clear ho20 hgr20 hn20 hR20) | (at_builtin; refine wpList_append_nums rfl (.tmp 49) (.tmp 51) rfl g1 (.slice s20 n20 k20) n20 R20 rfl HO20.out D (.slice a2 m2 c2) e.dels rfl hd20 (by rw [HM2.out]; omega) hz20 ?_; intro v21 w21 ho21 hgr21; obtain ⟨n21, hn21⟩ : ∃ k, n20 + e.dels.length = k := ⟨_, rfl⟩; obtain ⟨R21, hR21⟩ : ∃ k, R20 ++ e.dels = k := ⟨_, rfl⟩; rw [hn21, hR21] at ho21; obtain ⟨s21, k21, rfl, _, _⟩ := ownsRow_slice ho21; have HB21 := Lib.hid (app_bel0 HB20.out hz20 HO20.out hgr21); have HO21 := Lib.hid ho21; have HR21 := Lib.hid hR21; have hz21 : g1 ≤ w21.heap.size := (by have := HB21.out.size; rw [HG1.out] at this; exact this); have hb21 : n21 ≤ 461 := (by rw [HM2.out] at hn21; omega); have q21 := (HCB.out w21 HB21.out).2.2.1; clear ho21 hgr21 hn21 hR21) | (at_builtin; refine wpList_app_new rfl (.tmp 53) (.tmp 57) rfl g1 (.slice s21 n21 k21) n21 R21 rfl HO21.out [(m3 : Int)] 1 rfl rfl (by omega) hz21 ?_; intro v22 w22 ho22 hgr22; obtain ⟨n22, hn22⟩ : ∃ k, n21 + 1 = k := ⟨_, rfl⟩; obtain ⟨R22, hR22⟩ : ∃ k, R21 ++ [(m3 : Int)] = k := ⟨_, rfl⟩; rw [hn22, hR22] at ho22; obtain ⟨s22, k22, rfl, _, _⟩ := ownsRow_slice ho22; have HB22 := Lib.hid (app_bel HB21.out hz21 HO21.out hgr22); have HO22 := Lib.hid ho22; have HR22 := Lib.hid hR22; have hz22 : g1 ≤ w22.heap.size := (by have := HB22.out.size; rw [HG1.out] at this; exact this); have hb22 : n22 ≤ 462 := (by omega); have q22 := (HCB.out w22 HB22.out).2.2.1; clear ho22 hgr22 hn22 hR22))
      have HRA : Hid (R22 = [e.next, e.seq, (i : Int)] ++ e.adds.flatMap segN ++ [(m2 : Int)] ++ e.dels ++ [(m3 : Int)]) := Lib.hid (by rw [← HR22.out, ← HR21.out, ← HR20.out, HR1.out])
      clear q3 q20 q21 hd20 HO HO20 HO21 HB HB20 HB21 HR20 HR21 HR22 HR1 HRR HN hcp hcm HEr hz20 hz21 hb20 hb21 hgw hn4 hi hlt
      go_loopw [3, 62] (fun v y wr => ∃ i2 : Nat, i2 ≤ m3 ∧ y = .int .i64 i2 ∧ ∃ (R : List Int) (n : Nat), n ≤ 600 + 10 * i2 ∧ R = R22 ++ (e.pars.take i2).flatMap parN ∧ OwnN g1 wr v n R ∧ Below g1 w1 wr) (fun _ y _ => m3 - (intOf y).toNat)
      case atStart => exact ⟨0, by omega, rfl, _, n22, by omega, by simp, HO22.out, HB22.out⟩
      case round =>
        clear HO22 HB22 hz22
        obtain ⟨i2, hi2, rfl, R, n, hn, hR, ho, hb⟩ := hrel
        have HRR := Lib.hid hR
        have HN := Lib.hid hn
        have hn4 : n ≤ 1210 := by omega
        have HO := Lib.hid ho
        have HB := Lib.hid hb
        obtain ⟨sp, cp, rfl, hcp, hcm⟩ := ownsRow_slice ho
        have hgw : g1 ≤ wr.heap.size := by rw [← HG1.out]; exact hb.size
        clear hR ho hb hn
        by_cases hlt2 : i2 < m3
        · obtain ⟨bk, off, x, c, rfl, _, hbk, hx, ⟨b1, d1, b2, d2, rfl, hp1, hp2, hsw⟩, hu⟩ := RowD.at HPR.out (i := i2) (by rw [HM3.out]; exact hlt2)
          have hu' : ∀ j u, (parL x b1 d1 b2 d2)[j]? = some u → wr.cell? ⟨bk, off + i2 * 5 + j, none⟩ = some u := fun j u hj => (Below.cell (p := ⟨bk, _, none⟩) HB.out (by rw [← HG1.out]; exact hbk)).trans (hu j u hj)
          have hld := run_loadP (w := wr) rfl hu'
          have hN := Blk.new wr 95 (parL zP none 0 none 0)
          have hA : Below wr.heap.size wr (wr.alloc (.cells #[.int .i64 0, .slice none 0 0, .slice none 0 0, .int .i64 0, .int .u32 0] 95)) := (Below.refl _ _).alloc (Nat.le_refl _) _
          obtain ⟨w5, hst, HK5, HS5⟩ := putP (a1 := b1) (c1 := d1) (a2 := b2) (c2 := d2) x hN rfl
          simp only [parL, zP, List.length_nil] at hst hld
          have HX := Lib.hid hx
          have hb5 : Below wr.heap.size wr w5 := hA.trans (Gr.below HS5.out hA.size (Nat.le_refl _))
          have HB5 : Hid (Below g1 w1 w5) := Lib.hid (HB.out.trans (hb5.mono hgw))
          have HO5 : Hid (OwnN g1 w5 (.slice sp n cp) n R) := Lib.hid (own_keepD HO.out (gr_below hb5) (by simp))
          have hz5 : g1 ≤ w5.heap.size := Nat.le_trans hgw hb5.size
          have hwu := wrap_i64u hsw
          have hpb := HPB.out x (List.mem_of_getElem? hx)
          rw [parB_iff] at hpb
          obtain ⟨_, _, _, hl3, hl4, _⟩ := hpb
          obtain ⟨k1, hk1⟩ : ∃ k, x.nums.length = k := ⟨_, rfl⟩
          obtain ⟨k2, hk2⟩ : ∃ k, x.sizes.length = k := ⟨_, rfl⟩
          have HPN := Lib.hid (parN_is x)
          have hkc : ∀ W g, Blk W g 95 (parL x b1 d1 b2 d2) → W.cell? ⟨g, 0, none⟩ = some (.int .i64 x.group) ∧ W.cell? ⟨g, 1, none⟩ = some (.slice b1 k1 d1) ∧ W.cell? ⟨g, 2, none⟩ = some (.slice b2 k2 d2) ∧ W.cell? ⟨g, 3, none⟩ = some (.int .i64 x.size) ∧ W.cell? ⟨g, 4, none⟩ = some (.int .u32 x.sum) := fun W g hk => by
            rw [← hk1, ← hk2]
            exact ⟨hk.cell rfl, hk.cell rfl, hk.cell rfl, hk.cell rfl, hk.cell rfl⟩
          have HKC := Lib.hid hkc
          rw [hk1] at HPN
          rw [hk1, hk2] at hst hld
          have HP1 : Hid (∀ W, Below g1 w1 W → IsNums D W (.slice b1 k1 d1) x.nums) := Lib.hid fun W hW => by rw [← hk1]; exact hp1.keep' (HKP.out W hW)
          have HP2 : Hid (∀ W, Below g1 w1 W → IsNums D W (.slice b2 k2 d2) x.sizes) := Lib.hid fun W hW => by rw [← hk2]; exact hp2.keep' (HKP.out W hW)
          rw [hk1] at hl3 hl4
          rw [hk2] at hl4
          have HL1 := Lib.hid hk1
          have HL2 := Lib.hid hk2
          have HL4 := Lib.hid hl4
          have hl5 : k2 ≤ 3 := by omega
          obtain ⟨p0, p1, _, _, _⟩ := HKC.out w5 _ HK5.out
          clear hN hA hx hu hu' hb5 hsw hp1 hp2 hkc hk1 hk2 hl4
          go_wp2_with (first | (at_builtin; refine wpList_app_new rfl (.tmp 66) (.tmp 72) rfl g1 (.slice sp n cp) n R rfl HO5.out [x.group, (k1 : Int)] 2 rfl rfl (by omega) hz5 ?_; intro v30 w30 ho30 hgr30; obtain ⟨n30, hn30⟩ : ∃ k, n + 2 = k := ⟨_, rfl⟩; obtain ⟨R30, hR30⟩ : ∃ k, R ++ [x.group, (k1 : Int)] = k := ⟨_, rfl⟩; rw [hn30, hR30] at ho30; obtain ⟨s30, k30, rfl, _, _⟩ := ownsRow_slice ho30; have HB30 := Lib.hid (app_bel HB5.out hz5 HO5.out hgr30); have HO30 := Lib.hid ho30; have HR30 := Lib.hid hR30; have hz30 : g1 ≤ w30.heap.size := (by have := HB30.out.size; rw [HG1.out] at this; exact this); have HNN30 := Lib.hid hn30; have hb30 : n30 ≤ 1212 := (by omega); have HK30 := Lib.hid (app_blk HK5.out (by decide) HO5.out hgr30); have p30 := (HKC.out w30 _ HK30.out).2.1; have hd30 := HP1.out w30 HB30.out; clear ho30 hgr30 hn30 hR30) | (at_builtin; refine wpList_append_nums rfl (.tmp 74) (.tmp 76) rfl g1 (.slice s30 n30 k30) n30 R30 rfl HO30.out D (.slice b1 k1 d1) x.nums rfl hd30 (by rw [HL1.out]; omega) hz30 ?_; intro v31 w31 ho31 hgr31; obtain ⟨n31, hn31⟩ : ∃ k, n30 + x.nums.length = k := ⟨_, rfl⟩; obtain ⟨R31, hR31⟩ : ∃ k, R30 ++ x.nums = k := ⟨_, rfl⟩; rw [hn31, hR31] at ho31; obtain ⟨s31, k31, rfl, _, _⟩ := ownsRow_slice ho31; have HB31 := Lib.hid (app_bel0 HB30.out hz30 HO30.out hgr31); have HO31 := Lib.hid ho31; have HR31 := Lib.hid hR31; have hz31 : g1 ≤ w31.heap.size := (by have := HB31.out.size; rw [HG1.out] at this; exact this); have HNN31 := Lib.hid hn31; have hb31 : n31 ≤ 1215 := (by rw [HL1.out] at hn31; omega); have HK31 := Lib.hid (app_blk0 HK30.out (by decide) HO30.out hgr31); have p31 := (HKC.out w31 _ HK31.out).2.2.1; clear ho31 hgr31 hn31 hR31))
          obtain ⟨gp, hgp⟩ : ∃ g, wr.heap.size = g := ⟨_, rfl⟩
          rw [hgp] at HK31 ⊢
          have HRB : Hid (R31 = R ++ [x.group, (k1 : Int)] ++ x.nums) := Lib.hid (by rw [← HR31.out, ← HR30.out])
          have HN31 : Hid (n31 = n + 2 + k1) := Lib.hid (by rw [← HNN31.out, ← HNN30.out, HL1.out])
          clear hst hld hgp p0 p1 p30 p31 hd30 HK5 HK30 HO HO5 HO30 HB HB5 HB30 HR30 HR31 HS5 hz30 hb30 hz5
          go_loopw [3, 81] (fun v y wr => ∃ j : Nat, j ≤ k2 ∧ y = .int .i64 j ∧ ∃ (R : List Int) (n : Nat), n = n31 + j ∧ R = R31 ++ x.sizes.take j ∧ OwnN g1 wr v n R ∧ Below g1 w1 wr ∧ Blk wr gp 95 (parL x b1 d1 b2 d2)) (fun _ y _ => k2 - (intOf y).toNat)
          case atStart => exact ⟨0, by omega, rfl, _, n31, by omega, by simp, HO31.out, HB31.out, HK31.out⟩
          case round =>
            clear HO31 HB31 hz31 HK31
            obtain ⟨j, hj, rfl, Rq, nq, hn, hR, ho, hb, hk⟩ := hrel
            have HRQ := Lib.hid hR
            have HNQ := Lib.hid hn
            have hnq : nq ≤ 1218 := by omega
            have HO := Lib.hid ho
            have HB := Lib.hid hb
            have HK := Lib.hid hk
            obtain ⟨sq, cq, rfl, _, _⟩ := ownsRow_slice ho
            have hzq : g1 ≤ wr.heap.size := by rw [← HG1.out]; exact hb.size
            clear hR ho hb hn hk
            by_cases hlt3 : j < k2
            · have hjl : j < x.sizes.length := by rw [HL2.out]; exact hlt3
              obtain ⟨kb, ko, rfl, _, _, hc⟩ := IsNums.cell (HP2.out wr HB.out) hjl
              have hjx : x.sizes[j]? = some (x.sizes.getD j 0) := by simp [List.getD, hjl]
              obtain ⟨z, hz⟩ : ∃ z, x.sizes.getD j 0 = z := ⟨_, rfl⟩
              rw [hz] at hc hjx
              have HTK : Hid (x.sizes.take (j + 1) = x.sizes.take j ++ [z]) := Lib.hid (by rw [List.take_add_one, hjx]; rfl)
              clear hz hjx hjl
              go_wp2_with (first | (at_builtin; refine wpList_app_new rfl (.tmp 85) (.tmp 87) rfl g1 (.slice sq nq cq) nq Rq rfl HO.out [z] 1 rfl rfl (by omega) hzq ?_; intro v40 w40 ho40 hgr40; obtain ⟨n40, hn40⟩ : ∃ k, nq + 1 = k := ⟨_, rfl⟩; obtain ⟨R40, hR40⟩ : ∃ k, Rq ++ [z] = k := ⟨_, rfl⟩; rw [hn40, hR40] at ho40; obtain ⟨s40, k40, rfl, _, _⟩ := ownsRow_slice ho40; have HB40 := Lib.hid (app_bel HB.out hzq HO.out hgr40); have HO40 := Lib.hid ho40; have HR40 := Lib.hid hR40; have hz40 : g1 ≤ w40.heap.size := (by have := HB40.out.size; rw [HG1.out] at this; exact this); have hb40 : n40 ≤ 1219 := (by omega); have HK40 := Lib.hid (app_blk HK.out (by decide) HO.out hgr40); have HN40 := Lib.hid hn40; clear ho40 hgr40 hn40 hR40))
              go_roundw
              case rel => exact ⟨j + 1, hlt3, by go_num, R40, n40, by rw [← HN40.out, HNQ.out]; omega, by rw [← HR40.out, HRQ.out, HTK.out, List.append_assoc], HO40.out, HB40.out, HK40.out⟩
              case measure => simp [intOf]; omega
            · obtain rfl : j = k2 := by omega
              have HRQ2 : Hid (Rq = R31 ++ x.sizes) := Lib.hid (by rw [HRQ.out, List.take_of_length_le (by rw [HL2.out]; exact Nat.le_refl _)])
              obtain ⟨_, _, _, p3, p4⟩ := HKC.out wr gp HK.out
              have HF := Lib.hid (flat_take parN HX.out)
              go_wp2_with (first | (at_builtin; refine wpList_app_new rfl (.tmp 90) (.tmp 96) rfl g1 (.slice sq nq cq) nq Rq rfl HO.out [x.size, x.sum] 2 rfl rfl (by omega) hzq ?_; intro v50 w50 ho50 hgr50; obtain ⟨n50, hn50⟩ : ∃ k, nq + 2 = k := ⟨_, rfl⟩; obtain ⟨R50, hR50⟩ : ∃ k, Rq ++ [x.size, x.sum] = k := ⟨_, rfl⟩; rw [hn50, hR50] at ho50; obtain ⟨s50, k50, rfl, _, _⟩ := ownsRow_slice ho50; have HB50 := Lib.hid (app_bel HB.out hzq HO.out hgr50); have HO50 := Lib.hid ho50; have HR50 := Lib.hid hR50; have hz50 : g1 ≤ w50.heap.size := (by have := HB50.out.size; rw [HG1.out] at this; exact this); have hb50 : n50 ≤ 1220 := (by omega); have HN50 := Lib.hid hn50; clear ho50 hgr50 hn50 hR50))
              go_roundw
              case rel => exact ⟨i2 + 1, hlt2, by go_num, R50, n50, by rw [← HN50.out, HNQ.out, HN31.out]; have := HN.out; omega, by rw [← HR50.out, HRQ2.out, HRB.out, HF.out, HRR.out, ← HPN.out]; simp only [List.append_assoc], HO50.out, HB50.out⟩
              case measure => simp [intOf]; omega
        · obtain rfl : i2 = m3 := by omega
          have HR5 : Hid (R = R22 ++ e.pars.flatMap parN) := Lib.hid (by rw [HRR.out, List.take_of_length_le (by rw [HM3.out]; exact Nat.le_refl _)])
          obtain ⟨_, _, _, q5⟩ := HCB.out wr HB.out
          go_wp2_with (first | (at_builtin; refine wpList_app_new rfl (.tmp 99) (.tmp 103) rfl g1 (.slice sp n cp) n R rfl HO.out [(m4 : Int)] 1 rfl rfl (by omega) hgw ?_; intro v60 w60 ho60 hgr60; obtain ⟨n60, hn60⟩ : ∃ k, n + 1 = k := ⟨_, rfl⟩; obtain ⟨R60, hR60⟩ : ∃ k, R ++ [(m4 : Int)] = k := ⟨_, rfl⟩; rw [hn60, hR60] at ho60; obtain ⟨s60, k60, rfl, _, _⟩ := ownsRow_slice ho60; have HB60 := Lib.hid (app_bel HB.out hgw HO.out hgr60); have HO60 := Lib.hid ho60; have HR60 := Lib.hid hR60; have hz60 : g1 ≤ w60.heap.size := (by have := HB60.out.size; rw [HG1.out] at this; exact this); have hb60 : n60 ≤ 1211 := (by omega); have q60 := (HCB.out w60 HB60.out).2.2.2; have hd60 := HDR.out w60 HB60.out; clear ho60 hgr60 hn60 hR60) | (at_builtin; refine wpList_append_nums rfl (.tmp 105) (.tmp 107) rfl g1 (.slice s60 n60 k60) n60 R60 rfl HO60.out D (.slice a4 m4 c4) e.drops rfl hd60 (by rw [HM4.out]; omega) hz60 ?_; intro v61 w61 ho61 hgr61; obtain ⟨n61, hn61⟩ : ∃ k, n60 + e.drops.length = k := ⟨_, rfl⟩; obtain ⟨R61, hR61⟩ : ∃ k, R60 ++ e.drops = k := ⟨_, rfl⟩; rw [hn61, hR61] at ho61; obtain ⟨s61, k61, rfl, _, _⟩ := ownsRow_slice ho61; have HB61 := Lib.hid (app_bel0 HB60.out hz60 HO60.out hgr61); have HO61 := Lib.hid ho61; have HR61 := Lib.hid hR61; have hz61 : g1 ≤ w61.heap.size := (by have := HB61.out.size; rw [HG1.out] at this; exact this); have hb61 : n61 ≤ 1271 := (by rw [HM4.out] at hn61; omega); clear ho61 hgr61 hn61 hR61))
          go_ret
          have hfin : R61 = rowE e := by rw [← HR61.out, ← HR60.out, HR5.out, HRA.out]; exact HR.out
          have hlen : R61.length = n61 := by have := HO61.out.1; rw [i64s_length] at this; omega
          refine ⟨s61, n61, k61, rfl, by rw [← hfin]; exact hlen, ?_, ?_⟩
          · rw [← hfin]
            exact Lib.hid (own_lower HO61.out (by rw [← HG1.out]; exact HB1.out.size))
          · have hb := HB61.out
            rw [← HG1.out] at hb
            exact Lib.hid (HB1.out.trans (hb.mono HB1.out.size))
end Go.Proofs.YthgpdnffahmhjaaGreatDoor.S18
