/- Texts put together: MaD. -/
import Derived.Test.YthgpdnffahmhjaaGreatDoorMg19
import Derived.Test.YthgpdnffahmhjaaGreatDoorMg32
import Derived.Lib.SliceRun
set_option linter.unusedSimpArgs false
set_option linter.unusedVariables false
set_option maxRecDepth 100000
namespace Go.Proofs.YthgpdnffahmhjaaGreatDoor.S19
open Go.RowKit Go.Maps Go.Shelf Go.Sort S18
theorem wpList_append_sizes {w : World} {ops : Array Oper} {rest : List Oper} {o : Oper} {a : Act} {Q : Exit → Act → World → Prop} (hgd : o.guard = none) (s x : Operand)
    (ho : o.op = .call { callee := .builtin .append, args := #[s, x], argTypes := #[80, 80] })
    (base : Nat) (v : Value) (n : Nat) (L : List Int) (hs : a.eval s = v) (hown : w.ownsRow base 3 1 v n (i64s L))
    (D : Nat → Prop) (src : Value) (M : List Int) (hx : a.eval x = src) (hsrc : IsNums D w src M)
    (hbytes : n + M.length ≤ 17592186044416) (hbase : base ≤ w.heap.size)
    (h : ∀ v' w', w'.ownsRow base 3 1 v' (n + M.length) (i64s (L ++ M)) → w.grownBy w' v.ownBlock → wpList Tryz.prog ops Q rest (a.put o.dst v') w') : wpList Tryz.prog ops Q (o :: rest) a w := by
  obtain ⟨i0, hi, hz0, hz1, hz2⟩ := infoI_parts infoI
  have hsrc2 := hsrc
  obtain ⟨ad, cap, rfl, h1, h2, hnn, _⟩ := hsrc2
  by_cases h0 : M.length = 0
  · obtain rfl : M = [] := List.eq_nil_of_length_eq_zero h0
    cases ad with
    | none =>
      obtain rfl := hnn rfl
      refine wpList_append_own_none hgd s x _ ho base 3 i0 1 Tryz.underlying80 hi v n _ hs hown (by rw [hx]; exact rfl) ?_
      exact h v w (by simpa [i64s] using hown) (grownBy_refl _ _)
    | some ad =>
      refine wpList_append_own w hgd s x _ ho base 3 i0 (.int .i64 0) 1 8 Tryz.underlying80 hi hz0 hz1 hz2 rfl (by decide) v n _ hs hown ad 0 cap [] hx (by simp) (fun j u hj => by simp at hj) (by simp) (by simp at hbytes; unfold maxLen; omega) (by simp at hbytes; omega) hbase ?_
      exact fun v' w' h3 h4 _ => h v' w' (by simpa using h3) h4
  · obtain ⟨b, off, rfl, hD, hb, _⟩ := IsNums.cell hsrc (i := 0) (by omega)
    refine wpList_append_own w hgd s x _ ho base 3 i0 (.int .i64 0) 1 8 Tryz.underlying80 hi hz0 hz1 hz2 rfl (by decide) v n _ hs hown ⟨b, off, none⟩ M.length cap (i64s M) hx (by rw [i64s_length, Nat.mul_one]) (fun j u hj => ?_) (i64s_one M) (by unfold maxLen; omega) (by omega) hbase ?_
    · have hj1 := (List.getElem?_eq_some_iff.1 hj).1
      rw [i64s_length] at hj1
      rw [i64s_get M j hj1] at hj
      obtain ⟨b', off', he, _, _, hc⟩ := IsNums.cell hsrc hj1
      cases he
      rw [addr_at, ← hj]
      exact hc
    · exact fun v' w' h3 h4 _ => h v' w' (by rw [i64s_append]; exact h3) h4
set_option maxHeartbeats 2000000 in
theorem clone_nums {D : Nat → Prop} (a : Option Addr) (cap : Nat) (L : List Int) (w : World) (hv : IsNums D w (.slice a L.length cap) L) (hl : L.length ≤ 1000000) :
    Calls Tryz.prog 108 #[.slice a L.length cap] w fun e w' => ∃ a' c', e = .returned (.slice a' L.length c') ∧ OwnD w.heap.size 2 1 numC w' (.slice a' L.length c') L ∧ Below w.heap.size w w' := by
  obtain ⟨n, hn⟩ : ∃ n, L.length = n := ⟨_, rfl⟩
  have HN := Lib.hid hn
  cases a with
  | none =>
    have h0 : L.length = 0 := Nat.eq_zero_of_not_pos fun h => by obtain ⟨b, off, he, _⟩ := IsNums.cell hv (i := 0) h; cases he
    obtain rfl : L = [] := List.eq_nil_of_length_eq_zero h0
    simp only [List.length_nil] at hn ⊢
    clear hv HN hn
    have hq := Lib.run_eql_slice_nil (P := Tryz.prog) w 31 2 none 0 cap 0 0 Tryz.underlying31
    go_enter Tryz.func108, Tryz.ntmps108
    go_wp2_with fail
    go_ret
    exact ⟨none, 0, rfl, OwnD.nil _ _ _ _ _, Below.refl _ _⟩
  | some ad =>
    have hb1 : Below w.heap.size w (w.alloc (.cells #[] 2)) := (Below.refl _ _).alloc (Nat.le_refl _) _
    obtain ⟨w1, hw1⟩ : ∃ w1, w.alloc (.cells #[] 2) = w1 := ⟨_, rfl⟩
    have hk1 : Blk w1 w.heap.size 2 [] := by rw [← hw1]; exact Blk.new w 2 []
    rw [hw1] at hb1
    have ho : w1.ownsRow w.heap.size 2 1 (.slice (some ⟨w.heap.size, 0, none⟩) 0 0) 0 (i64s []) := ⟨rfl, .inr ⟨w.heap.size, 0, #[], rfl, Nat.le_refl _, hk1, Nat.le_refl _, by unfold maxLen; omega, rfl, rfl⟩⟩
    have HV := Lib.hid (IsNums.keep' (RowD.keep (R' := numC) (D' := D) hv (keep_below hb1) fun _ _ h => h) (D' := D) (w' := w1) fun b hb _ => ⟨hb, rfl⟩)
    have HB1 := Lib.hid hb1
    have HO := Lib.hid ho
    rw [hn] at HV hl ⊢
    clear hv hb1 ho hk1 hn
    have hq := Lib.run_eql_slice_nil (P := Tryz.prog) w 31 2 (some ad) n cap 0 0 Tryz.underlying31
    go_enter Tryz.func108, Tryz.ntmps108
    go_wp2_with (at_builtin; refine wpList_append_nums rfl (.tmp 5) (.tmp 6) rfl w.heap.size _ 0 [] rfl HO.out D _ L rfl HV.out (by rw [HN.out]; omega) HB1.out.size ?_; intro v' w' ho' hg')
    have hr := ownD_nums (L := L) (by rw [Nat.zero_add]) ho'
    obtain ⟨sp, cp, rfl, _, _⟩ := OwnD.slice hr
    rw [HN.out] at hr ⊢
    have HR := Lib.hid hr
    have HB : Hid (Below w.heap.size w w') := Lib.hid (HB1.out.grown hg' HB1.out.size (fun j hj => by cases hj; exact Nat.le_refl _))
    clear ho' hg' hr
    go_wp2_with fail
    go_ret
    exact ⟨sp, cp, rfl, HR.out, HB.out⟩
set_option maxHeartbeats 2000000 in
theorem clone_sizes {D : Nat → Prop} (a : Option Addr) (cap : Nat) (L : List Int) (w : World) (hv : IsNums D w (.slice a L.length cap) L) (hl : L.length ≤ 1000000) :
    Calls Tryz.prog 109 #[.slice a L.length cap] w fun e w' => ∃ a' c', e = .returned (.slice a' L.length c') ∧ OwnD w.heap.size 3 1 numC w' (.slice a' L.length c') L ∧ Below w.heap.size w w' := by
  obtain ⟨n, hn⟩ : ∃ n, L.length = n := ⟨_, rfl⟩
  have HN := Lib.hid hn
  cases a with
  | none =>
    have h0 : L.length = 0 := Nat.eq_zero_of_not_pos fun h => by obtain ⟨b, off, he, _⟩ := IsNums.cell hv (i := 0) h; cases he
    obtain rfl : L = [] := List.eq_nil_of_length_eq_zero h0
    simp only [List.length_nil] at hn ⊢
    clear hv HN hn
    have hq := Lib.run_eql_slice_nil (P := Tryz.prog) w 80 3 none 0 cap 0 0 Tryz.underlying80
    go_enter Tryz.func109, Tryz.ntmps109
    go_wp2_with fail
    go_ret
    exact ⟨none, 0, rfl, OwnD.nil _ _ _ _ _, Below.refl _ _⟩
  | some ad =>
    have hb1 : Below w.heap.size w (w.alloc (.cells #[] 3)) := (Below.refl _ _).alloc (Nat.le_refl _) _
    obtain ⟨w1, hw1⟩ : ∃ w1, w.alloc (.cells #[] 3) = w1 := ⟨_, rfl⟩
    have hk1 : Blk w1 w.heap.size 3 [] := by rw [← hw1]; exact Blk.new w 3 []
    rw [hw1] at hb1
    have ho : w1.ownsRow w.heap.size 3 1 (.slice (some ⟨w.heap.size, 0, none⟩) 0 0) 0 (i64s []) := ⟨rfl, .inr ⟨w.heap.size, 0, #[], rfl, Nat.le_refl _, hk1, Nat.le_refl _, by unfold maxLen; omega, rfl, rfl⟩⟩
    have HV := Lib.hid (IsNums.keep' (RowD.keep (R' := numC) (D' := D) hv (keep_below hb1) fun _ _ h => h) (D' := D) (w' := w1) fun b hb _ => ⟨hb, rfl⟩)
    have HB1 := Lib.hid hb1
    have HO := Lib.hid ho
    rw [hn] at HV hl ⊢
    clear hv hb1 ho hk1 hn
    have hq := Lib.run_eql_slice_nil (P := Tryz.prog) w 80 3 (some ad) n cap 0 0 Tryz.underlying80
    go_enter Tryz.func109, Tryz.ntmps109
    go_wp2_with (at_builtin; refine wpList_append_sizes rfl (.tmp 5) (.tmp 6) rfl w.heap.size _ 0 [] rfl HO.out D _ L rfl HV.out (by rw [HN.out]; omega) HB1.out.size ?_; intro v' w' ho' hg')
    have hr := ownD_nums (L := L) (by rw [Nat.zero_add]) ho'
    obtain ⟨sp, cp, rfl, _, _⟩ := OwnD.slice hr
    rw [HN.out] at hr ⊢
    have HR := Lib.hid hr
    have HB : Hid (Below w.heap.size w w') := Lib.hid (HB1.out.grown hg' HB1.out.size (fun j hj => by cases hj; exact Nat.le_refl _))
    clear ho' hg' hr
    go_wp2_with fail
    go_ret
    exact ⟨sp, cp, rfl, HR.out, HB.out⟩
def CopPost (p : PT) (w : World) (e : Ending) (w' : World) : Prop :=
  ∃ b1 d1 b2 d2, e = .returned (.agg #[.int .i64 p.group, .slice b1 p.nums.length d1, .slice b2 p.sizes.length d2, .int .i64 p.size, .int .u32 p.sum]) ∧ Hid (parC (TyD parTs w.heap.size w') w' p (parL p b1 d1 b2 d2)) ∧ Hid (Below w.heap.size w w')
theorem cop_ret {fn : Func} {q : Tmp} {a : Act} {w0 w : World} {g : Nat} {t : TypeId} {x : PT} {a1 : Option Addr} {c1 : Nat} {a2 : Option Addr} {c2 : Nat} (h : fn.results = #[.cell q 95]) (hd : a.defers = []) (hp : a.tmps.getD q undef = .pointer (some ⟨g, 0, none⟩)) (hk : Blk w g t (parL x a1 c1 a2 c2)) (hc : parC (TyD parTs w0.heap.size w) w x (parL x a1 c1 a2 c2) ∧ Below w0.heap.size w0 w) :
    bodyPost Tryz.prog fn (CopPost x w0) Exit.ret a w := by
  refine bodyPost_ret (v := .agg #[.int .i64 x.group, .slice a1 x.nums.length c1, .slice a2 x.sizes.length c2, .int .i64 x.size, .int .u32 x.sum]) ?_ hd ⟨a1, c1, a2, c2, rfl, Lib.hid hc.1, Lib.hid hc.2⟩
  exact results_cell_row h _ _ g t (parL x a1 c1 a2 c2).toArray (0, 0) _ hp hk Tryz.underlying95 rfl (by kernel_rfl)
theorem cop_fin {w w2 w3 w4 : World} {g g2 n1 n2 : Nat} {G z u : Int} {ns zs : List Int} {a1 a2 b1 b2 : Option Addr} {c1 c2 d1 d4 : Nat} (hk : Blk w2 g 95 (parL ⟨G, ns, zs, z, u⟩ a1 c1 a2 c2)) (hk2 : Blk w2 g2 95 (parL zP none 0 none 0))
    (h3 : From w2 w3) (ho3 : OwnD w2.heap.size 2 1 numC w3 (.slice b1 n1 d1) ns) (h4 : Below w3.heap.size w3 w4) (ho4 : OwnD w3.heap.size 3 1 numC w4 (.slice b2 n2 d4) zs) (hn1 : ns.length = n1) (hn2 : zs.length = n2) (hs : w.heap.size = g ∧ g < g2 ∧ g2 < w2.heap.size ∧ Below w.heap.size w w2 ∧ sumW u) :
    ∃ w5 w6 w7, w4.setCell ⟨g, 1, none⟩ (.slice b1 n1 d1) = w5 ∧ w5.setCell ⟨g, 2, none⟩ (.slice b2 n2 d4) = w6 ∧ w4.frozen? ⟨g, 1, none⟩ = false ∧ w5.frozen? ⟨g, 2, none⟩ = false ∧ w4.cell? ⟨g, 1, none⟩ = some (.slice a1 n1 c1) ∧ w5.cell? ⟨g, 2, none⟩ = some (.slice a2 n2 c2) ∧
      (loadP (.pointer (some ⟨g, 0, none⟩))).run Tryz.prog w6 = .ok (.agg #[.int .i64 G, .slice b1 n1 d1, .slice b2 n2 d4, .int .i64 z, .int .u32 u]) w6 ∧
      (storeP (.pointer (some ⟨g2, 0, none⟩)) (.agg #[.int .i64 G, .slice b1 n1 d1, .slice b2 n2 d4, .int .i64 z, .int .u32 u])).run Tryz.prog w6 = .ok () w7 ∧
      Hid (Blk w7 g2 95 (parL ⟨G, ns, zs, z, u⟩ b1 d1 b2 d4) ∧ parC (TyD parTs w.heap.size w7) w7 ⟨G, ns, zs, z, u⟩ (parL ⟨G, ns, zs, z, u⟩ b1 d1 b2 d4) ∧ Below w.heap.size w w7) := by
  subst hn1 hn2
  obtain ⟨rfl, hs2, hs3, hbw, hu⟩ := hs
  have h24 : Below w2.heap.size w2 w4 := Below.trans h3 (h4.mono (Below.size h3))
  have hk4 := hk.below h24 (by omega)
  have hk5 := hk4.set 1 (.slice b1 ns.length d1)
  have hk6 := hk5.set 2 (.slice b2 zs.length d4)
  have hk6 : Blk ((w4.setCell ⟨w.heap.size, 1, none⟩ (.slice b1 ns.length d1)).setCell ⟨w.heap.size, 2, none⟩ (.slice b2 zs.length d4)) w.heap.size 95 (parL ⟨G, ns, zs, z, u⟩ b1 d1 b2 d4) := by simpa [parL] using hk6
  have hg6 : w4.grownBy ((w4.setCell ⟨w.heap.size, 1, none⟩ (.slice b1 ns.length d1)).setCell ⟨w.heap.size, 2, none⟩ (.slice b2 zs.length d4)) (some w.heap.size) := ((Gr.refl w4 w.heap.size).setCell 1 _).setCell 2 _
  obtain ⟨w5, hw5⟩ : ∃ w5, w4.setCell ⟨w.heap.size, 1, none⟩ (.slice b1 ns.length d1) = w5 := ⟨_, rfl⟩
  rw [hw5] at hk6 hg6 hk5
  obtain ⟨w6, hw6⟩ : ∃ w6, w5.setCell ⟨w.heap.size, 2, none⟩ (.slice b2 zs.length d4) = w6 := ⟨_, rfl⟩
  rw [hw6] at hk6 hg6
  have hk26 := (hk2.below h24 (by omega)).grown hg6 (by simp; omega)
  obtain ⟨w7, hst, hk7, hg7⟩ := putP (p := ⟨G, ns, zs, z, u⟩) (a1 := b1) (c1 := d1) (a2 := b2) (c2 := d4) hk26 rfl
  refine ⟨w5, w6, w7, hw5, hw6, hk4.frozen 1, hk5.frozen 2, hk4.cell rfl, hk5.cell rfl, run_loadP_blk ⟨G, ns, zs, z, u⟩ hk6, hst, Lib.hid ⟨hk7.out, ⟨b1, d1, b2, d4, rfl, ?_, ?_, hu⟩, ?_⟩⟩
  · have h := ((ho3.below h4 fun _ _ h => h : OwnD w2.heap.size 2 1 numC w4 _ ns).keep (R' := numC) hg6 (fun b hb e => by have := (ho3.lt b hb).1; cases e; omega) fun _ _ h => h).keep (R' := numC) hg7.out (fun b hb e => by have := (ho3.lt b hb).1; cases e; omega) fun _ _ h => h
    exact h.row fun b c hb hc => ⟨by omega, _, c, by simp [parTs], hc⟩
  · have h := (ho4.keep (R' := numC) hg6 (fun b hb e => by have := (ho4.lt b hb).1; have := Below.size h3; cases e; omega) fun _ _ h => h).keep (R' := numC) hg7.out (fun b hb e => by have := (ho4.lt b hb).1; have := Below.size h3; cases e; omega) fun _ _ h => h
    exact h.row fun b c hb hc => ⟨by have := Below.size h3; omega, _, c, by simp [parTs], hc⟩
  · exact ((hbw.trans (h24.mono hbw.size)).grown hg6 (by have := Below.size h3; have := h4.size; omega) (fun j hj => by cases hj; exact Nat.le_refl _)).grown hg7.out (by have := Below.size h3; have := h4.size; have := hg6.size; omega) (fun j hj => by cases hj; omega)
attribute [local go_sem ↓] loadP_eq storeP_eq
set_option maxHeartbeats 8000000 in
theorem copied_any {D : Nat → Prop} (p : PT) (a1 : Option Addr) (c1 : Nat) (a2 : Option Addr) (c2 : Nat) (w : World) (hc : parC D w p (parL p a1 c1 a2 c2)) (hl : p.nums.length ≤ 1000000 ∧ p.sizes.length ≤ 1000000) :
    Calls Tryz.prog 82 #[.agg #[.int .i64 p.group, .slice a1 p.nums.length c1, .slice a2 p.sizes.length c2, .int .i64 p.size, .int .u32 p.sum]] w (CopPost p w) := by
  obtain ⟨q1, k1, q2, k2, he, hn, hz, hu⟩ := hc
  obtain ⟨G, ns, zs, z, u⟩ := p
  simp only [parL, List.cons.injEq, Value.slice.injEq] at he
  obtain ⟨_, ⟨rfl, _, rfl⟩, ⟨rfl, _, rfl⟩, _⟩ := he
  simp only at hl hn hz hu ⊢
  have hb1 : Below w.heap.size w (w.alloc (.cells #[.int .i64 G, .slice a1 ns.length c1, .slice a2 zs.length c2, .int .i64 z, .int .u32 u] 95)) := (Below.refl _ _).alloc (Nat.le_refl _) _
  obtain ⟨w1, hw1⟩ : ∃ w1, w.alloc (.cells #[.int .i64 G, .slice a1 ns.length c1, .slice a2 zs.length c2, .int .i64 z, .int .u32 u] 95) = w1 := ⟨_, rfl⟩
  have hk1 : Blk w1 w.heap.size 95 (parL ⟨G, ns, zs, z, u⟩ a1 c1 a2 c2) := by rw [← hw1]; exact Blk.new w _ _
  have hs1 : w1.heap.size = w.heap.size + 1 := by rw [← hw1]; simp
  rw [hw1] at hb1
  have hb2 : Below w1.heap.size w1 (w1.alloc (.cells #[.int .i64 0, .slice none 0 0, .slice none 0 0, .int .i64 0, .int .u32 0] 95)) := (Below.refl _ _).alloc (Nat.le_refl _) _
  obtain ⟨w2, hw2⟩ : ∃ w2, w1.alloc (.cells #[.int .i64 0, .slice none 0 0, .slice none 0 0, .int .i64 0, .int .u32 0] 95) = w2 := ⟨_, rfl⟩
  have hk2 : Blk w2 w1.heap.size 95 (parL zP none 0 none 0) := by rw [← hw2]; exact Blk.new w1 _ _
  have hs2 : w2.heap.size = w.heap.size + 2 := by rw [← hw2]; simp; omega
  rw [hw2] at hb2
  have hk12 := hk1.below hb2 hk1.lt
  have hbw : Below w.heap.size w w2 := hb1.trans (hb2.mono (by omega))
  obtain ⟨g, hg⟩ : ∃ g, w.heap.size = g := ⟨_, rfl⟩
  have hg2 : w1.heap.size = g + 1 := by omega
  rw [hg2] at hk2
  rw [hg] at hk12
  have d1 : w2.cell? ⟨g, 1, none⟩ = some (.slice a1 ns.length c1) := hk12.cell rfl
  have d2 : w2.cell? ⟨g, 2, none⟩ = some (.slice a2 zs.length c2) := hk12.cell rfl
  have hnb : ∀ W, From w2 W → IsNums D W (.slice a1 ns.length c1) ns := fun W hW => RowD.keep (RowD.keep hn (keep_below hbw) fun _ _ h => h) (keep_below hW) fun _ _ h => h
  have hzb : ∀ W, From w2 W → IsNums D W (.slice a2 zs.length c2) zs := fun W hW => RowD.keep (RowD.keep hz (keep_below hbw) fun _ _ h => h) (keep_below hW) fun _ _ h => h
  have HC1 : Hid (∀ W, From w2 W → Calls Tryz.prog 108 #[.slice a1 ns.length c1] W fun e w' => ∃ a' c', e = .returned (.slice a' ns.length c') ∧ OwnD W.heap.size 2 1 numC w' (.slice a' ns.length c') ns ∧ Below W.heap.size W w') := Lib.hid fun W hW => clone_nums a1 c1 ns W (hnb W hW) hl.1
  have HC2 : Hid (∀ W, From w2 W → Calls Tryz.prog 109 #[.slice a2 zs.length c2] W fun e w' => ∃ a' c', e = .returned (.slice a' zs.length c') ∧ OwnD W.heap.size 3 1 numC w' (.slice a' zs.length c') zs ∧ Below W.heap.size W w') := Lib.hid fun W hW => clone_sizes a2 c2 zs W (hzb W hW) hl.2
  have FR2 : Hid (From w2 w2.drew) := Lib.hid (From.refl _).drew
  have HLT : Hid (g < w2.heap.size) := Lib.hid (by omega)
  obtain ⟨n1, hn1⟩ : ∃ n1, ns.length = n1 := ⟨_, rfl⟩
  obtain ⟨n2, hn2⟩ : ∃ n2, zs.length = n2 := ⟨_, rfl⟩
  rw [hn1] at d1 HC1 hw1 ⊢
  rw [hn2] at d2 HC2 hw1 ⊢
  have HKG := Lib.hid hk12
  have HKG2 := Lib.hid hk2
  have HN1 := Lib.hid hn1
  have HN2 := Lib.hid hn2
  have HSZ : Hid (w.heap.size = g ∧ g < g + 1 ∧ g + 1 < w2.heap.size ∧ Below w.heap.size w w2 ∧ sumW u) := Lib.hid ⟨hg, by omega, by omega, hbw, hu⟩
  have HG := Lib.hid hg
  have HG2 := Lib.hid hg2
  clear hn hz hu hb1 hk1 hb2 hk2 hk12 hbw hnb hzb hn1 hn2 hl hs1 hs2
  go_enter Tryz.func82, Tryz.ntmps82
  go_wp2_with fail
  refine wp_region_noPanic ?_
  refine wpAnyH_start (n := 10) (l := #[false, false, false, false, false, false, false, false, false, false]) (S := fun _ => True) (by kernel_rfl) (trivial) (by kernel_rfl) (by kernel_rfl) ?_
  refine wpAnyH_take (i := 0) (oi := _) (v := ?_) rfl (by kernel_rfl) (by kernel_rfl) (by kernel_rfl) (fun _ _ _ h => h) (Or.inl ⟨by rfl, ?_⟩) trivial ?_
  rotate_left
  · intro wq hSw; go_simp; try with_reducible rfl
  simp only [Act.put, List.setIfInBounds_toArray, List.set_cons_zero, List.set_cons_succ, List.getElem_toArray, List.getElem_cons_zero, List.getElem_cons_succ]
  refine wpAnyH_take (i := 3) (oi := _) (v := ?_) rfl (by kernel_rfl) (by kernel_rfl) (by kernel_rfl) (fun _ _ _ h => h) (Or.inl ⟨by rfl, ?_⟩) trivial ?_
  rotate_left
  · intro wq hSw; go_simp; try with_reducible rfl
  simp only [Act.put, List.setIfInBounds_toArray, List.set_cons_zero, List.set_cons_succ, List.getElem_toArray, List.getElem_cons_zero, List.getElem_cons_succ]
  refine wpAnyH_ready (rs := [1, 4]) (by kernel_rfl) (by simp) ?_
  refine AllReadyH.cons (o := _) rfl (fun K hK => ?_) (AllReadyH.cons (o := _) rfl (fun K hK => ?_) AllReadyH.nil)
  · simp only [List.getElem_toArray, List.getElem_cons_zero, List.getElem_cons_succ]
    go_simp
    refine hK.out _ _ trivial (fun _ => ?_)
    clear hK K
    simp only [Act.put, List.setIfInBounds_toArray, List.set_cons_zero, List.set_cons_succ, List.getElem_toArray, List.getElem_cons_zero, List.getElem_cons_succ]
    refine wpAnyH_ready (rs := [2, 4]) (by kernel_rfl) (by simp) ?_
    refine AllReadyH.cons (o := _) rfl (fun K hK => ?_) (AllReadyH.cons (o := _) rfl (fun K hK => ?_) AllReadyH.nil)
    · simp only [List.getElem_toArray, List.getElem_cons_zero, List.getElem_cons_succ]
      go_simp
      refine (HC1.out _ (by first | exact FR2.out | exact FR2.out.drew | exact FR2.out.drew.drew)).mono ?_
      rintro e w3 ⟨b1, d1, rfl, h3, hb3⟩
      refine hK.out _ _ trivial (fun _ => ?_)
      clear hK K
      have HO3 := Lib.hid h3
      have HB3 : Hid (From w2 w3) := Lib.hid (FR2.out.trans (Below.mono hb3 FR2.out.size))
      have e2 : w3.cell? ⟨g, 2, none⟩ = some (.slice a2 n2 c2) := HB3.out.cell (p := ⟨g, 2, none⟩) HLT.out ▸ d2
      clear h3 hb3 HC1
      simp only [Act.put, List.setIfInBounds_toArray, List.set_cons_zero, List.set_cons_succ, List.getElem_toArray, List.getElem_cons_zero, List.getElem_cons_succ]
      refine wpAnyH_ready (rs := [4]) (by kernel_rfl) (by simp) ?_
      refine AllReadyH.cons (o := _) rfl (fun K hK => ?_) AllReadyH.nil
      simp only [List.getElem_toArray, List.getElem_cons_zero, List.getElem_cons_succ]
      go_simp
      refine hK.out _ _ trivial (fun _ => ?_)
      clear hK K
      simp only [Act.put, List.setIfInBounds_toArray, List.set_cons_zero, List.set_cons_succ, List.getElem_toArray, List.getElem_cons_zero, List.getElem_cons_succ]
      refine wpAnyH_take (i := 6) (oi := _) (v := ?_) rfl (by kernel_rfl) (by kernel_rfl) (by kernel_rfl) (fun _ _ _ h => h) (Or.inl ⟨by rfl, ?_⟩) trivial ?_
      rotate_left
      · intro wq hSw; go_simp; try with_reducible rfl
      simp only [Act.put, List.setIfInBounds_toArray, List.set_cons_zero, List.set_cons_succ, List.getElem_toArray, List.getElem_cons_zero, List.getElem_cons_succ]
      refine wpAnyH_ready (rs := [5]) (by kernel_rfl) (by simp) ?_
      refine AllReadyH.cons (o := _) rfl (fun K hK => ?_) AllReadyH.nil
      simp only [List.getElem_toArray, List.getElem_cons_zero, List.getElem_cons_succ]
      go_simp
      refine (HC2.out _ HB3.out).mono ?_
      rintro e w4 ⟨b2, d4, rfl, h4, hb4⟩
      refine hK.out _ _ trivial (fun _ => ?_)
      clear hK K
      obtain ⟨w5, w6, w7, hs5, hs6, f1, f2, e4, e5, hld, hst, HP⟩ := cop_fin HKG.out HKG2.out HB3.out HO3.out hb4 h4 HN1.out HN2.out HSZ.out
      clear hb4 h4 HC2 HO3 e2
      simp only [Act.put, List.setIfInBounds_toArray, List.set_cons_zero, List.set_cons_succ, List.getElem_toArray, List.getElem_cons_zero, List.getElem_cons_succ]
      refine wpAnyH_ready (rs := [7]) (by kernel_rfl) (by simp) ?_
      refine AllReadyH.cons (o := _) rfl (fun K hK => ?_) AllReadyH.nil
      simp only [List.getElem_toArray, List.getElem_cons_zero, List.getElem_cons_succ]
      go_simp
      refine hK.out _ _ trivial (fun _ => ?_)
      clear hK K
      simp only [Act.put, List.setIfInBounds_toArray, List.set_cons_zero, List.set_cons_succ, List.getElem_toArray, List.getElem_cons_zero, List.getElem_cons_succ]
      refine wpAnyH_take (i := 8) (oi := _) (v := ?_) rfl (by kernel_rfl) (by kernel_rfl) (by kernel_rfl) (fun _ _ _ h => h) (Or.inl ⟨by rfl, ?_⟩) trivial ?_
      rotate_left
      · intro wq hSw; go_simp; try with_reducible rfl
      simp only [Act.put, List.setIfInBounds_toArray, List.set_cons_zero, List.set_cons_succ, List.getElem_toArray, List.getElem_cons_zero, List.getElem_cons_succ]
      refine wpAnyH_ready (rs := [9]) (by kernel_rfl) (by simp) ?_
      refine AllReadyH.cons (o := _) rfl (fun K hK => ?_) AllReadyH.nil
      simp only [List.getElem_toArray, List.getElem_cons_zero, List.getElem_cons_succ]
      go_simp
      refine hK.out _ _ trivial (fun _ => ?_)
      clear hK K
      simp only [Act.put, List.setIfInBounds_toArray, List.set_cons_zero, List.set_cons_succ, List.getElem_toArray, List.getElem_cons_zero, List.getElem_cons_succ]
      refine wpAnyH_done (by kernel_rfl) ?_ _
      refine NoPanic.normal ?_
      go_wp2_with fail
      exact cop_ret rfl rfl rfl HP.out.1 HP.out.2
    · simp only [List.getElem_toArray, List.getElem_cons_zero, List.getElem_cons_succ]
      go_simp
      refine hK.out _ _ trivial (fun _ => ?_)
      clear hK K
      simp only [Act.put, List.setIfInBounds_toArray, List.set_cons_zero, List.set_cons_succ, List.getElem_toArray, List.getElem_cons_zero, List.getElem_cons_succ]
      refine wpAnyH_ready (rs := [2]) (by kernel_rfl) (by simp) ?_
      refine AllReadyH.cons (o := _) rfl (fun K hK => ?_) AllReadyH.nil
      simp only [List.getElem_toArray, List.getElem_cons_zero, List.getElem_cons_succ]
      go_simp
      refine (HC1.out _ (by first | exact FR2.out | exact FR2.out.drew | exact FR2.out.drew.drew)).mono ?_
      rintro e w3 ⟨b1, d1, rfl, h3, hb3⟩
      refine hK.out _ _ trivial (fun _ => ?_)
      clear hK K
      have HO3 := Lib.hid h3
      have HB3 : Hid (From w2 w3) := Lib.hid (FR2.out.trans (Below.mono hb3 FR2.out.size))
      have e2 : w3.cell? ⟨g, 2, none⟩ = some (.slice a2 n2 c2) := HB3.out.cell (p := ⟨g, 2, none⟩) HLT.out ▸ d2
      clear h3 hb3 HC1
      simp only [Act.put, List.setIfInBounds_toArray, List.set_cons_zero, List.set_cons_succ, List.getElem_toArray, List.getElem_cons_zero, List.getElem_cons_succ]
      refine wpAnyH_take (i := 6) (oi := _) (v := ?_) rfl (by kernel_rfl) (by kernel_rfl) (by kernel_rfl) (fun _ _ _ h => h) (Or.inl ⟨by rfl, ?_⟩) trivial ?_
      rotate_left
      · intro wq hSw; go_simp; try with_reducible rfl
      simp only [Act.put, List.setIfInBounds_toArray, List.set_cons_zero, List.set_cons_succ, List.getElem_toArray, List.getElem_cons_zero, List.getElem_cons_succ]
      refine wpAnyH_ready (rs := [5]) (by kernel_rfl) (by simp) ?_
      refine AllReadyH.cons (o := _) rfl (fun K hK => ?_) AllReadyH.nil
      simp only [List.getElem_toArray, List.getElem_cons_zero, List.getElem_cons_succ]
      go_simp
      refine (HC2.out _ HB3.out).mono ?_
      rintro e w4 ⟨b2, d4, rfl, h4, hb4⟩
      refine hK.out _ _ trivial (fun _ => ?_)
      clear hK K
      obtain ⟨w5, w6, w7, hs5, hs6, f1, f2, e4, e5, hld, hst, HP⟩ := cop_fin HKG.out HKG2.out HB3.out HO3.out hb4 h4 HN1.out HN2.out HSZ.out
      clear hb4 h4 HC2 HO3 e2
      simp only [Act.put, List.setIfInBounds_toArray, List.set_cons_zero, List.set_cons_succ, List.getElem_toArray, List.getElem_cons_zero, List.getElem_cons_succ]
      refine wpAnyH_ready (rs := [7]) (by kernel_rfl) (by simp) ?_
      refine AllReadyH.cons (o := _) rfl (fun K hK => ?_) AllReadyH.nil
      simp only [List.getElem_toArray, List.getElem_cons_zero, List.getElem_cons_succ]
      go_simp
      refine hK.out _ _ trivial (fun _ => ?_)
      clear hK K
      simp only [Act.put, List.setIfInBounds_toArray, List.set_cons_zero, List.set_cons_succ, List.getElem_toArray, List.getElem_cons_zero, List.getElem_cons_succ]
      refine wpAnyH_take (i := 8) (oi := _) (v := ?_) rfl (by kernel_rfl) (by kernel_rfl) (by kernel_rfl) (fun _ _ _ h => h) (Or.inl ⟨by rfl, ?_⟩) trivial ?_
      rotate_left
      · intro wq hSw; go_simp; try with_reducible rfl
      simp only [Act.put, List.setIfInBounds_toArray, List.set_cons_zero, List.set_cons_succ, List.getElem_toArray, List.getElem_cons_zero, List.getElem_cons_succ]
      refine wpAnyH_ready (rs := [9]) (by kernel_rfl) (by simp) ?_
      refine AllReadyH.cons (o := _) rfl (fun K hK => ?_) AllReadyH.nil
      simp only [List.getElem_toArray, List.getElem_cons_zero, List.getElem_cons_succ]
      go_simp
      refine hK.out _ _ trivial (fun _ => ?_)
      clear hK K
      simp only [Act.put, List.setIfInBounds_toArray, List.set_cons_zero, List.set_cons_succ, List.getElem_toArray, List.getElem_cons_zero, List.getElem_cons_succ]
      refine wpAnyH_done (by kernel_rfl) ?_ _
      refine NoPanic.normal ?_
      go_wp2_with fail
      exact cop_ret rfl rfl rfl HP.out.1 HP.out.2
  · simp only [List.getElem_toArray, List.getElem_cons_zero, List.getElem_cons_succ]
    go_simp
    refine hK.out _ _ trivial (fun _ => ?_)
    clear hK K
    simp only [Act.put, List.setIfInBounds_toArray, List.set_cons_zero, List.set_cons_succ, List.getElem_toArray, List.getElem_cons_zero, List.getElem_cons_succ]
    refine wpAnyH_ready (rs := [1]) (by kernel_rfl) (by simp) ?_
    refine AllReadyH.cons (o := _) rfl (fun K hK => ?_) AllReadyH.nil
    simp only [List.getElem_toArray, List.getElem_cons_zero, List.getElem_cons_succ]
    go_simp
    refine hK.out _ _ trivial (fun _ => ?_)
    clear hK K
    simp only [Act.put, List.setIfInBounds_toArray, List.set_cons_zero, List.set_cons_succ, List.getElem_toArray, List.getElem_cons_zero, List.getElem_cons_succ]
    refine wpAnyH_ready (rs := [2]) (by kernel_rfl) (by simp) ?_
    refine AllReadyH.cons (o := _) rfl (fun K hK => ?_) AllReadyH.nil
    simp only [List.getElem_toArray, List.getElem_cons_zero, List.getElem_cons_succ]
    go_simp
    refine (HC1.out _ (by first | exact FR2.out | exact FR2.out.drew | exact FR2.out.drew.drew)).mono ?_
    rintro e w3 ⟨b1, d1, rfl, h3, hb3⟩
    refine hK.out _ _ trivial (fun _ => ?_)
    clear hK K
    have HO3 := Lib.hid h3
    have HB3 : Hid (From w2 w3) := Lib.hid (FR2.out.trans (Below.mono hb3 FR2.out.size))
    have e2 : w3.cell? ⟨g, 2, none⟩ = some (.slice a2 n2 c2) := HB3.out.cell (p := ⟨g, 2, none⟩) HLT.out ▸ d2
    clear h3 hb3 HC1
    simp only [Act.put, List.setIfInBounds_toArray, List.set_cons_zero, List.set_cons_succ, List.getElem_toArray, List.getElem_cons_zero, List.getElem_cons_succ]
    refine wpAnyH_take (i := 6) (oi := _) (v := ?_) rfl (by kernel_rfl) (by kernel_rfl) (by kernel_rfl) (fun _ _ _ h => h) (Or.inl ⟨by rfl, ?_⟩) trivial ?_
    rotate_left
    · intro wq hSw; go_simp; try with_reducible rfl
    simp only [Act.put, List.setIfInBounds_toArray, List.set_cons_zero, List.set_cons_succ, List.getElem_toArray, List.getElem_cons_zero, List.getElem_cons_succ]
    refine wpAnyH_ready (rs := [5]) (by kernel_rfl) (by simp) ?_
    refine AllReadyH.cons (o := _) rfl (fun K hK => ?_) AllReadyH.nil
    simp only [List.getElem_toArray, List.getElem_cons_zero, List.getElem_cons_succ]
    go_simp
    refine (HC2.out _ HB3.out).mono ?_
    rintro e w4 ⟨b2, d4, rfl, h4, hb4⟩
    refine hK.out _ _ trivial (fun _ => ?_)
    clear hK K
    obtain ⟨w5, w6, w7, hs5, hs6, f1, f2, e4, e5, hld, hst, HP⟩ := cop_fin HKG.out HKG2.out HB3.out HO3.out hb4 h4 HN1.out HN2.out HSZ.out
    clear hb4 h4 HC2 HO3 e2
    simp only [Act.put, List.setIfInBounds_toArray, List.set_cons_zero, List.set_cons_succ, List.getElem_toArray, List.getElem_cons_zero, List.getElem_cons_succ]
    refine wpAnyH_ready (rs := [7]) (by kernel_rfl) (by simp) ?_
    refine AllReadyH.cons (o := _) rfl (fun K hK => ?_) AllReadyH.nil
    simp only [List.getElem_toArray, List.getElem_cons_zero, List.getElem_cons_succ]
    go_simp
    refine hK.out _ _ trivial (fun _ => ?_)
    clear hK K
    simp only [Act.put, List.setIfInBounds_toArray, List.set_cons_zero, List.set_cons_succ, List.getElem_toArray, List.getElem_cons_zero, List.getElem_cons_succ]
    refine wpAnyH_take (i := 8) (oi := _) (v := ?_) rfl (by kernel_rfl) (by kernel_rfl) (by kernel_rfl) (fun _ _ _ h => h) (Or.inl ⟨by rfl, ?_⟩) trivial ?_
    rotate_left
    · intro wq hSw; go_simp; try with_reducible rfl
    simp only [Act.put, List.setIfInBounds_toArray, List.set_cons_zero, List.set_cons_succ, List.getElem_toArray, List.getElem_cons_zero, List.getElem_cons_succ]
    refine wpAnyH_ready (rs := [9]) (by kernel_rfl) (by simp) ?_
    refine AllReadyH.cons (o := _) rfl (fun K hK => ?_) AllReadyH.nil
    simp only [List.getElem_toArray, List.getElem_cons_zero, List.getElem_cons_succ]
    go_simp
    refine hK.out _ _ trivial (fun _ => ?_)
    clear hK K
    simp only [Act.put, List.setIfInBounds_toArray, List.set_cons_zero, List.set_cons_succ, List.getElem_toArray, List.getElem_cons_zero, List.getElem_cons_succ]
    refine wpAnyH_done (by kernel_rfl) ?_ _
    refine NoPanic.normal ?_
    go_wp2_with fail
    exact cop_ret rfl rfl rfl HP.out.1 HP.out.2
end Go.Proofs.YthgpdnffahmhjaaGreatDoor.S19
