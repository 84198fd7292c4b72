/- The law's Cut: a contract. -/
import Derived.Test.YtaffmfocjaihlaaDoorEdB
import Derived.Test.YtaffmfocjaihlaaDoorEdG
import Derived.Deep.DeepCutAuto
set_option linter.unusedSimpArgs false
set_option linter.unusedVariables false
set_option maxRecDepth 100000
namespace Go.Proofs.YtaffmfocjaihlaaDoor.S18
open Go.RowKit
attribute [local go_sem ↓] loadS_eq storeS_eq loadP_eq storeP_eq loadE_eq storeE_eq sliceN_eq sliceJ_eq sliceS_eq sliceP_eq
def cutP (p : PT) : PT := ⟨p.group, p.nums.take 5, p.sizes.take 5, p.size, p.sum⟩
def cutE (e : ED) : ED := ⟨e.next, e.seq, e.adds.take 10, e.dels.take 10, (e.pars.take 5).map cutP, e.drops.take 5⟩
/-- blocks of what came in, and rows of parity segments made since -/
def CD (B0 base : Nat) (w : World) (b : Nat) : Prop := b < B0 ∨ TyD [49] base w b
def CutPost (B0 : Nat) (e : ED) (w : World) (r : Ending) (w' : World) : Prop :=
  ∃ (a1 : Option Addr) (c1 : Nat) (a2 : Option Addr) (c2 : Nat) (a3 : Option Addr) (c3 : Nat) (a4 : Option Addr) (c4 : Nat), r = .returned (.agg #[.int .i64 (cutE e).next, .int .i64 (cutE e).seq, .slice a1 (cutE e).adds.length c1, .slice a2 (cutE e).dels.length c2, .slice a3 (cutE e).pars.length c3, .slice a4 (cutE e).drops.length c4]) ∧ Hid (EdIn (CD B0 w.heap.size w') w' (cutE e) a1 c1 a2 c2 a3 c3 a4 c4) ∧ Hid (Below w.heap.size w w')
/-- the first m of a row, where there are more -/
theorem cut_row {α : Type} {D : Nat → Prop} {R : α → List Value → Prop} {k m : Nat} {w : World} {a : Option Addr} {n cap : Nat} {L : List α} (h : RowD D R k w (.slice a n cap) L) (hm : ¬ m < n) : RowD D R k w (.slice a n cap) (L.take m) := by
  obtain ⟨hl, _, _⟩ := RowD.cap h
  rw [List.take_of_length_le (by omega)]
  exact h
theorem ret_edit {fn : Func} {q : Tmp} {a : Act} {w0 w : World} {g B0 : Nat} {t : TypeId} {e : ED} {a1 : Option Addr} {c1 : Nat} {a2 : Option Addr} {c2 : Nat} {a3 : Option Addr} {c3 : Nat} {a4 : Option Addr} {c4 : Nat} (h : fn.results = #[.cell q 26]) (hd : a.defers = []) (hp : a.tmps.getD q undef = .pointer (some ⟨g, 0, none⟩)) (hk : Blk w g t (edL (cutE e) a1 c1 a2 c2 a3 c3 a4 c4)) (hI : EdIn (CD B0 w0.heap.size w) w (cutE e) a1 c1 a2 c2 a3 c3 a4 c4) (hb : Below w0.heap.size w0 w) :
    bodyPost Tryd.prog fn (CutPost B0 e w0) Exit.ret a w := by
  refine bodyPost_ret (v := .agg #[.int .i64 (cutE e).next, .int .i64 (cutE e).seq, .slice a1 (cutE e).adds.length c1, .slice a2 (cutE e).dels.length c2, .slice a3 (cutE e).pars.length c3, .slice a4 (cutE e).drops.length c4]) ?_ hd ⟨a1, c1, a2, c2, a3, c3, a4, c4, rfl, Lib.hid hI, Lib.hid hb⟩
  exact results_cell_row h _ _ g t (edL (cutE e) a1 c1 a2 c2 a3 c3 a4 c4).toArray (0, 0) _ hp hk Tryd.underlying26 rfl (by kernel_rfl)
/-- the local edit's cells -/
def cL (n s : Int) (a1 : Option Addr) (m1 c1 : Nat) (a2 : Option Addr) (m2 c2 : Nat) (a3 : Option Addr) (m3 c3 : Nat) (a4 : Option Addr) (m4 c4 : Nat) : List Value := [.int .i64 n, .int .i64 s, .slice a1 m1 c1, .slice a2 m2 c2, .slice a3 m3 c3, .slice a4 m4 c4]
def pL (g : Int) (a1 : Option Addr) (m1 c1 : Nat) (a2 : Option Addr) (m2 c2 : Nat) (z u : Int) : List Value := [.int .i64 g, .slice a1 m1 c1, .slice a2 m2 c2, .int .i64 z, .int .u32 u]
set_option maxHeartbeats 32000000 in
theorem cut_any (B0 : Nat) (e : ED) (a1 : Option Addr) (c1 : Nat) (a2 : Option Addr) (c2 : Nat) (a3 : Option Addr) (c3 : Nat) (a4 : Option Addr) (c4 : Nat) (w : World) (hB0 : B0 ≤ w.heap.size) (he : EdIn (fun b => b < B0) w e a1 c1 a2 c2 a3 c3 a4 c4) : Calls Tryd.prog 9 #[.agg #[.int .i64 e.next, .int .i64 e.seq, .slice a1 e.adds.length c1, .slice a2 e.dels.length c2, .slice a3 e.pars.length c3, .slice a4 e.drops.length c4]] w (CutPost B0 e w) := by
  have hb1 : Below w.heap.size w (w.alloc (.cells #[.int .i64 e.next, .int .i64 e.seq, .slice a1 e.adds.length c1, .slice a2 e.dels.length c2, .slice a3 e.pars.length c3, .slice a4 e.drops.length c4] 26)) := (Below.refl _ _).alloc (Nat.le_refl _) _
  have hk1 := Blk.new w 26 (edL e a1 c1 a2 c2 a3 c3 a4 c4)
  obtain ⟨w1, hw1⟩ : ∃ w1, w.alloc (.cells #[.int .i64 e.next, .int .i64 e.seq, .slice a1 e.adds.length c1, .slice a2 e.dels.length c2, .slice a3 e.pars.length c3, .slice a4 e.drops.length c4] 26) = w1 := ⟨_, rfl⟩
  rw [hw1] at hb1
  have hk1' : Blk w1 w.heap.size 26 (edL e a1 c1 a2 c2 a3 c3 a4 c4) := by rw [← hw1]; exact hk1
  have hb2 : Below w1.heap.size w1 (w1.alloc (.cells #[.int .i64 0, .int .i64 0, .slice none 0 0, .slice none 0 0, .slice none 0 0, .slice none 0 0] 26)) := (Below.refl _ _).alloc (Nat.le_refl _) _
  have hk2 := Blk.new w1 26 (edL zE none 0 none 0 none 0 none 0)
  obtain ⟨w2, hw2⟩ : ∃ w2, w1.alloc (.cells #[.int .i64 0, .int .i64 0, .slice none 0 0, .slice none 0 0, .slice none 0 0, .slice none 0 0] 26) = w2 := ⟨_, rfl⟩
  rw [hw2] at hb2
  have K2 : Hid (Blk w2 w1.heap.size 26 (edL zE none 0 none 0 none 0 none 0)) := Lib.hid (by rw [← hw2]; exact hk2)
  have hK1 : Blk w2 w.heap.size 26 (edL e a1 c1 a2 c2 a3 c3 a4 c4) := hk1'.below hb2 hk1'.lt
  have HB2 : Hid (Below w.heap.size w w2) := Lib.hid (hb1.trans (hb2.mono hb1.size))
  have hI := (he.keep (keep_below hb1)).keep (keep_below hb2)
  have HSW := Lib.hid he.w
  have HLT : Hid (w.heap.size < w1.heap.size) := Lib.hid hk1'.lt
  obtain ⟨A, L, P, X, HDF⟩ : ∃ A L P X, Hid (e.adds = A ∧ e.dels = L ∧ e.pars = P ∧ e.drops = X) := ⟨_, _, _, _, Lib.hid ⟨rfl, rfl, rfl, rfl⟩⟩
  obtain ⟨hA, hL, hP, hX⟩ := hI
  rw [HDF.out.1] at hA
  rw [HDF.out.2.1] at hL
  rw [HDF.out.2.2.1] at hP
  rw [HDF.out.2.2.2] at hX
  have hK1' : Blk w2 w.heap.size 26 (cL e.next e.seq a1 A.length c1 a2 L.length c2 a3 P.length c3 a4 X.length c4) := by
    have h := hK1
    unfold edL at h
    rw [HDF.out.1, HDF.out.2.1, HDF.out.2.2.1, HDF.out.2.2.2] at h
    exact h
  rw [HDF.out.1, HDF.out.2.1, HDF.out.2.2.1, HDF.out.2.2.2] at hw1 ⊢
  obtain ⟨nx, sq, HNS⟩ : ∃ n s, Hid (e.next = n ∧ e.seq = s) := ⟨_, _, Lib.hid ⟨rfl, rfl⟩⟩
  rw [HNS.out.1, HNS.out.2] at hK1' hw1 ⊢
  obtain ⟨m1, hm1⟩ : ∃ m, A.length = m := ⟨_, rfl⟩
  obtain ⟨m2, hm2⟩ : ∃ m, L.length = m := ⟨_, rfl⟩
  obtain ⟨m3, hm3⟩ : ∃ m, P.length = m := ⟨_, rfl⟩
  obtain ⟨m4, hm4⟩ : ∃ m, X.length = m := ⟨_, rfl⟩
  rw [hm1] at hA
  rw [hm2] at hL
  rw [hm3] at hP
  rw [hm4] at hX
  rw [hm1, hm2, hm3, hm4] at hK1' hw1 ⊢
  have M1 := Lib.hid hm1
  have M2 := Lib.hid hm2
  have M3 := Lib.hid hm3
  have M4 := Lib.hid hm4
  have HA := Lib.hid hA
  have HL := Lib.hid hL
  have HP := Lib.hid hP
  have HX := Lib.hid hX
  have K1 := Lib.hid hK1'
  have d0 : w2.cell? ⟨w.heap.size, 2, none⟩ = some (.slice a1 m1 c1) := hK1'.cell rfl
  have z0 : w2.frozen? ⟨w.heap.size, 2, none⟩ = false := hK1'.frozen 2
  clear hb1 hk1 hk1' hb2 hk2 hK1 he hA hL hP hX hm1 hm2 hm3 hm4 hK1'
  go_enter Tryd.func9, Tryd.ntmps9
  go_upto_if 9 with fail
  obtain ⟨g1, hg1⟩ : ∃ g, w.heap.size = g := ⟨_, rfl⟩
  obtain ⟨g2, hg2⟩ : ∃ g, w1.heap.size = g := ⟨_, rfl⟩
  rw [hg2] at K2 HLT
  rw [hg1] at HLT K1 d0 z0
  try rw [hg1]
  try rw [hg2]
  have G1 := Lib.hid hg1
  have G2 := Lib.hid hg2
  clear hg1 hg2 hw1 hw2
  go_cut [] (fun wx => ∃ b1 n1 f1, IsSegs (fun b => b < B0) w2 (.slice b1 n1 f1) (A.take 10) ∧ Blk wx g1 26 (cL nx sq b1 n1 f1 a2 m2 c2 a3 m3 c3 a4 m4 c4) ∧ Gr w2 wx g1)
  case first =>
    by_cases h : 10 < m1
    · obtain ⟨sa, sc, hsl, hrow⟩ := run_uptoG elemS Tryd.underlying22 sizeS HA.out (m := 10) (by rw [M1.out]; omega) 10 rfl
      go_wp2_with fail
      go_meet
      case rel => exact ⟨sa, 10, sc, hrow, K1.out.set 2 _, (Gr.refl w2 g1).setCell 2 _⟩
    · go_wp2_with fail
      go_meet
      case rel => exact ⟨a1, m1, c1, cut_row HA.out h, K1.out, Gr.refl w2 g1⟩
  case rest =>
  obtain ⟨b1, n1, f1, hr, hk, hg⟩ := hcut
  clear K1 d0 z0
  have RR1 := Lib.hid hr
  have K1 := Lib.hid hk
  have GX := Lib.hid hg
  obtain ⟨v1, hv⟩ : ∃ v, v = wc := ⟨_, rfl⟩
  subst hv
  clear hr hk hg
  have d1 : v1.cell? ⟨g1, 3, none⟩ = some (.slice a2 m2 c2) := K1.out.cell rfl
  have z1 : v1.frozen? ⟨g1, 3, none⟩ = false := K1.out.frozen 3
  go_upto_if 17 with fail
  go_cut [] (fun wx => ∃ b2 n2 f2, IsNums (fun b => b < B0) w2 (.slice b2 n2 f2) (L.take 10) ∧ Blk wx g1 26 (cL nx sq b1 n1 f1 b2 n2 f2 a3 m3 c3 a4 m4 c4) ∧ Gr w2 wx g1)
  case first =>
    by_cases h : 10 < m2
    · obtain ⟨sa, sc, hsl, hrow⟩ := run_uptoG elemN Tryd.underlying23 sizeN HL.out (m := 10) (by rw [M2.out]; omega) 10 rfl
      go_wp2_with fail
      go_meet
      case rel => exact ⟨sa, 10, sc, hrow, K1.out.set 3 _, GX.out.setCell 3 _⟩
    · go_wp2_with fail
      go_meet
      case rel => exact ⟨a2, m2, c2, cut_row HL.out h, K1.out, GX.out⟩
  case rest =>
  obtain ⟨b2, n2, f2, hr, hk, hg⟩ := hcut
  clear K1 d1 z1 GX
  have RR2 := Lib.hid hr
  have K1 := Lib.hid hk
  have GX := Lib.hid hg
  obtain ⟨v2, hv⟩ : ∃ v, v = wc := ⟨_, rfl⟩
  subst hv
  clear hr hk hg
  have d2 : v2.cell? ⟨g1, 4, none⟩ = some (.slice a3 m3 c3) := K1.out.cell rfl
  have z2 : v2.frozen? ⟨g1, 4, none⟩ = false := K1.out.frozen 4
  go_upto_if 25 with fail
  go_cut [] (fun wx => ∃ b3 n3 f3, IsPars (fun b => b < B0) w2 (.slice b3 n3 f3) (P.take 5) ∧ Blk wx g1 26 (cL nx sq b1 n1 f1 b2 n2 f2 b3 n3 f3 a4 m4 c4) ∧ Gr w2 wx g1)
  case first =>
    by_cases h : 5 < m3
    · obtain ⟨sa, sc, hsl, hrow⟩ := run_uptoG elemP Tryd.underlying24 sizeP HP.out (m := 5) (by rw [M3.out]; omega) 5 rfl
      go_wp2_with fail
      go_meet
      case rel => exact ⟨sa, 5, sc, hrow, K1.out.set 4 _, GX.out.setCell 4 _⟩
    · go_wp2_with fail
      go_meet
      case rel => exact ⟨a3, m3, c3, cut_row HP.out h, K1.out, GX.out⟩
  case rest =>
  obtain ⟨b3, n3, f3, hr, hk, hg⟩ := hcut
  clear K1 d2 z2 GX
  have RR3 := Lib.hid hr
  have K1 := Lib.hid hk
  have GX := Lib.hid hg
  obtain ⟨v3, hv⟩ : ∃ v, v = wc := ⟨_, rfl⟩
  subst hv
  clear hr hk hg
  have d3 : v3.cell? ⟨g1, 5, none⟩ = some (.slice a4 m4 c4) := K1.out.cell rfl
  have z3 : v3.frozen? ⟨g1, 5, none⟩ = false := K1.out.frozen 5
  go_upto_if 33 with fail
  go_cut [] (fun wx => ∃ b4 n4 f4, IsNums (fun b => b < B0) w2 (.slice b4 n4 f4) (X.take 5) ∧ Blk wx g1 26 (cL nx sq b1 n1 f1 b2 n2 f2 b3 n3 f3 b4 n4 f4) ∧ Gr w2 wx g1)
  case first =>
    by_cases h : 5 < m4
    · obtain ⟨sa, sc, hsl, hrow⟩ := run_uptoG elemN Tryd.underlying23 sizeN HX.out (m := 5) (by rw [M4.out]; omega) 5 rfl
      go_wp2_with fail
      go_meet
      case rel => exact ⟨sa, 5, sc, hrow, K1.out.set 5 _, GX.out.setCell 5 _⟩
    · go_wp2_with fail
      go_meet
      case rel => exact ⟨a4, m4, c4, cut_row HX.out h, K1.out, GX.out⟩
  case rest =>
  obtain ⟨b4, n4, f4, hr, hk, hg⟩ := hcut
  clear K1 d3 z3 GX
  have RR4 := Lib.hid hr
  have K1 := Lib.hid hk
  have GX := Lib.hid hg
  obtain ⟨v4, hv⟩ : ∃ v, v = wc := ⟨_, rfl⟩
  subst hv
  clear hr hk hg
  obtain ⟨Q, HQD⟩ : ∃ Q, Hid (P.take 5 = Q) := ⟨_, Lib.hid rfl⟩
  have hq := RR3.out
  rw [HQD.out] at hq
  have RQ := Lib.hid hq
  have HQL := Lib.hid (RowD.cap hq).1
  have hn3 : n3 ≤ 5 := by have := HQD.out; rw [← HQL.out, ← this, List.length_take]; omega
  have HGB : Hid (B0 ≤ g1) := Lib.hid (by rw [← G1.out]; exact hB0)
  have HG1L : Hid (g1 < v4.heap.size) := Lib.hid K1.out.lt
  have HKP : Hid (∀ W, Below v4.heap.size v4 W → Keep (fun b => b < B0) (fun b => b < B0) w2 W) := Lib.hid fun W hW => Keep.trans (keep_gr GX.out fun b hb hl => ⟨hb, by have := HGB.out; intro e; simp at e; omega⟩) (keep_gr (gr_below hW) fun b hb hl => ⟨hb, by simp⟩)
  have d4 : v4.cell? ⟨g1, 4, none⟩ = some (.slice b3 n3 f3) := K1.out.cell rfl
  clear hq
  go_wp2_with fail
  go_loopw [3, 4] (fun v y wr => ∃ i : Nat, i ≤ n3 ∧ y = .int .i64 i ∧ OwnD v4.heap.size 49 5 (parC (fun b => b < B0) wr) wr v ((Q.take i).map cutP) ∧ Below v4.heap.size v4 wr) (fun _ y _ => n3 - (intOf y).toNat)
  case atStart => exact ⟨0, by omega, rfl, OwnD.nil _ _ _ _ _, Below.refl _ _⟩
  case round =>
    clear d4
    obtain ⟨i, hi, rfl, ho, hb⟩ := hrel
    have HO := Lib.hid ho
    have HB := Lib.hid hb
    obtain ⟨sp, cp, rfl, hcp, hcm⟩ := ho.slice
    have d4 : wr.cell? ⟨g1, 4, none⟩ = some (.slice b3 n3 f3) := (K1.out.below hb K1.out.lt).cell rfl
    have hlen : ((Q.take i).map cutP).length = i := by rw [List.length_map, List.length_take, HQL.out]; omega
    rw [hlen] at HO hcp ⊢
    have hzr : v4.heap.size ≤ wr.heap.size := hb.size
    clear ho hb
    by_cases hlt : i < n3
    · obtain ⟨bk, off, x, c, rfl, _, hbk, hx, ⟨q1, k1, q2, k2, rfl, hp1, hp2, hsw⟩, hu⟩ := RowD.at (RowD.keep RQ.out (HKP.out wr HB.out) fun x c h => h.keep (HKP.out wr HB.out)) (i := i) (by rw [HQL.out]; exact hlt)
      have hld := run_loadP (w := wr) rfl hu
      have hN := Blk.new wr 49 (parL zP none 0 none 0)
      have hA : Below wr.heap.size wr (wr.alloc (.cells #[.int .i64 0, .slice none 0 0, .slice none 0 0, .int .i64 0, .int .u32 0] 49)) := (Below.refl _ _).alloc (Nat.le_refl _) _
      obtain ⟨w5, hst, HK5, HS5⟩ := putP (a1 := q1) (c1 := k1) (a2 := q2) (c2 := k2) x hN rfl
      simp only [parL, zP, List.length_nil] at hst hld
      have hb5 : Below wr.heap.size wr w5 := hA.trans (Gr.below HS5.out hA.size (Nat.le_refl _))
      obtain ⟨j1, hj1⟩ : ∃ m, x.nums.length = m := ⟨_, rfl⟩
      obtain ⟨j2, hj2⟩ : ∃ m, x.sizes.length = m := ⟨_, rfl⟩
      have hk5 : Blk w5 wr.heap.size 49 (pL x.group q1 j1 k1 q2 j2 k2 x.size x.sum) := by have h := HK5.out; unfold parL at h; rw [hj1, hj2] at h; exact h
      rw [hj1] at hp1
      rw [hj2] at hp2
      rw [hj1, hj2] at hst hld
      have HP1 := Lib.hid hp1
      have HP2 := Lib.hid hp2
      have J1 := Lib.hid hj1
      have J2 := Lib.hid hj2
      have HX5 := Lib.hid hx
      have HSU := Lib.hid hsw
      have HB5 : Hid (Below v4.heap.size v4 w5) := Lib.hid (HB.out.trans (hb5.mono hzr))
      have HBR := Lib.hid hb5
      have e1 : w5.cell? ⟨wr.heap.size, 1, none⟩ = some (.slice q1 j1 k1) := hk5.cell rfl
      have y1 : w5.frozen? ⟨wr.heap.size, 1, none⟩ = false := hk5.frozen 1
      have K5 := Lib.hid hk5
      clear hN hA hu hx hb5 hp1 hp2 hj1 hj2 hk5 hsw HK5 HS5
      go_upto_if 53 with fail
      obtain ⟨g5, hg5⟩ : ∃ g, wr.heap.size = g := ⟨_, rfl⟩
      rw [hg5] at K5 e1 y1
      try rw [hg5]
      have G5 := Lib.hid hg5
      clear hg5 hst hld d4
      go_cut [] (fun wx => ∃ p1 r1 s1, IsNums (fun b => b < B0) wr (.slice p1 r1 s1) (x.nums.take 5) ∧ Blk wx g5 49 (pL x.group p1 r1 s1 q2 j2 k2 x.size x.sum) ∧ Gr w5 wx g5)
      case first =>
        by_cases h : 5 < j1
        · obtain ⟨sa, sc, hsl, hrow⟩ := run_uptoG elemN Tryd.underlying23 sizeN HP1.out (m := 5) (by rw [J1.out]; omega) 5 rfl
          go_wp2_with fail
          go_meet
          case rel => exact ⟨sa, 5, sc, hrow, K5.out.set 1 _, (Gr.refl w5 g5).setCell 1 _⟩
        · go_wp2_with fail
          go_meet
          case rel => exact ⟨q1, j1, k1, cut_row HP1.out h, K5.out, Gr.refl w5 g5⟩
      case rest =>
      obtain ⟨p1, r1, s1, hr, hk, hg⟩ := hcut
      clear K5 e1 y1
      have R51 := Lib.hid hr
      have K5 := Lib.hid hk
      have G51 := Lib.hid hg
      obtain ⟨w6, hv⟩ : ∃ v, v = wc := ⟨_, rfl⟩
      subst hv
      clear hr hk hg
      have e2 : w6.cell? ⟨g5, 2, none⟩ = some (.slice q2 j2 k2) := K5.out.cell rfl
      have y2 : w6.frozen? ⟨g5, 2, none⟩ = false := K5.out.frozen 2
      go_upto_if 61 with fail
      go_cut [] (fun wx => ∃ p2 r2 s2, IsNums (fun b => b < B0) wr (.slice p2 r2 s2) (x.sizes.take 5) ∧ Blk wx g5 49 (pL x.group p1 r1 s1 p2 r2 s2 x.size x.sum) ∧ Gr w5 wx g5)
      case first =>
        by_cases h : 5 < j2
        · obtain ⟨sa, sc, hsl, hrow⟩ := run_uptoG elemJ Tryd.underlying39 sizeJ HP2.out (m := 5) (by rw [J2.out]; omega) 5 rfl
          go_wp2_with fail
          go_meet
          case rel => exact ⟨sa, 5, sc, hrow, K5.out.set 2 _, Gr.setCell G51.out 2 _⟩
        · go_wp2_with fail
          go_meet
          case rel => exact ⟨q2, j2, k2, cut_row HP2.out h, K5.out, G51.out⟩
      case rest =>
      obtain ⟨p2, r2, s2, hr, hk, hg⟩ := hcut
      clear K5 e2 y2 G51
      have R52 := Lib.hid hr
      have K5 := Lib.hid hk
      have G51 := Lib.hid hg
      obtain ⟨w7, hv⟩ : ∃ v, v = wc := ⟨_, rfl⟩
      subst hv
      clear hr hk hg
      have hgz : v4.heap.size ≤ g5 := by rw [← G5.out]; exact hzr
      have HB7 : Hid (Below v4.heap.size v4 w7) := Lib.hid (HB5.out.trans (Gr.below G51.out HB5.out.size hgz))
      have hbr7 : Below wr.heap.size wr w7 := HBR.out.trans (Gr.below G51.out HBR.out.size (by rw [G5.out]; exact Nat.le_refl _))
      have hkk : Keep (fun b => b < B0) (fun b => b < B0) wr w7 := keep_below hbr7
      have HO7 : Hid (OwnD v4.heap.size 49 5 (parC (fun b => b < B0) w7) w7 (.slice sp i cp) ((Q.take i).map cutP)) := Lib.hid (OwnD.below HO.out hbr7 fun x c h => h.keep hkk)
      have hl1 : (cutP x).nums.length = r1 := (RowD.cap R51.out).1
      have hl2 : (cutP x).sizes.length = r2 := (RowD.cap R52.out).1
      have HPC : Hid (parC (fun b => b < B0) w7 (cutP x) (pL x.group p1 r1 s1 p2 r2 s2 x.size x.sum)) := Lib.hid ⟨p1, s1, p2, s2, by unfold parL pL; rw [hl1, hl2]; rfl, by rw [hl1]; exact R51.out.keep' hkk, by rw [hl2]; exact R52.out.keep' hkk, HSU.out⟩
      have hld := run_loadP (w := w7) (g := g5) (o := 0) (cs := pL x.group p1 r1 s1 p2 r2 s2 x.size x.sum) rfl fun q u hq => by rw [Nat.zero_add]; exact K5.out.cell hq
      have hone : ∀ u ∈ pL x.group p1 r1 s1 p2 r2 s2 x.size x.sum, u.oneCell' = true := by
        intro u hu
        simp [pL] at hu
        rcases hu with rfl | rfl | rfl | rfl | rfl <;> rfl
      have HONE := Lib.hid hone
      have hz7 : v4.heap.size ≤ w7.heap.size := HB7.out.size
      have HTK : Hid ((Q.take (i + 1)).map cutP = (Q.take i).map cutP ++ [cutP x]) := Lib.hid (by rw [List.take_add_one, HX5.out]; simp)
      have hFl : ((Q.take i).map cutP).length + 1 ≤ 4294967296 := by rw [hlen]; omega
      simp only [pL] at hld
      clear hbr7 hkk hl1 hl2 hone
      go_wp2_with (at_builtin; refine wpList_append_D 24 49 5 (.agg (parL zP none 0 none 0).toArray) 72 Tryd.underlying24 infoP rfl (by decide) (by decide) rfl (.tmp 66) (.tmp 68) rfl v4.heap.size (parC (fun b => b < B0) w7) (.slice sp i cp) ((Q.take i).map cutP) rfl HO7.out (cutP x) (pL x.group p1 r1 s1 p2 r2 s2 x.size x.sum) HPC.out rfl HONE.out rfl hFl hz7 ?_; intro v8 w8 ho8 hgr8)
      have hb8 : Below w7.heap.size w7 (w7.alloc (.cells (pL x.group p1 r1 s1 p2 r2 s2 x.size x.sum).toArray 49 (0, 0))) := (Below.refl _ _).alloc (Nat.le_refl _) _
      have hB8 : Below v4.heap.size v4 w8 := Below.grown (Below.trans HB7.out (hb8.mono hz7)) hgr8 (Nat.le_trans hz7 hb8.size) fun b hb => (OwnD.lt HO7.out b hb).1
      have hk8 : Keep (fun b => b < B0) (fun b => b < B0) w7 w8 := Keep.trans (keep_below hb8) (keep_gr hgr8 fun b hb hl => ⟨hb, fun e => by have := (OwnD.lt HO7.out b e.symm).1; have := HGB.out; have := HG1L.out; omega⟩)
      have ho8' : OwnD v4.heap.size 49 5 (parC (fun b => b < B0) w8) w8 v8 ((Q.take (i + 1)).map cutP) := by rw [HTK.out]; exact OwnD.map ho8 fun x c h => h.keep hk8
      have HO8 := Lib.hid ho8'
      have HB8 := Lib.hid hB8
      clear ho8 ho8' hB8 hk8 hb8 hgr8
      go_roundw
      case rel => exact ⟨i + 1, by omega, by go_num, HO8.out, HB8.out⟩
      case measure => simp [intOf]; omega
    · obtain rfl : i = n3 := by omega
      have hall : Q.take i = Q := List.take_of_length_le (by rw [HQL.out]; exact Nat.le_refl _)
      rw [hall] at HO
      have hKW := K1.out.below HB.out K1.out.lt
      have y4 : wr.frozen? ⟨g1, 4, none⟩ = false := hKW.frozen 4
      have hg2 : Blk wr g2 26 (edL zE none 0 none 0 none 0 none 0) := (K2.out.grown GX.out (by have := HLT.out; intro e; simp at e; omega)).below HB.out (Nat.lt_of_lt_of_le K2.out.lt GX.out.size)
      obtain ⟨w9, hw9⟩ : ∃ w9, wr.setCell ⟨g1, 4, none⟩ (.slice sp i cp) = w9 := ⟨_, rfl⟩
      have K9 : Hid (Blk w9 g1 26 (cL nx sq b1 n1 f1 b2 n2 f2 sp i cp b4 n4 f4)) := Lib.hid (by rw [← hw9]; exact hKW.set 4 _)
      have S9 : Hid (Gr wr w9 g1) := Lib.hid (by rw [← hw9]; exact (Gr.refl wr g1).setCell 4 _)
      have G29 : Blk w9 g2 26 (edL zE none 0 none 0 none 0 none 0) := hg2.grown S9.out (by have := HLT.out; intro e; simp at e; omega)
      have hl1 : (cutE e).adds.length = n1 := by show (e.adds.take 10).length = n1; rw [HDF.out.1]; exact (RowD.cap RR1.out).1
      have hl2 : (cutE e).dels.length = n2 := by show (e.dels.take 10).length = n2; rw [HDF.out.2.1]; exact (RowD.cap RR2.out).1
      have hl3 : (cutE e).pars.length = i := by show ((e.pars.take 5).map cutP).length = i; rw [HDF.out.2.2.1, HQD.out, List.length_map]; exact HQL.out
      have hl4 : (cutE e).drops.length = n4 := by show (e.drops.take 5).length = n4; rw [HDF.out.2.2.2]; exact (RowD.cap RR4.out).1
      obtain ⟨wX, hstX, KX, SX⟩ := putE (a1 := b1) (c1 := f1) (a2 := b2) (c2 := f2) (a3 := sp) (c3 := cp) (a4 := b4) (c4 := f4) (cutE e) G29 rfl
      have hcells : edL (cutE e) b1 f1 b2 f2 sp cp b4 f4 = cL nx sq b1 n1 f1 b2 n2 f2 sp i cp b4 n4 f4 := by unfold edL cL; rw [hl1, hl2, hl3, hl4]; show [Value.int .i64 e.next, .int .i64 e.seq, _, _, _, _] = _; rw [HNS.out.1, HNS.out.2]
      have hld := run_loadE (w := w9) (g := g1) (o := 0) (cs := cL nx sq b1 n1 f1 b2 n2 f2 sp i cp b4 n4 f4) rfl fun q u hq => by rw [Nat.zero_add]; exact K9.out.cell hq
      have hwr : w.heap.size ≤ wr.heap.size := Nat.le_trans HB2.out.size (Nat.le_trans GX.out.size HB.out.size)
      have hBw : Below w.heap.size w wr := by
        have q1 : Below w.heap.size w v4 := HB2.out.trans (Gr.below GX.out HB2.out.size (by rw [G1.out]; exact Nat.le_refl _))
        exact q1.trans (HB.out.mono q1.size)
      have hBX : Below w.heap.size w wX := (hBw.trans (Gr.below S9.out hwr (by rw [G1.out]; exact Nat.le_refl _))).trans (Gr.below SX.out (Nat.le_trans hwr S9.out.size) (by rw [G1.out]; exact Nat.le_of_lt HLT.out))
      have hkX : Keep (fun b => b < B0) (fun b => b < B0) wr wX := Keep.trans (keep_gr S9.out fun b hb hl => ⟨hb, by have := HGB.out; intro e; simp at e; omega⟩) (keep_gr SX.out fun b hb hl => ⟨hb, by have := HGB.out; have := HLT.out; intro e; simp at e; omega⟩)
      have hk2X : Keep (fun b => b < B0) (CD B0 w.heap.size wX) w2 wX := Keep.trans (Keep.trans (HKP.out wr HB.out) hkX) (keep_weak fun b hb _ => .inl hb)
      have hoX : OwnD v4.heap.size 49 5 (parC (fun b => b < B0) wX) wX (.slice sp i cp) (Q.map cutP) := (OwnD.keep HO.out S9.out (fun b hb e => by have := (OwnD.lt HO.out b hb).1; have := HG1L.out; simp at e; omega) fun _ _ h => h).keep SX.out (fun b hb e => by
        obtain ⟨c, hc⟩ := OwnD.ty HO.out b hb
        have hlt2 := (OwnD.lt HO.out b hb).2
        have h1 := hg2
        simp at e
        subst e
        exact hc.ne h1 (by decide) rfl) fun x c h => h.keep hkX
      have hIX : EdIn (CD B0 w.heap.size wX) wX (cutE e) b1 f1 b2 f2 sp cp b4 f4 := by
        refine ⟨?_, ?_, ?_, ?_⟩
        · rw [hl1]; show IsSegs _ _ _ (e.adds.take 10); rw [HDF.out.1]; exact RowD.keep RR1.out hk2X fun _ _ h => h
        · rw [hl2]; show IsNums _ _ _ (e.dels.take 10); rw [HDF.out.2.1]; exact RowD.keep RR2.out hk2X fun _ _ h => h
        · rw [hl3]
          show IsPars _ _ _ ((e.pars.take 5).map cutP)
          rw [HDF.out.2.2.1, HQD.out]
          refine RowD.keep (OwnD.row hoX (D := CD B0 w.heap.size wX) fun b c hb hk => .inr ⟨Nat.le_trans (Nat.le_trans HB2.out.size GX.out.size) hb, _, c, by simp, hk⟩) (keep_weak fun b hb _ => hb) fun x c h => h.keep (keep_weak fun b hb _ => .inl hb)
        · rw [hl4]; show IsNums _ _ _ (e.drops.take 5); rw [HDF.out.2.2.2]; exact RowD.keep RR4.out hk2X fun _ _ h => h
      have HIX := Lib.hid hIX
      have HBX := Lib.hid hBX
      have hstX' : (storeE (.pointer (some ⟨g2, 0, none⟩)) (.agg (cL nx sq b1 n1 f1 b2 n2 f2 sp i cp b4 n4 f4).toArray)).run Tryd.prog w9 = .ok () wX := by rw [← hcells]; exact hstX
      simp only [cL] at hstX' hld
      clear hl1 hl2 hl3 hl4 hstX hcells hwr hBw hBX hkX hk2X hoX hIX G29 hg2 hKW hall
      go_wp2
      exact ret_edit rfl rfl rfl KX.out HIX.out HBX.out
end Go.Proofs.YtaffmfocjaihlaaDoor.S18
