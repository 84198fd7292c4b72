/- Texts put together: MaOl. -/
import Derived.Test.YthgpdnffahmhjaaGreatDoorMg46
set_option linter.unusedSimpArgs false
set_option linter.unusedVariables false
set_option maxRecDepth 100000
namespace Go.Proofs.YthgpdnffahmhjaaGreatDoor.S19
open Go.RowKit Go.Maps Go.Shelf Go.Sort S18 S13 S13.Dk S15 S3 S2.Pl S3.Pl
def IsBo (w : World) (a : Option Addr) (n : Nat) (B : Nat → Bool) : Prop := n ≤ maxLen ∧ ∀ i, i < n → ∃ b off, a = some ⟨b, off, none⟩ ∧ b < w.heap.size ∧ w.cell? ⟨b, off + i, none⟩ = some (.bool (B i))
theorem isBo_nil (w : World) (B : Nat → Bool) : IsBo w none 0 B := ⟨by unfold maxLen; omega, fun i hi => by omega⟩
theorem isBo_open {w : World} {x : Addr} {l c : Nat} {B : Nat → Bool} (hl : l ≤ c) (hm : c ≤ maxLen) (h : ∀ i, i < c → w.cell? (x.add i) = some (.bool (B i))) : IsBo w (some x) l B := by
  refine ⟨Nat.le_trans hl hm, fun i hi => ?_⟩
  obtain ⟨b, o, spot⟩ := x
  have hc := h i (by omega)
  have hc0 := h 0 (by omega)
  have hspot : spot = none := by simpa [Addr.add] using World.cell?_spot hc0
  subst hspot
  rw [S18.addr_at] at hc
  exact ⟨b, o, rfl, World.block_lt_of_cell? w _ hc, hc⟩
theorem run_buildS2 (w : World) (n : Int) (b : Bool) : (buildS #[(0, .int .i64 n), (1, .bool b)]).run Tryz.prog w = .ok (.agg #[.int .i64 n, .bool b, .int .i64 0, .int .i64 0, .int .i64 0, .int .u32 0]) w := by kernel_rfl
theorem OwnD.sl {α : Type} {base : Nat} {t : TypeId} {k : Nat} {R : α → List Value → Prop} {w : World} {v : Value} {L : List α} (h : OwnD base t k R w v L) : ∃ a c, v = .slice a L.length c ∧ True := by
  obtain ⟨a, c, rfl, _⟩ := RowD.slice (OwnD.row (D := fun _ => True) h fun _ _ _ _ => trivial)
  exact ⟨a, c, rfl, trivial⟩
theorem ownD_none {α : Type} (base : Nat) (t : TypeId) (k : Nat) (R : α → List Value → Prop) (w : World) : OwnD base t k R w (.slice none 0 0) ([] : List α) := ⟨[], rfl, ⟨by simp, .inl ⟨rfl, rfl⟩⟩, fun i x c hx => by simp at hx⟩
theorem wO_len (r s : Nat → Bool) : ∀ k, (wO r s k).length ≤ 2 * k
  | 0 => by simp [wO]
  | k + 1 => by
    have := wO_len r s k
    rw [wO, List.length_append, List.length_append]
    split <;> split <;> simp <;> omega
theorem run_append_DN {α : Type} {w : World} (ts t : TypeId) (k : Nat) (z : Value) (bytes : Nat) (hu : Tryz.prog.underlying ts = some (.slice t)) (hinfo : (Tryz.prog.info? t).map (fun i => (i.zero, i.size, i.bytes)) = some (some z, k, bytes)) (hzs : z.cells.size = k) (hk : 0 < k) (hby : bytes ≤ 1000)
    (ty : TypeId) (base : Nat) (R : α → List Value → Prop) (v : Value) (L : List α) (hown : OwnD base t k R w v L) (y : α) (c : List Value) (hy : R y c) (hc : c.length = k) (h1 : ∀ u ∈ c, u.oneCell' = true) (hl : L.length + 1 ≤ 4294967296) (hbase : base ≤ w.heap.size) :
    ∃ v' w', (Builtin.append_ #[ts, ts] ty #[v, .slice (some ⟨w.heap.size, 0, none⟩) 1 1]).run Tryz.prog (w.alloc (.cells c.toArray t (0, 0))) = .ok v' w' ∧ OwnD base t k R w' v' (L ++ [y]) ∧ (w.alloc (.cells c.toArray t (0, 0))).grownBy w' v.ownBlock ∧ NearG (w.alloc (.cells c.toArray t (0, 0))) v v' := by
  obtain ⟨i0, hi, hz0, hz1, hz2⟩ : ∃ i, Tryz.prog.info? t = some i ∧ i.zero = some z ∧ i.size = k ∧ i.bytes = bytes := by
    cases hq : Tryz.prog.info? t with
    | none => rw [hq] at hinfo; cases hinfo
    | some i => rw [hq] at hinfo; simp at hinfo; exact ⟨i, rfl, hinfo.1, hinfo.2.1, hinfo.2.2⟩
  have hA : Below w.heap.size w (w.alloc (.cells c.toArray t (0, 0))) := (Below.refl _ _).alloc (Nat.le_refl _) _
  obtain ⟨cs, hcl, ho', h3⟩ := hown.below (R' := R) hA fun _ _ h => h
  have hblk := Blk.new w t c
  have hb2 : (L.length + 1) * bytes ≤ 140737488355328 := Nat.le_trans (Nat.mul_le_mul hl hby) (by omega)
  obtain ⟨v', w', hr, h4, h5, h6⟩ := run_append_nearG (w := w.alloc (.cells c.toArray t (0, 0))) base ts ty t i0 z k bytes hu hi hz0 hz1 hz2 hzs hk v L.length cs.flatten ho' ⟨w.heap.size, 0, none⟩ 1 1 c (by omega) (fun j u hj => by rw [S18.addr_at, Nat.zero_add]; exact hblk.cell hj) h1 (by unfold maxLen; omega) hb2 (by simp; omega)
  refine ⟨v', w', hr, ⟨cs ++ [c], by simp [hcl], ?_, fun i x d hx hd => ?_⟩, h5, h6⟩
  · rw [List.length_append, List.flatten_append]
    simpa using h4
  · by_cases hi : i < L.length
    · rw [List.getElem?_append_left hi] at hx
      rw [List.getElem?_append_left (by omega)] at hd
      exact h3 i x d hx hd
    · rw [List.getElem?_append_right (by omega)] at hx
      rw [List.getElem?_append_right (by omega)] at hd
      have hlt := (List.getElem?_eq_some_iff.1 hx).1
      have e1 : i - L.length = 0 := by simp at hlt; omega
      have e2 : i - cs.length = 0 := by omega
      rw [e1] at hx
      rw [e2] at hd
      simp at hx hd
      subst hx; subst hd
      exact ⟨hy, hc⟩
theorem wp_append_S {w w' : World} {o : Oper} {a : Act} {K : Act → World → Prop} {Q : Exit → Act → World → Prop} (s x : Operand)
    (ho : o.op = .call { callee := .builtin .append, args := #[s, x], argTypes := #[30, 30] })
    (v src v' : Value) (hs : a.eval s = v) (hx : a.eval x = src) (hr : (Builtin.append_ #[30, 30] o.type #[v, src]).run Tryz.prog w = .ok v' w') (h : K (a.put o.dst v') w') : o.wp Tryz.prog a w K Q := by
  unfold Oper.wp execOp
  simp only [ho, resolve, invoke, builtin, Sem.run_bind, Sem.run_pure, Result.andThen_ok, List.map_toArray, List.map_cons, List.map_nil, hs, hx, hr]
  exact h
attribute [local go_sem ↓] buildE_eq buildS_eq loadE_eq storeE_eq conv_eq
attribute [local go_sem] run_buildE00 run_buildS2
set_option maxHeartbeats 32000000 in
theorem manifestOld_walk (a0 : Option Addr) (ns cap0 : Nat) (z0 : Nat → Bool) (a1 : Option Addr) (nr cap1 : Nat) (z1 : Nat → Bool) (w : World) (hT : Tab w) (h0 : IsBo w a0 ns z0) (h1 : IsBo w a1 nr z1) : Calls Tryz.prog 3 #[.slice a0 ns cap0, .slice a1 nr cap1] w fun e w' => e = .returned (.bool true) ∧ Below w.heap.size w w' := by
  have HT := Lib.hid hT
  have hbg := begun_any w hT
  have HZ0 := Lib.hid h0
  have HZ1 := Lib.hid h1
  have hns : ns ≤ maxLen := h0.1
  have hnr : nr ≤ maxLen := h1.1
  unfold maxLen at hns hnr
  obtain ⟨s, hs⟩ : ∃ s, z0 = s := ⟨_, rfl⟩
  obtain ⟨r, hr⟩ : ∃ r : Nat → Bool, r = fun j => decide (j < nr) && z1 j := ⟨_, rfl⟩
  subst hs
  clear hT h0 h1
  go_enter Tryz.func3, Tryz.ntmps3
  go_wp2_with fail
  refine hbg.mono ?_
  rintro e w1 ⟨rfl, hb1⟩
  have HB1 := Lib.hid hb1
  have hnew := new_n 1048576 w1
  have HT1 : Hid (Tab w1) := Lib.hid (HT.out.below hb1)
  clear hb1 hbg
  go_wp2_with fail
  refine hnew.mono ?_
  rintro e w2 ⟨p, rfl, hI2⟩
  have hlen1 : (encE E1).length ≤ 20012 := encE_len fine_1.2
  have hR : rewr (new 1048576) nN nM (encE E1) = (stM R20 nM [] (encE E1) (encE E1).length 5 [(nM, 0)] [], 0) := rewr_new (by show _ ≤ R20; rw [R20_is]; omega)
  have hcr := create_ok (S := new 1048576) w2 hI2 HT1.out (by simp [new]) (by simp [new]) (by simp [new]) (by rw [nmM_is, nmN_is]; show (rewr _ nN nM (encE E1)).2 = 0; rw [hR])
  rw [nmM_is, nmN_is] at hcr
  simp only [show wholeM MS1 = E1 from rfl, hR] at hcr
  have HL1 := Lib.hid hlen1
  clear hnew hI2 hR hlen1
  go_wp2_with fail
  refine hcr.mono ?_
  rintro e w3 ⟨q, sv, pv, D, rfl, hI3⟩
  obtain ⟨B0, hB0⟩ : ∃ B0, encE E1 = B0 := ⟨_, rfl⟩
  rw [hB0] at hI3 HL1
  have hI3 : InY w1 p (sD B0 B0.length 0 5 [] (dirO 0)) q MS1 w3 sv pv D (fun _ => False) := hI3.out.toY
  obtain ⟨w4, hw4⟩ : ∃ w4, w3.alloc (.cells #[.int .i64 0, .int .i64 0, .slice none 0 0, .slice none 0 0, .slice none 0 0, .slice none 0 0] 34) = w4 := ⟨_, rfl⟩
  have hk4 : Blk w4 w3.heap.size 34 [.int .i64 0, .int .i64 0, .slice none 0 0, .slice none 0 0, .slice none 0 0, .slice none 0 0] := by rw [← hw4]; exact Blk.new w3 _ _
  have hb4 : Below w3.heap.size w3 w4 := by rw [← hw4]; exact (Below.refl _ _).alloc (Nat.le_refl _) _
  obtain ⟨w5, hst5, hk5, hg5⟩ := putE (eO []) (a1 := none) (c1 := 0) (a2 := none) (c2 := 0) (a3 := none) (c3 := 0) (a4 := none) (c4 := 0) hk4 rfl
  have hst5 : (storeE (.pointer (some ⟨w3.heap.size, 0, none⟩)) (.agg #[.int .i64 50, .int .i64 0, .slice none 0 0, .slice none 0 0, .slice none 0 0, .slice none 0 0])).run Tryz.prog w4 = .ok () w5 := hst5
  have hg35 : w3.grownBy w5 none := (gr_below hb4).andThen hg5.out (fun j hj => .inl (by cases hj; exact Nat.le_refl _))
  obtain ⟨xb, hxb⟩ : ∃ xb, w3.heap.size = xb := ⟨_, rfl⟩
  have HO5 : Hid (OW w1 p (sD B0 B0.length 0 5 [] (dirO 0)) q MS1 w5 sv pv D xb none 0 (aO r z0 0) (.slice none 0 0) (wO r z0 0)) := Lib.hid ⟨InY.app hI3 (fun k hk => by cases hk) hg35 (fun b hb => by
      rcases hb with rfl | hb | hb
      · exact ⟨.inr (by omega), by rw [← hxb]; exact hk5.out.lt⟩
      · cases hb
      · cases hb), by rw [← hxb]; exact hk5.out, ownD_none _ _ _ _ _, ownD_none _ _ _ _ _, by rw [← hxb]; exact hI3.bel.size⟩
  rw [hxb] at hst5
  have HR := Lib.hid hr
  clear hcr hI3 hk4 hb4 hk5 hg5 hg35 hB0 hr
  go_wp2_with fail
  go_loopw [10, 11] (fun v y wr => ∃ (k c : Nat) (pend : List Chg) (b1 : Option Addr) (c1 : Nat), k ≤ 9 ∧ k ≤ ns ∧ y = .int .i64 k ∧ Hid (OW w1 p (sD B0 B0.length (2 * k) c pend (dirO k)) q MS1 wr sv pv D xb b1 c1 (aO r z0 k) v (wO r z0 k)) ∧ c ≤ 5 + 2 * k) (fun _ y _ => 9 - (intOf y).toNat)
  case atStart => exact ⟨0, 5, [], none, 0, by omega, by omega, rfl, HO5, by omega⟩
  case round =>
    obtain ⟨k, c, pend, a1x, c1, hk9, hkn, rfl, HO, hc⟩ := hrel
    by_cases hlt : k < 9 ∧ k < ns
    · obtain ⟨hk8, hks⟩ := hlt
      have q1 : decide ((k : Int) < 9) = true := decide_eq_true (by omega)
      have q1' : decide (k < 9) = true := decide_eq_true hk8
      have q2 : decide ((k : Int) < (ns : Int)) = true := decide_eq_true (by omega)
      have q2' : decide (k < ns) = true := decide_eq_true hks
      obtain ⟨b0, o0, rfl, hbl0, hcl0⟩ := HZ0.out.2 k hks
      have HC0 : Hid (∀ W, Below w1.heap.size w1 W → W.cell? ⟨b0, o0 + k, none⟩ = some (.bool (z0 k))) := Lib.hid fun W hW => ((HB1.out.trans (hW.mono HB1.out.size)).cell (p := ⟨b0, o0 + k, none⟩) hbl0).trans hcl0
      obtain ⟨wa, hwa⟩ : ∃ wa, wr.alloc (.cells #[.int .u8 (49 + (k : Int))] 5) = wa := ⟨_, rfl⟩
      have hby : IsBytes wa (.slice (some ⟨wr.heap.size, 0, none⟩) 1 1) [49 + k] := by rw [← hwa]; exact isBytes_mark wr [49 + k] (0, 0) (by simp; omega) (by unfold maxLen; simp)
      have hcv := run_conv hby
      obtain ⟨d, hd⟩ : ∃ d, str [49 + k] = d := ⟨_, rfl⟩
      rw [hd] at hcv
      have hds : d.size = 1 := by rw [← hd]; rfl
      have hRaw : (d ++ ByteArray.mk #[46, 114, 97, 119]).data.toList = rwN k := by rw [← hd]; simp [str, rwN, ByteArray.data_append]
      have hSeg : (d ++ ByteArray.mk #[46, 115, 101, 103]).data.toList = sgN k := by rw [← hd]; simp [str, sgN, ByteArray.data_append]
      have hcat1 : d.size + (ByteArray.mk #[46, 114, 97, 119]).size ≤ 9223372036854775807 := by show d.size + 4 ≤ _; omega
      have hcat2 : d.size + (ByteArray.mk #[46, 115, 101, 103]).size ≤ 9223372036854775807 := by show d.size + 4 ≤ _; omega
      have HNR : Hid (strC (rwN k) [.string (d ++ ByteArray.mk #[46, 114, 97, 119])]) := Lib.hid (by unfold strC; rw [← hRaw])
      have HNS : Hid (strC (sgN k) [.string (d ++ ByteArray.mk #[46, 115, 101, 103])]) := Lib.hid (by unfold strC; rw [← hSeg])
      have HWL : Hid ((wO r z0 k).length ≤ 18) := Lib.hid (by have := wO_len r z0 k; omega)
      have HAL : Hid ((aO r z0 k).length ≤ 9) := Lib.hid (by have := aO_len r z0 k; omega)
      obtain ⟨an, han⟩ : ∃ an, (aO r z0 k).length = an := ⟨_, rfl⟩
      have HAN := Lib.hid han
      have HB0 : Hid (b0 < w1.heap.size) := Lib.hid (Nat.lt_of_lt_of_le hbl0 HB1.out.size)
      have hba : Below wr.heap.size wr wa := by rw [← hwa]; exact (Below.refl _ _).alloc (Nat.le_refl _) _
      have hOa := HO.out.below hba
      have hcr1 := create_z (d ++ ByteArray.mk #[46, 114, 97, 119]) hOa.y.fs (by unfold maxLen; rw [ByteArray.size_append]; exact hcat1) (by show c ≤ _; omega)
      rw [hRaw, sD_create (dir_nm k hk8).1 (dir_len k (by omega)).1 (dir_ne k (by omega)).1, show dput (dirO k) (rwN k) (2 * k + 1) = dirH k from rfl] at hcr1
      try simp only at hcr1
      have HOa := Lib.hid hOa
      have HD1 := Lib.hid hRaw
      have HD2 := Lib.hid hSeg
      clear hby hd hRaw hSeg hba hOa hbl0 hcl0 han
      go_wp2_with fail
      refine hcr1.mono ?_
      rintro e wb ⟨rfl, hzb, hhb⟩
      have hOb := HOa.out.op hzb hhb
      have hcr2 := create_z (d ++ ByteArray.mk #[46, 115, 101, 103]) hOb.y.fs (by unfold maxLen; rw [ByteArray.size_append]; exact hcat2) (by show c + 1 ≤ _; omega)
      rw [HD2.out, sD_create (dir_nm k hk8).2 (show (dirH k).length < 150 from (dir_len k (by omega)).2) (show ∀ p ∈ dirH k, p.1 ≠ [] from (dir_ne k (by omega)).2)] at hcr2
      try simp only at hcr2
      have HOb := Lib.hid hOb
      clear hcr1 hzb hhb hOb hcv
      go_wp2_with fail
      refine hcr2.mono ?_
      rintro e W2 ⟨rfl, hzc, hhc⟩
      have HO2 : Hid (OW w1 p (sD B0 B0.length (2 * (k + 1)) (c + 2) _ (dirO (k + 1))) q MS1 W2 sv pv D xb a1x c1 (aO r z0 k) _ (wO r z0 k)) := Lib.hid (by rw [← dir_step k (by omega)]; exact HOb.out.op hzc hhc)
      clear hcr2 hzc hhc
      have cs2 := HC0.out W2 HO2.out.y.bel
      by_cases hkr : k < nr
      · have q5 : decide ((k : Int) < (nr : Int)) = true := decide_eq_true (by omega)
        have q5' : decide (k < nr) = true := decide_eq_true hkr
        obtain ⟨b9, o9, rfl, hbl9, hcl9⟩ := HZ1.out.2 k hkr
        have c9 : W2.cell? ⟨b9, o9 + k, none⟩ = some (.bool (z1 k)) := ((HB1.out.trans (HO2.out.y.bel.mono HB1.out.size)).cell (p := ⟨b9, o9 + k, none⟩) hbl9).trans hcl9
        clear hbl9 hcl9
        cases hzr : z1 k with
        | true =>
          rw [hzr] at c9
          cases hzs : z0 k with
          | true =>
            rw [hzs] at cs2
            have hrk : r k = true := by rw [HR.out]; show (decide (k < nr) && z1 k) = true; rw [hzr]; simp [hkr]
            have hsk : z0 k = true := hzs
            have HOd : Hid (OW w1 p _ q MS1 W2.drew sv pv D xb a1x c1 (aO r z0 k) _ (wO r z0 k)) := Lib.hid (HO2.out.below (Below.refl _ _).drew)
            have cx := HOd.out.x.cell (o := 2) (v := .slice a1x (aO r z0 k).length c1) rfl
            rw [HAN.out] at cx
            have HKEEP : Hid (∀ W, Below w1.heap.size w1 W → W.heap[b0]? = W2.heap[b0]?) := Lib.hid fun W hW => (hW.block b0 HB0.out).trans (HO2.out.y.bel.block b0 HB0.out).symm
            have HCS : Hid (∀ W : World, W.heap[b0]? = W2.heap[b0]? → W.cell? ⟨b0, o0 + k, none⟩ = some (.bool true)) := Lib.hid fun W hW => by
              have h2 := cs2
              simp only [World.cell?] at h2 ⊢
              rw [hW]
              exact h2
            have hcells : (segL (sO z0 k)).toArray = #[.int .i64 ((k : Int) + 1), .bool true, .int .i64 0, .int .i64 0, .int .i64 0, .int .u32 0] := by simp [segL, sO, hzs]
            obtain ⟨v3, W3, hr3, hl3, hg3, hn3⟩ := run_append_DN (w := W2.drew) 30 40 6 (.agg (segL zS).toArray) 48 Tryz.underlying30 infoS rfl (by decide) (by decide) 30 w1.heap.size segC (.slice a1x an c1) (aO r z0 k) (by rw [← HAN.out]; exact HOd.out.a) (sO z0 k) (segL (sO z0 k)) ⟨rfl, by simp [sumW, sO]⟩ rfl (segL_one _) (by have := HAL.out; omega) HOd.out.y.bel.size
            obtain ⟨a2, c2, rfl, _⟩ := OwnD.sl hl3
            obtain ⟨hx3, ho3⟩ := HOd.out.adds (by simpa using hl3) (by rw [HAN.out]; exact hg3) (by rw [HAN.out]; simpa using hn3)
            have cx3 := hx3.cell (o := 2) (v := .slice a1x (aO r z0 k).length c1) rfl
            rw [HAN.out] at cx3
            have fx3 := hx3.frozen 2
            have hlen : (aO r z0 k ++ [sO z0 k]).length = an + 1 := by rw [List.length_append, HAN.out]; rfl
            rw [hcells, hlen] at hr3
            rw [hlen] at ho3
            have HK3 : Hid (W3.heap[b0]? = W2.heap[b0]?) := Lib.hid (by
              have h1 : some b0 ≠ (Value.slice a1x an c1).ownBlock := fun e => by
                have h2 := (HOd.out.a.lt b0 (by rw [HAN.out]; exact e.symm)).1
                have h3 := HB0.out
                omega
              have h4 : b0 < W2.heap.size := by have := HB0.out; have := HO2.out.y.bel.size; omega
              exact (hg3.block b0 (by simp; omega) h1).trans (Below.heap_alloc W2.drew _ b0 h4))
            have HR3 := Lib.hid hr3
            have HX3 := Lib.hid cx3
            have HF3 := Lib.hid fx3
            have HHO := Lib.hid ho3
            have hHeld : W2.drew.heap[b0]? = W2.heap[b0]? := rfl
            have HKA : Hid (∀ o : Obj, (W2.drew.alloc o).heap[b0]? = W2.heap[b0]?) := Lib.hid fun o => Below.heap_alloc W2.drew o b0 (by have := HB0.out; have := HO2.out.y.bel.size; show b0 < W2.heap.size; omega)
            have qk : IntKind.i64.wrap ((k : Int) + 1) = (k : Int) + 1 := by rw [IntKind.wrap_i64]; omega
            have hcxa : ∀ o : Obj, (W2.alloc o).drew.cell? ⟨xb, 2, none⟩ = some (.slice a1x an c1) := fun o => (((Below.refl _ W2.drew).alloc (Nat.le_refl _) o).cell (p := ⟨xb, 2, none⟩) HOd.out.x.lt).trans cx
            clear hl3 hg3 hn3 hx3 ho3 hr3 cx3 fx3 hcells hlen
            go_wp2_with fail
            refine wp_region_noPanic ?_
            refine wpAnyH_start (n := 13) (l := #[false, false, false, false, false, false, false, false, false, false, false, false, false]) (S := fun W => W.heap[b0]? = W2.heap[b0]?) (by kernel_rfl) (hHeld) (by kernel_rfl) (by kernel_rfl) ?_
            refine wpAnyH_take (i := 0) (oi := _) (v := ?_) rfl (by kernel_rfl) (by kernel_rfl) (by kernel_rfl) (fun _ _ _ h => h) (Or.inl ⟨by rfl, ?_⟩) (by assumption) ?_
            rotate_left
            · intro wq hSw; go_simp; try with_reducible rfl
            simp only [Act.put, List.setIfInBounds_toArray, List.set_cons_zero, List.set_cons_succ, List.getElem_toArray, List.getElem_cons_zero, List.getElem_cons_succ]
            refine wpAnyH_take (i := 2) (oi := _) (v := ?_) rfl (by kernel_rfl) (by kernel_rfl) (by kernel_rfl) (fun _ _ _ h => h) (Or.inl ⟨by rfl, ?_⟩) (by assumption) ?_
            rotate_left
            · intro wq hSw; go_simp; try with_reducible rfl
            simp only [Act.put, List.setIfInBounds_toArray, List.set_cons_zero, List.set_cons_succ, List.getElem_toArray, List.getElem_cons_zero, List.getElem_cons_succ]
            refine wpAnyH_take (i := 3) (oi := _) (v := ?_) rfl (by kernel_rfl) (by kernel_rfl) (by kernel_rfl) (fun _ _ _ h => h) (Or.inl ⟨by rfl, ?_⟩) (by assumption) ?_
            rotate_left
            · intro wq hSw; go_simp; try with_reducible rfl
            simp only [Act.put, List.setIfInBounds_toArray, List.set_cons_zero, List.set_cons_succ, List.getElem_toArray, List.getElem_cons_zero, List.getElem_cons_succ]
            refine wpAnyH_take (i := 4) (oi := _) (v := ?_) rfl (by kernel_rfl) (by kernel_rfl) (by kernel_rfl) (fun _ _ _ h => h) (Or.inl ⟨by rfl, ?_⟩) (by assumption) ?_
            rotate_left
            · intro wq hSw; go_simp; try with_reducible rfl
            simp only [Act.put, List.setIfInBounds_toArray, List.set_cons_zero, List.set_cons_succ, List.getElem_toArray, List.getElem_cons_zero, List.getElem_cons_succ]
            refine wpAnyH_take (i := 5) (oi := _) (v := ?_) rfl (by kernel_rfl) (by kernel_rfl) (by kernel_rfl) (fun _ _ _ h => h) (Or.inl ⟨by rfl, ?_⟩) (by assumption) ?_
            rotate_left
            · intro wq hSw; go_simp; try with_reducible rfl
            simp only [Act.put, List.setIfInBounds_toArray, List.set_cons_zero, List.set_cons_succ, List.getElem_toArray, List.getElem_cons_zero, List.getElem_cons_succ]
            refine wpAnyH_take (i := 6) (oi := _) (v := ?_) rfl (by kernel_rfl) (by kernel_rfl) (by kernel_rfl) (fun _ _ _ h => h) (Or.inl ⟨by rfl, ?_⟩) (by assumption) ?_
            rotate_left
            · intro wq hSw; go_simp; try with_reducible rfl
            simp only [Act.put, List.setIfInBounds_toArray, List.set_cons_zero, List.set_cons_succ, List.getElem_toArray, List.getElem_cons_zero, List.getElem_cons_succ]
            refine wpAnyH_take (i := 7) (oi := _) (v := ?_) rfl (by kernel_rfl) (by kernel_rfl) (by kernel_rfl) (fun _ _ _ h => h) (Or.inl ⟨by rfl, ?_⟩) (by assumption) ?_
            rotate_left
            · intro wq hSw; have lq := HCS.out wq hSw; go_simp; try with_reducible rfl
            simp only [Act.put, List.setIfInBounds_toArray, List.set_cons_zero, List.set_cons_succ, List.getElem_toArray, List.getElem_cons_zero, List.getElem_cons_succ]
            refine wpAnyH_take (i := 8) (oi := _) (v := ?_) rfl (by kernel_rfl) (by kernel_rfl) (by kernel_rfl) (fun _ _ _ h => h) (Or.inl ⟨by rfl, ?_⟩) (by assumption) ?_
            rotate_left
            · intro wq hSw; go_simp; try with_reducible rfl
            simp only [Act.put, List.setIfInBounds_toArray, List.set_cons_zero, List.set_cons_succ, List.getElem_toArray, List.getElem_cons_zero, List.getElem_cons_succ]
            refine wpAnyH_ready (rs := [1, 9]) (by kernel_rfl) (by simp) ?_
            refine AllReadyH.cons (o := _) rfl (fun K hK => ?_) (AllReadyH.cons (o := _) rfl (fun K hK => ?_) AllReadyH.nil)
            · simp only [List.getElem_toArray, List.getElem_cons_zero, List.getElem_cons_succ]
              go_simp
              refine hK.out _ _ (hHeld) (fun _ => ?_)
              clear hK K
              simp only [Act.put, List.setIfInBounds_toArray, List.set_cons_zero, List.set_cons_succ, List.getElem_toArray, List.getElem_cons_zero, List.getElem_cons_succ]
              refine wpAnyH_ready (rs := [9]) (by kernel_rfl) (by simp) ?_
              refine AllReadyH.cons (o := _) rfl (fun K hK => ?_) AllReadyH.nil
              simp only [List.getElem_toArray, List.getElem_cons_zero, List.getElem_cons_succ]
              go_simp
              refine hK.out _ _ (HKA.out _) (fun _ => ?_)
              clear hK K
              simp only [Act.put, List.setIfInBounds_toArray, List.set_cons_zero, List.set_cons_succ, List.getElem_toArray, List.getElem_cons_zero, List.getElem_cons_succ]
              refine wpAnyH_ready (rs := [10]) (by kernel_rfl) (by simp) ?_
              refine AllReadyH.cons (o := _) rfl (fun K hK => ?_) AllReadyH.nil
              simp only [List.getElem_toArray, List.getElem_cons_zero, List.getElem_cons_succ]
              refine wp_append_S (.tmp 63) (.tmp 71) rfl (.slice a1x an c1) (.slice (some ⟨W2.heap.size, 0, none⟩) 1 1) _ rfl rfl HR3.out ?_
              refine hK.out _ _ (HK3.out) (fun _ => ?_)
              clear hK K
              simp only [Act.put, List.setIfInBounds_toArray, List.set_cons_zero, List.set_cons_succ, List.getElem_toArray, List.getElem_cons_zero, List.getElem_cons_succ]
              have hHeld := HK3.out
              have cx3 := HX3.out
              have fx3 := HF3.out
              refine wpAnyH_take (i := 11) (oi := _) (v := ?_) rfl (by kernel_rfl) (by kernel_rfl) (by kernel_rfl) (fun _ _ _ h => h) (Or.inl ⟨by rfl, ?_⟩) (by assumption) ?_
              rotate_left
              · intro wq hSw; go_simp; try with_reducible rfl
              simp only [Act.put, List.setIfInBounds_toArray, List.set_cons_zero, List.set_cons_succ, List.getElem_toArray, List.getElem_cons_zero, List.getElem_cons_succ]
              refine wpAnyH_ready (rs := [12]) (by kernel_rfl) (by simp) ?_
              refine AllReadyH.cons (o := _) rfl (fun K hK => ?_) AllReadyH.nil
              simp only [List.getElem_toArray, List.getElem_cons_zero, List.getElem_cons_succ]
              go_simp
              refine hK.out _ _ ((by have := HHO.out; exact HKEEP.out _ this.y.bel)) (fun _ => ?_)
              clear hK K
              simp only [Act.put, List.setIfInBounds_toArray, List.set_cons_zero, List.set_cons_succ, List.getElem_toArray, List.getElem_cons_zero, List.getElem_cons_succ]
              refine wpAnyH_done (by kernel_rfl) ?_ _
              refine NoPanic.normal ?_
              obtain ⟨W4, hW4⟩ : ∃ W4, W3.setCell ⟨xb, 2, none⟩ (.slice a2 (an + 1) c2) = W4 := ⟨_, rfl⟩
              have ho4 := HHO.out
              rw [hW4] at ho4
              have HO4 := Lib.hid ho4
              have cs4 := HC0.out W4 HO4.out.y.bel
              rw [hzs] at cs4
              clear ho4
              go_wp2_with (at_builtin; refine wpList_append_DN 35 9 1 (.string ⟨#[]⟩) 16 Tryz.underlying35 infoStr rfl (by decide) (by decide) rfl (.tmp 82) (.tmp 85) rfl w1.heap.size strC _ (wO r z0 k) rfl HO4.out.l (rwN k) [.string (d ++ ByteArray.mk #[46, 114, 97, 119])] HNR.out rfl (by intro u hu; simp at hu; subst hu; rfl) rfl (by have := HWL.out; first | omega | (rw [List.length_append]; simp only [List.length_singleton]; omega)) HO4.out.y.bel.size ?_; intro v5 W5 hl5 hg5 hn5; have HO5 := Lib.hid (HO4.out.want hl5 hg5 hn5); clear hl5 hg5 hn5; have cs5 := HC0.out W5 HO5.out.y.bel; rw [hzs] at cs5)
              have HWK : Hid (wO r z0 (k + 1) = wO r z0 k ++ [rwN k]) := Lib.hid (by simp [wO, hrk, hsk])
              have HAK : Hid (aO r z0 (k + 1) = aO r z0 k ++ [sO z0 k]) := Lib.hid (by simp [aO, hrk])
              go_wp2_with fail
              go_roundw
              case rel => exact ⟨k + 1, _, _, a2, c2, by omega, by omega, by first | rfl | go_num, by rw [HWK.out, HAK.out]; exact HO5, by omega⟩
              case measure => simp only [intOf_i]; omega
            · simp only [List.getElem_toArray, List.getElem_cons_zero, List.getElem_cons_succ]
              go_simp
              refine hK.out _ _ (HKA.out _) (fun _ => ?_)
              clear hK K
              simp only [Act.put, List.setIfInBounds_toArray, List.set_cons_zero, List.set_cons_succ, List.getElem_toArray, List.getElem_cons_zero, List.getElem_cons_succ]
              refine wpAnyH_ready (rs := [1]) (by kernel_rfl) (by simp) ?_
              refine AllReadyH.cons (o := _) rfl (fun K hK => ?_) AllReadyH.nil
              simp only [List.getElem_toArray, List.getElem_cons_zero, List.getElem_cons_succ]
              go_simp
              refine hK.out _ _ (HKA.out _) (fun _ => ?_)
              clear hK K
              simp only [Act.put, List.setIfInBounds_toArray, List.set_cons_zero, List.set_cons_succ, List.getElem_toArray, List.getElem_cons_zero, List.getElem_cons_succ]
              refine wpAnyH_ready (rs := [10]) (by kernel_rfl) (by simp) ?_
              refine AllReadyH.cons (o := _) rfl (fun K hK => ?_) AllReadyH.nil
              simp only [List.getElem_toArray, List.getElem_cons_zero, List.getElem_cons_succ]
              refine wp_append_S (.tmp 63) (.tmp 71) rfl (.slice a1x an c1) (.slice (some ⟨W2.heap.size, 0, none⟩) 1 1) _ rfl rfl HR3.out ?_
              refine hK.out _ _ (HK3.out) (fun _ => ?_)
              clear hK K
              simp only [Act.put, List.setIfInBounds_toArray, List.set_cons_zero, List.set_cons_succ, List.getElem_toArray, List.getElem_cons_zero, List.getElem_cons_succ]
              have hHeld := HK3.out
              have cx3 := HX3.out
              have fx3 := HF3.out
              refine wpAnyH_take (i := 11) (oi := _) (v := ?_) rfl (by kernel_rfl) (by kernel_rfl) (by kernel_rfl) (fun _ _ _ h => h) (Or.inl ⟨by rfl, ?_⟩) (by assumption) ?_
              rotate_left
              · intro wq hSw; go_simp; try with_reducible rfl
              simp only [Act.put, List.setIfInBounds_toArray, List.set_cons_zero, List.set_cons_succ, List.getElem_toArray, List.getElem_cons_zero, List.getElem_cons_succ]
              refine wpAnyH_ready (rs := [12]) (by kernel_rfl) (by simp) ?_
              refine AllReadyH.cons (o := _) rfl (fun K hK => ?_) AllReadyH.nil
              simp only [List.getElem_toArray, List.getElem_cons_zero, List.getElem_cons_succ]
              go_simp
              refine hK.out _ _ ((by have := HHO.out; exact HKEEP.out _ this.y.bel)) (fun _ => ?_)
              clear hK K
              simp only [Act.put, List.setIfInBounds_toArray, List.set_cons_zero, List.set_cons_succ, List.getElem_toArray, List.getElem_cons_zero, List.getElem_cons_succ]
              refine wpAnyH_done (by kernel_rfl) ?_ _
              refine NoPanic.normal ?_
              obtain ⟨W4, hW4⟩ : ∃ W4, W3.setCell ⟨xb, 2, none⟩ (.slice a2 (an + 1) c2) = W4 := ⟨_, rfl⟩
              have ho4 := HHO.out
              rw [hW4] at ho4
              have HO4 := Lib.hid ho4
              have cs4 := HC0.out W4 HO4.out.y.bel
              rw [hzs] at cs4
              clear ho4
              go_wp2_with (at_builtin; refine wpList_append_DN 35 9 1 (.string ⟨#[]⟩) 16 Tryz.underlying35 infoStr rfl (by decide) (by decide) rfl (.tmp 82) (.tmp 85) rfl w1.heap.size strC _ (wO r z0 k) rfl HO4.out.l (rwN k) [.string (d ++ ByteArray.mk #[46, 114, 97, 119])] HNR.out rfl (by intro u hu; simp at hu; subst hu; rfl) rfl (by have := HWL.out; first | omega | (rw [List.length_append]; simp only [List.length_singleton]; omega)) HO4.out.y.bel.size ?_; intro v5 W5 hl5 hg5 hn5; have HO5 := Lib.hid (HO4.out.want hl5 hg5 hn5); clear hl5 hg5 hn5; have cs5 := HC0.out W5 HO5.out.y.bel; rw [hzs] at cs5)
              have HWK : Hid (wO r z0 (k + 1) = wO r z0 k ++ [rwN k]) := Lib.hid (by simp [wO, hrk, hsk])
              have HAK : Hid (aO r z0 (k + 1) = aO r z0 k ++ [sO z0 k]) := Lib.hid (by simp [aO, hrk])
              go_wp2_with fail
              go_roundw
              case rel => exact ⟨k + 1, _, _, a2, c2, by omega, by omega, by first | rfl | go_num, by rw [HWK.out, HAK.out]; exact HO5, by omega⟩
              case measure => simp only [intOf_i]; omega
          | false =>
            rw [hzs] at cs2
            have hrk : r k = true := by rw [HR.out]; show (decide (k < nr) && z1 k) = true; rw [hzr]; simp [hkr]
            have hsk : z0 k = false := hzs
            have HOd : Hid (OW w1 p _ q MS1 W2.drew sv pv D xb a1x c1 (aO r z0 k) _ (wO r z0 k)) := Lib.hid (HO2.out.below (Below.refl _ _).drew)
            have cx := HOd.out.x.cell (o := 2) (v := .slice a1x (aO r z0 k).length c1) rfl
            rw [HAN.out] at cx
            have HKEEP : Hid (∀ W, Below w1.heap.size w1 W → W.heap[b0]? = W2.heap[b0]?) := Lib.hid fun W hW => (hW.block b0 HB0.out).trans (HO2.out.y.bel.block b0 HB0.out).symm
            have HCS : Hid (∀ W : World, W.heap[b0]? = W2.heap[b0]? → W.cell? ⟨b0, o0 + k, none⟩ = some (.bool false)) := Lib.hid fun W hW => by
              have h2 := cs2
              simp only [World.cell?] at h2 ⊢
              rw [hW]
              exact h2
            have hcells : (segL (sO z0 k)).toArray = #[.int .i64 ((k : Int) + 1), .bool false, .int .i64 0, .int .i64 0, .int .i64 0, .int .u32 0] := by simp [segL, sO, hzs]
            obtain ⟨v3, W3, hr3, hl3, hg3, hn3⟩ := run_append_DN (w := W2.drew) 30 40 6 (.agg (segL zS).toArray) 48 Tryz.underlying30 infoS rfl (by decide) (by decide) 30 w1.heap.size segC (.slice a1x an c1) (aO r z0 k) (by rw [← HAN.out]; exact HOd.out.a) (sO z0 k) (segL (sO z0 k)) ⟨rfl, by simp [sumW, sO]⟩ rfl (segL_one _) (by have := HAL.out; omega) HOd.out.y.bel.size
            obtain ⟨a2, c2, rfl, _⟩ := OwnD.sl hl3
            obtain ⟨hx3, ho3⟩ := HOd.out.adds (by simpa using hl3) (by rw [HAN.out]; exact hg3) (by rw [HAN.out]; simpa using hn3)
            have cx3 := hx3.cell (o := 2) (v := .slice a1x (aO r z0 k).length c1) rfl
            rw [HAN.out] at cx3
            have fx3 := hx3.frozen 2
            have hlen : (aO r z0 k ++ [sO z0 k]).length = an + 1 := by rw [List.length_append, HAN.out]; rfl
            rw [hcells, hlen] at hr3
            rw [hlen] at ho3
            have HK3 : Hid (W3.heap[b0]? = W2.heap[b0]?) := Lib.hid (by
              have h1 : some b0 ≠ (Value.slice a1x an c1).ownBlock := fun e => by
                have h2 := (HOd.out.a.lt b0 (by rw [HAN.out]; exact e.symm)).1
                have h3 := HB0.out
                omega
              have h4 : b0 < W2.heap.size := by have := HB0.out; have := HO2.out.y.bel.size; omega
              exact (hg3.block b0 (by simp; omega) h1).trans (Below.heap_alloc W2.drew _ b0 h4))
            have HR3 := Lib.hid hr3
            have HX3 := Lib.hid cx3
            have HF3 := Lib.hid fx3
            have HHO := Lib.hid ho3
            have hHeld : W2.drew.heap[b0]? = W2.heap[b0]? := rfl
            have HKA : Hid (∀ o : Obj, (W2.drew.alloc o).heap[b0]? = W2.heap[b0]?) := Lib.hid fun o => Below.heap_alloc W2.drew o b0 (by have := HB0.out; have := HO2.out.y.bel.size; show b0 < W2.heap.size; omega)
            have qk : IntKind.i64.wrap ((k : Int) + 1) = (k : Int) + 1 := by rw [IntKind.wrap_i64]; omega
            have hcxa : ∀ o : Obj, (W2.alloc o).drew.cell? ⟨xb, 2, none⟩ = some (.slice a1x an c1) := fun o => (((Below.refl _ W2.drew).alloc (Nat.le_refl _) o).cell (p := ⟨xb, 2, none⟩) HOd.out.x.lt).trans cx
            clear hl3 hg3 hn3 hx3 ho3 hr3 cx3 fx3 hcells hlen
            go_wp2_with fail
            refine wp_region_noPanic ?_
            refine wpAnyH_start (n := 13) (l := #[false, false, false, false, false, false, false, false, false, false, false, false, false]) (S := fun W => W.heap[b0]? = W2.heap[b0]?) (by kernel_rfl) (hHeld) (by kernel_rfl) (by kernel_rfl) ?_
            refine wpAnyH_take (i := 0) (oi := _) (v := ?_) rfl (by kernel_rfl) (by kernel_rfl) (by kernel_rfl) (fun _ _ _ h => h) (Or.inl ⟨by rfl, ?_⟩) (by assumption) ?_
            rotate_left
            · intro wq hSw; go_simp; try with_reducible rfl
            simp only [Act.put, List.setIfInBounds_toArray, List.set_cons_zero, List.set_cons_succ, List.getElem_toArray, List.getElem_cons_zero, List.getElem_cons_succ]
            refine wpAnyH_take (i := 2) (oi := _) (v := ?_) rfl (by kernel_rfl) (by kernel_rfl) (by kernel_rfl) (fun _ _ _ h => h) (Or.inl ⟨by rfl, ?_⟩) (by assumption) ?_
            rotate_left
            · intro wq hSw; go_simp; try with_reducible rfl
            simp only [Act.put, List.setIfInBounds_toArray, List.set_cons_zero, List.set_cons_succ, List.getElem_toArray, List.getElem_cons_zero, List.getElem_cons_succ]
            refine wpAnyH_take (i := 3) (oi := _) (v := ?_) rfl (by kernel_rfl) (by kernel_rfl) (by kernel_rfl) (fun _ _ _ h => h) (Or.inl ⟨by rfl, ?_⟩) (by assumption) ?_
            rotate_left
            · intro wq hSw; go_simp; try with_reducible rfl
            simp only [Act.put, List.setIfInBounds_toArray, List.set_cons_zero, List.set_cons_succ, List.getElem_toArray, List.getElem_cons_zero, List.getElem_cons_succ]
            refine wpAnyH_take (i := 4) (oi := _) (v := ?_) rfl (by kernel_rfl) (by kernel_rfl) (by kernel_rfl) (fun _ _ _ h => h) (Or.inl ⟨by rfl, ?_⟩) (by assumption) ?_
            rotate_left
            · intro wq hSw; go_simp; try with_reducible rfl
            simp only [Act.put, List.setIfInBounds_toArray, List.set_cons_zero, List.set_cons_succ, List.getElem_toArray, List.getElem_cons_zero, List.getElem_cons_succ]
            refine wpAnyH_take (i := 5) (oi := _) (v := ?_) rfl (by kernel_rfl) (by kernel_rfl) (by kernel_rfl) (fun _ _ _ h => h) (Or.inl ⟨by rfl, ?_⟩) (by assumption) ?_
            rotate_left
            · intro wq hSw; go_simp; try with_reducible rfl
            simp only [Act.put, List.setIfInBounds_toArray, List.set_cons_zero, List.set_cons_succ, List.getElem_toArray, List.getElem_cons_zero, List.getElem_cons_succ]
            refine wpAnyH_take (i := 6) (oi := _) (v := ?_) rfl (by kernel_rfl) (by kernel_rfl) (by kernel_rfl) (fun _ _ _ h => h) (Or.inl ⟨by rfl, ?_⟩) (by assumption) ?_
            rotate_left
            · intro wq hSw; go_simp; try with_reducible rfl
            simp only [Act.put, List.setIfInBounds_toArray, List.set_cons_zero, List.set_cons_succ, List.getElem_toArray, List.getElem_cons_zero, List.getElem_cons_succ]
            refine wpAnyH_take (i := 7) (oi := _) (v := ?_) rfl (by kernel_rfl) (by kernel_rfl) (by kernel_rfl) (fun _ _ _ h => h) (Or.inl ⟨by rfl, ?_⟩) (by assumption) ?_
            rotate_left
            · intro wq hSw; have lq := HCS.out wq hSw; go_simp; try with_reducible rfl
            simp only [Act.put, List.setIfInBounds_toArray, List.set_cons_zero, List.set_cons_succ, List.getElem_toArray, List.getElem_cons_zero, List.getElem_cons_succ]
            refine wpAnyH_take (i := 8) (oi := _) (v := ?_) rfl (by kernel_rfl) (by kernel_rfl) (by kernel_rfl) (fun _ _ _ h => h) (Or.inl ⟨by rfl, ?_⟩) (by assumption) ?_
            rotate_left
            · intro wq hSw; go_simp; try with_reducible rfl
            simp only [Act.put, List.setIfInBounds_toArray, List.set_cons_zero, List.set_cons_succ, List.getElem_toArray, List.getElem_cons_zero, List.getElem_cons_succ]
            refine wpAnyH_ready (rs := [1, 9]) (by kernel_rfl) (by simp) ?_
            refine AllReadyH.cons (o := _) rfl (fun K hK => ?_) (AllReadyH.cons (o := _) rfl (fun K hK => ?_) AllReadyH.nil)
            · simp only [List.getElem_toArray, List.getElem_cons_zero, List.getElem_cons_succ]
              go_simp
              refine hK.out _ _ (hHeld) (fun _ => ?_)
              clear hK K
              simp only [Act.put, List.setIfInBounds_toArray, List.set_cons_zero, List.set_cons_succ, List.getElem_toArray, List.getElem_cons_zero, List.getElem_cons_succ]
              refine wpAnyH_ready (rs := [9]) (by kernel_rfl) (by simp) ?_
              refine AllReadyH.cons (o := _) rfl (fun K hK => ?_) AllReadyH.nil
              simp only [List.getElem_toArray, List.getElem_cons_zero, List.getElem_cons_succ]
              go_simp
              refine hK.out _ _ (HKA.out _) (fun _ => ?_)
              clear hK K
              simp only [Act.put, List.setIfInBounds_toArray, List.set_cons_zero, List.set_cons_succ, List.getElem_toArray, List.getElem_cons_zero, List.getElem_cons_succ]
              refine wpAnyH_ready (rs := [10]) (by kernel_rfl) (by simp) ?_
              refine AllReadyH.cons (o := _) rfl (fun K hK => ?_) AllReadyH.nil
              simp only [List.getElem_toArray, List.getElem_cons_zero, List.getElem_cons_succ]
              refine wp_append_S (.tmp 63) (.tmp 71) rfl (.slice a1x an c1) (.slice (some ⟨W2.heap.size, 0, none⟩) 1 1) _ rfl rfl HR3.out ?_
              refine hK.out _ _ (HK3.out) (fun _ => ?_)
              clear hK K
              simp only [Act.put, List.setIfInBounds_toArray, List.set_cons_zero, List.set_cons_succ, List.getElem_toArray, List.getElem_cons_zero, List.getElem_cons_succ]
              have hHeld := HK3.out
              have cx3 := HX3.out
              have fx3 := HF3.out
              refine wpAnyH_take (i := 11) (oi := _) (v := ?_) rfl (by kernel_rfl) (by kernel_rfl) (by kernel_rfl) (fun _ _ _ h => h) (Or.inl ⟨by rfl, ?_⟩) (by assumption) ?_
              rotate_left
              · intro wq hSw; go_simp; try with_reducible rfl
              simp only [Act.put, List.setIfInBounds_toArray, List.set_cons_zero, List.set_cons_succ, List.getElem_toArray, List.getElem_cons_zero, List.getElem_cons_succ]
              refine wpAnyH_ready (rs := [12]) (by kernel_rfl) (by simp) ?_
              refine AllReadyH.cons (o := _) rfl (fun K hK => ?_) AllReadyH.nil
              simp only [List.getElem_toArray, List.getElem_cons_zero, List.getElem_cons_succ]
              go_simp
              refine hK.out _ _ ((by have := HHO.out; exact HKEEP.out _ this.y.bel)) (fun _ => ?_)
              clear hK K
              simp only [Act.put, List.setIfInBounds_toArray, List.set_cons_zero, List.set_cons_succ, List.getElem_toArray, List.getElem_cons_zero, List.getElem_cons_succ]
              refine wpAnyH_done (by kernel_rfl) ?_ _
              refine NoPanic.normal ?_
              obtain ⟨W4, hW4⟩ : ∃ W4, W3.setCell ⟨xb, 2, none⟩ (.slice a2 (an + 1) c2) = W4 := ⟨_, rfl⟩
              have ho4 := HHO.out
              rw [hW4] at ho4
              have HO4 := Lib.hid ho4
              have cs4 := HC0.out W4 HO4.out.y.bel
              rw [hzs] at cs4
              clear ho4
              go_wp2_with (at_builtin; refine wpList_append_DN 35 9 1 (.string ⟨#[]⟩) 16 Tryz.underlying35 infoStr rfl (by decide) (by decide) rfl (.tmp 96) (.tmp 99) rfl w1.heap.size strC _ (wO r z0 k) rfl HO4.out.l (sgN k) [.string (d ++ ByteArray.mk #[46, 115, 101, 103])] HNS.out rfl (by intro u hu; simp at hu; subst hu; rfl) rfl (by have := HWL.out; first | omega | (rw [List.length_append]; simp only [List.length_singleton]; omega)) HO4.out.y.bel.size ?_; intro v5 W5 hl5 hg5 hn5)
              have HO5 := Lib.hid (HO4.out.want hl5 hg5 hn5)
              clear hl5 hg5 hn5
              have HWK : Hid (wO r z0 (k + 1) = wO r z0 k ++ [sgN k]) := Lib.hid (by simp [wO, hrk, hsk])
              have HAK : Hid (aO r z0 (k + 1) = aO r z0 k ++ [sO z0 k]) := Lib.hid (by simp [aO, hrk])
              go_wp2_with fail
              go_roundw
              case rel => exact ⟨k + 1, _, _, a2, c2, by omega, by omega, by first | rfl | go_num, by rw [HWK.out, HAK.out]; exact HO5, by omega⟩
              case measure => simp only [intOf_i]; omega
            · simp only [List.getElem_toArray, List.getElem_cons_zero, List.getElem_cons_succ]
              go_simp
              refine hK.out _ _ (HKA.out _) (fun _ => ?_)
              clear hK K
              simp only [Act.put, List.setIfInBounds_toArray, List.set_cons_zero, List.set_cons_succ, List.getElem_toArray, List.getElem_cons_zero, List.getElem_cons_succ]
              refine wpAnyH_ready (rs := [1]) (by kernel_rfl) (by simp) ?_
              refine AllReadyH.cons (o := _) rfl (fun K hK => ?_) AllReadyH.nil
              simp only [List.getElem_toArray, List.getElem_cons_zero, List.getElem_cons_succ]
              go_simp
              refine hK.out _ _ (HKA.out _) (fun _ => ?_)
              clear hK K
              simp only [Act.put, List.setIfInBounds_toArray, List.set_cons_zero, List.set_cons_succ, List.getElem_toArray, List.getElem_cons_zero, List.getElem_cons_succ]
              refine wpAnyH_ready (rs := [10]) (by kernel_rfl) (by simp) ?_
              refine AllReadyH.cons (o := _) rfl (fun K hK => ?_) AllReadyH.nil
              simp only [List.getElem_toArray, List.getElem_cons_zero, List.getElem_cons_succ]
              refine wp_append_S (.tmp 63) (.tmp 71) rfl (.slice a1x an c1) (.slice (some ⟨W2.heap.size, 0, none⟩) 1 1) _ rfl rfl HR3.out ?_
              refine hK.out _ _ (HK3.out) (fun _ => ?_)
              clear hK K
              simp only [Act.put, List.setIfInBounds_toArray, List.set_cons_zero, List.set_cons_succ, List.getElem_toArray, List.getElem_cons_zero, List.getElem_cons_succ]
              have hHeld := HK3.out
              have cx3 := HX3.out
              have fx3 := HF3.out
              refine wpAnyH_take (i := 11) (oi := _) (v := ?_) rfl (by kernel_rfl) (by kernel_rfl) (by kernel_rfl) (fun _ _ _ h => h) (Or.inl ⟨by rfl, ?_⟩) (by assumption) ?_
              rotate_left
              · intro wq hSw; go_simp; try with_reducible rfl
              simp only [Act.put, List.setIfInBounds_toArray, List.set_cons_zero, List.set_cons_succ, List.getElem_toArray, List.getElem_cons_zero, List.getElem_cons_succ]
              refine wpAnyH_ready (rs := [12]) (by kernel_rfl) (by simp) ?_
              refine AllReadyH.cons (o := _) rfl (fun K hK => ?_) AllReadyH.nil
              simp only [List.getElem_toArray, List.getElem_cons_zero, List.getElem_cons_succ]
              go_simp
              refine hK.out _ _ ((by have := HHO.out; exact HKEEP.out _ this.y.bel)) (fun _ => ?_)
              clear hK K
              simp only [Act.put, List.setIfInBounds_toArray, List.set_cons_zero, List.set_cons_succ, List.getElem_toArray, List.getElem_cons_zero, List.getElem_cons_succ]
              refine wpAnyH_done (by kernel_rfl) ?_ _
              refine NoPanic.normal ?_
              obtain ⟨W4, hW4⟩ : ∃ W4, W3.setCell ⟨xb, 2, none⟩ (.slice a2 (an + 1) c2) = W4 := ⟨_, rfl⟩
              have ho4 := HHO.out
              rw [hW4] at ho4
              have HO4 := Lib.hid ho4
              have cs4 := HC0.out W4 HO4.out.y.bel
              rw [hzs] at cs4
              clear ho4
              go_wp2_with (at_builtin; refine wpList_append_DN 35 9 1 (.string ⟨#[]⟩) 16 Tryz.underlying35 infoStr rfl (by decide) (by decide) rfl (.tmp 96) (.tmp 99) rfl w1.heap.size strC _ (wO r z0 k) rfl HO4.out.l (sgN k) [.string (d ++ ByteArray.mk #[46, 115, 101, 103])] HNS.out rfl (by intro u hu; simp at hu; subst hu; rfl) rfl (by have := HWL.out; first | omega | (rw [List.length_append]; simp only [List.length_singleton]; omega)) HO4.out.y.bel.size ?_; intro v5 W5 hl5 hg5 hn5)
              have HO5 := Lib.hid (HO4.out.want hl5 hg5 hn5)
              clear hl5 hg5 hn5
              have HWK : Hid (wO r z0 (k + 1) = wO r z0 k ++ [sgN k]) := Lib.hid (by simp [wO, hrk, hsk])
              have HAK : Hid (aO r z0 (k + 1) = aO r z0 k ++ [sO z0 k]) := Lib.hid (by simp [aO, hrk])
              go_wp2_with fail
              go_roundw
              case rel => exact ⟨k + 1, _, _, a2, c2, by omega, by omega, by first | rfl | go_num, by rw [HWK.out, HAK.out]; exact HO5, by omega⟩
              case measure => simp only [intOf_i]; omega
        | false =>
          rw [hzr] at c9
          have hrk : r k = false := by rw [HR.out]; show (decide (k < nr) && z1 k) = false; rw [hzr]; simp
          go_wp2_with (first | (at_builtin; refine wpList_append_DN 35 9 1 (.string ⟨#[]⟩) 16 Tryz.underlying35 infoStr rfl (by decide) (by decide) rfl (.tmp 82) (.tmp 85) rfl w1.heap.size strC _ (wO r z0 k) rfl HO2.out.l (rwN k) [.string (d ++ ByteArray.mk #[46, 114, 97, 119])] HNR.out rfl (by intro u hu; simp at hu; subst hu; rfl) rfl (by have := HWL.out; first | omega | (rw [List.length_append]; simp only [List.length_singleton]; omega)) HO2.out.y.bel.size ?_; intro v3 W3 hl3 hg3 hn3; have HO3 := Lib.hid (HO2.out.want hl3 hg3 hn3); clear hl3 hg3 hn3) | (at_builtin; refine wpList_append_DN 35 9 1 (.string ⟨#[]⟩) 16 Tryz.underlying35 infoStr rfl (by decide) (by decide) rfl (.tmp 96) (.tmp 99) rfl w1.heap.size strC _ (wO r z0 k ++ [rwN k]) rfl HO3.out.l (sgN k) [.string (d ++ ByteArray.mk #[46, 115, 101, 103])] HNS.out rfl (by intro u hu; simp at hu; subst hu; rfl) rfl (by have := HWL.out; first | omega | (rw [List.length_append]; simp only [List.length_singleton]; omega)) HO3.out.y.bel.size ?_; intro v4 W4 hl4 hg4 hn4; have HO4 := Lib.hid (HO3.out.want hl4 hg4 hn4); clear hl4 hg4 hn4))
          have HWK : Hid (wO r z0 (k + 1) = wO r z0 k ++ [rwN k] ++ [sgN k]) := Lib.hid (by simp [wO, hrk])
          have HAK : Hid (aO r z0 (k + 1) = aO r z0 k) := Lib.hid (by simp [aO, hrk])
          go_wp2_with fail
          go_roundw
          case rel => exact ⟨k + 1, _, _, a1x, c1, by omega, by omega, by first | rfl | go_num, by rw [HWK.out, HAK.out]; exact HO4, by omega⟩
          case measure => simp only [intOf_i]; omega
      · have q5 : decide ((k : Int) < (nr : Int)) = false := decide_eq_false (by omega)
        have q5' : decide (k < nr) = false := decide_eq_false hkr
        have hrk : r k = false := by rw [HR.out]; show (decide (k < nr) && z1 k) = false; simp [hkr]
        go_wp2_with (first | (at_builtin; refine wpList_append_DN 35 9 1 (.string ⟨#[]⟩) 16 Tryz.underlying35 infoStr rfl (by decide) (by decide) rfl (.tmp 82) (.tmp 85) rfl w1.heap.size strC _ (wO r z0 k) rfl HO2.out.l (rwN k) [.string (d ++ ByteArray.mk #[46, 114, 97, 119])] HNR.out rfl (by intro u hu; simp at hu; subst hu; rfl) rfl (by have := HWL.out; first | omega | (rw [List.length_append]; simp only [List.length_singleton]; omega)) HO2.out.y.bel.size ?_; intro v3 W3 hl3 hg3 hn3; have HO3 := Lib.hid (HO2.out.want hl3 hg3 hn3); clear hl3 hg3 hn3) | (at_builtin; refine wpList_append_DN 35 9 1 (.string ⟨#[]⟩) 16 Tryz.underlying35 infoStr rfl (by decide) (by decide) rfl (.tmp 96) (.tmp 99) rfl w1.heap.size strC _ (wO r z0 k ++ [rwN k]) rfl HO3.out.l (sgN k) [.string (d ++ ByteArray.mk #[46, 115, 101, 103])] HNS.out rfl (by intro u hu; simp at hu; subst hu; rfl) rfl (by have := HWL.out; first | omega | (rw [List.length_append]; simp only [List.length_singleton]; omega)) HO3.out.y.bel.size ?_; intro v4 W4 hl4 hg4 hn4; have HO4 := Lib.hid (HO3.out.want hl4 hg4 hn4); clear hl4 hg4 hn4))
        have HWK : Hid (wO r z0 (k + 1) = wO r z0 k ++ [rwN k] ++ [sgN k]) := Lib.hid (by simp [wO, hrk])
        have HAK : Hid (aO r z0 (k + 1) = aO r z0 k) := Lib.hid (by simp [aO, hrk])
        go_wp2_with fail
        go_roundw
        case rel => exact ⟨k + 1, _, _, a1x, c1, by omega, by omega, by first | rfl | go_num, by rw [HWK.out, HAK.out]; exact HO4, by omega⟩
        case measure => simp only [intOf_i]; omega
    · by_cases h9 : k < 9
      · have hkn2 : k = ns := by omega
        have q1 : decide ((k : Int) < 9) = true := decide_eq_true (by omega)
        have q1' : decide (k < 9) = true := decide_eq_true h9
        have q2 : decide ((k : Int) < (ns : Int)) = false := decide_eq_false (by omega)
        have q2' : decide (k < ns) = false := decide_eq_false (by omega)
        clear hkn2
        clear h9
        have hcr := create_z (⟨#[115, 116, 114, 97, 121]⟩ : ByteArray) HO.out.y.fs (by unfold maxLen; decide) (by show c ≤ _; omega)
        rw [show (⟨#[115, 116, 114, 97, 121]⟩ : ByteArray).data.toList = nS from rfl, sD_create (by decide) (dir_len k (by omega)).1 (dir_ne k (by omega)).1, dir_stray k (by omega)] at hcr
        try simp only at hcr
        have HNS : Hid (strC nS [.string ⟨#[115, 116, 114, 97, 121]⟩]) := Lib.hid rfl
        have HWL : Hid ((wO r z0 k).length ≤ 18) := Lib.hid (by have := wO_len r z0 k; omega)
        obtain ⟨an, han⟩ : ∃ an, (aO r z0 k).length = an := ⟨_, rfl⟩
        have HAN := Lib.hid han
        have HK9 := Lib.hid hk9
        have HC := Lib.hid hc
        clear hlt han
        go_wp2_with fail
        refine hcr.mono ?_
        rintro e W2 ⟨rfl, hzb, hhb⟩
        have HO2 := Lib.hid (HO.out.op hzb hhb)
        clear hcr hzb hhb
        go_wp2_with (at_builtin; refine wpList_append_DN 35 9 1 (.string ⟨#[]⟩) 16 Tryz.underlying35 infoStr rfl (by decide) (by decide) rfl (.tmp 103) (.tmp 104) rfl w1.heap.size strC _ (wO r z0 k) rfl HO2.out.l nS [.string ⟨#[115, 116, 114, 97, 121]⟩] HNS.out rfl (by intro u hu; simp at hu; subst hu; rfl) rfl (by have := HWL.out; omega) HO2.out.y.bel.size ?_; intro v3 W3 hl3 hg3 hn3; have HO3 := Lib.hid (HO2.out.want hl3 hg3 hn3); clear hl3 hg3 hn3; have hld : (loadE (.pointer (some ⟨xb, 0, none⟩))).run Tryz.prog W3 = .ok (.agg #[.int .i64 50, .int .i64 0, .slice a1x an c1, .slice none 0 0, .slice none 0 0, .slice none 0 0]) W3 := (by rw [← HAN.out]; exact run_loadE_blk (eO (aO r z0 k)) HO3.out.x))
        have hX := sD_extd (B := B0) (E := encE (eO (aO r z0 k))) (y := B0.length) (m := 2 * k + 1) (c := c + 1) (pend := pend ++ [([], nS, some (2 * k + 1))]) (dir_get k (by omega)) (dir_zero k (by omega)) (by have := HL1.out; have := encE_len (fine_O (r := r) (s := z0) hk9).2; rw [R20_is]; omega)
        have hcm := commit_ok (De := fun b => ∃ c, Blk W3 b 40 c) (eO (aO r z0 k)) ⟨a1x, c1, none, 0, none, 0, none, 0⟩ HO3.out.y HT1.out ⟨OwnD.row HO3.out.a fun b c _ h => ⟨c, h⟩, RowD.nil, RowD.nil, RowD.nil⟩ (fine_O hk9).1 (fun b hb => by obtain ⟨c, h⟩ := hb; exact h.lt) (by show c + 1 ≤ _; omega) (app_O hk9) (by rw [nmM_is, hX])
        rw [nmM_is, hX] at hcm
        have hco : Calls Tryz.prog 8 #[pP q, .agg #[.int .i64 50, .int .i64 0, .slice a1x an c1, .slice none 0 0, .slice none 0 0, .slice none 0 0]] W3 (ComPost w1 p (sD (B0 ++ encE (eO (aO r z0 k))) (B0 ++ encE (eO (aO r z0 k))).length (2 * k + 1) (c + 1 + 2) (pend ++ [([], nS, some (2 * k + 1))]) (dirO k ++ [(nS, 2 * k + 1)])) q (MO r z0 k) (YO xb (.slice a1x (aO r z0 k).length c1) v3) W3) := (by rw [← HAN.out]; exact hcm)
        clear hcm hX
        refine hco.mono ?_
        rintro e W4 ⟨rfl, sv2, pv2, D2, hI4, hh4⟩
        have hl4 : OwnD w1.heap.size 9 1 strC W4 v3 (wO r z0 k ++ [nS]) := OwnD.heapK HO3.out.l fun b hb => hh4.out b (.inr (.inr hb))
        have hod := old_any PO hI4.out rfl (fun x hx => by
          obtain ⟨j, hj, _, rfl⟩ := (aO_mem r z0).1 hx
          have hf := fmt_of PO (j + 1) (by omega) (fun W => (small_lo (j + 1) (by omega) W).mono (by
            rintro e W' ⟨⟨d, rfl, h1, rfl⟩, rfl⟩
            exact ⟨⟨_, rfl, h1, by unfold PO; congr 1⟩, rfl⟩))
          have e : ((j + 1 : Nat) : Int) = (j : Int) + 1 := by omega
          rw [e] at hf
          exact hf) ⟨by show 0 < (dirO k ++ [(nS, 2 * k + 1)]).length; simp, by show (dirO k ++ [(nS, 2 * k + 1)]).length ≤ _; have := (dir_len k (by omega)).1; simp; omega⟩
        have HI4 := Lib.hid hI4.out.bel
        have HL4 := Lib.hid hl4
        clear hco hI4 hh4 hl4
        go_wp2_with fail
        refine hod.mono ?_
        rintro e W5 ⟨v5, L5, rfl, hS5, hN5, hb5⟩
        have hS5 : IsStrs W5 v5 (wO r z0 k ++ [nS]) := by
          have h := hS5.out
          rw [show (sD (B0 ++ encE (eO (aO r z0 k))) (B0 ++ encE (eO (aO r z0 k))).length (2 * k + 1) (c + 1 + 2) (pend ++ [([], nS, some (2 * k + 1))]) (dirO k ++ [(nS, 2 * k + 1)])).now = dirO k ++ [(nS, 2 * k + 1)] from rfl, filter_old hk9 hN5] at h
          exact h
        have hl5 : OwnD w1.heap.size 9 1 strC W5 v3 (wO r z0 k ++ [nS]) := OwnD.below HL4.out hb5 fun _ _ h => h
        have hW5 := isStrs_own (ownD_strs hl5) (by have := HWL.out; simp; omega)
        have HB5 := Lib.hid (HB1.out.trans ((HI4.out.trans (hb5.mono HI4.out.size)).mono HB1.out.size))
        obtain ⟨WL, hWL⟩ : ∃ WL, wO r z0 k ++ [nS] = WL := ⟨_, rfl⟩
        rw [hWL] at hS5 hW5
        obtain ⟨ga, capa, rfl, hln, hca⟩ := hS5
        obtain ⟨gb, capb, hv3, _, hcb⟩ := hW5
        obtain ⟨n, hn⟩ : ∃ n, WL.length = n := ⟨_, rfl⟩
        rw [hn] at hv3 hln ⊢
        have HCA := Lib.hid hca
        have HCB := Lib.hid hcb
        have HN := Lib.hid hn
        clear hod hl5 hb5 hN5 hWL hn hca hcb HO3 HL4 hld
        subst hv3
        have q4 : ((n : Int) != (n : Int)) = false := by simp
        have q5 : ((n : Int) == (n : Int)) = true := by simp
        go_wp2_with fail
        go_loopw [15] (fun v wq => ∃ i : Nat, i ≤ n ∧ v = .int .i64 i ∧ Hid (Below W5.heap.size W5 wq)) (fun v _ => n - (intOf v).toNat)
        case atStart => exact ⟨0, by omega, rfl, Lib.hid (Below.refl _ _)⟩
        case round =>
          obtain ⟨i, hi, rfl, HQ⟩ := hrel
          by_cases hlt : i < n
          · have q6 : decide ((i : Int) < (n : Int)) = true := decide_eq_true (by omega)
            have q6' : decide (i < n) = true := decide_eq_true hlt
            obtain ⟨s, hs⟩ : ∃ s, WL[i]? = some s := ⟨_, List.getElem?_eq_getElem (by rw [HN.out]; exact hlt)⟩
            obtain ⟨ba, oa, rfl, hba, hca⟩ := HCA.out i s hs
            obtain ⟨bb, ob, rfl, hbb, hcb⟩ := HCB.out i s hs
            obtain ⟨d, hd⟩ : ∃ d, encStr s = d := ⟨_, rfl⟩
            obtain ⟨d, rfl⟩ : ∃ t : ByteArray, d = .string t := ⟨_, hd.symm⟩
            rw [hd] at hca hcb
            have c1 : wr.cell? ⟨ba, oa + i, none⟩ = some (.string d) := (HQ.out.cell (p := ⟨ba, oa + i, none⟩) hba).trans hca
            have c2 : wr.cell? ⟨bb, ob + i, none⟩ = some (.string d) := (HQ.out.cell (p := ⟨bb, ob + i, none⟩) hbb).trans hcb
            have q7 : (d.toList == d.toList) = true := by simp
            clear hca hcb hd hs
            go_wp2_with fail
            go_quiet (fail)
            go_wp2_with fail
            go_roundw
            case rel => exact ⟨i + 1, by omega, by first | rfl | go_num, Lib.hid (bel_drewN HQ.out _)⟩
            case measure => simp only [intOf_i]; omega
          · have q6 : decide ((i : Int) < (n : Int)) = false := decide_eq_false (by omega)
            go_wp2_with fail
            go_ret
            exact ⟨rfl, HB5.out.trans (HQ.out.mono HB5.out.size)⟩
      · have q1 : decide ((k : Int) < 9) = false := decide_eq_false (by omega)
        have q1' : decide (k < 9) = false := decide_eq_false h9
        clear h9
        have hcr := create_z (⟨#[115, 116, 114, 97, 121]⟩ : ByteArray) HO.out.y.fs (by unfold maxLen; decide) (by show c ≤ _; omega)
        rw [show (⟨#[115, 116, 114, 97, 121]⟩ : ByteArray).data.toList = nS from rfl, sD_create (by decide) (dir_len k (by omega)).1 (dir_ne k (by omega)).1, dir_stray k (by omega)] at hcr
        try simp only at hcr
        have HNS : Hid (strC nS [.string ⟨#[115, 116, 114, 97, 121]⟩]) := Lib.hid rfl
        have HWL : Hid ((wO r z0 k).length ≤ 18) := Lib.hid (by have := wO_len r z0 k; omega)
        obtain ⟨an, han⟩ : ∃ an, (aO r z0 k).length = an := ⟨_, rfl⟩
        have HAN := Lib.hid han
        have HK9 := Lib.hid hk9
        have HC := Lib.hid hc
        clear hlt han
        go_wp2_with fail
        refine hcr.mono ?_
        rintro e W2 ⟨rfl, hzb, hhb⟩
        have HO2 := Lib.hid (HO.out.op hzb hhb)
        clear hcr hzb hhb
        go_wp2_with (at_builtin; refine wpList_append_DN 35 9 1 (.string ⟨#[]⟩) 16 Tryz.underlying35 infoStr rfl (by decide) (by decide) rfl (.tmp 103) (.tmp 104) rfl w1.heap.size strC _ (wO r z0 k) rfl HO2.out.l nS [.string ⟨#[115, 116, 114, 97, 121]⟩] HNS.out rfl (by intro u hu; simp at hu; subst hu; rfl) rfl (by have := HWL.out; omega) HO2.out.y.bel.size ?_; intro v3 W3 hl3 hg3 hn3; have HO3 := Lib.hid (HO2.out.want hl3 hg3 hn3); clear hl3 hg3 hn3; have hld : (loadE (.pointer (some ⟨xb, 0, none⟩))).run Tryz.prog W3 = .ok (.agg #[.int .i64 50, .int .i64 0, .slice a1x an c1, .slice none 0 0, .slice none 0 0, .slice none 0 0]) W3 := (by rw [← HAN.out]; exact run_loadE_blk (eO (aO r z0 k)) HO3.out.x))
        have hX := sD_extd (B := B0) (E := encE (eO (aO r z0 k))) (y := B0.length) (m := 2 * k + 1) (c := c + 1) (pend := pend ++ [([], nS, some (2 * k + 1))]) (dir_get k (by omega)) (dir_zero k (by omega)) (by have := HL1.out; have := encE_len (fine_O (r := r) (s := z0) hk9).2; rw [R20_is]; omega)
        have hcm := commit_ok (De := fun b => ∃ c, Blk W3 b 40 c) (eO (aO r z0 k)) ⟨a1x, c1, none, 0, none, 0, none, 0⟩ HO3.out.y HT1.out ⟨OwnD.row HO3.out.a fun b c _ h => ⟨c, h⟩, RowD.nil, RowD.nil, RowD.nil⟩ (fine_O hk9).1 (fun b hb => by obtain ⟨c, h⟩ := hb; exact h.lt) (by show c + 1 ≤ _; omega) (app_O hk9) (by rw [nmM_is, hX])
        rw [nmM_is, hX] at hcm
        have hco : Calls Tryz.prog 8 #[pP q, .agg #[.int .i64 50, .int .i64 0, .slice a1x an c1, .slice none 0 0, .slice none 0 0, .slice none 0 0]] W3 (ComPost w1 p (sD (B0 ++ encE (eO (aO r z0 k))) (B0 ++ encE (eO (aO r z0 k))).length (2 * k + 1) (c + 1 + 2) (pend ++ [([], nS, some (2 * k + 1))]) (dirO k ++ [(nS, 2 * k + 1)])) q (MO r z0 k) (YO xb (.slice a1x (aO r z0 k).length c1) v3) W3) := (by rw [← HAN.out]; exact hcm)
        clear hcm hX
        refine hco.mono ?_
        rintro e W4 ⟨rfl, sv2, pv2, D2, hI4, hh4⟩
        have hl4 : OwnD w1.heap.size 9 1 strC W4 v3 (wO r z0 k ++ [nS]) := OwnD.heapK HO3.out.l fun b hb => hh4.out b (.inr (.inr hb))
        have hod := old_any PO hI4.out rfl (fun x hx => by
          obtain ⟨j, hj, _, rfl⟩ := (aO_mem r z0).1 hx
          have hf := fmt_of PO (j + 1) (by omega) (fun W => (small_lo (j + 1) (by omega) W).mono (by
            rintro e W' ⟨⟨d, rfl, h1, rfl⟩, rfl⟩
            exact ⟨⟨_, rfl, h1, by unfold PO; congr 1⟩, rfl⟩))
          have e : ((j + 1 : Nat) : Int) = (j : Int) + 1 := by omega
          rw [e] at hf
          exact hf) ⟨by show 0 < (dirO k ++ [(nS, 2 * k + 1)]).length; simp, by show (dirO k ++ [(nS, 2 * k + 1)]).length ≤ _; have := (dir_len k (by omega)).1; simp; omega⟩
        have HI4 := Lib.hid hI4.out.bel
        have HL4 := Lib.hid hl4
        clear hco hI4 hh4 hl4
        go_wp2_with fail
        refine hod.mono ?_
        rintro e W5 ⟨v5, L5, rfl, hS5, hN5, hb5⟩
        have hS5 : IsStrs W5 v5 (wO r z0 k ++ [nS]) := by
          have h := hS5.out
          rw [show (sD (B0 ++ encE (eO (aO r z0 k))) (B0 ++ encE (eO (aO r z0 k))).length (2 * k + 1) (c + 1 + 2) (pend ++ [([], nS, some (2 * k + 1))]) (dirO k ++ [(nS, 2 * k + 1)])).now = dirO k ++ [(nS, 2 * k + 1)] from rfl, filter_old hk9 hN5] at h
          exact h
        have hl5 : OwnD w1.heap.size 9 1 strC W5 v3 (wO r z0 k ++ [nS]) := OwnD.below HL4.out hb5 fun _ _ h => h
        have hW5 := isStrs_own (ownD_strs hl5) (by have := HWL.out; simp; omega)
        have HB5 := Lib.hid (HB1.out.trans ((HI4.out.trans (hb5.mono HI4.out.size)).mono HB1.out.size))
        obtain ⟨WL, hWL⟩ : ∃ WL, wO r z0 k ++ [nS] = WL := ⟨_, rfl⟩
        rw [hWL] at hS5 hW5
        obtain ⟨ga, capa, rfl, hln, hca⟩ := hS5
        obtain ⟨gb, capb, hv3, _, hcb⟩ := hW5
        obtain ⟨n, hn⟩ : ∃ n, WL.length = n := ⟨_, rfl⟩
        rw [hn] at hv3 hln ⊢
        have HCA := Lib.hid hca
        have HCB := Lib.hid hcb
        have HN := Lib.hid hn
        clear hod hl5 hb5 hN5 hWL hn hca hcb HO3 HL4 hld
        subst hv3
        have q4 : ((n : Int) != (n : Int)) = false := by simp
        have q5 : ((n : Int) == (n : Int)) = true := by simp
        go_wp2_with fail
        go_loopw [15] (fun v wq => ∃ i : Nat, i ≤ n ∧ v = .int .i64 i ∧ Hid (Below W5.heap.size W5 wq)) (fun v _ => n - (intOf v).toNat)
        case atStart => exact ⟨0, by omega, rfl, Lib.hid (Below.refl _ _)⟩
        case round =>
          obtain ⟨i, hi, rfl, HQ⟩ := hrel
          by_cases hlt : i < n
          · have q6 : decide ((i : Int) < (n : Int)) = true := decide_eq_true (by omega)
            have q6' : decide (i < n) = true := decide_eq_true hlt
            obtain ⟨s, hs⟩ : ∃ s, WL[i]? = some s := ⟨_, List.getElem?_eq_getElem (by rw [HN.out]; exact hlt)⟩
            obtain ⟨ba, oa, rfl, hba, hca⟩ := HCA.out i s hs
            obtain ⟨bb, ob, rfl, hbb, hcb⟩ := HCB.out i s hs
            obtain ⟨d, hd⟩ : ∃ d, encStr s = d := ⟨_, rfl⟩
            obtain ⟨d, rfl⟩ : ∃ t : ByteArray, d = .string t := ⟨_, hd.symm⟩
            rw [hd] at hca hcb
            have c1 : wr.cell? ⟨ba, oa + i, none⟩ = some (.string d) := (HQ.out.cell (p := ⟨ba, oa + i, none⟩) hba).trans hca
            have c2 : wr.cell? ⟨bb, ob + i, none⟩ = some (.string d) := (HQ.out.cell (p := ⟨bb, ob + i, none⟩) hbb).trans hcb
            have q7 : (d.toList == d.toList) = true := by simp
            clear hca hcb hd hs
            go_wp2_with fail
            go_quiet (fail)
            go_wp2_with fail
            go_roundw
            case rel => exact ⟨i + 1, by omega, by first | rfl | go_num, Lib.hid (bel_drewN HQ.out _)⟩
            case measure => simp only [intOf_i]; omega
          · have q6 : decide ((i : Int) < (n : Int)) = false := decide_eq_false (by omega)
            go_wp2_with fail
            go_ret
            exact ⟨rfl, HB5.out.trans (HQ.out.mono HB5.out.size)⟩
end Go.Proofs.YthgpdnffahmhjaaGreatDoor.S19
