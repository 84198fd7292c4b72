/- foliolaw13.FilesTwins: the walk. -/
import Derived.Test.YtdjcblboibbefaaDkZ
set_option linter.unusedSimpArgs false
set_option linter.unusedVariables false
set_option maxRecDepth 100000
namespace Go.Proofs.Ytdjcblboibbefaa.S13
open Go.RowKit Go.Maps Go.Shelf Dk
theorem bel_q (w : World) (n : Nat) : Below w.heap.size w (w.drewN n) := ⟨rfl, rfl, rfl, Nat.le_refl _, fun _ _ => rfl⟩
theorem opL_B (o : OpT) (B : List Nat) (bv tv : Value) : opL { o with B := B } bv tv = opL o bv tv := rfl
/-- the bytes that an operation keeps -/
def cutO (o : OpT) : OpT := { o with B := o.B.take 100 }
theorem cutO_L (o : OpT) (bv tv : Value) : opL (cutO o) bv tv = opL o bv tv := rfl
theorem cutO_ok {w : World} {o : OpT} {bv bv' : Value} (h : OpOk w o bv) (hb : IsBytes w bv' (o.B.take 100)) : OpOk w (cutO o) bv' := ⟨h.kind, h.n, h.name, h.to', hb, h.x⟩
attribute [local go_sem ↓] loadO_eq storeO_eq sliceU8_eq conv_eq
set_option maxHeartbeats 64000000 in
theorem filesTwins_walk (a : Option Addr) (len cap : Nat) (w : World) (h0 : IsRecs opF w a len) :
    Calls Try.prog 4 #[.slice a len cap] w fun e w' => e = .returned (.bool true) ∧ Below w.heap.size w w' := by
  have hbeg := begun_any w
  have hlm : len ≤ maxLen := h0.1
  unfold maxLen at hlm
  have HR := Lib.hid h0
  clear h0
  go_enter Try.func4, Try.ntmps4
  go_wp2_with fail
  refine hbeg.mono ?_
  rintro e w1 ⟨rfl, hb⟩
  have hnew := new_h (w0 := w) 5000 hb
  clear hbeg hb
  go_wp2_with fail
  refine hnew.mono ?_
  rintro e w2 ⟨p, rfl, hI, _⟩
  have hnew2 := new_h (w0 := w2) 5000 (Below.refl w2.heap.size w2)
  have HI := Lib.hid hI
  clear hnew hI
  go_wp2_with fail
  refine hnew2.mono ?_
  rintro e w3 ⟨q, rfl, hI3, _⟩
  have HT0 := Lib.hid (twoZ_new HI.out hI3)
  clear hnew2 hI3 HI
  go_wp2_with fail
  go_loopw [6] (fun v wr => ∃ i : Nat, i ≤ len ∧ i ≤ 30 ∧ v = .int .i64 i ∧ ∃ S : St, TwoZ w p q S S (fun _ => False) wr ∧ S.calls ≤ i) (fun v _ => 30 - (intOf v).toNat)
  case atStart => exact ⟨0, by omega, by omega, rfl, new 5000, HT0.out, Nat.le_refl _⟩
  case round =>
    obtain ⟨i, hi, hi30, rfl, S, hT, hcl⟩ := hrel
    have HT := Lib.hid hT
    clear hT HT0
    by_cases hlt : i < len
    · by_cases hlt30 : i < 30
      · obtain ⟨b, off, rfl, hbl, hcs⟩ := rec_op HR.out (by omega)
        obtain ⟨o, ba, ta, N, bcap, tl, tc, zs, hok, hBl, hrow, hcell⟩ := hcs i hlt
        have hcw : ∀ j u, (opL o (.slice ba N bcap) (.slice ta tl tc))[j]? = some u → wr.cell? ⟨b, off + i * 7 + j, none⟩ = some u := fun j u hj => (HT.out.bel.cell (p := ⟨b, _, none⟩) hbl).trans (hcell j u hj)
        have hld := run_loadO (opL_length o (.slice ba N bcap) (.slice ta tl tc)) hcw
        have hal := Blk.new wr 42 opZ
        have hst := run_storeO hal rfl (opL_length o (.slice ba N bcap) (.slice ta tl tc)) (opL_one o ba ta N bcap tl tc)
        obtain ⟨w4, hw4⟩ : ∃ w4, (wr.alloc (.cells opZ.toArray 42)).setRow wr.heap.size (opL o (.slice ba N bcap) (.slice ta tl tc)).toArray = w4 := ⟨_, rfl⟩
        have hk4 : Blk w4 wr.heap.size 42 (opL o (.slice ba N bcap) (.slice ta tl tc)) := by rw [← hw4]; exact hal.setRow _
        have hb4 : Below wr.heap.size wr w4 := by
          rw [← hw4]
          exact ((Below.refl _ wr).alloc (Nat.le_refl _) _).trans ⟨rfl, rfl, rfl, by simp, fun k hk => setRow_other _ _ _ _ (by omega)⟩
        obtain ⟨g, hg⟩ : ∃ g, wr.heap.size = g := ⟨_, rfl⟩
        obtain ⟨V0, hV0⟩ : ∃ V0, Value.agg (opL o (.slice ba N bcap) (.slice ta tl tc)).toArray = V0 := ⟨_, rfl⟩
        rw [hV0] at hld
        rw [hw4, hV0] at hst
        rw [show opZ.toArray = #[.int .i64 0, .int .i64 0, .string ⟨#[]⟩, .string ⟨#[]⟩, .slice none 0 0, .slice none 0 0, .int .u8 0] from rfl] at hst
        have hT4 : TwoZ w p q S S (fun b => b = wr.heap.size) w4 := HT.out.more hb4 (fun b hb => by subst hb; exact ⟨Nat.le_refl _, hk4.lt⟩)
        have hgw : w.heap.size ≤ wr.heap.size := HT.out.bel.size
        have c4 : w4.cell? ⟨wr.heap.size, 4, none⟩ = some (.slice ba N bcap) := hk4.cell rfl
        have hNM : N ≤ maxLen := by obtain ⟨_, _, he, _, hm⟩ := hok.B.slice; simp at he; omega
        unfold maxLen at hNM
        have HROW := Lib.hid hrow
        have HOK := Lib.hid hok
        have HT4 := Lib.hid hT4
        have HGW := Lib.hid hgw
        have HK4 := Lib.hid hk4
        have HBL := Lib.hid hBl
        clear hcs hcell hcw hal hk4 hb4 hT4 hgw hrow hok hw4 hbl hg HT hBl
        by_cases h100 : N ≤ 100
        · have q1 : decide ((100 : Int) < (N : Int)) = false := by simp; omega
          have q2 : decide (100 < N) = false := by simp; omega
          have hV := run_loadO (w := w4) (g := wr.heap.size) (o := 0) (opL_length o (.slice ba N bcap) (.slice ta tl tc)) (fun j u hj => by rw [Nat.zero_add]; exact HK4.out.cell hj)
          have hVe := hV0
          have hcall := do_z (t := ta) (tl := tl) (tc := tc) HT4.out (by omega) (HOK.out.bel HT4.out.bel) (by have := HBL.out; omega)
          rw [hVe] at hV hcall
          go_wp2_with fail
          refine hcall.mono ?_
          rintro e w6 ⟨rfl, hT6, hk6⟩
          have hK6 : Blk w6 wr.heap.size 42 (opL o (.slice ba N bcap) (.slice ta tl tc)) := (hk6 _ rfl).trans HK4.out
          have hV6 := run_loadO (w := w6) (g := wr.heap.size) (o := 0) (opL_length o (.slice ba N bcap) (.slice ta tl tc)) (fun j u hj => by rw [Nat.zero_add]; exact hK6.cell hj)
          have hcall2 := do_z2 (t := ta) (tl := tl) (tc := tc) hT6 (by omega) (HOK.out.bel hT6.bel) (by have := HBL.out; omega)
          rw [hVe] at hV6 hcall2
          have HK6 := Lib.hid hK6
          obtain ⟨r, hr⟩ : ∃ r, (doF S o).2 = r := ⟨_, rfl⟩
          obtain ⟨T, hTT⟩ : ∃ T, (doF S o).1 = T := ⟨_, rfl⟩
          have hTc : T.calls ≤ i + 1 := by rw [← hTT]; have := doF_calls S o; omega
          rw [hr]
          rw [hr, hTT] at hcall2
          clear hcall hT6 hk6 hK6
          unfold errV at hcall2 ⊢
          go_wp2_with fail
          refine hcall2.mono ?_
          rintro e w7 ⟨rfl, hT7, hk7⟩
          have hK7 : Blk w7 wr.heap.size 42 (opL o (.slice ba N bcap) (.slice ta tl tc)) := (hk7 _ rfl).trans HK6.out
          have d1 : w7.cell? ⟨wr.heap.size, 1, none⟩ = some (.int .i64 o.n) := hK7.cell rfl
          have d5 : w7.cell? ⟨wr.heap.size, 5, none⟩ = some (.slice ta tl tc) := hK7.cell rfl
          have hcall := crash_h o.n ta tl tc zs hT7.toB (row_below HROW.out hT7.bel) (by omega)
          have HT7 := Lib.hid hT7
          clear hcall2 hT7 hk7 hK7 hV hV6
          go_wp2_with fail
          refine hcall.mono ?_
          rintro e w8 ⟨qc, rfl, _, hb8⟩
          have HT8 := Lib.hid (HT7.out.below hb8)
          have q7 : ((r : Int) != (r : Int)) = false := bne_f rfl
          have hcall := used_h HT8.out.drop.toA
          clear hcall hb8
          have hcall := used_h HT8.out.drop.toA
          clear d1 d5
          go_wp2_with fail
          refine hcall.mono ?_
          rintro e w9 ⟨rfl, hb9⟩
          have HT9 := Lib.hid (HT8.out.below hb9)
          have hcall := used_h HT9.out.toB
          have hul := used_le HT9.out.toA.ok
          obtain ⟨u, hu⟩ : ∃ u, T.used = u := ⟨_, rfl⟩
          rw [hu] at hcall ⊢
          rw [hu] at hul
          clear hb9
          go_wp2_with fail
          refine hcall.mono ?_
          rintro e w10 ⟨rfl, hb10⟩
          have HT10 := Lib.hid (HT9.out.below hb10)
          have hcall := names_h HT10.out.toA
          have q8 : ((u : Int) != (u : Int)) = false := bne_f rfl
          clear hb10
          go_wp2_with fail
          refine hcall.mono ?_
          rintro e w11 ⟨v1, rfl, hn1, hb11⟩
          have HT11 := Lib.hid (HT10.out.below hb11)
          obtain ⟨s1, k1, rfl, _, _⟩ := ownsRow_slice hn1
          have hcall := names_h HT11.out.toB
          obtain ⟨n, hn⟩ : ∃ n, T.now.length = n := ⟨_, rfl⟩
          have q9 : ((n : Int) != (n : Int)) = false := bne_f rfl
          rw [hn]
          clear hb11 hn1
          go_wp2_with fail
          refine hcall.mono ?_
          rintro e w12 ⟨v2, rfl, hn2, hb12⟩
          have HT12 := Lib.hid (HT11.out.below hb12)
          obtain ⟨s2, k2, rfl, _, _⟩ := ownsRow_slice hn2
          rw [hn]
          clear hcall hb12 hn2
          go_wp2_with fail
          go_roundw
          case rel => exact ⟨i + 1, by omega, by omega, by go_num, T, HT12.out.drop, hTc⟩
          case measure => simp [intOf]; omega
        · have q1 : decide ((100 : Int) < (N : Int)) = true := by simp; omega
          have q2 : decide (100 < N) = true := by simp; omega
          obtain ⟨a1, c1, hsl0, hby1⟩ := run_upto HOK.out.B 100 (by have := HBL.out; omega)
          have hsl : ∀ W, (sliceU8 (.slice ba N bcap) none (some (.int .i64 100)) none).run Try.prog W = .ok (.slice a1 100 c1) W := hsl0
          have hfr : w4.frozen? ⟨wr.heap.size, 4, none⟩ = false := HK4.out.frozen 4
          have HK5 : Hid (Blk (w4.setCell ⟨wr.heap.size, 4, none⟩ (.slice a1 100 c1)) wr.heap.size 42 (opL (cutO o) (.slice a1 100 c1) (.slice ta tl tc))) := Lib.hid (HK4.out.set 4 (.slice a1 100 c1))
          have HT5 : Hid (TwoZ w p q S S (fun b => b = wr.heap.size) (w4.setCell ⟨wr.heap.size, 4, none⟩ (.slice a1 100 c1))) := Lib.hid (HT4.out.turn rfl HGW.out ((Gr.refl w4 wr.heap.size).setCell 4 _))
          have HOK5 : Hid (OpOk w (cutO o) (.slice a1 100 c1)) := Lib.hid (cutO_ok HOK.out hby1)
          have hLB : (cutO o).B.length ≤ 100 := by simp only [cutO, List.length_take]; omega
          obtain ⟨o2, ho2⟩ : ∃ o2, cutO o = o2 := ⟨_, rfl⟩
          rw [ho2] at HK5 HOK5 hLB
          have HLB := Lib.hid hLB
          clear hsl0 hby1 hLB
          have hV := run_loadO (w := (w4.setCell ⟨wr.heap.size, 4, none⟩ (.slice a1 100 c1))) (g := wr.heap.size) (o := 0) (opL_length o2 (.slice a1 100 c1) (.slice ta tl tc)) (fun j u hj => by rw [Nat.zero_add]; exact HK5.out.cell hj)
          obtain ⟨V, hVe⟩ : ∃ V, Value.agg (opL o2 (.slice a1 100 c1) (.slice ta tl tc)).toArray = V := ⟨_, rfl⟩
          have hcall := do_z (t := ta) (tl := tl) (tc := tc) HT5.out (by omega) (HOK5.out.bel HT5.out.bel) (by have := HLB.out; omega)
          rw [hVe] at hV hcall
          go_wp2_with fail
          refine hcall.mono ?_
          rintro e w6 ⟨rfl, hT6, hk6⟩
          have hK6 : Blk w6 wr.heap.size 42 (opL o2 (.slice a1 100 c1) (.slice ta tl tc)) := (hk6 _ rfl).trans HK5.out
          have hV6 := run_loadO (w := w6) (g := wr.heap.size) (o := 0) (opL_length o2 (.slice a1 100 c1) (.slice ta tl tc)) (fun j u hj => by rw [Nat.zero_add]; exact hK6.cell hj)
          have hcall2 := do_z2 (t := ta) (tl := tl) (tc := tc) hT6 (by omega) (HOK5.out.bel hT6.bel) (by have := HLB.out; omega)
          rw [hVe] at hV6 hcall2
          have HK6 := Lib.hid hK6
          obtain ⟨r, hr⟩ : ∃ r, (doF S o2).2 = r := ⟨_, rfl⟩
          obtain ⟨T, hTT⟩ : ∃ T, (doF S o2).1 = T := ⟨_, rfl⟩
          have hTc : T.calls ≤ i + 1 := by rw [← hTT]; have := doF_calls S o2; omega
          rw [hr]
          rw [hr, hTT] at hcall2
          clear hcall hT6 hk6 hK6
          unfold errV at hcall2 ⊢
          go_wp2_with fail
          refine hcall2.mono ?_
          rintro e w7 ⟨rfl, hT7, hk7⟩
          have hK7 : Blk w7 wr.heap.size 42 (opL o2 (.slice a1 100 c1) (.slice ta tl tc)) := (hk7 _ rfl).trans HK6.out
          have d1 : w7.cell? ⟨wr.heap.size, 1, none⟩ = some (.int .i64 o2.n) := hK7.cell rfl
          have d5 : w7.cell? ⟨wr.heap.size, 5, none⟩ = some (.slice ta tl tc) := hK7.cell rfl
          have hcall := crash_h o2.n ta tl tc zs hT7.toB (row_below HROW.out hT7.bel) (by omega)
          have HT7 := Lib.hid hT7
          clear hcall2 hT7 hk7 hK7 hV hV6
          go_wp2_with fail
          refine hcall.mono ?_
          rintro e w8 ⟨qc, rfl, _, hb8⟩
          have HT8 := Lib.hid (HT7.out.below hb8)
          have q7 : ((r : Int) != (r : Int)) = false := bne_f rfl
          have hcall := used_h HT8.out.drop.toA
          clear hcall hb8
          have hcall := used_h HT8.out.drop.toA
          clear d1 d5
          go_wp2_with fail
          refine hcall.mono ?_
          rintro e w9 ⟨rfl, hb9⟩
          have HT9 := Lib.hid (HT8.out.below hb9)
          have hcall := used_h HT9.out.toB
          have hul := used_le HT9.out.toA.ok
          obtain ⟨u, hu⟩ : ∃ u, T.used = u := ⟨_, rfl⟩
          rw [hu] at hcall ⊢
          rw [hu] at hul
          clear hb9
          go_wp2_with fail
          refine hcall.mono ?_
          rintro e w10 ⟨rfl, hb10⟩
          have HT10 := Lib.hid (HT9.out.below hb10)
          have hcall := names_h HT10.out.toA
          have q8 : ((u : Int) != (u : Int)) = false := bne_f rfl
          clear hb10
          go_wp2_with fail
          refine hcall.mono ?_
          rintro e w11 ⟨v1, rfl, hn1, hb11⟩
          have HT11 := Lib.hid (HT10.out.below hb11)
          obtain ⟨s1, k1, rfl, _, _⟩ := ownsRow_slice hn1
          have hcall := names_h HT11.out.toB
          obtain ⟨n, hn⟩ : ∃ n, T.now.length = n := ⟨_, rfl⟩
          have q9 : ((n : Int) != (n : Int)) = false := bne_f rfl
          rw [hn]
          clear hb11 hn1
          go_wp2_with fail
          refine hcall.mono ?_
          rintro e w12 ⟨v2, rfl, hn2, hb12⟩
          have HT12 := Lib.hid (HT11.out.below hb12)
          obtain ⟨s2, k2, rfl, _, _⟩ := ownsRow_slice hn2
          rw [hn]
          clear hcall hb12 hn2
          go_wp2_with fail
          go_roundw
          case rel => exact ⟨i + 1, by omega, by omega, by go_num, T, HT12.out.drop, hTc⟩
          case measure => simp [intOf]; omega
      · have q3 : decide (i < 30) = false := by simp; omega
        have q4 : decide ((i : Int) < 30) = false := by simp; omega
        have hcall := names_h HT.out.toA
        clear hcl
        go_wp2_with fail
        refine hcall.mono ?_
        rintro e w4 ⟨v1, rfl, hn1, hb4⟩
        have HT4 := Lib.hid (HT.out.below hb4)
        have hn1' : IsNames w4 0 v1 S.now := own_base hn1 (Nat.zero_le _)
        obtain ⟨s1, k1, rfl, _, _⟩ := ownsRow_slice hn1
        have hcall := names_h HT4.out.toB
        have HN1 := Lib.hid hn1'
        clear hn1 hn1' hb4 HT
        go_wp2_with fail
        refine hcall.mono ?_
        rintro e w5 ⟨v2, rfl, hn2, hb5⟩
        have HT5 := Lib.hid (HT4.out.below hb5)
        have hn2' : IsNames w5 0 v2 S.now := own_base hn2 (Nat.zero_le _)
        obtain ⟨s2, k2, rfl, _, _⟩ := ownsRow_slice hn2
        have HN2 := Lib.hid hn2'
        have HN1' : Hid (IsNames w5 0 (.slice s1 S.now.length k1) S.now) := Lib.hid (own_below HN1.out hb5)
        have hnl := now_le HT5.out.toA.ok
        obtain ⟨n, hn⟩ : ∃ n, S.now.length = n := ⟨_, rfl⟩
        rw [hn] at HN1' HN2 hnl ⊢
        have HLN := Lib.hid hn
        clear hn2 hn2' hb5 HT4 HN1 hcall hn
        go_wp2_with fail
        go_loopw [12] (fun v wq => ∃ k : Nat, k ≤ n ∧ v = .int .i64 k ∧ IsNames wq 0 (.slice s1 n k1) S.now ∧ IsNames wq 0 (.slice s2 n k2) S.now ∧ TwoZ w p q S S (fun _ => False) wq) (fun v _ => n - (intOf v).toNat)
        case atStart => exact ⟨0, by omega, rfl, HN1'.out, HN2.out, HT5.out⟩
        case round =>
          obtain ⟨k, hk, rfl, hm1, hm2, hTq⟩ := hrel
          have HM1 := Lib.hid hm1
          have HM2 := Lib.hid hm2
          have HTQ := Lib.hid hTq
          clear hm1 hm2 hTq HN1' HN2 HT5
          by_cases hkn : k < n
          · obtain ⟨pp, hpp⟩ : ∃ pp, S.now[k]? = some pp := ⟨_, List.getElem?_eq_getElem (by rw [HLN.out]; exact hkn)⟩
            have hmem := List.mem_of_getElem? hpp
            have hsz : (⟨pp.1.toArray⟩ : ByteArray).size ≤ maxLen := by
              have := HTQ.out.toA.ok.nl.1 pp hmem
              simp only [ByteArray.size, List.size_toArray]
              unfold maxLen; omega
            have hnc1 : ∃ g, s1 = some ⟨g, 0, none⟩ ∧ g < wr.heap.size ∧ wr.cell? ⟨g, k, none⟩ = some (.string ⟨pp.1.toArray⟩) := by
              have h0 := HM1.out
              unfold IsNames at h0
              rw [HLN.out] at h0
              obtain ⟨g, _, he, _, hgl, _, _⟩ := own_open h0 (by omega)
              simp at he
              obtain ⟨rfl, rfl⟩ := he
              refine ⟨g, rfl, hgl, ?_⟩
              rw [h0.cellAt k (by omega)]
              simp [hpp, encStr]
            have hnc2 : ∃ g, s2 = some ⟨g, 0, none⟩ ∧ g < wr.heap.size ∧ wr.cell? ⟨g, k, none⟩ = some (.string ⟨pp.1.toArray⟩) := by
              have h0 := HM2.out
              unfold IsNames at h0
              rw [HLN.out] at h0
              obtain ⟨g, _, he, _, hgl, _, _⟩ := own_open h0 (by omega)
              simp at he
              obtain ⟨rfl, rfl⟩ := he
              refine ⟨g, rfl, hgl, ?_⟩
              rw [h0.cellAt k (by omega)]
              simp [hpp, encStr]
            obtain ⟨g1, rfl, hg1, hx1⟩ := hnc1
            obtain ⟨g2, rfl, hg2, hx2⟩ := hnc2
            have hsrt : Srt S.now := by obtain ⟨la, _, _, _, hA, _⟩ := HTQ.out; exact hA.now.srt
            have hget := dget_of_mem hsrt hmem
            obtain ⟨X, hX⟩ : ∃ X, (S.file pp.2).1 = X := ⟨_, rfl⟩
            have hrd : readF S pp.1 = some X := by unfold readF; rw [hget, ← hX]; rfl
            have hcall := read_h ⟨pp.1.toArray⟩ HTQ.out.toA hsz
            change Calls _ _ _ _ (ReadPost (readF S pp.1) wr) at hcall
            rw [hrd] at hcall
            unfold ReadPost at hcall
            simp only at hcall
            have HSZ := Lib.hid hsz
            clear hmem hsz hsrt hget hX
            obtain ⟨nm, hnm⟩ : ∃ nm : ByteArray, ⟨pp.1.toArray⟩ = nm := ⟨_, rfl⟩
            have hnl1 : pp.1 = nm.data.toList := by rw [← hnm]
            rw [hnm] at hcall hx1 hx2 HSZ
            rw [hnl1] at hrd
            clear hnm hnl1 hpp
            go_wp2_with fail
            refine hcall.mono ?_
            rintro e w6 ⟨hb6, sp, cp, rfl, ho6, hx6⟩
            have HTQ6 := Lib.hid (HTQ.out.below hb6.out)
            have hy2 : w6.cell? ⟨g2, k, none⟩ = some (.string nm) := (hb6.out.cell (p := ⟨g2, k, none⟩) hg2).trans hx2
            have hcall := read_h nm HTQ6.out.toB HSZ.out
            rw [hrd] at hcall
            unfold ReadPost at hcall
            simp only at hcall
            have HBB := Lib.hid hb6.out
            clear hb6 hx2
            unfold errV
            go_wp2_with fail
            refine hcall.mono ?_
            rintro e w7 ⟨hb7, sp2, cp2, rfl, ho7, hx7⟩
            have hb7 := hb7.out
            have hbb : Below wr.heap.size wr w7 := HBB.out.trans (hb7.mono HBB.out.size)
            have z1 : w7.cell? ⟨g1, k, none⟩ = some (.string nm) := (hbb.cell (p := ⟨g1, k, none⟩) hg1).trans hx1
            have z2 : w7.cell? ⟨g2, k, none⟩ = some (.string nm) := (hb7.cell (p := ⟨g2, k, none⟩) (Nat.lt_of_lt_of_le hg2 HBB.out.size)).trans hy2
            have HTQ7 := Lib.hid (HTQ6.out.below hb7)
            have HM1' : Hid (IsNames w7 0 (.slice (some ⟨g1, 0, none⟩) n k1) S.now) := Lib.hid (own_below HM1.out hbb)
            have HM2' : Hid (IsNames w7 0 (.slice (some ⟨g2, 0, none⟩) n k2) S.now) := Lib.hid (own_below HM2.out hbb)
            have hcv1 := fun m => run_conv ((isBytes_own (B := X) hx6.out (own_below ho6.out hb7)).below (bel_q w7 m))
            have hcv2 := fun m => run_conv ((isBytes_own (B := X) hx7.out ho7.out).below (bel_q w7 m))
            generalize str X = SS at hcv1 hcv2
            have q5 : (nm.toList == nm.toList) = true := by simp
            have q5b : (nm.toList != nm.toList) = false := by simp
            have q6 : (SS.toList == SS.toList) = true := by simp
            have q6b : (SS.toList != SS.toList) = false := by simp
            clear hcall hb7 hbb ho6 ho7 hx6 hx7 hx1 hy2 HTQ HTQ6 HM1 HM2 HBB hg1 hg2 hrd
            unfold errV
            go_wp2_with fail
            go_quiet (fail)
            go_wp2_with fail
            go_roundw
            case rel => exact ⟨k + 1, by omega, by go_num, own_below HM1'.out (bel_q w7 _), own_below HM2'.out (bel_q w7 _), HTQ7.out.below (bel_q w7 _)⟩
            case measure => simp [intOf]; omega
          · obtain rfl : k = n := by omega
            have HBE := Lib.hid HTQ.out.bel
            go_wp2_with fail
            go_ret
            exact ⟨rfl, HBE.out⟩
    · have q3 : decide (i < len) = false := by simp; omega
      have q4 : decide ((i : Int) < (len : Int)) = false := by simp; omega
      have hcall := names_h HT.out.toA
      clear hcl
      go_wp2_with fail
      refine hcall.mono ?_
      rintro e w4 ⟨v1, rfl, hn1, hb4⟩
      have HT4 := Lib.hid (HT.out.below hb4)
      have hn1' : IsNames w4 0 v1 S.now := own_base hn1 (Nat.zero_le _)
      obtain ⟨s1, k1, rfl, _, _⟩ := ownsRow_slice hn1
      have hcall := names_h HT4.out.toB
      have HN1 := Lib.hid hn1'
      clear hn1 hn1' hb4 HT
      go_wp2_with fail
      refine hcall.mono ?_
      rintro e w5 ⟨v2, rfl, hn2, hb5⟩
      have HT5 := Lib.hid (HT4.out.below hb5)
      have hn2' : IsNames w5 0 v2 S.now := own_base hn2 (Nat.zero_le _)
      obtain ⟨s2, k2, rfl, _, _⟩ := ownsRow_slice hn2
      have HN2 := Lib.hid hn2'
      have HN1' : Hid (IsNames w5 0 (.slice s1 S.now.length k1) S.now) := Lib.hid (own_below HN1.out hb5)
      have hnl := now_le HT5.out.toA.ok
      obtain ⟨n, hn⟩ : ∃ n, S.now.length = n := ⟨_, rfl⟩
      rw [hn] at HN1' HN2 hnl ⊢
      have HLN := Lib.hid hn
      clear hn2 hn2' hb5 HT4 HN1 hcall hn
      go_wp2_with fail
      go_loopw [12] (fun v wq => ∃ k : Nat, k ≤ n ∧ v = .int .i64 k ∧ IsNames wq 0 (.slice s1 n k1) S.now ∧ IsNames wq 0 (.slice s2 n k2) S.now ∧ TwoZ w p q S S (fun _ => False) wq) (fun v _ => n - (intOf v).toNat)
      case atStart => exact ⟨0, by omega, rfl, HN1'.out, HN2.out, HT5.out⟩
      case round =>
        obtain ⟨k, hk, rfl, hm1, hm2, hTq⟩ := hrel
        have HM1 := Lib.hid hm1
        have HM2 := Lib.hid hm2
        have HTQ := Lib.hid hTq
        clear hm1 hm2 hTq HN1' HN2 HT5
        by_cases hkn : k < n
        · obtain ⟨pp, hpp⟩ : ∃ pp, S.now[k]? = some pp := ⟨_, List.getElem?_eq_getElem (by rw [HLN.out]; exact hkn)⟩
          have hmem := List.mem_of_getElem? hpp
          have hsz : (⟨pp.1.toArray⟩ : ByteArray).size ≤ maxLen := by
            have := HTQ.out.toA.ok.nl.1 pp hmem
            simp only [ByteArray.size, List.size_toArray]
            unfold maxLen; omega
          have hnc1 : ∃ g, s1 = some ⟨g, 0, none⟩ ∧ g < wr.heap.size ∧ wr.cell? ⟨g, k, none⟩ = some (.string ⟨pp.1.toArray⟩) := by
            have h0 := HM1.out
            unfold IsNames at h0
            rw [HLN.out] at h0
            obtain ⟨g, _, he, _, hgl, _, _⟩ := own_open h0 (by omega)
            simp at he
            obtain ⟨rfl, rfl⟩ := he
            refine ⟨g, rfl, hgl, ?_⟩
            rw [h0.cellAt k (by omega)]
            simp [hpp, encStr]
          have hnc2 : ∃ g, s2 = some ⟨g, 0, none⟩ ∧ g < wr.heap.size ∧ wr.cell? ⟨g, k, none⟩ = some (.string ⟨pp.1.toArray⟩) := by
            have h0 := HM2.out
            unfold IsNames at h0
            rw [HLN.out] at h0
            obtain ⟨g, _, he, _, hgl, _, _⟩ := own_open h0 (by omega)
            simp at he
            obtain ⟨rfl, rfl⟩ := he
            refine ⟨g, rfl, hgl, ?_⟩
            rw [h0.cellAt k (by omega)]
            simp [hpp, encStr]
          obtain ⟨g1, rfl, hg1, hx1⟩ := hnc1
          obtain ⟨g2, rfl, hg2, hx2⟩ := hnc2
          have hsrt : Srt S.now := by obtain ⟨la, _, _, _, hA, _⟩ := HTQ.out; exact hA.now.srt
          have hget := dget_of_mem hsrt hmem
          obtain ⟨X, hX⟩ : ∃ X, (S.file pp.2).1 = X := ⟨_, rfl⟩
          have hrd : readF S pp.1 = some X := by unfold readF; rw [hget, ← hX]; rfl
          have hcall := read_h ⟨pp.1.toArray⟩ HTQ.out.toA hsz
          change Calls _ _ _ _ (ReadPost (readF S pp.1) wr) at hcall
          rw [hrd] at hcall
          unfold ReadPost at hcall
          simp only at hcall
          have HSZ := Lib.hid hsz
          clear hmem hsz hsrt hget hX
          obtain ⟨nm, hnm⟩ : ∃ nm : ByteArray, ⟨pp.1.toArray⟩ = nm := ⟨_, rfl⟩
          have hnl1 : pp.1 = nm.data.toList := by rw [← hnm]
          rw [hnm] at hcall hx1 hx2 HSZ
          rw [hnl1] at hrd
          clear hnm hnl1 hpp
          go_wp2_with fail
          refine hcall.mono ?_
          rintro e w6 ⟨hb6, sp, cp, rfl, ho6, hx6⟩
          have HTQ6 := Lib.hid (HTQ.out.below hb6.out)
          have hy2 : w6.cell? ⟨g2, k, none⟩ = some (.string nm) := (hb6.out.cell (p := ⟨g2, k, none⟩) hg2).trans hx2
          have hcall := read_h nm HTQ6.out.toB HSZ.out
          rw [hrd] at hcall
          unfold ReadPost at hcall
          simp only at hcall
          have HBB := Lib.hid hb6.out
          clear hb6 hx2
          unfold errV
          go_wp2_with fail
          refine hcall.mono ?_
          rintro e w7 ⟨hb7, sp2, cp2, rfl, ho7, hx7⟩
          have hb7 := hb7.out
          have hbb : Below wr.heap.size wr w7 := HBB.out.trans (hb7.mono HBB.out.size)
          have z1 : w7.cell? ⟨g1, k, none⟩ = some (.string nm) := (hbb.cell (p := ⟨g1, k, none⟩) hg1).trans hx1
          have z2 : w7.cell? ⟨g2, k, none⟩ = some (.string nm) := (hb7.cell (p := ⟨g2, k, none⟩) (Nat.lt_of_lt_of_le hg2 HBB.out.size)).trans hy2
          have HTQ7 := Lib.hid (HTQ6.out.below hb7)
          have HM1' : Hid (IsNames w7 0 (.slice (some ⟨g1, 0, none⟩) n k1) S.now) := Lib.hid (own_below HM1.out hbb)
          have HM2' : Hid (IsNames w7 0 (.slice (some ⟨g2, 0, none⟩) n k2) S.now) := Lib.hid (own_below HM2.out hbb)
          have hcv1 := fun m => run_conv ((isBytes_own (B := X) hx6.out (own_below ho6.out hb7)).below (bel_q w7 m))
          have hcv2 := fun m => run_conv ((isBytes_own (B := X) hx7.out ho7.out).below (bel_q w7 m))
          generalize str X = SS at hcv1 hcv2
          have q5 : (nm.toList == nm.toList) = true := by simp
          have q5b : (nm.toList != nm.toList) = false := by simp
          have q6 : (SS.toList == SS.toList) = true := by simp
          have q6b : (SS.toList != SS.toList) = false := by simp
          clear hcall hb7 hbb ho6 ho7 hx6 hx7 hx1 hy2 HTQ HTQ6 HM1 HM2 HBB hg1 hg2 hrd
          unfold errV
          go_wp2_with fail
          go_quiet (fail)
          go_wp2_with fail
          go_roundw
          case rel => exact ⟨k + 1, by omega, by go_num, own_below HM1'.out (bel_q w7 _), own_below HM2'.out (bel_q w7 _), HTQ7.out.below (bel_q w7 _)⟩
          case measure => simp [intOf]; omega
        · obtain rfl : k = n := by omega
          have HBE := Lib.hid HTQ.out.bel
          go_wp2_with fail
          go_ret
          exact ⟨rfl, HBE.out⟩
end Go.Proofs.Ytdjcblboibbefaa.S13
