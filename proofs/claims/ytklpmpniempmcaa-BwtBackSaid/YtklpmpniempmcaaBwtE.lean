/- folioref1.Inverse: a contract. -/
import Derived.Test.YtklpmpniempmcaaBwtF
import Derived.Test.YtklpmpniempmcaaBwtD
set_option linter.unusedSimpArgs false
set_option linter.unusedVariables false
namespace Go.Proofs.Ytklpmpniempmcaa
open Go.RowKit Pl
namespace Pl
theorem plc_same (a : Nat) : plc a (a + 1) = plc a a := by unfold plc; split <;> split <;> omega
theorem plc_step {a r : Nat} (h : r ≠ a) : plc a (r + 1) = plc a r + 1 := by unfold plc; split <;> split <;> omega
def toF (l : List Nat) (a r y : Nat) : Nat := if y < r ∧ y ≠ a then lf l (plc a y) else 0
end Pl
theorem inv_nil (v : Value) (a : Int) (w : World) (hv : IsBytes w v []) :
    Calls Try.prog 20 #[v, .int .i64 a] w fun e w' => e = .returned (.tuple #[.slice none 0 0, .bool (decide (a = 0))]) ∧ w = w' := by
  obtain ⟨b, cap, rfl, hcap, hmax⟩ := hv.slice
  clear hv
  by_cases h : a = 0
  · subst h
    go_enter Try.func20, Try.ntmps20
    go_wp2_with fail
    go_ret2
    exact ⟨rfl, rfl⟩
  · have hb : (a == (0 : Int)) = false := beq_f h
    rw [decide_eq_false h]
    go_enter Try.func20, Try.ntmps20
    go_wp2_with fail
    go_ret2
    exact ⟨rfl, rfl⟩
theorem inv_out (v : Value) (l : List Nat) (a : Int) (w : World) (hv : IsBytes w v l) (h0 : 0 < l.length) (ha : a < 1 ∨ (l.length : Int) < a) :
    Calls Try.prog 20 #[v, .int .i64 a] w fun e w' => e = .returned (.tuple #[.slice none 0 0, .bool false]) ∧ w = w' := by
  obtain ⟨b, cap, rfl, hcap, hmax⟩ := hv.slice
  clear hv
  generalize l.length = N at *
  have hbt : ((N : Int) == (0 : Int)) = false := beq_f (by omega)
  have hways : a < 1 ∨ (¬ a < 1 ∧ (N : Int) < a) := by omega
  clear ha
  rcases hways with h1 | ⟨h1, h2⟩
  all_goals
    go_enter Try.func20, Try.ntmps20
    go_wp2_with fail
    go_ret2
    exact ⟨rfl, rfl⟩
/-- what Inverse answers at a place that may be -/
def InvPost (l : List Nat) (a N : Nat) (w : World) (e : Ending) (w' : World) : Prop :=
  Below w.heap.size w w' ∧ ((okW l a = true ∧ ∃ g, e = .returned (.tuple #[.slice (some ⟨g, 0, none⟩) N N, .bool true]) ∧ IsBytes w' (.slice (some ⟨g, 0, none⟩) N N) (bk l a)) ∨ (okW l a = false ∧ e = .returned (.tuple #[.slice none 0 0, .bool false])))
attribute [local go_sem ↓] loadArr_eq allocArr_eq idxArr_eq conv_eq
attribute [local go_sem] run_allocArr
set_option maxHeartbeats 16000000 in
set_option maxRecDepth 100000 in
theorem inv_in (v : Value) (l : List Nat) (a N : Nat) (w : World) (hv : IsBytes w v l) (hN : l.length = N) (hB : N ≤ 900000) (ha1 : 1 ≤ a) (ha : a ≤ N) :
    Calls Try.prog 20 #[v, .int .i64 a] w (InvPost l a N w) := by
  obtain ⟨ad, cap, rfl, hcap, hmax⟩ := hv.slice
  have HX := Lib.hid hv.1
  rw [hN] at hv hcap ⊢
  have HV := Lib.hid hv
  have HN := Lib.hid hN
  clear hv hN
  have hbt : ((N : Int) == (0 : Int)) = false := beq_f (by omega)
  have hn1 : ¬ (a : Int) < 1 := by omega
  have hn2 : ¬ (N : Int) < (a : Int) := by omega
  obtain ⟨M, hM⟩ : ∃ M, M = N + 1 := ⟨_, rfl⟩
  go_enter Try.func20, Try.ntmps20
  go_wp2_with fail
  have HA0 : Hid (Blk (w.alloc (.cells zArr.toArray 38)) w.heap.size 38 (i64s (fnL 256 (cN l 0)))) := Lib.hid (arr_new w)
  have HB0 : Hid (Below w.heap.size w (w.alloc (.cells zArr.toArray 38))) := Lib.hid ((Below.refl _ _).alloc (Nat.le_refl _) _)
  go_loopw [7] (fun x wr => ∃ i : Nat, i ≤ N ∧ x = .int .i64 i ∧ Blk wr w.heap.size 38 (i64s (fnL 256 (cN l i))) ∧ Below w.heap.size w wr) (fun x _ => N - (intOf x).toNat)
  case atStart => exact ⟨0, by omega, rfl, HA0.out, HB0.out⟩
  case round =>
    obtain ⟨i, hi, rfl, hb, hbe⟩ := hrel
    have HK := Lib.hid hb
    have HB := Lib.hid hbe
    clear hb hbe HA0 HB0
    by_cases hlt : i < N
    · obtain ⟨b1, o1, q1, e1, -, -, -, hx1⟩ := (HV.out.below HB.out).cells (by rw [HN.out]; omega)
      simp only [Value.slice.injEq, Option.some.injEq] at e1
      obtain ⟨rfl, -, rfl⟩ := e1
      have d1 := hx1 i (by rw [HN.out]; exact hlt)
      have hx := getD_lt HX.out i
      have HSS := Lib.hid (cN_same l i)
      have HO := Lib.hid (fun x => @cN_other l i x)
      generalize l.getD i 0 = x at *
      have c0 := HK.out.cell (i64s_get (fnL 256 (cN l i)) x (by rw [fnL_length]; exact hx))
      rw [fnL_get _ hx] at c0
      have f0 := HK.out.frozen x
      have hcl := cN_le l i x
      have hset := HK.out.set x (.int .i64 ((cN l i x : Int) + 1))
      rw [i64s_setA, fnL_set (g := cN l (i + 1)) (fun _ => by rw [HSS.out]; omega) (fun y _ hne => HO.out y hne)] at hset
      have HSET := Lib.hid hset
      have HBS := Lib.hid (HB.out.setCell (p := ⟨w.heap.size, x, none⟩) (by simp) (.int .i64 ((cN l i x : Int) + 1)))
      generalize cN l i x = c at *
      clear hx1 hset
      go_wp2_with fail
      go_roundw
      case rel => exact ⟨i + 1, by omega, by go_num, HSET.out, HBS.out⟩
      case measure => simp [intOf]; omega
    · obtain rfl : i = N := by omega
      obtain ⟨wo, hwo⟩ : ∃ wo : World, wo = wr := ⟨_, rfl⟩
      subst hwo
      have hl0 := HK.out.lt
      have HA1 : Hid (Blk (wo.alloc (.cells zArr.toArray 38)) wo.heap.size 38 (i64s (fnL 256 fun y => if y < 0 then stN l y else 0))) := Lib.hid (arr_new wo)
      have HK1 := Lib.hid (HK.out.alloc (.cells zArr.toArray 38))
      have HB1 : Hid (Below w.heap.size w (wo.alloc (.cells zArr.toArray 38))) := Lib.hid (HB.out.alloc (by omega) _)
      clear HK
      go_wp2_with fail
      go_loopw [9, 10] (fun f x wr => ∃ k : Nat, k ≤ 256 ∧ x = .int .i64 k ∧ f = .int .i64 (stN l k) ∧ Blk wr wo.heap.size 38 (i64s (fnL 256 fun y => if y < k then stN l y else 0)) ∧ Blk wr w.heap.size 38 (i64s (fnL 256 (cN l i))) ∧ Below w.heap.size w wr) (fun _ x _ => 256 - (intOf x).toNat)
      case atStart => exact ⟨0, by omega, rfl, by rw [stN_zero]; rfl, HA1.out, HK1.out, HB1.out⟩
      case round =>
        obtain ⟨k, hk, rfl, rfl, hb, hbc, hbe⟩ := hrel
        have HK := Lib.hid hb
        have HC := Lib.hid hbc
        have HB2 := Lib.hid hbe
        clear hb hbc hbe HA1 HK1 HB1
        by_cases hlt2 : k < 256
        · have HSS : Hid (stN l (k + 1) = stN l k + cN l i k) := Lib.hid (by rw [stN_succ, HN.out])
          have hs1 := stN_le l k
          have hs2 := cN_le l i k
          rw [HN.out] at hs1
          have c0 := HK.out.cell (i64s_get (fnL 256 fun y => if y < k then stN l y else 0) k (by rw [fnL_length]; exact hlt2))
          have f0 := HK.out.frozen k
          have c1 := HC.out.cell (i64s_get (fnL 256 (cN l i)) k (by rw [fnL_length]; exact hlt2))
          rw [fnL_get _ hlt2] at c1
          have hset := HK.out.set k (.int .i64 (stN l k : Int))
          rw [i64s_setA, fnL_set (g := fun y => if y < k + 1 then stN l y else 0) (fun _ => by rw [if_pos (by omega)]) (fun y _ hne => by
            by_cases e : y < k
            · rw [if_pos e, if_pos (by omega)]
            · rw [if_neg e, if_neg (by omega)])] at hset
          have HSET := Lib.hid hset
          have hne : w.heap.size ≠ wo.heap.size := by omega
          have HCS := Lib.hid (HC.out.setOther (p := ⟨wo.heap.size, k, none⟩) hne (.int .i64 (stN l k : Int)))
          have HBS := Lib.hid (HB2.out.setCell (p := ⟨wo.heap.size, k, none⟩) (by simp; omega) (.int .i64 (stN l k : Int)))
          generalize (fnL 256 fun y => if y < k then stN l y else 0).getD k 0 = z at *
          generalize stN l k = s at *
          generalize cN l i k = c at *
          clear hset
          go_wp2_with fail
          go_roundw
          case rel => exact ⟨k + 1, by omega, by go_num, by rw [HSS.out]; go_num, HSET.out, HCS.out, HBS.out⟩
          case measure => simp [intOf]; omega
        · have HK256 : Hid (k = 256) := Lib.hid (by omega)
          obtain ⟨wp, hwp⟩ : ∃ wp : World, wp = wr := ⟨_, rfl⟩
          subst hwp
          have HF : Hid (Blk (wp.alloc (.cells zArr.toArray 38)) wo.heap.size 38 (i64s (fnL 256 (stN l)))) := Lib.hid (by
            have := HK.out.alloc (.cells zArr.toArray 38)
            rw [fnL_congr (g := stN l) fun y hy => by rw [if_pos (by have := HK256.out; omega)]] at this
            exact this)
          have HS0 : Hid (Blk (wp.alloc (.cells zArr.toArray 38)) wp.heap.size 38 (i64s (fnL 256 (cN l 0)))) := Lib.hid (arr_new wp)
          have HB3 : Hid (Below w.heap.size w (wp.alloc (.cells zArr.toArray 38))) := Lib.hid (HB2.out.alloc HB2.out.size _)
          have hl1 := HK.out.lt
          have hl0' : w.heap.size ≤ wp.heap.size := HB2.out.size
          clear HK HC HB2
          obtain ⟨i0, hi0, hz0, hz1, hz2⟩ := infoI_parts infoI
          have Hi := Lib.hid hi0
          have Hz0 := Lib.hid hz0
          have Hz1 := Lib.hid hz1
          have Hz2 := Lib.hid hz2
          clear hi0 hz0 hz1 hz2
          obtain ⟨wa, hwa⟩ : ∃ wa : World, wa = wp.alloc (.cells zArr.toArray 38) := ⟨_, rfl⟩
          have hwas : wa.heap.size = wp.heap.size + 1 := by rw [hwa]; simp
          rw [← hwa] at HF HS0 HB3
          have HWA := Lib.hid hwa
          have HMN := Lib.hid hM
          have hMb : M ≤ 900001 := by omega
          clear hwa hM
          go_wp2_with (at_make; rw [← HWA.out]; refine wpList_make_full _ rfl _ _ 25 rfl wa.heap.size 3 i0 (.int .i64 0) 1 Try.underlying25 Hi.out Hz0.out Hz1.out .i64 .i64 _ _ M rfl rfl (by have := HMN.out; omega) (by have := HMN.out; omega) (by rw [Hz2.out]; omega) (by unfold maxLen; omega) (Nat.le_refl _) ?_; intro w4 hown hgr)
          have HG4 : Hid (Blk w4 wa.heap.size 3 (i64s (fnL M (toF l a 0)))) := Lib.hid (by
            have := made_ints hown
            rw [fnL_congr (g := toF l a 0) fun y _ => by unfold toF; rw [if_neg (by omega)]] at this
            exact this)
          have HB4 : Hid (Below w.heap.size w w4) := Lib.hid (HB3.out.grown hgr HB3.out.size (by simp))
          have HF4 : Hid (Blk w4 wo.heap.size 38 (i64s (fnL 256 (stN l)))) := Lib.hid (HF.out.grown hgr (by simp))
          have HS4 : Hid (Blk w4 wp.heap.size 38 (i64s (fnL 256 (cN l (plc a 0))))) := Lib.hid (HS0.out.grown hgr (by simp))
          clear hown hgr HF HS0 HB3 HWA
          go_wp2_with fail
          rw [hwas] at HG4
          obtain ⟨b3, hb3⟩ : ∃ b3, b3 = wp.heap.size + 1 := ⟨_, rfl⟩
          rw [← hb3] at HG4 ⊢
          have hne1 : b3 ≠ wp.heap.size := by omega
          have hne2 : wp.heap.size ≠ b3 := by omega
          have hne3 : wo.heap.size ≠ b3 := by omega
          have hne4 : wo.heap.size ≠ wp.heap.size := by omega
          have hb3w : w.heap.size ≤ b3 := by omega
          have hlt4 := HG4.out.lt
          clear hb3 hwas hl1
          go_loopw [13] (fun x wr => ∃ r : Nat, r ≤ M ∧ x = .int .i64 r ∧ Blk wr b3 3 (i64s (fnL M (toF l a r))) ∧ Blk wr wp.heap.size 38 (i64s (fnL 256 (cN l (plc a r)))) ∧ Blk wr wo.heap.size 38 (i64s (fnL 256 (stN l))) ∧ Below w.heap.size w wr) (fun x _ => M - (intOf x).toNat)
          case atStart => exact ⟨0, by omega, rfl, HG4.out, HS4.out, HF4.out, HB4.out⟩
          case round =>
            obtain ⟨r, hr, rfl, hbg, hbs, hbf, hbe⟩ := hrel
            have HG := Lib.hid hbg
            have HS := Lib.hid hbs
            have HF := Lib.hid hbf
            have HB5 := Lib.hid hbe
            clear hbg hbs hbf hbe HG4 HS4 HF4 HB4
            by_cases hrN : r ≤ i
            · have hrI : (r : Int) ≤ (i : Int) := by omega
              by_cases hra : r = a
              · subst hra
                have hz : ((r : Int) == (r : Int)) = true := beq_t rfl
                have HG2 : Hid (Blk wr b3 3 (i64s (fnL M (toF l r (r + 1))))) := Lib.hid (by
                  rw [fnL_congr (g := toF l r r) fun y _ => by
                    unfold toF
                    by_cases e : y < r ∧ y ≠ r
                    · rw [if_pos e, if_pos (by omega)]
                    · rw [if_neg e, if_neg (by omega)]]
                  exact HG.out)
                have HS2 : Hid (Blk wr wp.heap.size 38 (i64s (fnL 256 (cN l (plc r (r + 1)))))) := Lib.hid (by rw [plc_same]; exact HS.out)
                clear HG HS
                go_wp2_with fail
                refine ⟨⟨r + 1, by have := HMN.out; omega, by first | rfl | go_num, HG2.out, HS2.out, HF.out, HB5.out⟩, ?_⟩
                simp only [intOf_i]; have := HMN.out; omega
              · have hz : ((r : Int) == (a : Int)) = false := beq_f (by omega)
                have hq := plc_lt ha hrN hra
                have hst := plc_step hra
                have hdef : plc a r = (if a < r then r - 1 else r) := rfl
                obtain ⟨q, hqd⟩ : ∃ q, q = plc a r := ⟨_, rfl⟩
                rw [← hqd] at hq hst hdef HS
                have HST := Lib.hid hst
                have HQD := Lib.hid hqd
                obtain ⟨b0, o0, q0, e0, -, -, -, hx1⟩ := (HV.out.below HB5.out).cells (by rw [HN.out]; omega)
                simp only [Value.slice.injEq, Option.some.injEq] at e0
                obtain ⟨rfl, -, rfl⟩ := e0
                have d1 := hx1 q (by rw [HN.out]; exact hq)
                have hx := getD_lt HX.out q
                have HSS := Lib.hid (cN_same l q)
                have HO := Lib.hid (fun x => @cN_other l q x)
                have hsp := lf_split (l := l) (k := q) (by rw [HN.out]; exact hq)
                generalize l.getD q 0 = c at *
                have cF := HF.out.cell (i64s_get (fnL 256 (stN l)) c (by rw [fnL_length]; exact hx))
                rw [fnL_get _ hx] at cF
                have cS := HS.out.cell (i64s_get (fnL 256 (cN l q)) c (by rw [fnL_length]; exact hx))
                rw [fnL_get _ hx] at cS
                have fS := HS.out.frozen c
                have hrM : r < M := by have := HMN.out; omega
                have c1 := HG.out.cell (i64s_get (fnL M (toF l a r)) r (by rw [fnL_length]; exact hrM))
                have f1 := HG.out.frozen r
                have hs1 := stN_le l c
                have hs2 := cN_le l q c
                rw [HN.out] at hs1
                have hset := (HG.out.set r (.int .i64 ((stN l c : Int) + (cN l q c : Int)))).setOther (p := ⟨wp.heap.size, c, none⟩) hne1 (.int .i64 ((cN l q c : Int) + 1))
                rw [i64s_setA, fnL_set (g := toF l a (r + 1)) (fun _ => by unfold toF; rw [if_pos (by omega), ← hqd, hsp]; omega) (fun y _ hne => by
                  unfold toF
                  by_cases e : y < r ∧ y ≠ a
                  · rw [if_pos e, if_pos (by omega)]
                  · rw [if_neg e, if_neg (by omega)])] at hset
                have hset2 := (HS.out.setOther (p := ⟨b3, r, none⟩) hne2 (.int .i64 ((stN l c : Int) + (cN l q c : Int)))).set c (.int .i64 ((cN l q c : Int) + 1))
                rw [i64s_setA, fnL_set (g := cN l (plc a (r + 1))) (fun _ => by rw [hst, HSS.out]; omega) (fun y _ hne => by rw [hst, HO.out y hne])] at hset2
                have hset3 := (HF.out.setOther (p := ⟨b3, r, none⟩) hne3 (.int .i64 ((stN l c : Int) + (cN l q c : Int)))).setOther (p := ⟨wp.heap.size, c, none⟩) hne4 (.int .i64 ((cN l q c : Int) + 1))
                have HSET := Lib.hid hset
                have HSET2 := Lib.hid hset2
                have HSET3 := Lib.hid hset3
                have HBS := Lib.hid ((HB5.out.setCell (p := ⟨b3, r, none⟩) (by simp; omega) (.int .i64 ((stN l c : Int) + (cN l q c : Int)))).setCell (p := ⟨wp.heap.size, c, none⟩) (by simp; omega) (.int .i64 ((cN l q c : Int) + 1)))
                generalize (fnL M (toF l a r)).getD r 0 = z at *
                generalize stN l c = s1 at *
                generalize cN l q c = s2 at *
                have hways : (r < a ∧ q = r) ∨ (a < r ∧ r = q + 1) := by
                  by_cases e : a < r
                  · rw [if_pos e] at hdef; omega
                  · rw [if_neg e] at hdef; omega
                clear hx1 hset hset2 hset3 hsp hst hdef hqd
                rcases hways with ⟨h1, rfl⟩ | ⟨h1, h2⟩
                · have hgt : ¬ (a : Int) < (q : Int) := by omega
                  go_wp2_with fail
                  go_region
                  go_wp2_with fail
                  refine ⟨⟨q + 1, by omega, by first | rfl | go_num, HSET.out, HSET2.out, HSET3.out, HBS.out.drew⟩, ?_⟩
                  simp only [intOf_i]; omega
                · have hgt : (a : Int) < (r : Int) := by omega
                  have hq1 : (r : Int) - 1 = (q : Int) := by omega
                  have HH2 := Lib.hid h2
                  clear h2
                  go_wp2_with fail
                  go_region
                  go_wp2_with fail
                  refine ⟨⟨r + 1, by omega, by first | rfl | go_num, HSET.out, HSET2.out, HSET3.out, HBS.out.drew⟩, ?_⟩
                  simp only [intOf_i]; omega
            · obtain ⟨wq, hwq⟩ : ∃ wq : World, wq = wr := ⟨_, rfl⟩
              subst hwq
              obtain rfl : r = M := by have := HMN.out; omega
              have HG2 : Hid (Blk wq b3 3 (i64s (fnL r (fun y => if y ≠ a then lf l (plc a y) else 0)))) := Lib.hid (by
                rw [fnL_congr (g := toF l a r) fun y hy => by
                  unfold toF
                  by_cases e : y ≠ a
                  · rw [if_pos e, if_pos ⟨hy, e⟩]
                  · rw [if_neg e, if_neg (fun h => e h.2)]]
                exact HG.out)
              have hrI : ¬ (r : Int) ≤ (i : Int) := by omega
              obtain ⟨i1, hi1, hy0, hy1, hy2⟩ := info_parts info5
              have Hi1 := Lib.hid hi1
              have Hy0 := Lib.hid hy0
              have Hy1 := Lib.hid hy1
              have Hy2 := Lib.hid hy2
              clear hi1 hy0 hy1 hy2 HG HS HF
              go_wp2_with (at_make; refine wpList_make_full _ rfl _ _ 22 rfl wq.heap.size 5 i1 (.int .u8 0) 1 Try.underlying22 Hi1.out Hy0.out Hy1.out .i64 .i64 _ _ i rfl rfl (by first | rfl | (simp; done) | omega) (by first | rfl | (simp; done) | omega) (by rw [Hy2.out]; omega) (by unfold maxLen; omega) (Nat.le_refl _) ?_; intro w6 hown hgr)
              have HR6 : Hid (Blk w6 wq.heap.size 5 (u8s (bkP l a 0))) := Lib.hid (by
                have := made_blk hown
                rw [made_list] at this
                rw [bkP_zero, HN.out]
                simpa [u8s] using this)
              have HB6 : Hid (Below w.heap.size w w6) := Lib.hid (HB5.out.grown hgr HB5.out.size (by simp))
              have HG6 : Hid (Blk w6 b3 3 (i64s (fnL r (fun y => if y ≠ a then lf l (plc a y) else 0)))) := Lib.hid (HG2.out.grown hgr (by simp))
              have hlt6 := HG2.out.lt
              have hsz6 := HB5.out.size
              clear hown hgr HG2 HB5
              go_wp2_with fail
              go_loopw [17, 18] (fun x z wr => ∃ j : Nat, j ≤ i ∧ z = .int .i64 ((i : Int) - 1 - j) ∧ x = .int .i64 (Pl.wr l a j) ∧ (∀ t, t < j → Pl.wr l a t ≠ a) ∧ Blk wr wq.heap.size 5 (u8s (bkP l a j)) ∧ Blk wr b3 3 (i64s (fnL r (fun y => if y ≠ a then lf l (plc a y) else 0))) ∧ Below w.heap.size w wr) (fun _ z _ => (intOf z + 1).toNat)
              case atStart => exact ⟨0, by omega, by simp, rfl, fun j hj => by omega, HR6.out, HG6.out, HB6.out⟩
              case round =>
                obtain ⟨j, hj, rfl, rfl, hne, hb, hb2, hbe⟩ := hrel
                have HNE := Lib.hid hne
                have HR := Lib.hid hb
                have HG := Lib.hid hb2
                have HB := Lib.hid hbe
                have hrow := wr_leP (l := l) (a := a) (by rw [HN.out]; exact ha) j (by rw [HN.out]; exact hj) hne
                rw [HN.out] at hrow
                clear hne hb hb2 hbe HR6 HG6 HB6
                by_cases hltj : j < i
                · obtain ⟨t, ht⟩ : ∃ t, t = i - 1 - j := ⟨_, rfl⟩
                  have htI : (i : Int) - 1 - (j : Int) = (t : Int) := by omega
                  rw [htI]
                  have HKN : Hid (t = i - 1 - j) := Lib.hid ht
                  have htN : t < i := by omega
                  have hk1 : (t : Int) - 1 = (i : Int) - 1 - ((j + 1 : Nat) : Int) := by omega
                  have HK1 := Lib.hid hk1
                  clear ht htI hk1
                  by_cases hat : Pl.wr l a j = a
                  · have HBAD : Hid (okW l a = false) := Lib.hid (by
                      cases h : okW l a with
                      | false => rfl
                      | true => exact absurd hat (okW_iff.1 h j (by rw [HN.out]; exact hltj)))
                    rw [hat]
                    have heq : ((a : Int) == (a : Int)) = true := beq_t rfl
                    clear hat
                    go_wp2_with fail
                    go_ret2
                    exact ⟨HB.out, .inr ⟨HBAD.out, rfl⟩⟩
                  · have hp := plc_lt ha hrow hat
                    obtain ⟨b1, o1, q1, e1, -, -, -, hx1⟩ := (HV.out.below HB.out).cells (by rw [HN.out]; omega)
                    simp only [Value.slice.injEq, Option.some.injEq] at e1
                    obtain ⟨rfl, -, rfl⟩ := e1
                    have d1 := hx1 (plc a (Pl.wr l a j)) (by rw [HN.out]; exact hp)
                    have hrowM : Pl.wr l a j < r := by have := HMN.out; omega
                    have c1 := HG.out.cell (i64s_get (fnL r (fun y => if y ≠ a then lf l (plc a y) else 0)) (Pl.wr l a j) (by rw [fnL_length]; exact hrowM))
                    rw [fnL_get _ hrowM, if_pos hat] at c1
                    have c0 := HR.out.cell (u8s_get (bkP l a j) t (by rw [bkP_length, HN.out]; exact htN))
                    have f0 := HR.out.frozen t
                    have hset := HR.out.set t (.int .u8 (l.getD (plc a (Pl.wr l a j)) 0 : Nat))
                    rw [u8s_set] at hset
                    have hst := bkP_set (l := l) (a := a) (i := j) (by rw [HN.out]; exact hltj)
                    rw [HN.out, ← HKN.out] at hst
                    rw [hst] at hset
                    have HSET := Lib.hid hset
                    have HNX : Hid (Pl.wr l a (j + 1) = lf l (plc a (Pl.wr l a j))) := Lib.hid rfl
                    have HBS := Lib.hid (HB.out.setCell (p := ⟨wq.heap.size, t, none⟩) (by simp; omega) (.int .u8 (l.getD (plc a (Pl.wr l a j)) 0 : Nat)))
                    have HGS := Lib.hid (HG.out.setOther (p := ⟨wq.heap.size, t, none⟩) (by simp; omega) (.int .u8 (l.getD (plc a (Pl.wr l a j)) 0 : Nat)))
                    have hlr := (lf_range (l := l) (k := plc a (Pl.wr l a j)) (by rw [HN.out]; exact hp)).2
                    rw [HN.out] at hlr
                    have HNE2 : Hid (∀ t, t < j + 1 → Pl.wr l a t ≠ a) := Lib.hid fun t ht => by
                      by_cases e : t = j
                      · subst e; exact hat
                      · exact HNE.out t (by omega)
                    have hdef : plc a (Pl.wr l a j) = (if a < Pl.wr l a j then Pl.wr l a j - 1 else Pl.wr l a j) := rfl
                    have hneb : b3 ≠ wq.heap.size := by omega
                    generalize plc a (Pl.wr l a j) = q at *
                    generalize Pl.wr l a j = m at *
                    generalize l.getD q 0 = x at *
                    generalize lf l q = f at *
                    generalize (bkP l a j).getD t 0 = y at *
                    have heq : ((m : Int) == (a : Int)) = false := beq_f (by omega)
                    clear hx1 hset hst
                    have hways : (m < a ∧ q = m) ∨ (a < m ∧ m = q + 1) := by
                      by_cases e : a < m
                      · rw [if_pos e] at hdef; omega
                      · rw [if_neg e] at hdef; omega
                    clear hdef
                    rcases hways with ⟨h1, rfl⟩ | ⟨h1, h2⟩
                    · have hgt : ¬ (a : Int) < (q : Int) := by omega
                      go_wp2_with fail
                      refine ⟨⟨j + 1, by omega, by rw [HK1.out], by rw [HNX.out], HNE2.out, HSET.out, HGS.out, HBS.out⟩, ?_⟩
                      simp only [intOf_i]; have := HK1.out; omega
                    · have hgt : (a : Int) < (m : Int) := by omega
                      have hq1 : (m : Int) - 1 = (q : Int) := by omega
                      have HH2 := Lib.hid h2
                      clear h2
                      go_wp2_with fail
                      refine ⟨⟨j + 1, by omega, by rw [HK1.out], by rw [HNX.out], HNE2.out, HSET.out, HGS.out, HBS.out⟩, ?_⟩
                      simp only [intOf_i]; have := HK1.out; omega
                · obtain rfl : j = i := by omega
                  have hkI : (j : Int) - 1 - (j : Int) = -1 := by omega
                  rw [hkI]
                  have HOK : Hid (okW l a = true) := Lib.hid (okW_iff.2 fun t ht => HNE.out t (by rw [← HN.out]; exact ht))
                  have HR3 : Hid (IsBytes wr (.slice (some ⟨wq.heap.size, 0, none⟩) j j) (bk l a)) := Lib.hid (by
                    have := HR.out
                    rw [← HN.out, bkP_all] at this
                    exact isBytes_blk (bk_lt HX.out a) (by rw [bk_length, HN.out]) (by unfold maxLen; omega) this)
                  have hfw := forwardRef_any _ (bk l a) j wr HR3.out (by rw [bk_length, HN.out]) hB
                  have HFW := Lib.hid hfw
                  clear HR HG hkI hfw HNE
                  go_wp2_with fail
                  refine HFW.out.mono ?_
                  rintro e w9 ⟨R, sp9, c9, p9, rfl, hR9, hat9, hi9, hb9⟩
                  obtain ⟨R2, hs1, hs2, hs3⟩ := bk_sound (l := l) (a := a) (by rw [HN.out]; exact ha) HOK.out
                  obtain rfl := sa_unique hR9 hs1
                  rw [bk_length, HN.out] at hs2 hs3
                  rw [hs2] at hi9
                  obtain rfl : p9 = a := by rw [← hat9, hs3]
                  have HB9 := Lib.hid (HB.out.trans (hb9.mono HB.out.size))
                  have HR9 := Lib.hid (HR3.out.below hb9)
                  have s1 := run_conv hi9
                  have s2 := run_conv (HV.out.below HB9.out)
                  have q1 : ((str l).toList == (str l).toList) = true := by simp
                  have q2 : ((p9 : Int) == (p9 : Int)) = true := beq_t rfl
                  generalize str l = sl at *
                  clear hR9 hat9 hi9 hb9 hs1 hs2 hs3 HFW HR3 HB
                  go_wp2_with fail
                  go_ret2
                  exact ⟨HB9.out, .inl ⟨HOK.out, _, rfl, HR9.out⟩⟩
end Go.Proofs.Ytklpmpniempmcaa
