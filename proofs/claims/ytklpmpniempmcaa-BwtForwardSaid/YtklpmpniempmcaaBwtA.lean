/- bwt.longerSuffixes: a contract. -/
import Derived.Test.YtklpmpniempmcaaArr
import Derived.Test.YtklpmpniempmcaaBwtQ
import Derived.Test.YtklpmpniempmcaaSufE
set_option linter.unusedSimpArgs false
set_option linter.unusedVariables false
namespace Go.Proofs.Ytklpmpniempmcaa
open Go.RowKit Pl
attribute [local go_sem ↓] loadArr_eq allocArr_eq idxArr_eq
attribute [local go_sem] run_allocArr
set_option maxHeartbeats 8000000 in
set_option maxRecDepth 100000 in
theorem longer_any (v : Value) (B : List Nat) (w : World) (hv : IsBytes w v B) (N : Nat) (hN : B.length = N) (hB : N ≤ 1000000) :
    Calls Try.prog 25 #[v] w fun e w' => ∃ g, e = .returned (.slice (some ⟨g, 0, none⟩) N N) ∧ w.heap.size ≤ g ∧ Blk w' g 3 (i64s (fnL N (lf B))) ∧ Below w.heap.size w w' := by
  obtain ⟨a, cap, rfl, hcap, hmax⟩ := hv.slice
  have HX := Lib.hid hv.1
  rw [hN] at hv hcap ⊢
  have HV := Lib.hid hv
  have HN := Lib.hid hN
  clear hv hN
  obtain ⟨i0, hi, hz0, hz1, hz2⟩ := infoI_parts infoI
  have Hi := Lib.hid hi
  have Hz0 := Lib.hid hz0
  have Hz1 := Lib.hid hz1
  have Hz2 := Lib.hid hz2
  clear hi hz0 hz1 hz2
  go_enter Try.func25, Try.ntmps25
  go_wp2_with fail
  have HA0 := Lib.hid (arr_new w)
  have HB0 : Hid (Below w.heap.size w (w.alloc (.cells zArr.toArray 38))) := Lib.hid ((Below.refl _ _).alloc (Nat.le_refl _) _)
  go_loopw [15] (fun x wr => ∃ i : Nat, i ≤ N ∧ x = .int .i64 i ∧ Blk wr w.heap.size 38 (i64s (fnL 256 (cN B i))) ∧ Below w.heap.size w wr) (fun x _ => N - (intOf x).toNat)
  case atStart => exact ⟨0, by omega, rfl, HA0.out, HB0.out⟩
  case round =>
    obtain ⟨i, hi, rfl, hb, hbe⟩ := hrel
    have HK := Lib.hid hb
    have HB := Lib.hid hbe
    clear hb hbe HA0 HB0
    by_cases hlt : i < N
    · obtain ⟨b1, o1, q1, e1, -, -, -, hx1⟩ := (HV.out.below HB.out).cells (by rw [HN.out]; omega)
      simp only [Value.slice.injEq, Option.some.injEq] at e1
      obtain ⟨rfl, -, rfl⟩ := e1
      have d1 := hx1 i (by rw [HN.out]; exact hlt)
      have hx := getD_lt HX.out i
      have HS := Lib.hid (cN_same B i)
      have HO := Lib.hid (fun x => @cN_other B i x)
      generalize B.getD i 0 = x at *
      have c0 := HK.out.cell (i64s_get (fnL 256 (cN B i)) x (by rw [fnL_length]; exact hx))
      rw [fnL_get _ hx] at c0
      have f0 := HK.out.frozen x
      have hcl := cN_le B i x
      have hset := HK.out.set x (.int .i64 ((cN B i x : Int) + 1))
      rw [i64s_setA, fnL_set (g := cN B (i + 1)) (fun _ => by rw [HS.out]; omega) (fun y _ hne => HO.out y hne)] at hset
      have HSET := Lib.hid hset
      have HBS := Lib.hid (HB.out.setCell (p := ⟨w.heap.size, x, none⟩) (by simp) (.int .i64 ((cN B i x : Int) + 1)))
      generalize cN B i x = c at *
      clear hx1 hset
      go_wp2_with fail
      go_roundw
      case rel => exact ⟨i + 1, by omega, by go_num, HSET.out, HBS.out⟩
      case measure => simp [intOf]; omega
    · obtain rfl : i = N := by omega
      obtain ⟨wo, hwo⟩ : ∃ wo : World, wo = wr := ⟨_, rfl⟩
      subst hwo
      have hl0 := HK.out.lt
      obtain ⟨K, hK⟩ : ∃ K, K = fnL 256 (cN B i) := ⟨_, rfl⟩
      rw [← hK] at HK
      have HKL : Hid (K.length = 256) := Lib.hid (by rw [hK, fnL_length])
      have HKG : Hid (∀ x, x < 256 → K.getD x 0 = (cN B i x : Int)) := Lib.hid fun x h => by rw [hK, fnL_get _ h]
      clear hK
      have hload := run_loadArr (HK.out.alloc (.cells zArr.toArray 38)) HKL.out
      have HA1 : Hid (Blk (wo.alloc (.cells zArr.toArray 38)) wo.heap.size 38 (i64s (fnL 256 fun y => if y < 0 then stN B y else 0))) := Lib.hid (arr_new wo)
      have HB1 : Hid (Below w.heap.size w (wo.alloc (.cells zArr.toArray 38))) := Lib.hid (HB.out.alloc (by omega) _)
      clear HK
      go_wp2_with fail
      clear hload
      go_loopw [7, 26] (fun f x wr => ∃ k : Nat, k ≤ 256 ∧ x = .int .i64 k ∧ f = .int .i64 (stN B k) ∧ Blk wr wo.heap.size 38 (i64s (fnL 256 fun y => if y < k then stN B y else 0)) ∧ Below w.heap.size w wr) (fun _ x _ => 256 - (intOf x).toNat)
      case atStart => exact ⟨0, by omega, rfl, by rw [stN_zero]; rfl, HA1.out, HB1.out⟩
      case round =>
        obtain ⟨k, hk, rfl, rfl, hb, hbe⟩ := hrel
        have HK := Lib.hid hb
        have HB2 := Lib.hid hbe
        clear hb hbe HA1 HB1
        by_cases hlt2 : k < 256
        · have hix := fun w => run_idxArr w HKL.out hlt2
          rw [HKG.out k hlt2] at hix
          have HS : Hid (stN B (k + 1) = stN B k + cN B i k) := Lib.hid (by rw [stN_succ, HN.out])
          have hs1 := stN_le B k
          have hs2 := cN_le B i k
          rw [HN.out] at hs1
          have c0 := HK.out.cell (i64s_get (fnL 256 fun y => if y < k then stN B y else 0) k (by rw [fnL_length]; exact hlt2))
          have f0 := HK.out.frozen k
          have hset := HK.out.set k (.int .i64 (stN B k : Int))
          rw [i64s_setA, fnL_set (g := fun y => if y < k + 1 then stN B y else 0) (fun _ => by rw [if_pos (by omega)]) (fun y _ hne => by
            by_cases e : y < k
            · rw [if_pos e, if_pos (by omega)]
            · rw [if_neg e, if_neg (by omega)])] at hset
          have HSET := Lib.hid hset
          have HBS := Lib.hid (HB2.out.setCell (p := ⟨wo.heap.size, k, none⟩) (by simp; omega) (.int .i64 (stN B k : Int)))
          generalize (fnL 256 fun y => if y < k then stN B y else 0).getD k 0 = z at *
          generalize stN B k = s at *
          generalize cN B i k = c at *
          clear hset
          go_wp2_with fail
          go_roundw
          case rel => exact ⟨k + 1, by omega, by go_num, by rw [HS.out]; go_num, HSET.out, HBS.out⟩
          case measure => simp [intOf]; omega
        · have hk256 : k = 256 := by omega
          obtain ⟨wp, hwp⟩ : ∃ wp : World, wp = wr := ⟨_, rfl⟩
          subst hwp
          have HK2 : Hid (Blk wp wo.heap.size 38 (i64s (fnL 256 fun y => stN B y + cN B 0 y))) := Lib.hid (by
            have := HK.out
            rw [fnL_congr (g := fun y => stN B y + cN B 0 y) fun y hy => by rw [if_pos (by omega)]; rfl] at this
            exact this)
          have hl1 := HK.out.lt
          clear HK
          go_wp2_with (at_make; refine wpList_make_full _ rfl _ _ 25 rfl wp.heap.size 3 i0 (.int .i64 0) 1 Try.underlying25 Hi.out Hz0.out Hz1.out .i64 .i64 _ _ i rfl rfl (by first | rfl | (simp; done) | omega) (by first | rfl | (simp; done) | omega) (by rw [Hz2.out]; omega) (by unfold maxLen; omega) (Nat.le_refl _) ?_; intro w4 hown hgr)
          have HG4 : Hid (Blk w4 wp.heap.size 3 (i64s (fnL i fun j => if j < 0 then lf B j else 0))) := Lib.hid (made_ints hown)
          have HB4 : Hid (Below w.heap.size w w4) := Lib.hid (HB2.out.grown hgr HB2.out.size (by simp))
          have HK4 : Hid (Blk w4 wo.heap.size 38 (i64s (fnL 256 fun y => stN B y + cN B 0 y))) := Lib.hid (HK2.out.grown hgr (by simp))
          have hsz := HB2.out.size
          clear hown hgr HK2 HB2
          go_wp2_with fail
          go_loopw [42] (fun x wr => ∃ j : Nat, j ≤ i ∧ x = .int .i64 j ∧ Blk wr wp.heap.size 3 (i64s (fnL i fun y => if y < j then lf B y else 0)) ∧ Blk wr wo.heap.size 38 (i64s (fnL 256 fun y => stN B y + cN B j y)) ∧ Below w.heap.size w wr) (fun x _ => i - (intOf x).toNat)
          case atStart => exact ⟨0, by omega, rfl, HG4.out, HK4.out, HB4.out⟩
          case round =>
            obtain ⟨j, hj, rfl, hb, hb2, hbe⟩ := hrel
            have HG := Lib.hid hb
            have HK := Lib.hid hb2
            have HB5 := Lib.hid hbe
            clear hb hb2 hbe HG4 HK4 HB4
            by_cases hlt3 : j < i
            · obtain ⟨b1, o1, q1, e1, -, -, -, hx1⟩ := (HV.out.below HB5.out).cells (by rw [HN.out]; omega)
              simp only [Value.slice.injEq, Option.some.injEq] at e1
              obtain ⟨rfl, -, rfl⟩ := e1
              have d1 := hx1 j (by rw [HN.out]; exact hlt3)
              have hx := getD_lt HX.out j
              have HS := Lib.hid (cN_same B j)
              have HO := Lib.hid (fun x => @cN_other B j x)
              have hsp := lf_split (l := B) (k := j) (by rw [HN.out]; exact hlt3)
              generalize B.getD j 0 = x at *
              have c0 := HK.out.cell (i64s_get (fnL 256 fun y => stN B y + cN B j y) x (by rw [fnL_length]; exact hx))
              rw [fnL_get _ hx, ← hsp] at c0
              have f0 := HK.out.frozen x
              have c1 := HG.out.cell (i64s_get (fnL i fun y => if y < j then lf B y else 0) j (by rw [fnL_length]; exact hlt3))
              have f1 := HG.out.frozen j
              have hlr := (lf_range (l := B) (k := j) (by rw [HN.out]; exact hlt3)).2
              rw [HN.out] at hlr
              have hne : wp.heap.size ≠ wo.heap.size := by omega
              have hset := (HG.out.set j (.int .i64 (lf B j : Int))).setOther (p := ⟨wo.heap.size, x, none⟩) hne (.int .i64 ((lf B j : Int) + 1))
              rw [i64s_setA, fnL_set (g := fun y => if y < j + 1 then lf B y else 0) (fun _ => by rw [if_pos (by omega)]) (fun y _ hne => by
                by_cases e : y < j
                · rw [if_pos e, if_pos (by omega)]
                · rw [if_neg e, if_neg (by omega)])] at hset
              have hset2 := (HK.out.setOther (p := ⟨wp.heap.size, j, none⟩) (fun e => hne e.symm) (.int .i64 (lf B j : Int))).set x (.int .i64 ((lf B j : Int) + 1))
              rw [i64s_setA, fnL_set (g := fun y => stN B y + cN B (j + 1) y) (fun _ => by rw [HS.out, hsp]; omega) (fun y _ hne => by rw [HO.out y hne])] at hset2
              have HSET := Lib.hid hset
              have HSET2 := Lib.hid hset2
              have HBS := Lib.hid ((HB5.out.setCell (p := ⟨wp.heap.size, j, none⟩) (by simp; omega) (.int .i64 (lf B j : Int))).setCell (p := ⟨wo.heap.size, x, none⟩) (by simp; omega) (.int .i64 ((lf B j : Int) + 1)))
              generalize (fnL i fun y => if y < j then lf B y else 0).getD j 0 = z at *
              generalize lf B j = f at *
              clear hx1 hset hset2 hsp
              go_wp2_with fail
              go_roundw
              case rel => exact ⟨j + 1, by omega, by go_num, HSET.out, HSET2.out, HBS.out⟩
              case measure => simp [intOf]; omega
            · obtain rfl : j = i := by omega
              have HG5 : Hid (Blk wr wp.heap.size 3 (i64s (fnL j (lf B)))) := Lib.hid (by
                have := HG.out
                rw [fnL_congr (g := lf B) fun y hy => if_pos hy] at this
                exact this)
              clear HG HK
              go_wp2_with fail
              go_ret
              exact ⟨_, rfl, hsz, HG5.out, HB5.out⟩
end Go.Proofs.Ytklpmpniempmcaa
