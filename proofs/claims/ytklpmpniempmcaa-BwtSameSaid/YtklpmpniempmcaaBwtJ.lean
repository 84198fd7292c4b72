/- BwtSame, walked. -/
import Derived.Test.YtklpmpniempmcaaBwtF
import Derived.Test.YtklpmpniempmcaaSufBA
set_option linter.unusedSimpArgs false
set_option linter.unusedVariables false
namespace Go.Proofs.Ytklpmpniempmcaa
open Go.RowKit Pl
namespace Pl
theorem filt_range : ∀ n : Nat, (List.range (n + 1)).filter (fun o => o != 0) = (List.range n).map (fun o => o + 1) := by
  intro n
  rw [List.range_succ_eq_map, List.filter_cons]
  simp
theorem fw_perm {B R : List Nat} (h : IsSA B R) : (fwL B (B.length :: R)).Perm B := by
  by_cases h0 : B.length = 0
  · have hB : B = [] := List.eq_nil_of_length_eq_zero h0
    have hR : R = [] := List.eq_nil_of_length_eq_zero (by rw [sa_length h, h0])
    subst hB hR
    simp [fwL]
  · obtain ⟨n, hn⟩ : ∃ n, B.length = n + 1 := ⟨B.length - 1, by omega⟩
    have hp := sa_perm h
    rw [hn] at hp
    have h1 : ((B.length :: R).filter (fun o => o != 0)).Perm ((List.range (n + 1)).map (fun o => o + 1)) := by
      have hb : (B.length != 0) = true := by rw [bne_iff_ne]; exact h0
      rw [List.filter_cons, if_pos hb]
      have h2 := hp.filter (fun o => o != 0)
      rw [filt_range] at h2
      rw [hn, List.range_succ, List.map_append]
      exact (h2.cons (n + 1)).trans (List.perm_append_singleton (n + 1) ((List.range n).map (fun o => o + 1))).symm
    have h3 := h1.map (fun o => B.getD (o - 1) 0)
    rw [List.map_map] at h3
    have h4 : (List.range (n + 1)).map ((fun o => B.getD (o - 1) 0) ∘ (fun o => o + 1)) = B := by
      refine List.ext_getElem (by simp [hn]) fun i a b => ?_
      simp [List.getD, b]
    rw [h4] at h3
    exact h3
theorem fw_cN {B R : List Nat} (h : IsSA B R) (x : Nat) : cN (fwL B (B.length :: R)) (fwL B (B.length :: R)).length x = cN B B.length x := by
  unfold cN
  rw [cnt_list (fun y => decide (y = x)), cnt_list (fun y => decide (y = x))]
  exact (fw_perm h).countP_eq _
theorem cN_mono (l : List Nat) {i j : Nat} (h : i ≤ j) (x : Nat) : cN l i x ≤ cN l j x := by
  induction j with
  | zero => rw [show i = 0 by omega]; exact Nat.le_refl _
  | succ j ih =>
    by_cases e : i = j + 1
    · rw [e]; exact Nat.le_refl _
    · have := ih (by omega)
      have h2 : cN l (j + 1) x = cN l j x + (decide (l.getD j 0 = x)).toNat := rfl
      omega
theorem at_range {B R : List Nat} {a : Nat} (h : IsSA B R) (ha : fwAt (B.length :: R) = a) : a ≤ B.length ∧ (0 < B.length → 0 < a) := by
  obtain ⟨a', h1, h2, h3⟩ := at_ex h
  obtain rfl : a' = a := by rw [← ha, ← h3]
  refine ⟨h1, fun h0 => ?_⟩
  apply Classical.byContradiction
  intro hh
  rw [show a' = 0 by omega, ord_get_zero] at h2
  omega
end Pl
attribute [local go_sem ↓] loadArr_eq allocArr_eq idxArr_eq
attribute [local go_sem] run_allocArr
set_option maxHeartbeats 8000000 in
set_option maxRecDepth 100000 in
theorem bwtSame_walk (a : Option Addr) (len cap : Nat) (z : List Int) (w : World) (hr : IsRow .u8 w a len cap z) :
    Calls Try.prog 7 #[.slice a len cap] w fun e w' => e = .returned (.bool true) ∧ Below w.heap.size w w' := by
  obtain ⟨hV, hlen⟩ := isBytes_row hr
  have HV := Lib.hid hV
  clear hr hV
  go_enter Try.func7, Try.ntmps7
  go_wp2_with fail
  refine (begun9_any _).mono ?_
  rintro e w1 ⟨rfl, hb1⟩
  have HV1 := Lib.hid (HV.out.below hb1)
  have HB1 := Lib.hid hb1
  clear hb1 HV
  go_wp2_with fail
  refine (short_any _ _ 400 _ HV1.out (by omega)).mono ?_
  rintro e w2 ⟨v2, rfl, hi2, rfl⟩
  obtain ⟨B, hB⟩ : ∃ S, S = (bytesZ z len).take 400 := ⟨_, rfl⟩
  have hBl : B.length ≤ 400 := by rw [hB, List.length_take]; omega
  rw [← hB] at hi2
  obtain ⟨N, hN⟩ : ∃ n, B.length = n := ⟨_, rfl⟩
  obtain ⟨a2, c2, hv2, hc2, hm2⟩ := hi2.slice
  rw [hN] at hv2 hBl hc2
  subst hv2
  have HS := Lib.hid hi2
  have HX := Lib.hid hi2.1
  have HN := Lib.hid hN
  clear hi2 hB HV1 hlen hN
  go_wp2_with fail
  refine (forward_any _ B N _ HS.out HN.out (by omega)).mono ?_
  rintro e w3 ⟨R, sp3, c3, p, rfl, hR, hat, hi3, hb3⟩
  have hpr := at_range (a := p) hR (by rw [HN.out]; exact hat)
  rw [HN.out] at hpr
  obtain ⟨hpN, hp0⟩ := hpr
  have HCN := Lib.hid (fw_cN hR)
  have hLl := fw_length hR
  rw [HN.out] at HCN hLl
  obtain ⟨L, hL⟩ : ∃ L, fwL B (N :: R) = L := ⟨_, rfl⟩
  rw [hL] at hi3 HCN hLl
  rw [hLl] at HCN
  have HLL := Lib.hid hLl
  have HI3 := Lib.hid hi3
  have HS3 := Lib.hid (HS.out.below hb3)
  have HB3 := Lib.hid (HB1.out.trans (hb3.mono HB1.out.size))
  clear hR hat hi3 hb3 hL hLl HS HB1
  go_wp2_with fail
  have HA0 : Hid (Blk (w3.alloc (.cells zArr.toArray 38)) w3.heap.size 38 (i64s (fnL 256 (cN B 0)))) := Lib.hid (arr_new w3)
  have HB0 : Hid (Below w3.heap.size w3 (w3.alloc (.cells zArr.toArray 38))) := Lib.hid ((Below.refl _ _).alloc (Nat.le_refl _) _)
  go_loopw [7] (fun x wr => ∃ i : Nat, i ≤ N ∧ x = .int .i64 i ∧ Blk wr w3.heap.size 38 (i64s (fnL 256 (cN B i))) ∧ Below w3.heap.size w3 wr) (fun x _ => N - (intOf x).toNat)
  case atStart => exact ⟨0, by omega, rfl, HA0.out, HB0.out⟩
  case round =>
    obtain ⟨i, hi, rfl, hb, hbe⟩ := hrel
    have HK := Lib.hid hb
    have HB := Lib.hid hbe
    clear hb hbe HA0 HB0
    by_cases hlt : i < N
    · obtain ⟨b1, o1, q1, e1, -, -, -, hx1⟩ := (HS3.out.below HB.out).cells (by rw [HN.out]; omega)
      simp only [Value.slice.injEq, Option.some.injEq] at e1
      obtain ⟨rfl, -, rfl⟩ := e1
      have d1 := hx1 i (by rw [HN.out]; exact hlt)
      have hx := getD_lt HX.out i
      have HSS := Lib.hid (cN_same B i)
      have HO := Lib.hid (fun x => @cN_other B i x)
      generalize B.getD i 0 = x at *
      have c0 := HK.out.cell (i64s_get (fnL 256 (cN B i)) x (by rw [fnL_length]; exact hx))
      rw [fnL_get _ hx] at c0
      have f0 := HK.out.frozen x
      have hcl := cN_le B i x
      have hset := HK.out.set x (.int .i64 ((cN B i x : Int) + 1))
      rw [i64s_setA, fnL_set (g := cN B (i + 1)) (fun _ => by rw [HSS.out]; omega) (fun y _ hne => HO.out y hne)] at hset
      have HSET := Lib.hid hset
      have HBS := Lib.hid (HB.out.setCell (p := ⟨w3.heap.size, x, none⟩) (by simp) (.int .i64 ((cN B i x : Int) + 1)))
      generalize cN B i x = c at *
      clear hx1 hset
      go_wp2_with fail
      go_roundw
      case rel => exact ⟨i + 1, by omega, by go_num, HSET.out, HBS.out⟩
      case measure => simp [intOf]; omega
    · obtain rfl : i = N := by omega
      have HK2 : Hid (Blk wr w3.heap.size 38 (i64s (fnL 256 fun x => cN B i x - cN L 0 x))) := Lib.hid HK.out
      clear HK
      go_wp2_with fail
      go_loopw [8] (fun x wq => ∃ k : Nat, k ≤ i ∧ x = .int .i64 k ∧ Blk wq w3.heap.size 38 (i64s (fnL 256 fun x => cN B i x - cN L k x)) ∧ Below w3.heap.size w3 wq) (fun x _ => i - (intOf x).toNat)
      case atStart => exact ⟨0, by omega, rfl, HK2.out, HB.out⟩
      case round =>
        obtain ⟨k, hk, rfl, hb, hbe⟩ := hrel
        have HK := Lib.hid hb
        have HB4 := Lib.hid hbe
        clear hb hbe HK2 HB
        by_cases hlt2 : k < i
        · obtain ⟨b1, o1, q1, e1, -, -, -, hx1⟩ := (HI3.out.below HB4.out).cells (by rw [HLL.out]; omega)
          rw [HLL.out] at e1 hx1
          simp only [Value.slice.injEq, Option.some.injEq] at e1
          obtain ⟨rfl, -, rfl⟩ := e1
          have d1 := hx1 k hlt2
          have hx := getD_lt HI3.out.1 k
          have hss := cN_same L k
          have HO := Lib.hid (fun x => @cN_other L k x)
          have hmn := cN_mono L (show k + 1 ≤ i by omega) (L.getD k 0)
          rw [HCN.out, hss] at hmn
          have hcl := cN_le B i (L.getD k 0)
          generalize L.getD k 0 = x at *
          have c0 := HK.out.cell (i64s_get (fnL 256 fun x => cN B i x - cN L k x) x (by rw [fnL_length]; exact hx))
          rw [fnL_get _ hx] at c0
          have f0 := HK.out.frozen x
          obtain ⟨c, hc⟩ : ∃ c, c = cN B i x - cN L k x := ⟨_, rfl⟩
          rw [← hc] at c0
          have hset := HK.out.set x (.int .i64 ((c : Int) - 1))
          rw [i64s_setA, fnL_set (g := fun x => cN B i x - cN L (k + 1) x) (fun _ => by show _ = ((cN B i x - cN L (k + 1) x : Nat) : Int); rw [hss]; omega) (fun y _ hne => by show cN B i y - cN L (k + 1) y = _; rw [HO.out y hne])] at hset
          have HSET := Lib.hid hset
          have HBS := Lib.hid (HB4.out.setCell (p := ⟨w3.heap.size, x, none⟩) (by simp) (.int .i64 ((c : Int) - 1)))
          have hc400 : c ≤ 400 := by omega
          clear hx1 hset hmn hss hc hcl
          go_wp2_with fail
          go_roundw
          case rel => exact ⟨k + 1, by omega, by go_num, HSET.out, HBS.out⟩
          case measure => simp [intOf]; omega
        · obtain rfl : k = i := by omega
          have HK5 : Hid (Blk wr w3.heap.size 38 (i64s (fnL 256 fun x => 0))) := Lib.hid (by
            have := HK.out
            rw [fnL_congr (g := fun x => 0) fun x _ => by rw [HCN.out]; omega] at this
            exact this)
          have HB5 := Lib.hid (HB3.out.trans (HB4.out.mono HB3.out.size))
          clear HK HB4 HB3
          go_wp2_with fail
          obtain ⟨wo, hwo⟩ : ∃ wo : World, wo = wr := ⟨_, rfl⟩
          subst hwo
          go_loopw [9] (fun x wq => ∃ c : Nat, c ≤ 256 ∧ x = .int .i64 c ∧ wq = wo) (fun x _ => 256 - (intOf x).toNat)
          case atStart => exact ⟨0, by omega, rfl, rfl⟩
          case round =>
            obtain ⟨c, hc, rfl, rfl⟩ := hrel
            by_cases hlt3 : c < 256
            · have c0 := HK5.out.cell (i64s_get (fnL 256 fun x => 0) c (by rw [fnL_length]; exact hlt3))
              rw [fnL_get _ hlt3] at c0
              have hz : (((0 : Nat) : Int) != (0 : Int)) = false := rfl
              have hz2 : ((0 : Int) != (0 : Int)) = false := rfl
              go_wp2_with fail
              go_roundw
              case rel => exact ⟨c + 1, by omega, by go_num, trivial⟩
              case measure => simp [intOf]; omega
            · have hc256 : c = 256 := by omega
              have q1 : ((k : Int) == (k : Int)) = true := beq_t rfl
              have hpI : (p : Int) ≤ (k : Int) := by omega
              by_cases hk0 : k = 0
              · subst hk0
                obtain rfl : p = 0 := by omega
                go_wp2_with fail
                go_ret
                exact ⟨rfl, HB5.out⟩
              · have hp1 := hp0 (by omega)
                have h1k : (1 : Int) ≤ (k : Int) := by omega
                have h1p : (1 : Int) ≤ (p : Int) := by omega
                go_wp2_with fail
                go_ret
                exact ⟨rfl, HB5.out⟩
end Go.Proofs.Ytklpmpniempmcaa
