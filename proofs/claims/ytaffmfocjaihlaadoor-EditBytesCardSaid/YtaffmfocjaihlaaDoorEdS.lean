/- The verifier's has, range50, MayEdit: contracts. -/
import Derived.Test.YtaffmfocjaihlaaDoorEdB
import Derived.Deep.DeepCutAuto
set_option linter.unusedSimpArgs false
set_option linter.unusedVariables false
set_option maxRecDepth 100000
namespace Go.Proofs.YtaffmfocjaihlaaDoor.S18
open Go.RowKit
attribute [local go_sem ↓] loadS_eq storeS_eq loadP_eq storeP_eq loadE_eq storeE_eq sliceN_eq
set_option maxHeartbeats 4000000 in
theorem has_any {D : Nat → Prop} (v : Value) (L : List Int) (x : Int) (w : World) (hv : IsNums D w v L) :
    Calls Tryd.prog 19 #[v, .int .i64 x] w fun e w' => e = .returned (.bool (L.contains x)) ∧ w' = w := by
  obtain ⟨a, cap, rfl, hcap, hmax⟩ := RowD.slice hv
  have HV := Lib.hid hv
  clear hv
  unfold maxLen at hmax
  go_enter Tryd.func19, Tryd.ntmps19
  go_wp2
  go_loopw [5] (fun y wr => ∃ (i : Nat), i ≤ L.length ∧ y = .int .i64 i ∧ (L.drop i).contains x = L.contains x ∧ wr = w) (fun y _ => L.length - (intOf y).toNat)
  case atStart => exact ⟨0, by omega, rfl, rfl, rfl⟩
  case round =>
    obtain ⟨i, hi, rfl, he, rfl⟩ := hrel
    have HE := Lib.hid he
    clear he
    by_cases hlt : i < L.length
    · obtain ⟨b, off, rfl, _, _, hc⟩ := IsNums.cell HV.out hlt
      have HD := Lib.hid (drop_consI hlt)
      obtain ⟨y, hy⟩ : ∃ y, L.getD i 0 = y := ⟨_, rfl⟩
      rw [hy] at hc
      have HY := Lib.hid hy
      clear hy
      by_cases hxy : y = x
      · have q : (y == x) = true := beq_t hxy
        have hx2 : L.contains x = true := by rw [← HE.out, HD.out, HY.out, hxy]; simp
        have HX2 := Lib.hid hx2
        clear hx2
        go_wp2
        go_ret
        exact ⟨by rw [HX2.out]; rfl, rfl⟩
      · have q : (y == x) = false := beq_f hxy
        have hne : (L.drop (i + 1)).contains x = L.contains x := by
          rw [← HE.out, HD.out, HY.out, List.contains_cons]
          have : (x == y) = false := beq_f fun h => hxy h.symm
          simp [this]
        have HNE := Lib.hid hne
        clear hne
        go_wp2
        go_roundw
        case rel => exact ⟨i + 1, hlt, by go_num, HNE.out, by first | rfl | trivial⟩
        case measure => simp [intOf]; omega
    · obtain rfl : i = L.length := by omega
      go_wp2
      go_ret
      exact ⟨by rw [← HE.out, List.drop_length]; rfl, rfl⟩
set_option maxHeartbeats 4000000 in
theorem range50_any {D : Nat → Prop} (v : Value) (L : List Int) (w : World) (hv : IsNums D w v L) :
    Calls Tryd.prog 20 #[v] w fun e w' => e = .returned (.bool (L.all numB)) ∧ w' = w := by
  obtain ⟨a, cap, rfl, hcap, hmax⟩ := RowD.slice hv
  have HV := Lib.hid hv
  clear hv
  unfold maxLen at hmax
  go_enter Tryd.func20, Tryd.ntmps20
  go_wp2
  go_loopw [3] (fun y wr => ∃ (i : Nat), i ≤ L.length ∧ y = .int .i64 i ∧ (L.drop i).all numB = L.all numB ∧ wr = w) (fun y _ => L.length - (intOf y).toNat)
  case atStart => exact ⟨0, by omega, rfl, rfl, rfl⟩
  case round =>
    obtain ⟨i, hi, rfl, he, rfl⟩ := hrel
    have HE := Lib.hid he
    clear he
    by_cases hlt : i < L.length
    · obtain ⟨b, off, rfl, _, _, hc⟩ := IsNums.cell HV.out hlt
      have hx : L[i]? = some (L.getD i 0) := by simp [List.getD, hlt]
      obtain ⟨y, hy⟩ : ∃ y, L.getD i 0 = y := ⟨_, rfl⟩
      rw [hy] at hc hx
      have HX := Lib.hid hx
      clear hy hx
      by_cases h1 : y < 1
      · have HQ := Lib.hid (all_here (f := numB) HX.out (inB_1 (by omega)))
        go_wp2
        go_ret
        exact ⟨by rw [← HE.out, HQ.out]; rfl, rfl⟩
      · by_cases h2 : 1125899906842624 < y
        · have HQ := Lib.hid (all_here (f := numB) HX.out (inB_2 (by omega)))
          go_wp2
          go_ret
          exact ⟨by rw [← HE.out, HQ.out]; rfl, rfl⟩
        · have HN := Lib.hid (all_step (f := numB) HX.out (inB_3 (by omega) (by omega)))
          go_wp2
          go_roundw
          case rel => exact ⟨i + 1, hlt, by go_num, by rw [HN.out, HE.out], by first | rfl | trivial⟩
          case measure => simp [intOf]; omega
    · obtain rfl : i = L.length := by omega
      go_wp2
      go_ret
      exact ⟨by rw [← HE.out, List.drop_length]; rfl, rfl⟩
theorem segB_iff {s : SG} : segB s = true ↔ 1 ≤ s.num ∧ s.num ≤ 1125899906842624 ∧ 0 ≤ s.group ∧ s.group ≤ 1125899906842624 ∧ 0 ≤ s.member ∧ s.member ≤ 3 ∧ 0 ≤ s.size ∧ s.size ≤ 4194304 := by
  unfold segB numB sizB
  simp only [Bool.and_eq_true, inB_iff]
  constructor
  · intro ⟨⟨⟨⟨h5, h6⟩, h7, h8⟩, h9, h10⟩, h11, h12⟩
    exact ⟨h5, h6, h7, h8, h9, h10, h11, h12⟩
  · intro ⟨h5, h6, h7, h8, h9, h10, h11, h12⟩
    exact ⟨⟨⟨⟨h5, h6⟩, h7, h8⟩, h9, h10⟩, h11, h12⟩
theorem edB_parts {e : ED} (h1 : 0 ≤ e.next ∧ e.next ≤ 1125899906842624 ∧ 0 ≤ e.seq ∧ e.seq ≤ 1125899906842624) (h2 : e.adds.length ≤ 60 ∧ e.dels.length ≤ 60 ∧ e.pars.length ≤ 60 ∧ e.drops.length ≤ 60) : edB e = (e.adds.all segB && e.dels.all numB && e.pars.all parB && e.drops.all numB) := by
  unfold edB
  rw [inB_3 h1.1 h1.2.1, inB_3 h1.2.2.1 h1.2.2.2, allB_short (by omega), allB_short (by omega), allB_short (by omega), allB_short (by omega)]
  simp
theorem edB_no {e : ED} (h : ¬ ((0 ≤ e.next ∧ e.next ≤ 1125899906842624 ∧ 0 ≤ e.seq ∧ e.seq ≤ 1125899906842624) ∧ e.adds.length ≤ 60 ∧ e.dels.length ≤ 60 ∧ e.pars.length ≤ 60 ∧ e.drops.length ≤ 60)) : edB e = false := by
  cases hb : edB e with
  | false => rfl
  | true =>
    rw [edB_iff] at hb
    obtain ⟨h1, h2, h3, h4, h5, h6⟩ := hb
    rw [inB_iff] at h1 h2
    rw [allB_iff] at h3 h4 h5 h6
    exact absurd ⟨⟨h1.1, h1.2, h2.1, h2.2⟩, h3.1, h4.1, h5.1, h6.1⟩ h
set_option maxHeartbeats 32000000 in
theorem mayEdit_any {D : Nat → Prop} (e : ED) (a1 : Option Addr) (c1 : Nat) (a2 : Option Addr) (c2 : Nat) (a3 : Option Addr) (c3 : Nat) (a4 : Option Addr) (c4 : Nat) (w : World) (he : EdIn D w e a1 c1 a2 c2 a3 c3 a4 c4) : Calls Tryd.prog 11 #[.agg #[.int .i64 e.next, .int .i64 e.seq, .slice a1 e.adds.length c1, .slice a2 e.dels.length c2, .slice a3 e.pars.length c3, .slice a4 e.drops.length c4]] w fun r w' => r = .returned (.bool (edB e)) ∧ Below w.heap.size w w' := by
  have hb1 : Below w.heap.size w (w.alloc (.cells #[.int .i64 e.next, .int .i64 e.seq, .slice a1 e.adds.length c1, .slice a2 e.dels.length c2, .slice a3 e.pars.length c3, .slice a4 e.drops.length c4] 26)) := (Below.refl _ _).alloc (Nat.le_refl _) _
  have hk1 := Blk.new w 26 (edL e a1 c1 a2 c2 a3 c3 a4 c4)
  obtain ⟨w1, hw1⟩ : ∃ w1, w.alloc (.cells #[.int .i64 e.next, .int .i64 e.seq, .slice a1 e.adds.length c1, .slice a2 e.dels.length c2, .slice a3 e.pars.length c3, .slice a4 e.drops.length c4] 26) = w1 := ⟨_, rfl⟩
  rw [hw1] at hb1
  have hk1' : Blk w1 w.heap.size 26 (edL e a1 c1 a2 c2 a3 c3 a4 c4) := by rw [← hw1]; exact hk1
  have hI := he.keep (keep_below hb1)
  have HI := Lib.hid hI
  have HB1 := Lib.hid hb1
  obtain ⟨m1, hm1⟩ : ∃ m, e.adds.length = m := ⟨_, rfl⟩
  obtain ⟨m2, hm2⟩ : ∃ m, e.dels.length = m := ⟨_, rfl⟩
  obtain ⟨m3, hm3⟩ : ∃ m, e.pars.length = m := ⟨_, rfl⟩
  obtain ⟨m4, hm4⟩ : ∃ m, e.drops.length = m := ⟨_, rfl⟩
  have hl1 : m1 ≤ 9223372036854775807 := by have h1 := RowD.cap hI.adds; unfold maxLen at h1; omega
  have hl3 : m3 ≤ 9223372036854775807 := by have h1 := RowD.cap hI.pars; unfold maxLen at h1; omega
  have HCB : Hid (∀ W, Below w1.heap.size w1 W → W.cell? ⟨w.heap.size, 0, none⟩ = some (.int .i64 e.next) ∧ W.cell? ⟨w.heap.size, 1, none⟩ = some (.int .i64 e.seq) ∧ W.cell? ⟨w.heap.size, 2, none⟩ = some (.slice a1 m1 c1) ∧ W.cell? ⟨w.heap.size, 3, none⟩ = some (.slice a2 m2 c2) ∧ W.cell? ⟨w.heap.size, 4, none⟩ = some (.slice a3 m3 c3) ∧ W.cell? ⟨w.heap.size, 5, none⟩ = some (.slice a4 m4 c4)) := Lib.hid fun W hW => by
    have hk := hk1'.below hW hk1'.lt
    rw [← hm1, ← hm2, ← hm3, ← hm4]
    exact ⟨hk.cell rfl, hk.cell rfl, hk.cell rfl, hk.cell rfl, hk.cell rfl, hk.cell rfl⟩
  have HM : Hid (e.adds.length = m1 ∧ e.dels.length = m2 ∧ e.pars.length = m3 ∧ e.drops.length = m4) := Lib.hid ⟨hm1, hm2, hm3, hm4⟩
  rw [hm1, hm2, hm3, hm4] at hw1 ⊢
  obtain ⟨nx, hnx⟩ : ∃ n, e.next = n := ⟨_, rfl⟩
  obtain ⟨sq, hsq⟩ : ∃ n, e.seq = n := ⟨_, rfl⟩
  have HNX : Hid (e.next = nx ∧ e.seq = sq) := Lib.hid ⟨hnx, hsq⟩
  rw [hnx, hsq] at HCB hw1 ⊢
  obtain ⟨d0, d1, d2, d3, d4, d5⟩ := HCB.out w1 (Below.refl _ _)
  clear hb1 hk1 hk1' hI he hm1 hm2 hm3 hm4 hnx hsq
  go_enter Tryd.func11, Tryd.ntmps11
  go_upto_region 1 with fail
  go_cut [49] (fun v wx => ∃ b, v = .bool b ∧ (b = false ↔ ((0 ≤ nx ∧ nx ≤ 1125899906842624 ∧ 0 ≤ sq ∧ sq ≤ 1125899906842624) ∧ m1 ≤ 60 ∧ m2 ≤ 60 ∧ m3 ≤ 60 ∧ m4 ≤ 60)) ∧ wx = w1)
  case first =>
    as_aux_lemma =>
      by_cases p0 : nx < 0
      · go_wp2_with fail
        go_meet
        case rel => exact ⟨_, rfl, ⟨fun h => by first | (cases h) | (simp at h; omega), fun h => by omega⟩, rfl⟩
      by_cases p1 : 1125899906842624 < nx
      · go_wp2_with fail
        go_meet
        case rel => exact ⟨_, rfl, ⟨fun h => by first | (cases h) | (simp at h; omega), fun h => by omega⟩, rfl⟩
      by_cases p2 : sq < 0
      · go_wp2_with fail
        go_meet
        case rel => exact ⟨_, rfl, ⟨fun h => by first | (cases h) | (simp at h; omega), fun h => by omega⟩, rfl⟩
      by_cases p3 : 1125899906842624 < sq
      · go_wp2_with fail
        go_meet
        case rel => exact ⟨_, rfl, ⟨fun h => by first | (cases h) | (simp at h; omega), fun h => by omega⟩, rfl⟩
      by_cases p4 : 60 < m1
      · go_wp2_with fail
        go_meet
        case rel => exact ⟨_, rfl, ⟨fun h => by first | (cases h) | (simp at h; omega), fun h => by omega⟩, rfl⟩
      by_cases p5 : 60 < m2
      · go_wp2_with fail
        go_meet
        case rel => exact ⟨_, rfl, ⟨fun h => by first | (cases h) | (simp at h; omega), fun h => by omega⟩, rfl⟩
      by_cases p6 : 60 < m3
      · go_wp2_with fail
        go_meet
        case rel => exact ⟨_, rfl, ⟨fun h => by first | (cases h) | (simp at h; omega), fun h => by omega⟩, rfl⟩
      by_cases p7 : 60 < m4
      · go_wp2_with fail
        go_meet
        case rel => exact ⟨_, rfl, ⟨fun h => by first | (cases h) | (simp at h; omega), fun h => by omega⟩, rfl⟩
      go_wp2_with fail
      go_meet
      case rel => exact ⟨_, rfl, ⟨fun _ => by omega, fun _ => by first | rfl | (simp; omega)⟩, rfl⟩
  case rest =>
  obtain ⟨b, rfl, hb, rfl⟩ := hcut
  have HBB := Lib.hid hb
  clear hb d0 d1 d2 d3 d4 d5
  cases b with
  | true =>
    have HNO : Hid (edB e = false) := Lib.hid (edB_no (by
      rw [HNX.out.1, HNX.out.2, HM.out.1, HM.out.2.1, HM.out.2.2.1, HM.out.2.2.2]
      exact fun h => by have := HBB.out.2 h; cases this))
    go_wp2
    go_ret
    exact ⟨by rw [HNO.out]; rfl, HB1.out⟩
  | false =>
    have HOK := Lib.hid (HBB.out.1 rfl)
    have HPT : Hid (edB e = (e.adds.all segB && e.dels.all numB && e.pars.all parB && e.drops.all numB)) := Lib.hid (edB_parts (by rw [HNX.out.1, HNX.out.2]; exact HOK.out.1) (by rw [HM.out.1, HM.out.2.1, HM.out.2.2.1, HM.out.2.2.2]; exact HOK.out.2))
    clear HBB
    obtain ⟨wb, hwb⟩ : ∃ v, v = wc := ⟨_, rfl⟩
    subst hwb
    go_wp2_with fail
    go_loopw [3] (fun y wr => ∃ i : Nat, i ≤ m1 ∧ y = .int .i64 i ∧ (e.adds.drop i).all segB = e.adds.all segB ∧ Below wb.heap.size wb wr) (fun y _ => m1 - (intOf y).toNat)
    case atStart => exact ⟨0, by omega, rfl, rfl, Below.refl _ _⟩
    case round =>
      obtain ⟨i, hi, rfl, hal, hb⟩ := hrel
      have HAL := Lib.hid hal
      have HB := Lib.hid hb
      obtain ⟨_, _, d2, _, d4, _⟩ := HCB.out wr hb
      have hzr := hb.size
      clear hal hb
      by_cases hlt : i < m1
      · obtain ⟨bk, off, x, c, rfl, _, _, hx, ⟨rfl, hsw⟩, hu⟩ := RowD.at (RowD.keep HI.out.adds (keep_below HB.out) fun _ _ h => h) (i := i) (by rw [HM.out.1]; exact hlt)
        have hld := run_loadS (w := wr) rfl hu
        have hN := Blk.new wr 45 (segL zS)
        have hA : Below wr.heap.size wr (wr.alloc (.cells #[.int .i64 0, .bool false, .int .i64 0, .int .i64 0, .int .i64 0, .int .u32 0] 45)) := (Below.refl _ _).alloc (Nat.le_refl _) _
        obtain ⟨w5, hst, HK5, HS5⟩ := putS x hN rfl
        simp only [segL, zS] at hst hld
        have hb5 : Below wr.heap.size wr w5 := hA.trans (Gr.below HS5.out hA.size (Nat.le_refl _))
        have HB5 : Hid (Below wb.heap.size wb w5) := Lib.hid (HB.out.trans (hb5.mono hzr))
        have HX := Lib.hid hx
        have k0 : w5.cell? ⟨wr.heap.size, 0, none⟩ = some (.int .i64 x.num) := HK5.out.cell rfl
        have k2 : w5.cell? ⟨wr.heap.size, 2, none⟩ = some (.int .i64 x.group) := HK5.out.cell rfl
        have k3 : w5.cell? ⟨wr.heap.size, 3, none⟩ = some (.int .i64 x.member) := HK5.out.cell rfl
        have k4 : w5.cell? ⟨wr.heap.size, 4, none⟩ = some (.int .i64 x.size) := HK5.out.cell rfl
        clear hN hA hu hx hb5 hsw HK5 HS5
        go_upto_region 7 with fail
        clear hst hld d2 d4
        go_cut [99] (fun v wx => ∃ b, v = .bool b ∧ (b = false ↔ (1 ≤ x.num ∧ x.num ≤ 1125899906842624 ∧ 0 ≤ x.group ∧ x.group ≤ 1125899906842624 ∧ 0 ≤ x.member ∧ x.member ≤ 3 ∧ 0 ≤ x.size ∧ x.size ≤ 4194304)) ∧ wx = w5)
        case first =>
          as_aux_lemma =>
            by_cases p0 : x.num < 1
            · go_wp2_with fail
              go_meet
              case rel => exact ⟨_, rfl, ⟨fun h => by first | (cases h) | (simp at h; omega), fun h => by omega⟩, rfl⟩
            by_cases p1 : 1125899906842624 < x.num
            · go_wp2_with fail
              go_meet
              case rel => exact ⟨_, rfl, ⟨fun h => by first | (cases h) | (simp at h; omega), fun h => by omega⟩, rfl⟩
            by_cases p2 : x.group < 0
            · go_wp2_with fail
              go_meet
              case rel => exact ⟨_, rfl, ⟨fun h => by first | (cases h) | (simp at h; omega), fun h => by omega⟩, rfl⟩
            by_cases p3 : 1125899906842624 < x.group
            · go_wp2_with fail
              go_meet
              case rel => exact ⟨_, rfl, ⟨fun h => by first | (cases h) | (simp at h; omega), fun h => by omega⟩, rfl⟩
            by_cases p4 : x.member < 0
            · go_wp2_with fail
              go_meet
              case rel => exact ⟨_, rfl, ⟨fun h => by first | (cases h) | (simp at h; omega), fun h => by omega⟩, rfl⟩
            by_cases p5 : 3 < x.member
            · go_wp2_with fail
              go_meet
              case rel => exact ⟨_, rfl, ⟨fun h => by first | (cases h) | (simp at h; omega), fun h => by omega⟩, rfl⟩
            by_cases p6 : x.size < 0
            · go_wp2_with fail
              go_meet
              case rel => exact ⟨_, rfl, ⟨fun h => by first | (cases h) | (simp at h; omega), fun h => by omega⟩, rfl⟩
            by_cases p7 : 4194304 < x.size
            · go_wp2_with fail
              go_meet
              case rel => exact ⟨_, rfl, ⟨fun h => by first | (cases h) | (simp at h; omega), fun h => by omega⟩, rfl⟩
            go_wp2_with fail
            go_meet
            case rel => exact ⟨_, rfl, ⟨fun _ => by omega, fun _ => by first | rfl | (simp; omega)⟩, rfl⟩
        case rest =>
        obtain ⟨b, rfl, hb, rfl⟩ := hcut
        rw [← segB_iff] at hb
        have HBB := Lib.hid hb
        clear hb k0 k2 k3 k4
        cases b with
        | true =>
          have hsf : segB x = false := by
            cases h : segB x with
            | false => rfl
            | true => have := HBB.out.2 h; cases this
          have HF := Lib.hid (all_here HX.out hsf)
          clear hsf
          go_wp2
          go_ret
          exact ⟨by rw [HPT.out, ← HAL.out, HF.out]; rfl, HB1.out.trans (HB5.out.mono HB1.out.size)⟩
        | false =>
          have HN := Lib.hid (all_step HX.out (HBB.out.1 rfl))
          go_wp2
          go_roundw
          case rel => exact ⟨i + 1, hlt, by go_num, by rw [HN.out, HAL.out], HB5.out⟩
          case measure => simp [intOf]; omega
      · obtain rfl : i = m1 := by omega
        have HAA : Hid (e.adds.all segB = true) := Lib.hid (by rw [← HAL.out, List.drop_of_length_le (by rw [HM.out.1]; exact Nat.le_refl _)]; rfl)
        obtain ⟨wo, hwo⟩ : ∃ v, v = wr := ⟨_, rfl⟩
        subst hwo
        go_wp2_with fail
        clear d2 d4
        go_loopw [5] (fun y wr => ∃ i2 : Nat, i2 ≤ m3 ∧ y = .int .i64 i2 ∧ (e.pars.drop i2).all parB = e.pars.all parB ∧ Below wb.heap.size wb wr) (fun y _ => m3 - (intOf y).toNat)
        case atStart => exact ⟨0, by omega, rfl, rfl, HB.out⟩
        case round =>
          clear HB HAL hzr
          obtain ⟨i2, hi2, rfl, hal, hb⟩ := hrel
          have HAL := Lib.hid hal
          have HB := Lib.hid hb
          obtain ⟨_, _, _, d3, d4, d5⟩ := HCB.out wr hb
          have hzr := hb.size
          clear hal hb
          by_cases hlt2 : i2 < m3
          · obtain ⟨bk, off, x, c, rfl, _, _, hx, ⟨q1, k1, q2, k2, rfl, hp1, hp2, hsw⟩, hu⟩ := RowD.at (RowD.keep HI.out.pars (keep_below HB.out) fun x c h => h.keep (keep_below HB.out)) (i := i2) (by rw [HM.out.2.2.1]; exact hlt2)
            have hld := run_loadP (w := wr) rfl hu
            have hN := Blk.new wr 49 (parL zP none 0 none 0)
            have hA : Below wr.heap.size wr (wr.alloc (.cells #[.int .i64 0, .slice none 0 0, .slice none 0 0, .int .i64 0, .int .u32 0] 49)) := (Below.refl _ _).alloc (Nat.le_refl _) _
            obtain ⟨w5, hst, HK5, HS5⟩ := putP (a1 := q1) (c1 := k1) (a2 := q2) (c2 := k2) x hN rfl
            simp only [parL, zP, List.length_nil] at hst hld
            have hb5 : Below wr.heap.size wr w5 := hA.trans (Gr.below HS5.out hA.size (Nat.le_refl _))
            have HB5 : Hid (Below wb.heap.size wb w5) := Lib.hid (HB.out.trans (hb5.mono hzr))
            have HX := Lib.hid hx
            have HP1 := Lib.hid (hp1.keep' (keep_below hb5))
            have HP2 := Lib.hid (hp2.keep' (keep_below hb5))
            have hjl : x.nums.length ≤ 9223372036854775807 := by have h1 := RowD.cap hp1; unfold maxLen at h1; omega
            obtain ⟨j1, hj1⟩ : ∃ m, x.nums.length = m := ⟨_, rfl⟩
            obtain ⟨j2, hj2⟩ : ∃ m, x.sizes.length = m := ⟨_, rfl⟩
            have HKC : Hid (∀ W, Below w5.heap.size w5 W → W.cell? ⟨wr.heap.size, 0, none⟩ = some (.int .i64 x.group) ∧ W.cell? ⟨wr.heap.size, 1, none⟩ = some (.slice q1 j1 k1) ∧ W.cell? ⟨wr.heap.size, 2, none⟩ = some (.slice q2 j2 k2) ∧ W.cell? ⟨wr.heap.size, 3, none⟩ = some (.int .i64 x.size)) := Lib.hid fun W hW => by
              have hk := HK5.out.below hW HK5.out.lt
              rw [← hj1, ← hj2]
              exact ⟨hk.cell rfl, hk.cell rfl, hk.cell rfl, hk.cell rfl⟩
            obtain ⟨k0, k1', k2', k3⟩ := HKC.out w5 (Below.refl _ _)
            rw [hj1, hj2] at hst hld
            rw [hj1] at HP1 hjl
            rw [hj2] at HP2
            have J1 := Lib.hid hj1
            have J2 := Lib.hid hj2
            clear hN hA hu hx hb5 hsw HK5 HS5 hp1 hp2 hj1 hj2
            go_upto_region 13 with fail
            clear hst hld d3 d4 d5
            obtain ⟨g5, hg5⟩ : ∃ g, wr.heap.size = g := ⟨_, rfl⟩
            rw [hg5] at HKC k0 k1' k2' k3
            try rw [hg5]
            clear hg5
            go_cut [150] (fun v wx => ∃ b, v = .bool b ∧ (b = false ↔ (1 ≤ x.group ∧ x.group ≤ 1125899906842624 ∧ 1 ≤ j1 ∧ j1 ≤ 3 ∧ j2 = j1 ∧ 0 ≤ x.size ∧ x.size ≤ 4194304)) ∧ wx = w5)
            case first =>
              as_aux_lemma =>
                by_cases v0 : x.group < 1
                · go_wp2_with fail
                  go_meet
                  case rel => exact ⟨_, rfl, ⟨fun h => by first | (cases h) | (simp at h; omega), fun h => by omega⟩, rfl⟩
                by_cases v1 : 1125899906842624 < x.group
                · go_wp2_with fail
                  go_meet
                  case rel => exact ⟨_, rfl, ⟨fun h => by first | (cases h) | (simp at h; omega), fun h => by omega⟩, rfl⟩
                by_cases v2 : j1 < 1
                · go_wp2_with fail
                  go_meet
                  case rel => exact ⟨_, rfl, ⟨fun h => by first | (cases h) | (simp at h; omega), fun h => by omega⟩, rfl⟩
                by_cases v3 : 3 < j1
                · go_wp2_with fail
                  go_meet
                  case rel => exact ⟨_, rfl, ⟨fun h => by first | (cases h) | (simp at h; omega), fun h => by omega⟩, rfl⟩
                by_cases v4 : j2 ≠ j1
                · have qq : ((j2 : Int) != (j1 : Int)) = true := bne_t (by omega)
                  go_wp2_with fail
                  go_meet
                  case rel => exact ⟨_, rfl, ⟨fun h => by first | (cases h) | (simp at h; omega), fun h => by omega⟩, rfl⟩
                have qq : ((j2 : Int) != (j1 : Int)) = false := bne_f (by omega)
                by_cases v5 : x.size < 0
                · go_wp2_with fail
                  go_meet
                  case rel => exact ⟨_, rfl, ⟨fun h => by first | (cases h) | (simp at h; omega), fun h => by omega⟩, rfl⟩
                by_cases v6 : 4194304 < x.size
                · go_wp2_with fail
                  go_meet
                  case rel => exact ⟨_, rfl, ⟨fun h => by first | (cases h) | (simp at h; omega), fun h => by omega⟩, rfl⟩
                go_wp2_with fail
                go_meet
                case rel => exact ⟨_, rfl, ⟨fun _ => by omega, fun _ => by first | rfl | (simp; omega)⟩, rfl⟩
            case rest =>
            obtain ⟨b, rfl, hb, rfl⟩ := hcut
            have HBB := Lib.hid hb
            clear hb k0 k1' k2' k3
            obtain ⟨w6, hw6⟩ : ∃ v, v = wc := ⟨_, rfl⟩
            subst hw6
            cases b with
            | true =>
              have hsf : parB x = false := by
                cases h : parB x with
                | false => rfl
                | true =>
                  rw [parB_iff] at h
                  obtain ⟨r1, r2, r3, r4, r5, _⟩ := h
                  unfold numB at r1
                  unfold sizB at r2
                  rw [inB_iff] at r1 r2
                  rw [J1.out] at r3 r4 r5
                  rw [J2.out] at r5
                  have := HBB.out.2 ⟨r1.1, r1.2, r3, r4, r5, r2.1, r2.2⟩
                  cases this
              have HF := Lib.hid (all_here HX.out hsf)
              clear hsf
              go_wp2
              go_ret
              exact ⟨by rw [HPT.out, HAA.out, ← HAL.out, HF.out]; simp, HB1.out.trans (HB5.out.mono HB1.out.size)⟩
            | false =>
              obtain ⟨r1, r2, r3, r4, r5, r6, r7⟩ := HBB.out.1 rfl
              have HHD : Hid (numB x.group = true ∧ sizB x.size = true) := Lib.hid ⟨inB_3 r1 r2, inB_3 r6 r7⟩
              clear HBB r1 r2 r6 r7
              subst r5
              go_wp2_with fail
              obtain ⟨wp, hwp⟩ : ∃ v, v = wr := ⟨_, rfl⟩
              subst hwp
              go_loopw [7] (fun y wr => ∃ k : Nat, k ≤ j2 ∧ y = .int .i64 k ∧ (∀ q, q < k → parK x q = true) ∧ Below w6.heap.size w6 wr) (fun y _ => j2 - (intOf y).toNat)
              case atStart => exact ⟨0, by omega, rfl, fun q hq => by omega, Below.refl _ _⟩
              case round =>
                obtain ⟨k, hk, rfl, hpk, hb⟩ := hrel
                have HPK := Lib.hid hpk
                have HB6 := Lib.hid hb
                obtain ⟨_, e1, e2, _⟩ := HKC.out wr hb
                clear hpk hb
                by_cases hlt3 : k < j2
                · have hl1 : k < x.nums.length := by rw [J1.out]; exact hlt3
                  have hl2 : k < x.sizes.length := by rw [J2.out]; exact hlt3
                  have hP1 := HP1.out.keep' (keep_below HB6.out)
                  obtain ⟨b1, o1, rfl, _, _, hc1⟩ := IsNums.cell hP1 hl1
                  obtain ⟨b2, o2, rfl, _, _, hc2⟩ := IsNums.cell (HP2.out.keep' (keep_below HB6.out)) hl2
                  obtain ⟨au, cu, hsl, hrow⟩ := run_uptoG elemN Tryd.underlying23 sizeN hP1 (m := k) (by omega) (k : Int) rfl
                  obtain ⟨y, hy⟩ : ∃ y, x.nums.getD k 0 = y := ⟨_, rfl⟩
                  obtain ⟨z, hz⟩ : ∃ z, x.sizes.getD k 0 = z := ⟨_, rfl⟩
                  rw [hy] at hc1
                  rw [hz] at hc2
                  obtain ⟨bc, hbc⟩ : ∃ b, (x.nums.take k).contains y = b := ⟨_, rfl⟩
                  have hhas := fun n => Calls.quiet_of_same (has_any _ _ y (wr.drewN n) (IsNums.keep' hrow (keep_below (bel_drewN (Below.refl _ _) n))))
                  rw [hbc] at hhas
                  have HHAS := Lib.hid hhas
                  have HPV : Hid (parK x k = (numB y && !bc && sizB z)) := Lib.hid (by unfold parK; rw [hy, hz, hbc])
                  have HL1 := Lib.hid hl1
                  clear hl1 hl2 hP1 hy hz hbc hhas hrow
                  go_upto_region 18 with fail
                  go_cut [199] (fun v wx => ∃ b, v = .bool b ∧ (b = false ↔ ((1 ≤ y ∧ y ≤ 1125899906842624) ∧ (0 ≤ z ∧ z ≤ 4194304) ∧ bc = false)) ∧ Below w6.heap.size w6 wx)
                  case first =>
                    as_aux_lemma =>
                      by_cases v0 : y < 1
                      · go_quiet (fail)
                        go_wp2_with fail
                        go_meet
                        case rel => exact ⟨_, rfl, ⟨fun h => by first | (cases h) | (simp at h; omega), fun h => by omega⟩, bel_drewN HB6.out _⟩
                      by_cases v1 : 1125899906842624 < y
                      · go_quiet (fail)
                        go_wp2_with fail
                        go_meet
                        case rel => exact ⟨_, rfl, ⟨fun h => by first | (cases h) | (simp at h; omega), fun h => by omega⟩, bel_drewN HB6.out _⟩
                      by_cases v2 : z < 0
                      · go_quiet (fail)
                        go_wp2_with fail
                        go_meet
                        case rel => exact ⟨_, rfl, ⟨fun h => by first | (cases h) | (simp at h; omega), fun h => by omega⟩, bel_drewN HB6.out _⟩
                      by_cases v3 : 4194304 < z
                      · go_quiet (fail)
                        go_wp2_with fail
                        go_meet
                        case rel => exact ⟨_, rfl, ⟨fun h => by first | (cases h) | (simp at h; omega), fun h => by omega⟩, bel_drewN HB6.out _⟩
                      go_quiet (refine HHAS.out _)
                      go_wp2_with fail
                      go_meet
                      case rel => exact ⟨_, rfl, ⟨fun h => ⟨⟨by omega, by omega⟩, ⟨by omega, by omega⟩, by first | exact h | simpa using h⟩, fun h => by have h5 := h.2.2; first | exact h5 | simpa using h5⟩, bel_drewN HB6.out _⟩
                  case rest =>
                  obtain ⟨b, rfl, hb, hbw⟩ := hcut
                  have HBB := Lib.hid hb
                  have HB7 := Lib.hid hbw
                  clear hb hbw hc1 hc2 hsl e1 e2 HB6
                  have hpv : (b = false ↔ parK x k = true) := by
                    rw [HBB.out, HPV.out]
                    simp only [Bool.and_eq_true, numB, sizB, inB_iff, Bool.not_eq_true']
                    constructor
                    · intro ⟨⟨s1, s2⟩, ⟨s3, s4⟩, s5⟩
                      exact ⟨⟨⟨s1, s2⟩, s5⟩, s3, s4⟩
                    · intro ⟨⟨⟨s1, s2⟩, s5⟩, s3, s4⟩
                      exact ⟨⟨s1, s2⟩, ⟨s3, s4⟩, s5⟩
                  have HPV2 := Lib.hid hpv
                  clear hpv
                  cases b with
                  | true =>
                    have hsf : parB x = false := par_k HL1.out (by
                      cases h : parK x k with
                      | false => rfl
                      | true => have := HPV2.out.2 h; cases this)
                    have HF := Lib.hid (all_here HX.out hsf)
                    clear hsf
                    go_wp2
                    go_ret
                    exact ⟨by rw [HPT.out, HAA.out, ← HAL.out, HF.out]; simp, HB1.out.trans ((HB5.out.trans (HB7.out.mono HB5.out.size)).mono HB1.out.size)⟩
                  | false =>
                    have HPT2 := Lib.hid (HPV2.out.1 rfl)
                    go_wp2
                    go_roundw
                    case rel =>
                      refine ⟨k + 1, hlt3, by go_num, fun q hq => ?_, HB7.out⟩
                      by_cases hqk : q = k
                      · rw [hqk]; exact HPT2.out
                      · exact HPK.out q (by omega)
                    case measure => simp [intOf]; omega
                · obtain rfl : k = j2 := by omega
                  have hpb : parB x = true := parB_iff.2 ⟨HHD.out.1, HHD.out.2, by rw [J1.out]; exact r3, by rw [J1.out]; exact r4, by rw [J1.out, J2.out], fun q hq => HPK.out q (by rw [← J1.out]; exact hq)⟩
                  have HN := Lib.hid (all_step HX.out hpb)
                  clear hpb
                  go_wp2
                  go_roundw
                  case rel => exact ⟨i2 + 1, hlt2, by go_num, by rw [HN.out, HAL.out], HB5.out.trans (HB6.out.mono HB5.out.size)⟩
                  case measure => simp [intOf]; omega
          · obtain rfl : i2 = m3 := by omega
            have HPP : Hid (e.pars.all parB = true) := Lib.hid (by rw [← HAL.out, List.drop_of_length_le (by rw [HM.out.2.2.1]; exact Nat.le_refl _)]; rfl)
            have f1 := range50_any (.slice a2 m2 c2) e.dels wr (by rw [← HM.out.2.1]; exact HI.out.dels.keep' (keep_below HB.out))
            have f2 := range50_any (.slice a4 m4 c4) e.drops wr (by rw [← HM.out.2.2.2]; exact HI.out.drops.keep' (keep_below HB.out))
            obtain ⟨t1, ht1⟩ : ∃ b, e.dels.all numB = b := ⟨_, rfl⟩
            obtain ⟨t2, ht2⟩ : ∃ b, e.drops.all numB = b := ⟨_, rfl⟩
            rw [ht1] at f1
            rw [ht2] at f2
            have HFI : Hid (edB e = (t1 && t2)) := Lib.hid (by rw [HPT.out, HAA.out, HPP.out, ht1, ht2]; simp)
            clear ht1 ht2
            go_wp2_with fail
            refine f1.mono ?_
            rintro r w9 ⟨rfl, rfl⟩
            cases t1 with
            | false =>
              go_wp2
              go_ret
              exact ⟨by rw [HFI.out]; rfl, HB1.out.trans (HB.out.mono HB1.out.size)⟩
            | true =>
              go_wp2_with fail
              refine f2.mono ?_
              rintro r w9 ⟨rfl, rfl⟩
              go_wp2
              go_ret
              exact ⟨by rw [HFI.out]; rfl, HB1.out.trans (HB.out.mono HB1.out.size)⟩
end Go.Proofs.YtaffmfocjaihlaaDoor.S18
