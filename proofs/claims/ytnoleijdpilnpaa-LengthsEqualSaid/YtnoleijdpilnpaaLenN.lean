/- LengthsOrder, walked. -/
import Derived.Test.YtnoleijdpilnpaaLenM
set_option linter.unusedSimpArgs false
set_option linter.unusedVariables false
namespace Go.Proofs.Ytnoleijdpilnpaa
open Go.RowKit Go.Shelf Pl
set_option maxHeartbeats 8000000 in
set_option maxRecDepth 100000 in
theorem lengthsOrder_walk (a : Option Addr) (len cap : Nat) (z : List Int) (w : World) (hr : IsRow .i64 w a len cap z) :
    Calls Try.prog 10 #[.slice a len cap] w fun e w' => e = .returned (.bool true) ∧ Below w.heap.size w w' := by
  obtain ⟨hF0, hFl⟩ := isInts_row hr
  generalize z.take len = F0 at *
  clear hr
  have HF0 := Lib.hid hF0
  clear hF0
  go_enter Try.func10, Try.ntmps10
  go_wp2_with fail
  refine (begun_any _).mono ?_
  rintro e w1 ⟨rfl, hb1⟩
  have HB1 := Lib.hid hb1
  clear hb1
  go_wp2_with fail
  refine (cut_any _ F0 w1 (HF0.out.below HB1.out)).mono ?_
  rintro e w1 ⟨⟨fa, fn, fc, rfl, hfn, hfc, hfm, hF⟩, rfl⟩
  have hl305 : fn ≤ 305 := by rw [← hfn, List.length_take]; omega
  generalize F0.take 305 = F at *
  have HF := Lib.hid hF
  have HFL := Lib.hid hfn
  have hfn1 : F.length ≤ fn := by omega
  have hfn2 : fn ≤ F.length := by omega
  have hof := of_any _ F w1 hF (by omega)
  clear hF hfn
  go_wp2_with fail
  refine hof.mono ?_
  rintro e w2 (⟨hn, rfl, rfl⟩ | ⟨hok, g, L, S, rfl, hg, hL, hlo, hB2⟩)
  · clear hn hof
    go_wp2
    go_ret
    exact ⟨rfl, HB1.out⟩
  rw [HFL.out]
  have hcv := cost_val hlo hok.1 hok.2
  have hcl := cost_least hlo (fun v hv => (hok.2 v hv).1) hok.1
  have HLO := Lib.hid hlo
  have HOK := Lib.hid hok
  have HL := Lib.hid hL
  have HB2 := Lib.hid hB2
  have HCV := Lib.hid hcv
  have HCL := Lib.hid hcl
  have HIF2 := Lib.hid (HF.out.below hB2)
  have hlL : L.length = fn := by rw [hlo.len]; omega
  have HLL := Lib.hid hlL
  have hl300 : fn ≤ 300 := by have := hok.1; omega
  clear hof hlo hok hL hB2 hcv hcl hlL
  have hsz2 := HB2.out.size
  have hnei : ((fn : Int) != (fn : Int)) = false := bne_f rfl
  go_wp2_with fail
  obtain ⟨wo, hwo⟩ : ∃ wo, wo = w2 := ⟨_, rfl⟩
  subst hwo
  go_loopw [6, 7] (fun x _ wr => ∃ i m : Nat, i ≤ fn ∧ x = .int .i64 i ∧ wr = wo.drewN m) (fun x _ _ => fn - (intOf x).toNat)
  case atStart => exact ⟨0, 0, by omega, rfl, rfl⟩
  case round =>
    obtain ⟨i, m, hi, rfl, rfl⟩ := hrel
    by_cases hlt : i < fn
    · go_wp2_with fail
      go_loopw [7] (fun y wr => ∃ k m : Nat, k ≤ fn ∧ y = .int .i64 k ∧ wr = wo.drewN m) (fun y _ => fn - (intOf y).toNat)
      case atStart => exact ⟨0, m, by omega, rfl, rfl⟩
      case round =>
        obtain ⟨k, m2, hk, rfl, rfl⟩ := hrel
        by_cases hltk : k < fn
        · obtain ⟨bb, off, cap', hse, _, _, hbl, hc⟩ := HIF2.out.cells (by omega)
          simp at hse
          obtain ⟨rfl, hx1, hx2⟩ := hse
          clear hx1 hx2
          have ci : ∀ q, (wo.drewN q).cell? ⟨bb, off + i, none⟩ = some (.int .i64 (F.getD i 0)) := fun q => hc i (by omega)
          have ck : ∀ q, (wo.drewN q).cell? ⟨bb, off + k, none⟩ = some (.int .i64 (F.getD k 0)) := fun q => hc k (by omega)
          have di : ∀ q, (wo.drewN q).cell? ⟨g, i, none⟩ = some (.int .i64 (L.getD i 0)) := fun q => HL.out.cell (i64s_get L i (by rw [HLL.out]; exact hlt))
          have dk : ∀ q, (wo.drewN q).cell? ⟨g, k, none⟩ = some (.int .i64 (L.getD k 0)) := fun q => HL.out.cell (i64s_get L k (by rw [HLL.out]; exact hltk))
          have hord := fun h0 hw => len_order HLO.out HOK.out.1 (i := i) (k := k) (by omega) (by omega) h0 hw
          have HORD := Lib.hid hord
          clear hc hord
          generalize F.getD i 0 = x at *
          generalize F.getD k 0 = y at *
          generalize L.getD i 0 = p at *
          generalize L.getD k 0 = q at *
          by_cases g1 : y < x
          · have hd1 : decide (x > y) = true := decide_eq_true g1
            have hd1' : decide (y < x) = true := decide_eq_true g1
            by_cases g2 : 0 < y
            · have hd2 : decide (y > 0) = true := decide_eq_true g2
              have hd2' : decide (0 < y) = true := decide_eq_true g2
              have hpq := HORD.out g2 g1
              have hd3 : decide (p > q) = false := decide_eq_false (by omega)
              have hd3' : decide (q < p) = false := decide_eq_false (by omega)
              go_wp2_with fail
              go_quiet (fail)
              go_wp2
              go_roundw
              case rel => exact ⟨k + 1, _, by omega, by first | rfl | go_num, by first | rfl | trivial⟩
              case measure => simp [intOf]; omega
            · have hd2 : decide (y > 0) = false := decide_eq_false g2
              have hd2' : decide (0 < y) = false := decide_eq_false g2
              go_wp2_with fail
              go_quiet (fail)
              go_wp2
              go_roundw
              case rel => exact ⟨k + 1, _, by omega, by first | rfl | go_num, by first | rfl | trivial⟩
              case measure => simp [intOf]; omega
          · have hd1 : decide (x > y) = false := decide_eq_false g1
            have hd1' : decide (y < x) = false := decide_eq_false g1
            go_wp2_with fail
            go_quiet (fail)
            go_wp2
            go_roundw
            case rel => exact ⟨k + 1, _, by omega, by first | rfl | go_num, by first | rfl | trivial⟩
            case measure => simp [intOf]; omega
        · go_wp2
          go_roundw
          case rel => exact ⟨i + 1, m2, by omega, by first | rfl | go_num, by first | rfl | trivial⟩
          case measure => simp [intOf]; omega
    · have hbm : Below wo.heap.size wo (wo.drewN m) := bel_drewN (Below.refl _ _) m
      have hcF := cost_ref (.slice fa fn fc) (.slice (some ⟨g, 0, none⟩) fn fn) F L (wo.drewN m) (HIF2.out.below hbm) ((isInts_blk HL.out HLL.out.symm (by unfold maxLen; omega)).below hbm) (by omega) (by rw [HLL.out]; omega)
      rw [HCV.out.1, HCL.out] at hcF
      have HBM := Lib.hid hbm
      have HCF := Lib.hid hcF
      clear hbm hcF
      go_wp2_with fail
      refine HCF.out.mono ?_
      rintro e w3 ⟨rfl, hb3⟩
      have HB3 := Lib.hid (HBM.out.trans (hb3.mono HBM.out.size))
      clear hb3
      have hle := least_any _ F S w3 (HIF2.out.below HB3.out) HOK.out.2 HOK.out.1 HLO.out.perm HLO.out.good
      generalize leastV S = lv at *
      have hbe := beq_t (rfl : lv = lv)
      have HLE := Lib.hid hle
      clear hle
      go_wp2_with fail
      refine HLE.out.mono ?_
      rintro e w4 ⟨rfl, hb4⟩
      have HB4 := Lib.hid hb4
      clear hb4
      go_wp2
      go_ret
      exact ⟨rfl, ((HB1.out.trans (HB2.out.mono HB1.out.size)).trans (HB3.out.mono (Nat.le_trans HB1.out.size hsz2))).trans (HB4.out.mono (Nat.le_trans (Nat.le_trans HB1.out.size hsz2) HB3.out.size))⟩
end Go.Proofs.Ytnoleijdpilnpaa
