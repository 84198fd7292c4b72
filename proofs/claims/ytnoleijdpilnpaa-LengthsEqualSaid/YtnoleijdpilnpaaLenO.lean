/- LengthsAll, walked. -/
import Derived.Test.YtnoleijdpilnpaaLenN
import Derived.Test.YtnoleijdpilnpaaPkgH
set_option linter.unusedSimpArgs false
set_option linter.unusedVariables false
namespace Go.Proofs.Ytnoleijdpilnpaa
open Go.RowKit Go.Shelf Pl
namespace Pl
theorem ok_snoc {F : List Int} {i : Nat} (h : i < F.length) : allOk (F.take (i + 1)) ↔ allOk (F.take i) ∧ (0 ≤ F.getD i 0 ∧ F.getD i 0 ≤ 1073741824) := by
  rw [List.take_succ_eq_append_getElem h]
  have e : F.getD i 0 = F[i] := by simp [List.getD, h]
  rw [e]
  unfold allOk
  constructor
  · intro hh
    exact ⟨fun x hx => hh x (List.mem_append.2 (.inl hx)), hh _ (List.mem_append.2 (.inr (by simp)))⟩
  · intro hh x hx
    rcases List.mem_append.1 hx with hx | hx
    · exact hh.1 x hx
    · simp at hx; subst hx; exact hh.2
theorem pos_count {F L : List Int} {S : List Coin} (h : LensOk F L S) : (posF F).length = S.length := by
  rw [← coins_fst F 0, List.length_map, h.perm.length_eq]
end Pl
set_option maxHeartbeats 16000000 in
set_option maxRecDepth 100000 in
theorem lengthsAll_walk (a : Option Addr) (len cap : Nat) (z : List Int) (w : World) (hr : IsRow .i64 w a len cap z) :
    Calls Try.prog 3 #[.slice a len cap] w fun e w' => e = .returned (.bool true) ∧ Below w.heap.size w w' := by
  obtain ⟨hF0, hFl⟩ := isInts_row hr
  generalize z.take len = F0 at *
  clear hr
  have HF0 := Lib.hid hF0
  clear hF0
  go_enter Try.func3, Try.ntmps3
  go_wp2_with fail
  refine (begun_any _).mono ?_
  rintro e w1 ⟨rfl, hb1⟩
  have HB1 := Lib.hid hb1
  clear hb1
  go_wp2_with fail
  refine (cut_any _ F0 w1 (HF0.out.below HB1.out)).mono ?_
  rintro e w1 ⟨⟨fa, fn, fc, rfl, hfn, hfc, hfm, hF⟩, rfl⟩
  have hl305 : fn ≤ 305 := by rw [← hfn, List.length_take]; omega
  generalize F0.take 305 = F at *
  have HF := Lib.hid hF
  have HFL := Lib.hid hfn
  have hfn1 : F.length ≤ fn := by omega
  have hfn2 : fn ≤ F.length := by omega
  have hof := of_any _ F w1 hF (by omega)
  have HOF := Lib.hid hof
  clear hF hfn hof
  obtain ⟨b0, hb0⟩ : ∃ b, b = decide (300 < fn) := ⟨_, rfl⟩
  have hbz : decide ((fn : Int) > 300) = b0 := by
    rw [hb0]
    by_cases h : 300 < fn
    · rw [decide_eq_true h, decide_eq_true (by omega)]
    · rw [decide_eq_false h, decide_eq_false (by omega)]
  have hbz2 : decide (300 < fn) = b0 := hb0.symm
  have hb00 : b0 = false ↔ (fn ≤ 300 ∧ allOk (F.take 0)) := by
    rw [hb0, decide_eq_false_iff_not]
    simp [allOk]
  have HB00 := Lib.hid hb00
  clear hb00 hb0
  go_wp2_with fail
  clear hbz hbz2
  go_loopw [4, 5, 6] (fun x4 x5 x6 wr => ∃ (b : Bool) (i c : Nat), x4 = .bool b ∧ x5 = .int .i64 c ∧ x6 = .int .i64 i ∧ i ≤ fn ∧ c ≤ i ∧ Hid (c = (posF (F.take i)).length) ∧ Hid (b = false ↔ (fn ≤ 300 ∧ allOk (F.take i))) ∧ wr = w1) (fun _ _ x _ => fn - (intOf x).toNat)
  case atStart => exact ⟨b0, 0, 0, rfl, rfl, rfl, by omega, by omega, rfl, HB00.out, rfl⟩
  case round =>
    obtain ⟨b, i, c, rfl, rfl, rfl, hi, hci, HC, HBI, hw⟩ := hrel
    have hw := hw.symm
    subst hw
    clear HB00
    by_cases hlt : i < fn
    · obtain ⟨bb, off, cap', hse, _, _, hbl, hc⟩ := HF.out.cells (by omega)
      simp at hse
      obtain ⟨rfl, hx1, hx2⟩ := hse
      have c0 := hc i (by omega)
      have hps : 0 < F.getD i 0 → Hid (c + 1 = (posF (F.take (i + 1))).length) := fun h => by
        show _ = _
        rw [posF_snoc (by omega) h, List.length_append, ← HC.out]; rfl
      have hpk : ¬ 0 < F.getD i 0 → Hid (c = (posF (F.take (i + 1))).length) := fun h => by
        show _ = _
        rw [posF_skip (by omega) h]; exact HC.out
      have hok := ok_snoc (F := F) (i := i) (by omega)
      have hne : b = true → Hid (true = false ↔ (fn ≤ 300 ∧ allOk (F.take (i + 1)))) := fun hb => by
        show _ ↔ _
        rw [hok]
        have := HBI.out
        rw [hb] at this
        exact ⟨fun h => by simp at h, fun h => (this.2 ⟨h.1, h.2.1⟩)⟩
      have hbd : b = false → ¬ (0 ≤ F.getD i 0 ∧ F.getD i 0 ≤ 1073741824) → Hid (true = false ↔ (fn ≤ 300 ∧ allOk (F.take (i + 1)))) := fun hb h => by
        show _ ↔ _
        rw [hok]
        exact ⟨fun h => by simp at h, fun hh => absurd hh.2.2 h⟩
      have hgd : b = false → (0 ≤ F.getD i 0 ∧ F.getD i 0 ≤ 1073741824) → Hid (false = false ↔ (fn ≤ 300 ∧ allOk (F.take (i + 1)))) := fun hb h => by
        show _ ↔ _
        rw [hok]
        exact ⟨fun _ => ⟨(HBI.out.1 hb).1, (HBI.out.1 hb).2, h⟩, fun _ => rfl⟩
      have HPS := Lib.hid hps
      have HPK := Lib.hid hpk
      have HNE := Lib.hid hne
      have HBD := Lib.hid hbd
      have HGD := Lib.hid hgd
      clear hc hx1 hx2 hps hpk hok hne hbd hgd
      generalize F.getD i 0 = x at *
      cases b with
      | true =>
        by_cases h1 : 0 < x
        · go_wp2
          go_roundw
          case rel => exact ⟨true, i + 1, c + 1, rfl, by first | rfl | go_num, by first | rfl | go_num, by omega, by omega, HPS.out (by omega), HNE.out rfl, by first | trivial | rfl⟩
          case measure => simp [intOf]; omega
        · go_wp2
          go_roundw
          case rel => exact ⟨true, i + 1, c, rfl, by first | rfl | go_num, by first | rfl | go_num, by omega, by omega, HPK.out (by omega), HNE.out rfl, by first | trivial | rfl⟩
          case measure => simp [intOf]; omega
      | false =>
        by_cases h2 : x < 0
        · have h1 : ¬ 0 < x := by omega
          go_wp2
          go_roundw
          case rel => exact ⟨true, i + 1, c, rfl, by first | rfl | go_num, by first | rfl | go_num, by omega, by omega, HPK.out (by omega), HBD.out rfl (by omega), by first | trivial | rfl⟩
          case measure => simp [intOf]; omega
        · by_cases h3 : 1073741824 < x
          · have h1 : 0 < x := by omega
            go_wp2
            go_roundw
            case rel => exact ⟨true, i + 1, c + 1, rfl, by first | rfl | go_num, by first | rfl | go_num, by omega, by omega, HPS.out (by omega), HBD.out rfl (by omega), by first | trivial | rfl⟩
            case measure => simp [intOf]; omega
          · by_cases h1 : 0 < x
            · go_wp2
              go_roundw
              case rel => exact ⟨false, i + 1, c + 1, rfl, by first | rfl | go_num, by first | rfl | go_num, by omega, by omega, HPS.out (by omega), HGD.out rfl (by omega), by first | trivial | rfl⟩
              case measure => simp [intOf]; omega
            · go_wp2
              go_roundw
              case rel => exact ⟨false, i + 1, c, rfl, by first | rfl | go_num, by first | rfl | go_num, by omega, by omega, HPK.out (by omega), HGD.out rfl (by omega), by first | trivial | rfl⟩
              case measure => simp [intOf]; omega
    · obtain rfl : i = fn := by omega
      have hT : F.take i = F := List.take_of_length_le (by omega)
      rw [hT] at HC HBI
      clear hT
      cases b with
      | true =>
        go_wp2_with fail
        refine HOF.out.mono ?_
        rintro e w2 (⟨hn, rfl, rfl⟩ | ⟨hok, _⟩)
        · clear hn
          have h7 := beq_t (rfl : (7 : Int) = 7)
          have h0 := beq_t (rfl : (0 : Int) = 0)
          go_wp2
          go_ret
          exact ⟨rfl, HB1.out⟩
        · have := HBI.out.2 ⟨by have := hok.1; omega, hok.2⟩
          simp at this
      | false =>
        have hokk := HBI.out.1 rfl
        go_wp2_with fail
        refine HOF.out.mono ?_
        rintro e w2 (⟨hn, _⟩ | ⟨hok, g, L, S, rfl, hg, hL, hlo, hB2⟩)
        · exact absurd ⟨by omega, hokk.2⟩ hn
        clear hokk
        rw [HFL.out]
        have hcv := cost_val hlo hok.1 hok.2
        have hcl := cost_least hlo (fun v hv => (hok.2 v hv).1) hok.1
        have hkv := kraft_val hlo hok.1
        have hpc := pos_count hlo
        have hcS : c = S.length := by rw [← hpc]; exact HC.out
        rw [← hcS] at hkv
        have HKV := Lib.hid hkv
        have HLO := Lib.hid hlo
        have HOK := Lib.hid hok
        have HL := Lib.hid hL
        have HB2 := Lib.hid hB2
        have HCV := Lib.hid hcv
        have HCL := Lib.hid hcl
        have HIF2 := Lib.hid (HF.out.below hB2)
        have hlL : L.length = i := by rw [hlo.len]; omega
        have HLL := Lib.hid hlL
        have hl300 : i ≤ 300 := by have := hok.1; omega
        clear hlo hok hL hB2 hcv hcl hlL hkv hpc hcS HC HBI
        have hsz2 := HB2.out.size
        have hnei : ((i : Int) != (i : Int)) = false := bne_f rfl
        go_wp2_with fail
        obtain ⟨wo, hwo⟩ : ∃ wo, wo = w2 := ⟨_, rfl⟩
        subst hwo
        clear hlt
        go_loopw [9] (fun x wr => ∃ k : Nat, k ≤ i ∧ x = .int .i64 k ∧ wr = wo) (fun x _ => i - (intOf x).toNat)
        case atStart => exact ⟨0, by omega, rfl, rfl⟩
        case round =>
          obtain ⟨k, hk, rfl, hw⟩ := hrel
          have hw := hw.symm
          subst hw
          by_cases hlt : k < i
          · obtain ⟨bb, off, cap', hse, _, _, hbl, hc⟩ := HIF2.out.cells (by omega)
            simp at hse
            obtain ⟨rfl, hx1, hx2⟩ := hse
            have c0 := hc k (by omega)
            have d0 := HL.out.cell (i64s_get L k (by rw [HLL.out]; exact hlt))
            have hp := fun h0 => len_pos HLO.out HOK.out.1 (x := k) (by omega) h0
            have hz := fun h0 => len_zero HLO.out (x := k) (by omega) h0
            have hx0 := HOK.out.2 (F.getD k 0) (by rw [List.getD_eq_getElem?_getD, List.getElem?_eq_getElem (show k < F.length by omega)]; exact List.getElem_mem _)
            clear hc hx1 hx2
            have HPP := Lib.hid hp
            have HZZ := Lib.hid hz
            clear hp hz
            generalize F.getD k 0 = x at *
            generalize L.getD k 0 = p at *
            by_cases h0 : 0 < x
            · have hpp := HPP.out h0
              have hxz : (x == 0) = false := beq_f (by omega)
              go_wp2
              go_roundw
              case rel => exact ⟨k + 1, by omega, by first | rfl | go_num, by first | trivial | rfl⟩
              case measure => simp [intOf]; omega
            · have hpz := HZZ.out h0
              obtain rfl : x = 0 := by omega
              subst hpz
              have h00 := beq_t (rfl : (0 : Int) = 0)
              have hn0 := bne_f (rfl : (0 : Int) = 0)
              go_wp2
              go_roundw
              case rel => exact ⟨k + 1, by omega, by first | rfl | go_num, by first | trivial | rfl⟩
              case measure => simp [intOf]; omega
          · have hIL : IsInts wo (.slice (some ⟨g, 0, none⟩) i i) L := isInts_blk HL.out HLL.out.symm (by unfold maxLen; omega)
            have hlM : L.length ≤ 1000000 := by rw [HLL.out]; omega
            have hkR := fun W h => kraft_ref (.slice (some ⟨g, 0, none⟩) i i) L W h hlM
            have hkP := fun W h => kraft_prog (.slice (some ⟨g, 0, none⟩) i i) L W h hlM
            have hcR := fun W h1 h2 => cost_ref (.slice fa i fc) (.slice (some ⟨g, 0, none⟩) i i) F L W h1 h2 (by omega) hlM
            have hcP := fun W h1 h2 => cost_prog (.slice fa i fc) (.slice (some ⟨g, 0, none⟩) i i) F L W h1 h2 (by omega) hlM
            have hlv := fun W h => least_any (.slice fa i fc) F S W h HOK.out.2 HOK.out.1 HLO.out.perm HLO.out.good
            rw [HCV.out.1, HCL.out] at hcR hcP
            obtain ⟨kr, hkr⟩ : ∃ kr, kraftW 0 L = kr := ⟨_, rfl⟩
            rw [hkr] at hkR hkP HKV
            generalize leastV S = lv at *
            have HIL := Lib.hid hIL
            have HKR := Lib.hid hkR
            have HKP := Lib.hid hkP
            have HCR := Lib.hid hcR
            have HCP := Lib.hid hcP
            have HLV := Lib.hid hlv
            clear hIL hkR hkP hcR hcP hlv hkr HCL HCV
            have hbe := beq_t (rfl : lv = lv)
            have hke := beq_t (rfl : kr = kr)
            have hk2 := HKV.out
            by_cases c0 : c = 0
            · subst c0
              have q1 : (((0 : Nat) : Int) == 1) = false := beq_f (by omega)
              have q1' : ((0 : Int) == 1) = false := beq_f (by omega)
              clear hk2
              go_wp2_with fail
              refine (HCR.out _ HIF2.out HIL.out).mono ?_
              rintro e w3 ⟨rfl, hb3⟩
              have HB3 := Lib.hid hb3
              clear hb3
              go_wp2_with fail
              refine (HLV.out _ (HIF2.out.below HB3.out)).mono ?_
              rintro e w4 ⟨rfl, hb4⟩
              have HB4 := Lib.hid (HB3.out.trans (hb4.mono HB3.out.size))
              clear hb4
              go_wp2_with fail
              refine (HKP.out _ (HIL.out.below HB4.out)).mono ?_
              rintro e w5 ⟨rfl, rfl⟩
              go_wp2_with fail
              refine (HKR.out _ (HIL.out.below HB4.out)).mono ?_
              rintro e w5 ⟨rfl, rfl⟩
              go_wp2_with fail
              refine (HCP.out _ (HIF2.out.below HB4.out) (HIL.out.below HB4.out)).mono ?_
              rintro e w6 ⟨rfl, hb6⟩
              have HB6 := Lib.hid (HB4.out.trans (hb6.mono HB4.out.size))
              clear hb6
              go_wp2_with fail
              refine (HCR.out _ (HIF2.out.below HB6.out) (HIL.out.below HB6.out)).mono ?_
              rintro e w7 ⟨rfl, hb7⟩
              have HB7 := Lib.hid (HB6.out.trans (hb7.mono HB6.out.size))
              clear hb7
              go_wp2
              go_ret
              exact ⟨rfl, (HB1.out.trans (HB2.out.mono HB1.out.size)).trans (HB7.out.mono (Nat.le_trans HB1.out.size hsz2))⟩
            by_cases c1 : c = 1
            · subst c1
              rw [if_neg (by omega), if_pos rfl] at hk2
              subst hk2
              have q1 : (((1 : Nat) : Int) == 1) = true := beq_t (by omega)
              have q1' := beq_t (rfl : (1 : Int) = 1)
              have q2 := bne_f (rfl : (16384 : Int) = 16384)
              go_wp2_with fail
              refine (HKR.out _ HIL.out).mono ?_
              rintro e w3 ⟨rfl, rfl⟩
              go_wp2_with fail
              refine (HCR.out _ HIF2.out HIL.out).mono ?_
              rintro e w3 ⟨rfl, hb3⟩
              have HB3 := Lib.hid hb3
              clear hb3
              go_wp2_with fail
              refine (HLV.out _ (HIF2.out.below HB3.out)).mono ?_
              rintro e w4 ⟨rfl, hb4⟩
              have HB4 := Lib.hid (HB3.out.trans (hb4.mono HB3.out.size))
              clear hb4
              go_wp2_with fail
              refine (HKP.out _ (HIL.out.below HB4.out)).mono ?_
              rintro e w5 ⟨rfl, rfl⟩
              go_wp2_with fail
              refine (HKR.out _ (HIL.out.below HB4.out)).mono ?_
              rintro e w5 ⟨rfl, rfl⟩
              go_wp2_with fail
              refine (HCP.out _ (HIF2.out.below HB4.out) (HIL.out.below HB4.out)).mono ?_
              rintro e w6 ⟨rfl, hb6⟩
              have HB6 := Lib.hid (HB4.out.trans (hb6.mono HB4.out.size))
              clear hb6
              go_wp2_with fail
              refine (HCR.out _ (HIF2.out.below HB6.out) (HIL.out.below HB6.out)).mono ?_
              rintro e w7 ⟨rfl, hb7⟩
              have HB7 := Lib.hid (HB6.out.trans (hb7.mono HB6.out.size))
              clear hb7
              go_wp2
              go_ret
              exact ⟨rfl, (HB1.out.trans (HB2.out.mono HB1.out.size)).trans (HB7.out.mono (Nat.le_trans HB1.out.size hsz2))⟩
            rw [if_neg c0, if_neg c1] at hk2
            subst hk2
            have q1 : ((c : Int) == 1) = false := beq_f (by omega)
            have q3 : (1 : Int) < (c : Int) := by omega
            have q2 := bne_f (rfl : (32768 : Int) = 32768)
            clear c0 c1
            go_wp2_with fail
            refine (HKR.out _ HIL.out).mono ?_
            rintro e w3 ⟨rfl, rfl⟩
            go_wp2_with fail
            refine (HCR.out _ HIF2.out HIL.out).mono ?_
            rintro e w3 ⟨rfl, hb3⟩
            have HB3 := Lib.hid hb3
            clear hb3
            go_wp2_with fail
            refine (HLV.out _ (HIF2.out.below HB3.out)).mono ?_
            rintro e w4 ⟨rfl, hb4⟩
            have HB4 := Lib.hid (HB3.out.trans (hb4.mono HB3.out.size))
            clear hb4
            go_wp2_with fail
            refine (HKP.out _ (HIL.out.below HB4.out)).mono ?_
            rintro e w5 ⟨rfl, rfl⟩
            go_wp2_with fail
            refine (HKR.out _ (HIL.out.below HB4.out)).mono ?_
            rintro e w5 ⟨rfl, rfl⟩
            go_wp2_with fail
            refine (HCP.out _ (HIF2.out.below HB4.out) (HIL.out.below HB4.out)).mono ?_
            rintro e w6 ⟨rfl, hb6⟩
            have HB6 := Lib.hid (HB4.out.trans (hb6.mono HB4.out.size))
            clear hb6
            go_wp2_with fail
            refine (HCR.out _ (HIF2.out.below HB6.out) (HIL.out.below HB6.out)).mono ?_
            rintro e w7 ⟨rfl, hb7⟩
            have HB7 := Lib.hid (HB6.out.trans (hb7.mono HB6.out.size))
            clear hb7
            go_wp2
            go_ret
            exact ⟨rfl, (HB1.out.trans (HB2.out.mono HB1.out.size)).trans (HB7.out.mono (Nat.le_trans HB1.out.size hsz2))⟩
end Go.Proofs.Ytnoleijdpilnpaa
