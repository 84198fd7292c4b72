/- LengthsSteep, walked. -/
import Derived.Test.YtnoleijdpilnpaaLenL
import Derived.Test.YtnoleijdpilnpaaLeaB
import Derived.Test.YtnoleijdpilnpaaPkgG
set_option linter.unusedSimpArgs false
set_option linter.unusedVariables false
namespace Go.Proofs.Ytnoleijdpilnpaa
open Go.RowKit Go.Shelf Pl
set_option maxHeartbeats 8000000 in
set_option maxRecDepth 100000 in
theorem lengthsSteep_walk (n first : Int) (w : World) (wn : (Lit.int .i64 n).wf = true) (wf : (Lit.int .i64 first).wf = true) :
    Calls Try.prog 4 #[.int .i64 n, .int .i64 first] w fun e w' => e = .returned (.bool true) ∧ Below w.heap.size w w' := by
  clear wn wf
  go_enter Try.func4, Try.ntmps4
  go_wp2_with fail
  refine (begun_any _).mono ?_
  rintro e w1 ⟨rfl, hb1⟩
  have HB1 := Lib.hid hb1
  clear hb1
  by_cases c1 : n < 0
  · go_wp2
    go_ret
    exact ⟨rfl, HB1.out⟩
  by_cases c2 : 40 < n
  · go_wp2
    go_ret
    exact ⟨rfl, HB1.out⟩
  by_cases c3 : first < 1
  · go_wp2
    go_ret
    exact ⟨rfl, HB1.out⟩
  by_cases c4 : 100 < first
  · go_wp2
    go_ret
    exact ⟨rfl, HB1.out⟩
  obtain ⟨n, rfl⟩ : ∃ k : Nat, n = k := ⟨n.toNat, by omega⟩
  have hn40 : n ≤ 40 := by omega
  go_wp2_with fail
  go_loopw [6, 7, 8, 9] (fun x6 x7 x8 x9 wr => ∃ (F : List Int) (i : Nat) (p q : Int), i ≤ n ∧ F.length = i ∧ x7 = .int .i64 p ∧ x8 = .int .i64 q ∧ x9 = .int .i64 i ∧ 1 ≤ p ∧ p ≤ 1073741824 ∧ 1 ≤ q ∧ q ≤ 1073741824 ∧ wr.ownsRow w1.heap.size 2 1 x6 i (i64s F) ∧ (∀ v ∈ F, 1 ≤ v ∧ v ≤ 1073741824) ∧ Below w1.heap.size w1 wr) (fun _ _ _ x _ => n - (intOf x).toNat)
  case atStart => exact ⟨[], 0, first, first, by omega, rfl, rfl, rfl, rfl, by omega, by omega, by omega, by omega, own_nilI _ _ _, by simp, Below.refl _ _⟩
  case round =>
    obtain ⟨F, i, p, q, hi, hFl, rfl, rfl, rfl, hp1, hp2, hq1, hq2, ho, hall, hb⟩ := hrel
    obtain ⟨sp, cp, rfl, _, _⟩ := ownsRow_slice ho
    have HO := Lib.hid ho
    have HA := Lib.hid hall
    have HB := Lib.hid hb
    have HFL := Lib.hid hFl
    have hfl1 : F.length ≤ i := by omega
    have hfl2 : i ≤ F.length := by omega
    have hsz := hb.size
    clear ho hall hb hFl
    by_cases hlt : i < n
    · have hpq : wrap64 (p + q) = p + q := by unfold wrap64; omega
      have hA2 : ∀ v ∈ F ++ [p], 1 ≤ v ∧ v ≤ 1073741824 := fun v hv => by
        rcases List.mem_append.1 hv with hv | hv
        · exact HA.out v hv
        · simp at hv; omega
      have HA2 := Lib.hid hA2
      clear hA2
      by_cases hbig : 1073741824 < p + q
      · go_wp2_with (at_builtin; refine wpList_append_j rfl (.tmp 37) (.tmp 39) rfl w1.heap.size (.slice sp i cp) i F p rfl HO.out _ rfl rfl (by omega) hsz ?_; intro v' w' hown' hgr)
        go_roundw
        case rel => exact ⟨F ++ [p], i + 1, q, 1073741824, by omega, by simp; omega, rfl, rfl, by first | rfl | go_num, hq1, hq2, by omega, by omega, hown', HA2.out, bel_append HB.out _ HO.out hgr hsz⟩
        case measure => simp [intOf]; omega
      · go_wp2_with (at_builtin; refine wpList_append_j rfl (.tmp 37) (.tmp 39) rfl w1.heap.size (.slice sp i cp) i F p rfl HO.out _ rfl rfl (by omega) hsz ?_; intro v' w' hown' hgr)
        go_roundw
        case rel => exact ⟨F ++ [p], i + 1, q, p + q, by omega, by simp; omega, rfl, by first | rfl | go_num, by first | rfl | go_num, hq1, hq2, by omega, by omega, hown', HA2.out, bel_append HB.out _ HO.out hgr hsz⟩
        case measure => simp [intOf]; omega
    · obtain rfl : i = n := by omega
      have hokF : F.length ≤ 300 ∧ allOk F := ⟨by omega, fun v hv => by have := HA.out v hv; omega⟩
      have HOK := Lib.hid hokF
      have HIF := Lib.hid (isInts_own HFL.out.symm HO.out : IsInts wr (.slice sp i cp) F)
      have hof := of_any _ F wr HIF.out (by omega)
      clear hokF HO
      go_wp2_with fail
      refine hof.mono ?_
      rintro e w2 (⟨hn, _⟩ | ⟨_, g, L, S, rfl, hg, hL, hlo, hB2⟩)
      · exact absurd HOK.out hn
      rw [HFL.out]
      have hcv := cost_val hlo HOK.out.1 HOK.out.2
      have hcl := cost_least hlo (fun v hv => by have := HA.out v hv; omega) HOK.out.1
      have HLO := Lib.hid hlo
      have HL := Lib.hid hL
      have HB2 := Lib.hid hB2
      have HCV := Lib.hid hcv
      have HCL := Lib.hid hcl
      have HIF2 := Lib.hid (HIF.out.below hB2)
      have hlL : L.length = i := by rw [hlo.len]; omega
      have HLL := Lib.hid hlL
      clear hof hlo hL hB2 hcv hcl hlL
      have hsz2 := HB2.out.size
      have hne0 : ((0 : Int) != 0) = false := bne_f rfl
      have hnei : ((i : Int) != (i : Int)) = false := bne_f rfl
      go_wp2_with fail
      obtain ⟨wo, hwo⟩ : ∃ wo, wo = w2 := ⟨_, rfl⟩
      subst hwo
      clear hlt
      go_loopw [12] (fun x wr => ∃ k : Nat, k ≤ i ∧ x = .int .i64 k ∧ wr = wo) (fun x _ => i - (intOf x).toNat)
      case atStart => exact ⟨0, by omega, rfl, rfl⟩
      case round =>
        obtain ⟨k, hk, rfl, hw⟩ := hrel
        have hw := hw.symm
        subst hw
        by_cases hlt : k < i
        · have c0 := HL.out.cell (i64s_get L k (by rw [HLL.out]; exact hlt))
          have hpos := len_pos HLO.out HOK.out.1 (x := k) (by rw [HFL.out]; exact hlt) (by
            have := HA.out (F.getD k 0) (by rw [List.getD_eq_getElem?_getD, List.getElem?_eq_getElem (by rw [HFL.out]; exact hlt)]; exact List.getElem_mem _)
            omega)
          generalize L.getD k 0 = y at *
          go_wp2
          go_roundw
          case rel => exact ⟨k + 1, by omega, by first | rfl | go_num, by first | trivial | rfl⟩
          case measure => simp [intOf]; omega
        · have hcF := cost_ref (.slice sp i cp) (.slice (some ⟨g, 0, none⟩) i i) F L _ HIF2.out (isInts_blk HL.out HLL.out.symm (by unfold maxLen; omega)) (by omega) (by rw [HLL.out]; omega)
          rw [HCV.out.1, HCL.out] at hcF
          go_wp2_with fail
          refine hcF.mono ?_
          rintro e w3 ⟨rfl, hb3⟩
          have HB3 := Lib.hid hb3
          clear hb3 hcF
          have hle := least_any _ F S w3 (HIF2.out.below HB3.out) (fun v hv => by have := HA.out v hv; omega) HOK.out.1 HLO.out.perm HLO.out.good
          generalize leastV S = lv at *
          have hbe := beq_t (rfl : lv = lv)
          have HLE := Lib.hid hle
          clear hle
          go_wp2_with fail
          refine HLE.out.mono ?_
          rintro e w4 ⟨rfl, hb4⟩
          have HB4 := Lib.hid hb4
          clear hb4
          go_wp2
          go_ret
          exact ⟨rfl, (((HB1.out.trans (HB.out.mono HB1.out.size)).trans (HB2.out.mono (Nat.le_trans HB1.out.size hsz))).trans (HB3.out.mono (Nat.le_trans (Nat.le_trans HB1.out.size hsz) hsz2))).trans (HB4.out.mono (Nat.le_trans (Nat.le_trans (Nat.le_trans HB1.out.size hsz) hsz2) HB3.out.size))⟩
end Go.Proofs.Ytnoleijdpilnpaa
