/- LengthsEqual, walked. -/
import Derived.Test.YtnoleijdpilnpaaLenP
import Derived.Test.YtnoleijdpilnpaaPkgJ
set_option linter.unusedSimpArgs false
set_option linter.unusedVariables false
namespace Go.Proofs.Ytnoleijdpilnpaa
open Go.RowKit Go.Shelf Pl
set_option maxHeartbeats 8000000 in
set_option maxRecDepth 100000 in
theorem lengthsEqual_walk (n f : Int) (w : World) (wk : (Lit.int .i64 n).wf = true) (wf : (Lit.int .i64 f).wf = true) :
    Calls Try.prog 9 #[.int .i64 n, .int .i64 f] w fun e w' => e = .returned (.bool true) ∧ Below w.heap.size w w' := by
  clear wk wf
  go_enter Try.func9, Try.ntmps9
  go_wp2_with fail
  refine (begun_any _).mono ?_
  rintro e w1 ⟨rfl, hb1⟩
  have HB1 := Lib.hid hb1
  clear hb1
  by_cases c1 : n < 2
  · go_wp2
    go_ret
    exact ⟨rfl, HB1.out⟩
  by_cases c2 : 300 < n
  · go_wp2
    go_ret
    exact ⟨rfl, HB1.out⟩
  by_cases c3 : f < 1
  · go_wp2
    go_ret
    exact ⟨rfl, HB1.out⟩
  by_cases c4 : 1073741824 < f
  · go_wp2
    go_ret
    exact ⟨rfl, HB1.out⟩
  obtain ⟨m, rfl⟩ : ∃ m : Nat, n = m := ⟨n.toNat, by omega⟩
  have h2 : 2 ≤ m := by omega
  have h3 : m ≤ 300 := by omega
  have hnei : ((m : Int) != (m : Int)) = false := bne_f rfl
  go_wp2_with fail
  go_loopw [6, 7] (fun x6 x7 wr => ∃ i : Nat, i ≤ m ∧ x7 = .int .i64 i ∧ wr.ownsRow w1.heap.size 2 1 x6 i (i64s (List.replicate i f)) ∧ Below w1.heap.size w1 wr) (fun _ x _ => m - (intOf x).toNat)
  case atStart => exact ⟨0, by omega, rfl, by simpa using own_nilI w1 w1.heap.size 2, Below.refl _ _⟩
  case round =>
    obtain ⟨i, hi, rfl, ho, hb⟩ := hrel
    obtain ⟨sp, cp, rfl, _, _⟩ := ownsRow_slice ho
    have HOi := Lib.hid ho
    have HBi := Lib.hid hb
    have hsz := hb.size
    clear ho hb
    by_cases hlt : i < m
    · go_wp2_with (at_builtin; refine wpList_append_j rfl (.tmp 35) (.tmp 37) rfl w1.heap.size (.slice sp i cp) i _ f rfl HOi.out _ rfl rfl (by omega) hsz ?_; intro v' w' hown' hgr)
      go_roundw
      case rel => exact ⟨i + 1, by omega, by first | rfl | go_num, by rw [List.replicate_succ']; exact hown', bel_append HBi.out _ HOi.out hgr hsz⟩
      case measure => simp [intOf]; omega
    · obtain rfl : i = m := by omega
      have hlen : (List.replicate i f).length = i := by simp
      have hok : (List.replicate i f).length ≤ 300 ∧ allOk (List.replicate i f) := ⟨by omega, fun v hv => by
        have := (List.mem_replicate.1 hv).2
        omega⟩
      have hI : IsInts wr (.slice sp i cp) (List.replicate i f) := isInts_own hlen.symm HOi.out
      have hof := of_any _ (List.replicate i f) wr hI (by omega)
      have HOK := Lib.hid hok
      have HLN := Lib.hid hlen
      have HOF := Lib.hid hof
      clear hok hlen hI HOi hof hlt
      go_wp2_with fail
      obtain ⟨wo, hwo⟩ : ∃ wo, wo = wr := ⟨_, rfl⟩
      subst hwo
      go_loopw [8] (fun x wr => ∃ k : Nat, x = .int .i64 k ∧ 2 ^ k ≤ i ∧ wr = wo) (fun x _ => 9 - (intOf x).toNat)
      case atStart => exact ⟨0, rfl, by simp; omega, rfl⟩
      case round =>
        obtain ⟨k, rfl, hk1, hw⟩ := hrel
        have hw := hw.symm
        subst hw
        have hk9 := k_small hk1 h3
        obtain ⟨P, hPe⟩ : ∃ P : Nat, P = 2 ^ (k + 1) := ⟨_, rfl⟩
        have hP : wrap64 (2 ^ (k + 1)) = (P : Int) := by rw [shl_twos (by omega), two_cast, hPe]
        have hP512 : P ≤ 512 := by rw [hPe]; exact Nat.pow_le_pow_right (n := 2) (by omega) (show k + 1 ≤ 9 by omega)
        have HPE := Lib.hid hPe
        have HK1 := Lib.hid hk1
        have e1 : ((k : Int) + 1).toNat = k + 1 := by omega
        clear hPe hk1
        by_cases hlt : P ≤ i
        · have hd : decide ((P : Int) ≤ (i : Int)) = true := decide_eq_true (by omega)
          have hk' : 2 ^ (k + 1) ≤ i := by rw [← HPE.out]; exact hlt
          have HK' := Lib.hid hk'
          have hk10 := k_small hk' h3
          clear hk'
          go_wp2_with fail
          go_roundw
          case rel => exact ⟨k + 1, by first | rfl | go_num, HK'.out, by first | trivial | rfl⟩
          case measure => simp [intOf]; omega
        · have hd : decide ((P : Int) ≤ (i : Int)) = false := decide_eq_false (by omega)
          go_wp2_with fail
          refine HOF.out.mono ?_
          rintro e w3 (⟨hn, _⟩ | ⟨_, g, L, S, rfl, hg, hL, hlo, hB2⟩)
          · exact absurd HOK.out hn
          rw [HLN.out]
          have hlens := equal_ok (by omega) h2 h3 HK1.out (by have := HPE.out; omega) hlo
          rw [← HPE.out] at hlens
          have hlL : L.length = i := by rw [hlo.len, HLN.out]
          have HLS := Lib.hid hlens
          have HLL := Lib.hid hlL
          have HL := Lib.hid hL
          have HBE := Lib.hid ((HB1.out.trans (HBi.out.mono HB1.out.size)).trans (hB2.mono (Nat.le_trans HB1.out.size hsz)))
          clear hlens hlL hL hlo hB2 HOK HLN HBi HOF HPE HK1
          clear hlt hd
          go_wp2_with fail
          obtain ⟨wo, hwo⟩ : ∃ wo, wo = w3 := ⟨_, rfl⟩
          subst hwo
          go_loopw [11, 12] (fun x y wr => ∃ c j : Nat, j ≤ i ∧ c ≤ j ∧ y = .int .i64 j ∧ x = .int .i64 c ∧ Hid ((c : Int) = ns (fun x => if L.getD x 0 = k then 1 else 0) j) ∧ wr = wo) (fun _ x _ => i - (intOf x).toNat)
          case atStart => exact ⟨0, 0, by omega, by omega, rfl, rfl, rfl, rfl⟩
          case round =>
            obtain ⟨c, j, hj, hcj, rfl, rfl, HC, hw⟩ := hrel
            have hw := hw.symm
            subst hw
            by_cases hlt : j < i
            · have d0 := HL.out.cell (i64s_get L j (by rw [HLL.out]; exact hlt))
              rcases HLS.out.1 j hlt with hd | hd
              · have hnx : Hid (((c + 1 : Nat) : Int) = ns (fun x => if L.getD x 0 = k then 1 else 0) (j + 1)) := by
                  show _ = _
                  rw [ns, ← HC.out, if_pos hd]; omega
                rw [hd] at d0
                clear hd
                have hne : ((k : Int) != (k : Int)) = false := bne_f rfl
                have hbe := beq_t (rfl : (k : Int) = (k : Int))
                go_wp2
                go_roundw
                case rel => exact ⟨c + 1, j + 1, by omega, by omega, by first | rfl | go_num, by first | rfl | go_num, hnx, by first | trivial | rfl⟩
                case measure => simp [intOf]; omega
              · have hnx : Hid ((c : Int) = ns (fun x => if L.getD x 0 = k then 1 else 0) (j + 1)) := by
                  show _ = _
                  rw [ns, ← HC.out, if_neg (by rw [hd]; omega)]; omega
                rw [hd] at d0
                clear hd
                have hne : ((k : Int) + 1 != (k : Int) + 1) = false := bne_f rfl
                have hne2 : ((k : Int) + 1 != (k : Int)) = true := bne_t (by omega)
                have hbe : ((k : Int) + 1 == (k : Int)) = false := beq_f (by omega)
                go_wp2
                go_roundw
                case rel => exact ⟨c, j + 1, by omega, by omega, by first | rfl | go_num, rfl, hnx, by first | trivial | rfl⟩
                case measure => simp [intOf]; omega
            · obtain rfl : j = i := by omega
              have hfin : (c : Int) = (P : Int) - j := by rw [HC.out]; exact HLS.out.2
              have hbe : ((c : Int) == (P : Int) - j) = true := beq_t hfin
              clear hfin HC
              go_wp2
              go_ret
              exact ⟨rfl, HBE.out⟩
end Go.Proofs.Ytnoleijdpilnpaa
