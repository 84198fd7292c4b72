/- folioref1.Common: the walk. -/
import Derived.Test.YtklpmpniempmcaaSufB
import Derived.Test.YtklpmpniempmcaaSaH
set_option linter.unusedSimpArgs false
set_option linter.unusedVariables false
namespace Go.Proofs.Ytklpmpniempmcaa
open Go.RowKit Pl
theorem take_snocC (L : List Nat) (k : Nat) (h : k < L.length) : L.take (k + 1) = L.take k ++ [L.getD k 0] := by
  rw [List.take_add_one, List.getElem?_eq_getElem h, getD_get L 0 h]; rfl
set_option maxHeartbeats 8000000 in
set_option maxRecDepth 100000 in
theorem commonRef_any (v sv : Value) (B R : List Nat) (w : World) (hv : IsBytes w v B) (hs : IsInts w sv (nI R)) (hR : IsSA B R) (hB : B.length ≤ 1000000) :
    Calls Try.prog 15 #[v, sv] w fun e w' => ∃ (n : Nat) (sp : Option Addr) (cap : Nat), e = .returned (.slice sp n cap) ∧ n = (comL B R).length ∧ w'.ownsRow w.heap.size 3 1 (.slice sp n cap) n (i64s (nI (comL B R))) ∧ Below w.heap.size w w' := by
  have hRl := sa_length hR
  obtain ⟨N, hN⟩ : ∃ N, B.length = N := ⟨_, rfl⟩
  obtain ⟨a, cap, hv1, hcap, hmax⟩ := hv.slice
  obtain ⟨a2, cap2, hs1, hcap2, hmax2⟩ := hs.slice
  rw [nI_length, hRl, hN] at hs1 hcap2
  rw [hN] at hv1 hcap hB hRl
  subst hv1 hs1
  have HV := Lib.hid hv
  have HS := Lib.hid hs
  have HN := Lib.hid hN
  have HRL := Lib.hid hRl
  have HR := Lib.hid hR
  clear hv hs hN hRl hR
  go_enter Try.func15, Try.ntmps15
  go_wp2_with fail
  go_loopw [5, 6] (fun x y wr => ∃ (k : Nat) (sp : Option Addr) (cp : Nat), k ≤ N ∧ y = .int .i64 k ∧ x = .slice sp k cp ∧ wr.ownsRow w.heap.size 3 1 (.slice sp k cp) k (i64s (nI ((comL B R).take k))) ∧ Below w.heap.size w wr) (fun _ y _ => N - (intOf y).toNat)
  case atStart => exact ⟨0, none, 0, by omega, rfl, rfl, own_nilI _ _, Below.refl _ _⟩
  case round =>
    obtain ⟨k, sp, cp, hk, rfl, rfl, ho, hb⟩ := hrel
    have HO := Lib.hid ho
    have HB := Lib.hid hb
    have hsz : w.heap.size ≤ wr.heap.size := hb.size
    clear ho hb
    by_cases hkN : k < N
    · have hkI : (k : Int) < (N : Int) := by omega
      obtain ⟨wo, hwo⟩ : ∃ wo : World, wo = wr := ⟨_, rfl⟩
      subst hwo
      go_wp2_with fail
      go_loopw [7] (fun x wi => ∃ (n m : Nat), n ≤ N ∧ x = .int .i64 n ∧ ((k = 0 ∧ n = 0) ∨ (0 < k ∧ comV B R k = n + lcpAt B (R.getD (k - 1) 0 + n) (R.getD k 0 + n))) ∧ wi = wo.drewN m) (fun x _ => N - (intOf x).toNat)
      case atStart =>
        refine ⟨0, 0, by omega, rfl, ?_, rfl⟩
        by_cases h0 : k = 0
        · exact .inl ⟨h0, rfl⟩
        · exact .inr ⟨by omega, by unfold comV; rw [if_neg h0]; simp⟩
      case round =>
        obtain ⟨n, m, hn, rfl, hcase, rfl⟩ := hrel
        rcases hcase with ⟨rfl, rfl⟩ | ⟨h0, hc⟩
        · have HEX : Hid (comV B R 0 = 0) := Lib.hid (by unfold comV; rw [if_pos rfl])
          have HTK : Hid (nI ((comL B R).take 0) ++ [((0 : Nat) : Int)] = nI ((comL B R).take (0 + 1))) := Lib.hid (by
            rw [take_snocC (comL B R) 0 (by rw [comL_length, HRL.out]; omega), comL_get B R (by rw [HRL.out]; omega), HEX.out, nI_append]; rfl)
          go_wp2_with fail
          go_quiet (fail)
          go_wp2_with (at_builtin; refine wpList_append_int rfl (.tmp 63) (.tmp 65) rfl w.heap.size _ 0 _ ((0 : Nat) : Int) rfl HO.out _ rfl rfl (by omega) hsz ?_; intro v6 w6 hown hgr; rw [HTK.out] at hown; have HO6 := Lib.hid hown; have HB6 := Lib.hid (bel_append (bel_drewN HB.out _) _ HO.out hgr hsz); obtain ⟨sp6, cp6, rfl, _, _⟩ := ownsRow_slice hown; clear hown hgr)
          refine ⟨⟨0 + 1, _, _, by omega, by first | rfl | go_num, rfl, HO6.out, HB6.out⟩, ?_⟩
          simp only [intOf_i]; omega
        · have h0I : (0 : Int) < (k : Int) := by omega
          obtain ⟨b1, o1, q1, e1, -, -, -, hx1⟩ := (HS.out.below HB.out).cells (by rw [nI_length, HRL.out]; omega)
          simp only [Value.slice.injEq, Option.some.injEq] at e1
          obtain ⟨rfl, -, rfl⟩ := e1
          have d1 := hx1 k (by rw [nI_length, HRL.out]; omega)
          have d2 := hx1 (k - 1) (by rw [nI_length, HRL.out]; omega)
          rw [nI_get] at d1 d2
          obtain ⟨b3, o3, q3, e3, -, -, -, hx3⟩ := (HV.out.below HB.out).cells (by rw [HN.out]; omega)
          simp only [Value.slice.injEq, Option.some.injEq] at e3
          obtain ⟨rfl, -, rfl⟩ := e3
          have hp1 := sa_lt HR.out (k := k) (by rw [HRL.out]; omega)
          have hp2 := sa_lt HR.out (k := k - 1) (by rw [HRL.out]; omega)
          rw [HN.out] at hp1 hp2
          have HC := Lib.hid hc
          generalize R.getD k 0 = p at *
          generalize R.getD (k - 1) 0 = q at *
          obtain ⟨j, hj⟩ : ∃ j, k - 1 = j := ⟨_, rfl⟩
          rw [hj] at d2
          have hkj : (k : Int) - 1 = (j : Int) := by omega
          have HJ := Lib.hid hj
          clear hj
          clear hx1 hc
          by_cases hf1 : p + n < N
          · have hf1I : (p : Int) + (n : Int) < (N : Int) := by omega
            have y1 := hx3 (p + n) (by rw [HN.out]; exact hf1)
            by_cases hf2 : q + n < N
            · have hf2I : (q : Int) + (n : Int) < (N : Int) := by omega
              have y2 := hx3 (q + n) (by rw [HN.out]; exact hf2)
              have hstep := lcp_step (B := B) (i := q + n) (j := p + n) (by rw [HN.out]; exact hf2) (by rw [HN.out]; exact hf1)
              have HST := Lib.hid hstep
              generalize B.getD (p + n) 0 = c at *
              generalize B.getD (q + n) 0 = d at *
              clear hx3 hstep
              by_cases hcd : c = d
              · subst hcd
                have hbt : ((c : Int) == (c : Int)) = true := beq_t rfl
                go_wp2_with fail
                go_quiet (fail)
                go_wp2_with fail
                have HNX : Hid (comV B R k = (n + 1) + lcpAt B (q + (n + 1)) (p + (n + 1))) := Lib.hid (by rw [HC.out, HST.out, if_pos (by trivial), Nat.add_assoc q, Nat.add_assoc p]; omega)
                go_roundw
                case rel => exact ⟨n + 1, _, by omega, by first | rfl | go_num, Or.inr ⟨by omega, HNX.out⟩, rfl⟩
                case measure => simp only [intOf_i]; omega
              · have hbt : ((c : Int) == (d : Int)) = false := beq_f (by omega)
                have HEX : Hid (comV B R k = n) := Lib.hid (by rw [HC.out, HST.out, if_neg (fun h => hcd h.symm)]; rfl)
                have HTK : Hid (nI ((comL B R).take k) ++ [(n : Int)] = nI ((comL B R).take (k + 1))) := Lib.hid (by
                  rw [take_snocC (comL B R) k (by rw [comL_length, HRL.out]; omega), comL_get B R (by rw [HRL.out]; omega), HEX.out, nI_append]; rfl)
                go_wp2_with fail
                go_quiet (fail)
                go_wp2_with (at_builtin; refine wpList_append_int rfl (.tmp 63) (.tmp 65) rfl w.heap.size _ k _ (n : Int) rfl HO.out _ rfl rfl (by omega) hsz ?_; intro v6 w6 hown hgr; rw [HTK.out] at hown; have HO6 := Lib.hid hown; have HB6 := Lib.hid (bel_append (bel_drewN HB.out _) _ HO.out hgr hsz); obtain ⟨sp6, cp6, rfl, _, _⟩ := ownsRow_slice hown; clear hown hgr)
                refine ⟨⟨k + 1, _, _, by omega, by first | rfl | go_num, rfl, HO6.out, HB6.out⟩, ?_⟩
                simp only [intOf_i]; omega
            · have hf2I : (N : Int) ≤ (q : Int) + (n : Int) := by omega
              have hf2J : ¬ (q : Int) + (n : Int) < (N : Int) := by omega
              have hf2K : decide ((q : Int) + (n : Int) < (N : Int)) = false := decide_eq_false hf2J
              have HEX : Hid (comV B R k = n) := Lib.hid (by rw [HC.out, lcp_end (.inl (by rw [HN.out]; omega))]; rfl)
              clear hx3
              have HTK : Hid (nI ((comL B R).take k) ++ [(n : Int)] = nI ((comL B R).take (k + 1))) := Lib.hid (by
                rw [take_snocC (comL B R) k (by rw [comL_length, HRL.out]; omega), comL_get B R (by rw [HRL.out]; omega), HEX.out, nI_append]; rfl)
              go_wp2_with fail
              go_quiet (fail)
              go_wp2_with (at_builtin; refine wpList_append_int rfl (.tmp 63) (.tmp 65) rfl w.heap.size _ k _ (n : Int) rfl HO.out _ rfl rfl (by omega) hsz ?_; intro v6 w6 hown hgr; rw [HTK.out] at hown; have HO6 := Lib.hid hown; have HB6 := Lib.hid (bel_append (bel_drewN HB.out _) _ HO.out hgr hsz); obtain ⟨sp6, cp6, rfl, _, _⟩ := ownsRow_slice hown; clear hown hgr)
              refine ⟨⟨k + 1, _, _, by omega, by first | rfl | go_num, rfl, HO6.out, HB6.out⟩, ?_⟩
              simp only [intOf_i]; omega
          · have hf1I : (N : Int) ≤ (p : Int) + (n : Int) := by omega
            have hf1J : ¬ (p : Int) + (n : Int) < (N : Int) := by omega
            have hf1K : decide ((p : Int) + (n : Int) < (N : Int)) = false := decide_eq_false hf1J
            have HEX : Hid (comV B R k = n) := Lib.hid (by rw [HC.out, lcp_end (.inr (by rw [HN.out]; omega))]; rfl)
            clear hx3
            have HTK : Hid (nI ((comL B R).take k) ++ [(n : Int)] = nI ((comL B R).take (k + 1))) := Lib.hid (by
              rw [take_snocC (comL B R) k (by rw [comL_length, HRL.out]; omega), comL_get B R (by rw [HRL.out]; omega), HEX.out, nI_append]; rfl)
            go_wp2_with fail
            go_quiet (fail)
            go_wp2_with (at_builtin; refine wpList_append_int rfl (.tmp 63) (.tmp 65) rfl w.heap.size _ k _ (n : Int) rfl HO.out _ rfl rfl (by omega) hsz ?_; intro v6 w6 hown hgr; rw [HTK.out] at hown; have HO6 := Lib.hid hown; have HB6 := Lib.hid (bel_append (bel_drewN HB.out _) _ HO.out hgr hsz); obtain ⟨sp6, cp6, rfl, _, _⟩ := ownsRow_slice hown; clear hown hgr)
            refine ⟨⟨k + 1, _, _, by omega, by first | rfl | go_num, rfl, HO6.out, HB6.out⟩, ?_⟩
            simp only [intOf_i]; omega
    · obtain rfl : k = N := by omega
      go_wp2_with fail
      go_ret
      refine ⟨k, sp, cp, rfl, by rw [comL_length, HRL.out], ?_, HB.out⟩
      have := HO.out
      rw [List.take_of_length_le (by rw [comL_length, HRL.out]; exact Nat.le_refl _)] at this
      exact this
end Go.Proofs.Ytklpmpniempmcaa
