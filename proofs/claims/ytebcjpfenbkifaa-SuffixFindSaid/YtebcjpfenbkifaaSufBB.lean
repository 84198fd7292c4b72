/- SuffixFind, walked. -/
import Derived.Test.YtebcjpfenbkifaaSufZ
import Derived.Test.YtebcjpfenbkifaaSufBA
import Derived.Test.YtebcjpfenbkifaaCutB
set_option linter.unusedSimpArgs false
set_option linter.unusedVariables false
namespace Go.Proofs.Ytebcjpfenbkifaa
open Go.RowKit Pl
attribute [local go_sem ↓] sliceU8_eq conv_eq
theorem hit_str {B W : List Nat} {i : Nat} {o : Bool} (hB : ∀ x ∈ B, x < 256) (hW : ∀ x ∈ W, x < 256) (h : hit B W i = o) : ((str ((B.drop i).take W.length)).toList == (str W).toList) = o := by
  rw [str_eqb (fun x hx => hB x (List.mem_of_mem_drop (List.mem_of_mem_take hx))) hW]
  exact h
set_option maxHeartbeats 8000000 in
set_option maxRecDepth 100000 in
theorem suffixFind_walk (a : Option Addr) (len cap : Nat) (z : List Int) (a' : Option Addr) (len' cap' : Nat) (z' : List Int) (w : World) (hr : IsRow .u8 w a len cap z) (hr' : IsRow .u8 w a' len' cap' z') :
    Calls Try.prog 5 #[.slice a len cap, .slice a' len' cap'] w fun e w' => e = .returned (.bool true) ∧ Below w.heap.size w w' := by
  obtain ⟨hV, hlen⟩ := isBytes_row hr
  obtain ⟨hV', hlen'⟩ := isBytes_row hr'
  have HV := Lib.hid hV
  have HW := Lib.hid hV'
  clear hr hr' hV hV'
  go_enter Try.func5, Try.ntmps5
  go_wp2_with fail
  refine (begun_any _).mono ?_
  rintro e w1 ⟨rfl, hb1⟩
  have HV1 := Lib.hid (HV.out.below hb1)
  have HW1 := Lib.hid (HW.out.below hb1)
  have HB1 := Lib.hid hb1
  clear hb1 HV HW
  go_wp2_with fail
  refine (short_any _ _ 300 _ HV1.out (by omega)).mono ?_
  rintro e w2 ⟨v2, rfl, hi2, rfl⟩
  obtain ⟨B, hB⟩ : ∃ S, S = (bytesZ z len).take 300 := ⟨_, rfl⟩
  have hBl : B.length ≤ 300 := by rw [hB, List.length_take]; omega
  rw [← hB] at hi2
  obtain ⟨N, hN⟩ : ∃ n, B.length = n := ⟨_, rfl⟩
  obtain ⟨a2, c2, hv2, hc2, hm2⟩ := hi2.slice
  rw [hN] at hv2 hBl hc2
  subst hv2
  have HS := Lib.hid hi2
  have HN := Lib.hid hN
  clear hi2 hB HV1 hlen hN
  go_wp2_with fail
  refine (short_any _ _ 4 _ HW1.out (by omega)).mono ?_
  rintro e w2 ⟨v3, rfl, hi3, rfl⟩
  obtain ⟨W, hW⟩ : ∃ S, S = (bytesZ z' len').take 4 := ⟨_, rfl⟩
  have hWl : W.length ≤ 4 := by rw [hW, List.length_take]; omega
  rw [← hW] at hi3
  obtain ⟨m, hm⟩ : ∃ n, W.length = n := ⟨_, rfl⟩
  obtain ⟨a3, c3, hv3, hc3, hm3⟩ := hi3.slice
  rw [hm] at hv3 hWl hc3
  subst hv3
  have HT := Lib.hid hi3
  have HM := Lib.hid hm
  clear hi3 hW HW1 hlen' hm
  go_wp2_with fail
  refine (sort_s (n := N) HS.out (by rw [HN.out]; omega) HN.out).mono ?_
  rintro e w3 ⟨g3, R, rfl, hR, hRl, hi3, hb3⟩
  have HR := Lib.hid hR
  have HRL := Lib.hid hRl
  have HI3 := Lib.hid hi3
  have HJ3 := Lib.hid (HS.out.below hb3)
  have HK3 := Lib.hid (HT.out.below hb3)
  have HB3 := Lib.hid (HB1.out.trans (hb3.mono HB1.out.size))
  have hbn : ((N : Int) != (N : Int)) = false := bne_f rfl
  have HC := Lib.hid (cnt_sa hR (hit B W))
  rw [HN.out] at HC
  clear hR hRl hi3 hb3 HS HT HB1
  go_wp2_with fail
  clear hbn
  have s2 := fun q => run_conv (HK3.out.below (bel_drewN (Below.refl w3.heap.size w3) q))
  go_loopw [7, 8] (fun u t wr => ∃ (i q n c : Nat), i ≤ N + 1 ∧ n = min i N ∧ c = cnt n (hit B W) ∧ c ≤ n ∧ u = .int .i64 c ∧ t = .int .i64 i ∧ wr = w3.drewN q) (fun _ t _ => N + 1 - (intOf t).toNat)
  case atStart => exact ⟨0, 0, 0, 0, by omega, by omega, rfl, by omega, rfl, rfl, rfl⟩
  case round =>
    obtain ⟨i, q, n, c, hi, hn, hc, hcn, rfl, rfl, rfl⟩ := hrel
    have HCC := Lib.hid hc
    clear hc
    by_cases hfit : i + m ≤ N
    · have hfitI : (i : Int) + (m : Int) ≤ (N : Int) := by omega
      obtain rfl : n = i := by omega
      clear hn
      obtain ⟨a1, c1, r1, k1⟩ := run_between HJ3.out n m (by rw [HN.out]; exact hfit) ((n : Int) + m) rfl
      have s1 := fun q => run_conv (k1.below (bel_drewN (Below.refl w3.heap.size w3) q))
      clear k1
      cases hh : hit B W n with
      | true =>
        have heq := hit_str HJ3.out.1 HK3.out.1 hh
        rw [HM.out] at heq
        have HH := Lib.hid hh
        clear hh
        by_cases hlt : n < N
        · have hltI : (n : Int) < (N : Int) := by omega
          go_wp2_with fail
          go_quiet (fail)
          go_wp2_with fail
          refine ⟨⟨n + 1, _, n + 1, c + 1, by omega, by omega, by rw [cnt_succ, HH.out, ← HCC.out]; rfl, by omega, by first | rfl | go_num, by first | rfl | go_num, rfl⟩, ?_⟩
          simp only [intOf_i]; omega
        · obtain rfl : n = N := by omega
          go_wp2_with fail
          go_quiet (fail)
          go_wp2_with fail
          refine ⟨⟨n + 1, _, n, c, by omega, by omega, HCC.out, by omega, rfl, by first | rfl | go_num, rfl⟩, ?_⟩
          simp only [intOf_i]; omega
      | false =>
        have heq := hit_str HJ3.out.1 HK3.out.1 hh
        rw [HM.out] at heq
        have HH := Lib.hid hh
        clear hh
        go_wp2_with fail
        go_quiet (fail)
        go_wp2_with fail
        by_cases hlt : n < N
        · refine ⟨⟨n + 1, _, n + 1, c, by omega, by omega, by rw [cnt_succ, HH.out, ← HCC.out]; rfl, by omega, rfl, by first | rfl | go_num, rfl⟩, ?_⟩
          simp only [intOf_i]; omega
        · refine ⟨⟨n + 1, _, n, c, by omega, by omega, HCC.out, by omega, rfl, by first | rfl | go_num, rfl⟩, ?_⟩
          simp only [intOf_i]; omega
    · have hfitI : ¬ (i : Int) + (m : Int) ≤ (N : Int) := by omega
      have HCN : Hid (cnt N (hit B W) = c) := Lib.hid (by
        rw [HCC.out, hn]
        exact cnt_tail N (by omega) fun p h1 h2 => hit_out (by rw [HN.out, HM.out]; omega) (by rw [HN.out]; omega))
      go_wp2_with fail
      clear hn
      go_loopw [9, 10, 11, 12] (fun f l u t wr => ∃ (k q n : Nat) (fi li : Int), k ≤ N ∧ Span B W R k fi li n ∧ f = .int .i64 fi ∧ l = .int .i64 li ∧ u = .int .i64 n ∧ t = .int .i64 k ∧ wr = w3.drewN q) (fun _ _ _ t _ => N - (intOf t).toNat)
      case atStart => exact ⟨0, q, 0, -1, -1, by omega, span_none B W R, rfl, rfl, rfl, rfl, rfl⟩
      case round =>
        obtain ⟨k, q, n, fi, li, hk, hsp, rfl, rfl, rfl, rfl, rfl⟩ := hrel
        obtain ⟨e1, e2, e3, e4, e5, e6⟩ := span_end hsp
        have HSP := Lib.hid hsp
        have HE5 := Lib.hid e5
        have HE6 := Lib.hid e6
        clear hsp e5 e6
        by_cases hlt : k < N
        · obtain ⟨b1, o1, q1, e1, -, -, -, hx1⟩ := HI3.out.cells (by rw [nI_length, HRL.out]; omega)
          simp only [Value.slice.injEq, Option.some.injEq, Addr.mk.injEq, and_true] at e1
          obtain ⟨⟨rfl, rfl⟩, -⟩ := e1
          have d1 := hx1 k (by rw [nI_length, HRL.out]; omega)
          rw [nI_get, Nat.zero_add] at d1
          have hp1 := sa_lt HR.out (k := k) (by rw [HRL.out]; omega)
          rw [HN.out] at hp1
          have HHIT := Lib.hid (fun h => span_hit HR.out (by rw [HRL.out]; exact hlt) HSP.out h)
          have HMISS := Lib.hid (fun h => span_miss HSP.out (k := k) h)
          generalize R.getD k 0 = p at *
          clear hx1
          by_cases hfit2 : p + m ≤ N
          · have hfitI2 : (p : Int) + (m : Int) ≤ (N : Int) := by omega
            obtain ⟨a1, c1, r1, k1⟩ := run_between HJ3.out p m (by rw [HN.out]; exact hfit2) ((p : Int) + m) rfl
            have s1 := fun q => run_conv (k1.below (bel_drewN (Below.refl w3.heap.size w3) q))
            clear k1
            cases hh : hit B W p with
            | true =>
              have heq := hit_str HJ3.out.1 HK3.out.1 hh
              rw [HM.out] at heq
              rcases HHIT.out hh with ⟨hf, hs⟩ | ⟨hf, hs⟩
              · have HS2 := Lib.hid hs
                clear hh hs
                go_wp2_with fail
                go_quiet (fail)
                go_wp2_with fail
                refine ⟨⟨k + 1, _, n + 1, _, _, by omega, HS2.out, rfl, rfl, by first | rfl | go_num, by first | rfl | go_num, rfl⟩, ?_⟩
                simp only [intOf_i]; omega
              · have HS2 := Lib.hid hs
                clear hh hs
                go_wp2_with fail
                go_quiet (fail)
                go_wp2_with fail
                refine ⟨⟨k + 1, _, n + 1, _, _, by omega, HS2.out, rfl, rfl, by first | rfl | go_num, by first | rfl | go_num, rfl⟩, ?_⟩
                simp only [intOf_i]; omega
            | false =>
              have heq := hit_str HJ3.out.1 HK3.out.1 hh
              rw [HM.out] at heq
              have HS2 := Lib.hid (HMISS.out hh)
              clear hh
              go_wp2_with fail
              go_quiet (fail)
              go_wp2_with fail
              refine ⟨⟨k + 1, _, n, _, _, by omega, HS2.out, rfl, rfl, rfl, by first | rfl | go_num, rfl⟩, ?_⟩
              simp only [intOf_i]; omega
          · have hfitI2 : (N : Int) < (p : Int) + (m : Int) := by omega
            have hfitI4 : ¬ (p : Int) + (m : Int) ≤ (N : Int) := by omega
            have hfitI3 : decide ((p : Int) + (m : Int) ≤ (N : Int)) = false := decide_eq_false hfitI4
            have HS2 := Lib.hid (HMISS.out (hit_out (by rw [HN.out, HM.out]; omega) (by rw [HN.out]; omega)))
            go_wp2_with fail
            go_quiet (fail)
            go_wp2_with fail
            refine ⟨⟨k + 1, _, n, _, _, by omega, HS2.out, rfl, rfl, rfl, by first | rfl | go_num, rfl⟩, ?_⟩
            simp only [intOf_i]; omega
        · obtain rfl : k = N := by omega
          have hnc : n = c := by rw [HE6.out, HC.out, HCN.out]
          subst hnc
          have hb0 : ((n : Int) == (n : Int)) = true := beq_t rfl
          by_cases hn0 : n = 0
          · subst hn0
            go_wp2_with fail
            go_ret
            exact ⟨rfl, bel_drewN HB3.out q⟩
          · have hb1 : ((n : Int) == 0) = false := beq_f (by omega)
            have h5 := HE5.out hn0
            have hb2 : (li - fi + 1 == (n : Int)) = true := beq_t h5
            go_wp2_with fail
            go_ret
            exact ⟨rfl, bel_drewN HB3.out q⟩
end Go.Proofs.Ytebcjpfenbkifaa
