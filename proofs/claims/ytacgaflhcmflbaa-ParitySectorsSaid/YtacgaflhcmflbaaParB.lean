/- parity.Make; the verifier's Parity: contracts. -/
import Derived.Test.YtacgaflhcmflbaaParA
set_option linter.unusedSimpArgs false
set_option linter.unusedVariables false
namespace Go.Proofs.Ytacgaflhcmflbaa
open Go.RowKit Pl
def maxN (ats : Array TypeId) (ty : TypeId) (v u : Value) : Sem Value := Builtin.max_ ats ty #[v, u]
theorem maxN_eq (ats : Array TypeId) (ty : TypeId) (v u : Value) : Builtin.max_ ats ty #[v, u] = maxN ats ty v u := rfl
theorem run_maxN (ats : Array TypeId) (ty : TypeId) (m n : Nat) (w : World) : (maxN ats ty (.int .i64 m) (.int .i64 n)).run Try.prog w = .ok (.int .i64 ((max m n : Nat) : Int)) w := by
  unfold maxN Builtin.max_
  by_cases h : m < n
  · have e : max m n = n := by omega
    have h' : (m : Int) < (n : Int) := by omega
    rw [e]
    simp [Builtin.max2, h]
  · have e : max m n = m := by omega
    rw [e]
    simp [Builtin.max2, h]
namespace Pl
/-- first k done, the k-th of i members -/
def parU (L : List (List Nat)) (k i j : Nat) : Nat := if j < k then xorA L j else if j = k then xorA (L.take i) j else 0
theorem parU_next (L : List (List Nat)) (k : Nat) (n : Nat) : rng n (parU L k L.length) = rng n (parU L (k + 1) 0) := by
  refine rng_congr fun j _ => ?_
  unfold parU
  rw [List.take_length]
  by_cases h1 : j < k
  · rw [if_pos h1, if_pos (by omega)]
  · rw [if_neg h1]
    by_cases h2 : j = k
    · rw [if_pos h2, if_pos (by omega)]
    · rw [if_neg h2, if_neg (by omega)]
      split
      · simp [xorA]
      · rfl
theorem parU_zero (L : List (List Nat)) (n : Nat) : rng n (parU L 0 0) = List.replicate n 0 := by
  rw [← rng_zero]
  refine rng_congr fun j _ => ?_
  unfold parU
  rw [if_neg (by omega)]
  split
  · simp [xorA]
  · rfl
theorem parU_skip (L : List (List Nat)) (n k i : Nat) (hi : i < L.length) (h : (L.getD i []).length ≤ k) : rng n (parU L k i) = rng n (parU L k (i + 1)) := by
  refine rng_congr fun j _ => ?_
  unfold parU
  split
  · rfl
  · split
    · rename_i h1 h2
      subst h2
      rw [xorA_step L i j hi, List.getD_eq_getElem?_getD (l := L.getD i []), List.getElem?_eq_none h]
      simp
    · rfl
theorem parU_set (L : List (List Nat)) (n k i : Nat) (hi : i < L.length) : (rng n (parU L k i)).set k (xorA (L.take i) k ^^^ (L.getD i []).getD k 0) = rng n (parU L k (i + 1)) := by
  refine rng_set ?_ fun j _ hj => ?_
  · unfold parU
    rw [if_neg (by omega), if_pos rfl, xorA_step L i k hi]
  · unfold parU
    rw [if_neg hj, if_neg hj]
theorem parU_all (L : List (List Nat)) (n : Nat) : rng n (parU L n 0) = rng n (xorA L) := by
  refine rng_congr fun j hj => ?_
  unfold parU
  rw [if_pos hj]
theorem parU_at (L : List (List Nat)) (n k i : Nat) (h : k < n) : (rng n (parU L k i)).getD k 0 = xorA (L.take i) k := by
  rw [rng_get _ _ h]
  unfold parU
  rw [if_neg (by omega), if_pos rfl]
end Pl
attribute [local go_sem ↓] maxN_eq
set_option maxHeartbeats 4000000 in
theorem make_any (v : Value) (L : List (List Nat)) (w : World) (hr : IsRows w v L) (hL : L.length ≤ 1000000) (hm : mxL L ≤ 1000000) : Calls Try.prog 11 #[v] w (MadePost (parP L) w) := by
  obtain ⟨a, cap, rfl, hcap, hmax⟩ := hr.slice
  unfold maxLen at hmax
  by_cases h0 : L.length = 0
  · have hnil : L = [] := List.eq_nil_of_length_eq_zero h0
    subst hnil
    clear hr
    go_enter Try.func11, Try.ntmps11
    go_wp2
    go_ret
    exact ⟨_, rfl, own_nil _ _, Below.refl _ _⟩
  obtain ⟨n, hn⟩ : ∃ n, L.length = n := ⟨_, rfl⟩
  have hr' : IsRows w (.slice a n cap) L := by rw [← hn]; exact hr
  rw [hn] at h0 hL hcap ⊢
  have hd0 : ((n : Int) == 0) = false := by rw [beq_eq_false_iff_ne]; omega
  have HR := Lib.hid hr'
  have HN := Lib.hid hn
  have HMX := Lib.hid hm
  have HLT := Lib.hid hr.lt
  obtain ⟨i0, hi, hz0, hz1, hz2⟩ := info_parts info5
  have Hi := Lib.hid hi
  have Hz0 := Lib.hid hz0
  have Hz1 := Lib.hid hz1
  have Hz2 := Lib.hid hz2
  clear hi hz0 hz1 hz2 hr hr' hn hm
  go_enter Try.func11, Try.ntmps11
  go_wp2
  go_loop [3, 14] (fun x y => ∃ i : Nat, i ≤ n ∧ y = .int .i64 i ∧ x = .int .i64 (mxL (L.take i) : Nat)) (fun _ y => n - (intOf y).toNat)
  case atStart => exact ⟨0, by omega, rfl, by simp [mxL]⟩
  case round =>
    obtain ⟨i, hi, rfl, rfl⟩ := hrel
    by_cases hlt : i < n
    · obtain ⟨b, off, a', c', rfl, hbl, hc, hI⟩ := HR.out.at (i := i) (by rw [HN.out]; exact hlt)
      have hst := mxL_step L i (by rw [HN.out]; exact hlt)
      have hmx := fun ats ty W => run_maxN ats ty (mxL (L.take i)) (L.getD i []).length W
      rw [← hst] at hmx
      have HST := Lib.hid hst
      clear hI hst
      generalize (L.getD i []).length = q at *
      generalize mxL (L.take i) = r at *
      go_wp2
      go_round
      case rel => exact ⟨i + 1, by omega, by go_num, rfl⟩
      case measure => simp [intOf]; omega
    · obtain rfl : i = n := by omega
      obtain ⟨M, hM⟩ : ∃ M, mxL L = M := ⟨_, rfl⟩
      have hMl := HMX.out
      have hti : L.take i = L := by rw [← HN.out, List.take_length]
      rw [hM] at hMl
      rw [hti, hM]
      have HM := Lib.hid hM
      clear hM hti
      go_wp2_with (at_make; refine wpList_make_full _ rfl _ _ 23 rfl w.heap.size 5 i0 (.int .u8 0) 1 Try.underlying23 Hi.out Hz0.out Hz1.out .i64 .i64 _ _ M rfl rfl rfl rfl (by rw [Hz2.out]; omega) (by unfold maxLen; omega) (Nat.le_refl _) ?_; intro w1 hown hgr)
      have HO1 : Hid (w1.ownsRow 0 5 1 (.slice (some ⟨w.heap.size, 0, none⟩) M M) M (u8s (rng M (xorA (L.take 0))))) := Lib.hid (by
        rw [made_list] at hown
        have e : rng M (xorA (L.take 0)) = List.replicate M 0 := by
          rw [← rng_zero]
          exact rng_congr fun _ _ => by simp [xorA]
        rw [e]
        have e2 : u8s (List.replicate M 0) = List.replicate M (.int .u8 0) := by simp [u8s]
        rw [e2]
        exact own_base hown (Nat.zero_le _))
      have HB1 : Hid (Below w.heap.size w w1) := Lib.hid ((Below.refl _ _).grown hgr (Nat.le_refl _) (by simp))
      clear hown hgr
      go_loopw [27] (fun y wr => ∃ j : Nat, j ≤ i ∧ y = .int .i64 j ∧ wr.ownsRow 0 5 1 (.slice (some ⟨w.heap.size, 0, none⟩) M M) M (u8s (rng M (xorA (L.take j)))) ∧ Below w.heap.size w wr) (fun y _ => i - (intOf y).toNat)
      case atStart => exact ⟨0, by omega, rfl, HO1.out, HB1.out⟩
      case round =>
        obtain ⟨j, hj, rfl, ho, hb⟩ := hrel
        have HO := Lib.hid ho
        have HB := Lib.hid hb
        clear HO1 HB1 ho hb
        by_cases hlt2 : j < i
        · obtain ⟨b, off, a', c', rfl, hbl, hc, hI⟩ := HR.out.at (i := j) (by rw [HN.out]; exact hlt2)
          have c0 := (HB.out.cell (p := ⟨b, off + j, none⟩) hbl).trans hc
          have hge := mxL_at (L := L) (i := j) (by rw [HN.out]; exact hlt2)
          have hadd := add_any (.slice (some ⟨w.heap.size, 0, none⟩) M M) (.slice a' (L.getD j []).length c') (rng M (xorA (L.take j))) (L.getD j []) wr (by rw [rng_length]; exact HO.out) (hI.below HB.out) (by rw [rng_length, ← HM.out]; exact hge) (rng_lt fun k _ => xorA_lt (fun B hB => HLT.out B (List.mem_of_mem_take hB)) k) (by rw [rng_length]; exact hMl)
            (fun ad m c he h0 => by
              obtain ⟨b2, off2, cap2, hs2, _, _, hb2, _⟩ := hI.cells h0
              rw [he] at hs2
              simp at hs2
              rw [hs2.1]
              intro e
              simp [Value.ownBlock] at e
              omega)
          rw [rng_length, addP_step L M j (by rw [HN.out]; exact hlt2)] at hadd
          have HA := Lib.hid hadd
          clear hadd hI hc hge
          generalize (L.getD j []).length = q at *
          go_wp2_with fail
          refine HA.out.mono ?_
          rintro e w2 ⟨rfl, ho2, hg2⟩
          have HO2 := Lib.hid ho2
          have HB2 := Lib.hid (HB.out.grown hg2 HB.out.size (by intro k hk; simp [Value.ownBlock] at hk; omega))
          clear ho2 hg2 HA HO HB c0
          go_wp2
          go_roundw
          case rel => exact ⟨j + 1, by omega, by go_num, HO2.out, HB2.out⟩
          case measure => simp [intOf]; omega
        · obtain rfl : j = i := by omega
          go_wp2
          go_ret
          have hti : L.take j = L := by rw [← HN.out, List.take_length]
          have ho := HO.out
          rw [hti, ← HM.out] at ho
          have h2 := made_blk ho
          exact ⟨_, rfl, by rw [parP_length, ← HM.out]; exact blk_own h2 (Nat.le_refl _) (by rw [u8s_length]; exact parP_length L) (by unfold maxLen; have := HM.out; omega), HB.out⟩
set_option maxHeartbeats 8000000 in
theorem refParity_any (v : Value) (L : List (List Nat)) (w : World) (hr : IsRows w v L) (hL : L.length ≤ 1000000) (hm : mxL L ≤ 1000000) : Calls Try.prog 12 #[v] w (MadePost (parP L) w) := by
  obtain ⟨a, cap, rfl, hcap, hmax⟩ := hr.slice
  unfold maxLen at hmax
  obtain ⟨n, hn⟩ : ∃ n, L.length = n := ⟨_, rfl⟩
  have hr' : IsRows w (.slice a n cap) L := by rw [← hn]; exact hr
  rw [hn] at hL hcap ⊢
  have HR := Lib.hid hr'
  have HN := Lib.hid hn
  have HMX := Lib.hid hm
  have HLT := Lib.hid hr.lt
  obtain ⟨i0, hi, hz0, hz1, hz2⟩ := info_parts info5
  have Hi := Lib.hid hi
  have Hz0 := Lib.hid hz0
  have Hz1 := Lib.hid hz1
  have Hz2 := Lib.hid hz2
  clear hi hz0 hz1 hz2 hr hr' hn hm
  go_enter Try.func12, Try.ntmps12
  go_wp2
  go_loop [3, 4] (fun x y => ∃ i : Nat, i ≤ n ∧ y = .int .i64 i ∧ x = .int .i64 (mxL (L.take i) : Nat)) (fun _ y => n - (intOf y).toNat)
  case atStart => exact ⟨0, by omega, rfl, by simp [mxL]⟩
  case round =>
    obtain ⟨i, hi, rfl, rfl⟩ := hrel
    by_cases hlt : i < n
    · obtain ⟨b, off, a', c', rfl, hbl, hc, hI⟩ := HR.out.at (i := i) (by rw [HN.out]; exact hlt)
      have hst := mxL_step L i (by rw [HN.out]; exact hlt)
      have hmx := fun ats ty W => run_maxN ats ty (mxL (L.take i)) (L.getD i []).length W
      rw [← hst] at hmx
      have HST := Lib.hid hst
      clear hI hst
      generalize (L.getD i []).length = q at *
      generalize mxL (L.take i) = r at *
      go_wp2
      go_round
      case rel => exact ⟨i + 1, by omega, by go_num, rfl⟩
      case measure => simp [intOf]; omega
    · obtain rfl : i = n := by omega
      obtain ⟨M, hM⟩ : ∃ M, mxL L = M := ⟨_, rfl⟩
      have hMl := HMX.out
      have hti : L.take i = L := by rw [← HN.out, List.take_length]
      rw [hM] at hMl
      rw [hti, hM]
      have HM := Lib.hid hM
      clear hM hti
      by_cases h0 : i = 0
      · have hnil : L = [] := List.eq_nil_of_length_eq_zero (by rw [HN.out]; exact h0)
        have hd0 : ((i : Int) == 0) = true := by rw [beq_iff_eq]; omega
        have HNL := Lib.hid hnil
        clear hnil h0
        go_wp2
        go_ret
        rw [HNL.out]
        exact ⟨_, rfl, own_nil _ _, Below.refl _ _⟩
      have hd0 : ((i : Int) == 0) = false := by rw [beq_eq_false_iff_ne]; omega
      have hnn : ¬ ((i : Int) < (i : Int)) := by omega
      obtain ⟨n4, hn4⟩ : ∃ n4, n4 = i := ⟨_, rfl⟩
      have HN4 := Lib.hid hn4
      clear h0 hlt
      go_wp2_with (at_make; refine wpList_make_full _ rfl _ _ 23 rfl w.heap.size 5 i0 (.int .u8 0) 1 Try.underlying23 Hi.out Hz0.out Hz1.out .i64 .i64 _ _ M rfl rfl rfl rfl (by rw [Hz2.out]; omega) (by unfold maxLen; omega) (Nat.le_refl _) ?_; intro w1 hown hgr)
      have HO1 : Hid (w1.ownsRow 0 5 1 (.slice (some ⟨w.heap.size, 0, none⟩) M M) M (u8s (rng M (parU L 0 0)))) := Lib.hid (by
        rw [made_list] at hown
        rw [parU_zero]
        have e2 : u8s (List.replicate M 0) = List.replicate M (.int .u8 0) := by simp [u8s]
        rw [e2]
        exact own_base hown (Nat.zero_le _))
      have HB1 : Hid (Below w.heap.size w w1) := Lib.hid ((Below.refl _ _).grown hgr (Nat.le_refl _) (by simp))
      clear hown hgr
      go_loopw [6] (fun y wr => ∃ k : Nat, k ≤ M ∧ y = .int .i64 k ∧ wr.ownsRow 0 5 1 (.slice (some ⟨w.heap.size, 0, none⟩) M M) M (u8s (rng M (parU L k 0))) ∧ Below w.heap.size w wr) (fun y _ => M - (intOf y).toNat)
      case atStart => exact ⟨0, by omega, rfl, HO1.out, HB1.out⟩
      case round =>
        obtain ⟨k, hk, rfl, ho, hb⟩ := hrel
        obtain ⟨wo, hwo⟩ : ∃ wo, wo = wr := ⟨_, rfl⟩
        subst hwo
        have HO := Lib.hid ho
        have HB := Lib.hid hb
        clear HO1 HB1 ho hb
        by_cases hlt2 : k < M
        · go_wp2
          go_loopw [7] (fun y wk => ∃ j : Nat, j ≤ i ∧ y = .int .i64 j ∧ wk.ownsRow 0 5 1 (.slice (some ⟨w.heap.size, 0, none⟩) M M) M (u8s (rng M (parU L k j))) ∧ Below w.heap.size w wk) (fun y _ => i - (intOf y).toNat)
          case atStart => exact ⟨0, by omega, rfl, HO.out, HB.out⟩
          case round =>
            obtain ⟨j, hj, rfl, ho, hb⟩ := hrel
            have HOk := Lib.hid ho
            have HBk := Lib.hid hb
            clear HO HB ho hb
            by_cases hlt3 : j < i
            · obtain ⟨b, off, a', c', rfl, hbl, hc, hI⟩ := HR.out.at (i := j) (by rw [HN.out]; exact hlt3)
              have c0 := (HBk.out.cell (p := ⟨b, off + j, none⟩) hbl).trans hc
              have hskip := parU_skip L M k j (by rw [HN.out]; exact hlt3)
              have hset := parU_set L M k j (by rw [HN.out]; exact hlt3)
              have hat := parU_at L M k j hlt2
              have hx := xorA_lt (fun B hB => HLT.out B (List.mem_of_mem_take hB) : ∀ B ∈ L.take j, ∀ x ∈ B, x < 256) k
              have hy := getD_lt hI.1 k
              have c1 := own_cell HOk.out (i := k) hlt2
              have f1 := World.ownsRow.frozenAt HOk.out k
              rw [hat] at c1
              have HSK := Lib.hid hskip
              have HSE := Lib.hid hset
              have HI := Lib.hid (hI.below HBk.out)
              obtain ⟨q, hq⟩ : ∃ q, (L.getD j []).length = q := ⟨_, rfl⟩
              rw [hq] at HI c0 HSK
              have HQ := Lib.hid hq
              clear hskip hset hat hI hc hq
              by_cases hkq : k < q
              · obtain ⟨b3, off3, cap3, hs3, _, _, _, hc3⟩ := (show IsBytes wr (.slice a' (L.getD j []).length c') (L.getD j []) by rw [HQ.out]; exact HI.out).cells (by rw [HQ.out]; omega)
                rw [HQ.out] at hs3
                simp at hs3
                obtain ⟨rfl, rfl⟩ := hs3
                have c2 := hc3 k (by rw [HQ.out]; exact hkq)
                clear hc3 HSK
                generalize (L.getD j []).getD k 0 = x at *
                generalize xorA (L.take j) k = y at *
                have e1 : bits BinOp.xor IntKind.u8 (y : Int) (x : Int) = ((y ^^^ x : Nat) : Int) := u8_xor_nat _ _ hx hy
                clear hx hy
                generalize y ^^^ x = z at *
                go_wp2
                go_region
                go_wp2
                go_roundw
                case rel =>
                  refine ⟨j + 1, by omega, by go_num, ?_, ?_⟩
                  · have := (World.ownsRow.stored HOk.out k (.int .u8 z)).1
                    rw [u8s_set, HSE.out] at this
                    exact this
                  · exact (HBk.out.grown (World.ownsRow.stored HOk.out k (.int .u8 z)).2 HBk.out.size (by intro k hk; simp [Value.ownBlock] at hk; omega)).drew
                case measure => simp [intOf]; omega
              · have HS := Lib.hid (HSK.out (by omega))
                clear HSK hx hy c1 f1
                go_wp2
                go_roundw
                case rel =>
                  refine ⟨j + 1, by omega, by go_num, ?_, HBk.out⟩
                  rw [← HS.out]; exact HOk.out
                case measure => simp [intOf]; omega
            · obtain rfl : j = i := by omega
              have hnx := parU_next L k M
              rw [HN.out] at hnx
              have HNX := Lib.hid hnx
              clear hnx
              go_wp2
              go_roundw
              case rel =>
                refine ⟨k + 1, by omega, by go_num, ?_, HBk.out⟩
                rw [← HNX.out]; exact HOk.out
              case measure => simp [intOf]; omega
        · obtain rfl : k = M := by omega
          go_wp2
          go_ret
          have ho := HO.out
          rw [parU_all, ← HM.out] at ho
          have h2 := made_blk ho
          exact ⟨_, rfl, by rw [parP_length, ← HM.out]; exact blk_own h2 (Nat.le_refl _) (by rw [u8s_length]; exact parP_length L) (by unfold maxLen; have := HM.out; omega), HB.out⟩
end Go.Proofs.Ytacgaflhcmflbaa
