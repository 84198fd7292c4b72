/- (codes.table).next, foliolaw1.Ints, foliolaw7.cut: contracts. -/
import Derived.Test.YtijjpbpoekbekaaCodC
set_option linter.unusedSimpArgs false
set_option linter.unusedVariables false
namespace Go.Proofs.Ytijjpbpoekbekaa
open Go.RowKit Pl
theorem i64_or_nat (a b : Nat) (ha : a < 9223372036854775808) (hb : b < 9223372036854775808) : bits .or .i64 (a : Int) (b : Int) = ((a ||| b : Nat) : Int) := by
  have hx : a ||| b < 2 ^ 63 := Nat.or_lt_two_pow (by omega) (by omega)
  show IntKind.i64.wrap ((BitVec.ofInt 64 (a : Int) ||| BitVec.ofInt 64 (b : Int)).toNat : Int) = _
  rw [BitVec.toNat_or, ofInt_u64 a (by omega), ofInt_u64 b (by omega), IntKind.wrap_i64]
  omega
theorem or_bit (A c : Nat) (hA : A < 1000000) (hc : c < 2) : bits .or .i64 ((A : Int) * 2) (c : Int) = ((2 * A + c : Nat) : Int) := by
  have e : ((A : Int) * 2) = ((2 * A : Nat) : Int) := by omega
  rw [e, i64_or_nat _ _ (by omega) (by omega), nat_join1 _ _ (by omega) hc]
theorem take_one (B : List Nat) (at_ k : Nat) : take B (at_ + k) 1 = (((bitsB B).drop at_).getD k false).toNat := by
  unfold take
  rw [← List.drop_drop]
  generalize (bitsB B).drop at_ = M
  by_cases h : k < M.length
  · rw [List.drop_eq_getElem_cons h, List.take_succ_cons, List.take_zero]
    simp [val, List.getD, h]
  · rw [List.drop_eq_nil_of_le (by omega), List.getD_eq_getElem?_getD, List.getElem?_eq_none (by omega)]
    rfl
theorem stepF_out {lens : List Int} {M : List Bool} {f n : Nat} (h : M.length ≤ n) : stepF lens M (f + 1) n = none := by simp only [stepF, if_pos h]
theorem stepF_hit {lens : List Int} {M : List Bool} {f n : Nat} (h : n < M.length) (hv : val (M.take (n + 1)) < nx lens (n + 1)) : stepF lens M (f + 1) n = some ((row lens (n + 1)).getD (val (M.take (n + 1)) - 2 * nx lens n) 0, n + 1) := by
  simp only [stepF]; rw [if_neg (by omega), if_pos hv]
theorem stepF_miss {lens : List Int} {M : List Bool} {f n : Nat} (h : n < M.length) (hv : ¬ val (M.take (n + 1)) < nx lens (n + 1)) : stepF lens M (f + 1) n = stepF lens M f (n + 1) := by
  simp only [stepF]; rw [if_neg (by omega), if_neg hv]
def NextPost (lens : List Int) (b base : Nat) (B : List Nat) (at_ : Nat) (w : World) (e : Ending) (w' : World) : Prop :=
  Gr w w' b ∧ ((∃ s n, stepL lens ((bitsB B).drop at_) = some (s, n) ∧ e = .returned (.tuple #[.int .i64 s, .bool true]) ∧ Rd w' base b B (at_ + n)) ∨
    (stepL lens ((bitsB B).drop at_) = none ∧ e = .returned (.tuple #[.int .i64 0, .bool false]) ∧ ∃ n, Rd w' base b B (at_ + n)))
set_option maxHeartbeats 8000000 in
theorem next_any (lens : List Int) (hok : okL lens) (bt g : Nat) (vs : List Value) (b base : Nat) (B : List Nat) (at_ : Nat) (w : World) (ht : Tab bt w g vs (tabR lens lens.length)) (hr : Rd w base b B at_) :
    Calls Try.prog 33 #[.slice (some ⟨g, 0, none⟩) 15 15, .pointer (some ⟨b, 0, none⟩)] w (NextPost lens b base B at_ w) := by
  have hl := hok.1
  have HOK := Lib.hid hok
  have HT := Lib.hid ht
  have HR := Lib.hid hr
  obtain ⟨cs, hcs⟩ := hr.blk
  have HCS := Lib.hid hcs
  clear hok ht hr hcs
  obtain ⟨M, hM⟩ : ∃ M, M = (bitsB B).drop at_ := ⟨_, rfl⟩
  have hMl : M.length = 8 * B.length - at_ := by rw [hM, List.length_drop, bitsB_length]
  have hal := HR.out.2.1
  have HMl := Lib.hid hMl
  have HM := Lib.hid hM
  unfold NextPost
  rw [← hM]
  clear hM hMl
  go_enter Try.func33, Try.ntmps33
  go_wp2_with fail
  go_loopw [6, 7, 15] (fun x y z wr => ∃ (k : Nat), k ≤ 15 ∧ x = .int .i64 (val (M.take k) : Nat) ∧ y = .int .i64 (nx lens k : Nat) ∧ z = .int .i64 k ∧ k ≤ M.length ∧ nx lens k ≤ val (M.take k) ∧ stepF lens M (15 - k) k = stepL lens M ∧ Rd wr base b B (at_ + k) ∧ Gr w wr b) (fun _ _ z _ => 15 - (intOf z).toNat)
  case atStart => exact ⟨0, by omega, rfl, rfl, rfl, by omega, by simp [nx], rfl, HR.out, Gr.refl _ _⟩
  case round =>
    obtain ⟨k, hk, rfl, rfl, rfl, hkM, hv, hst, hr, hg⟩ := hrel
    have HRk := Lib.hid hr
    have HG := Lib.hid hg
    have HST := Lib.hid hst
    clear hr hg hst
    by_cases hlt : k < 15
    · have hkI : (k : Int) < 15 := by omega
      have HTk := Lib.hid (HT.out.gr HG.out HCS.out (by decide) (by decide))
      obtain ⟨u, hu, ho, _⟩ := HTk.out.2.2.2 k hlt
      obtain ⟨sp, cp, rfl, hcp1, hcp2⟩ := ownsRow_slice ho
      have d0 := HTk.out.2.1.cell hu
      have HI : Hid (∀ W, Gr wr W b → IsInts W (.slice sp (tabR lens lens.length k).length cp) (tabR lens lens.length k)) := Lib.hid fun W hW => by
        obtain ⟨cs', hcs'⟩ := HRk.out.blk
        exact isInts_own rfl (own_gr ho hW hcs' (by decide))
      have hNle : (tabR lens lens.length k).length ≤ lens.length := symK_le _ _ _
      have hnx : nx lens (k + 1) = 2 * nx lens k + (tabR lens lens.length k).length := rfl
      have hnxs := nx_small HOK.out.2.2 (show k + 1 ≤ 15 by omega)
      have hvl := val_lt (M.take k)
      rw [List.length_take, Nat.min_eq_left hkM] at hvl
      have hp15 : 2 ^ k ≤ 2 ^ 15 := Nat.pow_le_pow_right (by omega) hk
      rw [pw15] at hp15
      obtain ⟨N, hN⟩ : ∃ N, N = (tabR lens lens.length k).length := ⟨_, rfl⟩
      rw [← hN] at d0 hcp1 HI hNle hnx
      have HN := Lib.hid hN
      have hf : 15 - k = (14 - k) + 1 := by omega
      rw [hf] at HST
      clear hu ho hN hf
      by_cases hin : k < M.length
      · have hvs := val_take_succ M k hin
        have h1 := @stepF_hit lens M (14 - k) k hin
        have h2 := @stepF_miss lens M (14 - k) k hin
        have hget := get_any b base B (at_ + k) 1 wr HRk.out (by omega) (by rw [HMl.out] at hin; omega)
        have htk := take_one B at_ k
        rw [← HM.out] at htk
        unfold GetPost at hget
        rw [htk] at hget
        obtain ⟨c, hc⟩ : ∃ c, c = (M.getD k false).toNat := ⟨_, rfl⟩
        have hc2 : c < 2 := by rw [hc]; cases M.getD k false <;> simp
        rw [← hc] at hvs hget
        have hob := or_bit (val (M.take k)) c (by omega) hc2
        rw [← hvs] at hob
        have H1 := Lib.hid h1
        have H2 := Lib.hid h2
        have hv2 : 2 * nx lens k ≤ val (M.take (k + 1)) := by omega
        have hv3 : val (M.take (k + 1)) < 131072 := by omega
        have hv4 : val (M.take k) < 65536 := by omega
        have hc3 : c ≤ 1 := by omega
        generalize hV2 : val (M.take (k + 1)) = V2 at *
        have HV2 := Lib.hid hV2
        generalize val (M.take k) = V at *
        have HNX := Lib.hid hnx
        generalize hX2 : nx lens (k + 1) = X2 at *
        have HX2 := Lib.hid hX2
        generalize nx lens k = X at *
        have hcw : IntKind.i64.wrap (c : Int) = c := by rw [IntKind.wrap_i64]; omega
        obtain ⟨q, hq⟩ : ∃ q, q = V2 - 2 * X := ⟨_, rfl⟩
        have hs1 : (V2 : Int) - (X : Int) * 2 = (q : Int) := by omega
        have hs2 : wrap64 ((V2 : Int) - (X : Int) * 2) = (q : Int) := by unfold wrap64; omega
        have HVS := Lib.hid hvs
        have HQ := Lib.hid hq
        have hqs : q < 131072 := by omega
        have hX : X ≤ 65536 := by omega
        clear h1 h2 htk hc hvs hnx hvl hv hv2 hq hV2 hX2
        go_wp2_with fail
        refine hget.mono ?_
        rintro e w1 ⟨rfl, hr1, hg1⟩
        have HR1 := Lib.hid hr1
        have HG1 := Lib.hid hg1
        clear hr1 hg1 hget
        by_cases hqN : q < N
        · have hI := HI.out _ HG1.out
          have hql : q < (tabR lens lens.length k).length := by rw [← HN.out]; exact hqN
          obtain ⟨bb, off, cap', hs, _, _, hbb, hcc⟩ := IsInts.cells hI (by omega)
          rw [← HN.out] at hs
          simp at hs
          obtain ⟨rfl, rfl⟩ := hs
          have c0 := hcc q hql
          have hlt2 : V2 < X2 := by rw [HNX.out]; have := HQ.out; omega
          have HS := Lib.hid (H1.out hlt2)
          have hqI : (q : Int) < (N : Int) := by omega
          clear hcc hI hql hlt2
          go_wp2_with fail
          go_ret2
          refine ⟨Gr.trans HG.out HG1.out, .inl ⟨_, k + 1, by rw [← HST.out, HS.out], ?_, HR1.out⟩⟩
          rw [← HQ.out]; rfl
        · have hge : ¬ V2 < X2 := by rw [HNX.out]; have := HQ.out; omega
          have HS := Lib.hid (H2.out hge)
          have hqI : ¬ (q : Int) < (N : Int) := by omega
          clear hge
          go_wp2_with fail
          refine ⟨⟨k + 1, by omega, by rw [HV2.out], by rw [HX2.out, HNX.out]; congr 1; omega, by first | rfl | go_num, by omega, by rw [HX2.out, HV2.out, HNX.out]; have := HQ.out; omega, ?_, HR1.out, Gr.trans HG.out HG1.out⟩, ?_⟩
          · rw [show 15 - (k + 1) = 14 - k by omega, ← HS.out, HST.out]
          · simp only [intOf_int]; omega
      · have hbad := get_bad b base B (at_ + k) 1 wr HRk.out (by have := HMl.out; omega)
        have hnone : stepL lens M = none := by rw [← HST.out]; exact stepF_out (by omega)
        have HN2 := Lib.hid hnone
        clear hnone
        go_wp2_with fail
        refine hbad.mono ?_
        rintro e w1 ⟨rfl, n, rfl⟩
        clear hbad
        go_wp2
        go_ret2
        exact ⟨HG.out.drewN n, .inr ⟨HN2.out, rfl, k, HRk.out⟩⟩
    · obtain rfl : k = 15 := by omega
      go_wp2
      go_ret2
      exact ⟨HG.out, .inr ⟨HST.out.symm, rfl, 15, HRk.out⟩⟩
end Go.Proofs.Ytijjpbpoekbekaa
