/- LengthsTwos, walked. -/
import Derived.Test.YtnoleijdpilnpaaLenO
import Derived.Test.YtnoleijdpilnpaaPkgI
set_option linter.unusedSimpArgs false
set_option linter.unusedVariables false
namespace Go.Proofs.Ytnoleijdpilnpaa
open Go.RowKit Go.Shelf Pl
theorem own_new (w : World) (c : List Value) (t : TypeId) {base : Nat} (hb : base ≤ w.heap.size) (hl : c.length ≤ maxLen) : (w.alloc (.cells c.toArray t)).ownsRow base t 1 (.slice (some ⟨w.heap.size, 0, none⟩) c.length c.length) c.length c :=
  ⟨by omega, .inr ⟨w.heap.size, c.length, c.toArray, rfl, hb, heap_alloc_new w _, Nat.le_refl _, hl, by simp, by simp⟩⟩
namespace Pl
theorem two_cast (i : Nat) : (2 : Int) ^ i = ((2 ^ i : Nat) : Int) := by simp
theorem shl_twos {i : Nat} (h : i ≤ 60) : wrap64 (2 ^ i) = 2 ^ i := by
  have h1 : 2 ^ i ≤ 2 ^ 60 := Nat.pow_le_pow_right (n := 2) (by omega) h
  rw [two_cast]
  generalize 2 ^ i = z at *
  unfold wrap64; omega
end Pl
set_option maxHeartbeats 8000000 in
set_option maxRecDepth 100000 in
theorem lengthsTwos_walk (n : Int) (w : World) (wk : (Lit.int .i64 n).wf = true) :
    Calls Try.prog 6 #[.int .i64 n] w fun e w' => e = .returned (.bool true) ∧ Below w.heap.size w w' := by
  clear wk
  go_enter Try.func6, Try.ntmps6
  go_wp2_with fail
  refine (begun_any _).mono ?_
  rintro e w1 ⟨rfl, hb1⟩
  have HB1 := Lib.hid hb1
  clear hb1
  by_cases c1 : n < 2
  · go_wp2
    go_ret
    exact ⟨rfl, HB1.out⟩
  by_cases c2 : 16 < n
  · go_wp2
    go_ret
    exact ⟨rfl, HB1.out⟩
  obtain ⟨m, rfl⟩ : ∃ m : Nat, n = m := ⟨n.toNat, by omega⟩
  have h2 : 2 ≤ m := by omega
  have h16 : m ≤ 16 := by omega
  have hnei : ((m : Int) != (m : Int)) = false := bne_f rfl
  go_wp2_with fail
  have hO : (w1.alloc (.cells #[.int .i64 1, .int .i64 1] 2)).ownsRow w1.heap.size 2 1 (.slice (some ⟨w1.heap.size, 0, none⟩) 2 2) 2 (i64s (twosL 2)) := own_new w1 [.int .i64 1, .int .i64 1] 2 (Nat.le_refl _) (by decide)
  have HO := Lib.hid hO
  have HB := Lib.hid ((Below.refl w1.heap.size w1).alloc (Nat.le_refl _) (.cells #[.int .i64 1, .int .i64 1] 2))
  clear hO
  generalize w1.alloc (.cells #[.int .i64 1, .int .i64 1] 2) = w2 at *
  go_loopw [4, 5] (fun x4 x5 wr => ∃ i : Nat, 2 ≤ i ∧ i ≤ m ∧ x5 = .int .i64 i ∧ wr.ownsRow w1.heap.size 2 1 x4 i (i64s (twosL i)) ∧ Below w1.heap.size w1 wr) (fun _ x _ => m - (intOf x).toNat)
  case atStart => exact ⟨2, by omega, by omega, rfl, HO.out, HB.out⟩
  case round =>
    obtain ⟨i, hi2, hi, rfl, ho, hb⟩ := hrel
    obtain ⟨sp, cp, rfl, _, _⟩ := ownsRow_slice ho
    have HOi := Lib.hid ho
    have HBi := Lib.hid hb
    have hsz := hb.size
    clear ho hb HO HB
    by_cases hlt : i < m
    · have hsh := shl_twos (i := i - 1) (by omega)
      have hsn := twos_snoc i (by omega)
      have HSN := Lib.hid hsn
      clear hsn
      have e1 : ((i : Int) - 1).toNat = i - 1 := by omega
      go_wp2_with (at_builtin; refine wpList_append_j rfl (.tmp 24) (.tmp 29) rfl w1.heap.size (.slice sp i cp) i _ (2 ^ (i - 1)) rfl HOi.out _ rfl rfl (by omega) hsz ?_; intro v' w' hown' hgr)
      go_roundw
      case rel => exact ⟨i + 1, by omega, by omega, by first | rfl | go_num, by rw [HSN.out]; exact hown', bel_append HBi.out _ HOi.out hgr hsz⟩
      case measure => simp [intOf]; omega
    · obtain rfl : i = m := by omega
      have hok := twos_ok h2 h16
      have hlen := twos_len i (by omega)
      have hI : IsInts wr (.slice sp i cp) (twosL i) := isInts_own hlen.symm HOi.out
      have hof := of_any _ (twosL i) wr hI (by omega)
      have HOK := Lib.hid hok
      have HLN := Lib.hid hlen
      clear hok hlen hI HOi
      go_wp2_with fail
      refine hof.mono ?_
      rintro e w3 (⟨hn, _⟩ | ⟨_, g, L, S, rfl, hg, hL, hlo, hB2⟩)
      · exact absurd HOK.out hn
      rw [HLN.out]
      have hlens := twos_lens h2 h16 hlo
      have hlL : L.length = i := by rw [hlo.len, HLN.out]
      have HLS := Lib.hid hlens
      have HLL := Lib.hid hlL
      have HL := Lib.hid hL
      have HB2 := Lib.hid hB2
      have HBE := Lib.hid ((HB1.out.trans (HBi.out.mono HB1.out.size)).trans (hB2.mono (Nat.le_trans HB1.out.size hsz)))
      clear hof hlens hlL hL hlo hB2 HOK HLN HBi HB2
      clear hlt
      go_wp2_with fail
      obtain ⟨wo, hwo⟩ : ∃ wo, wo = w3 := ⟨_, rfl⟩
      subst hwo
      go_loopw [8] (fun x wr => ∃ k : Nat, 1 ≤ k ∧ k ≤ i ∧ x = .int .i64 k ∧ wr = wo) (fun x _ => i - (intOf x).toNat)
      case atStart => exact ⟨1, by omega, by omega, rfl, rfl⟩
      case round =>
        obtain ⟨k, hk1, hk, rfl, hw⟩ := hrel
        have hw := hw.symm
        subst hw
        by_cases hlt : k < i
        · have d0 := HL.out.cell (i64s_get L k (by rw [HLL.out]; exact hlt))
          have hd : L.getD k 0 = (i : Int) - k := by rw [HLS.out k hlt, if_neg (by omega)]
          rw [hd] at d0
          clear hd
          have hne : ((i : Int) - k != (i : Int) - k) = false := bne_f rfl
          go_wp2
          go_roundw
          case rel => exact ⟨k + 1, by omega, by omega, by first | rfl | go_num, by first | trivial | rfl⟩
          case measure => simp [intOf]; omega
        · have d0 := HL.out.cell (i64s_get L 0 (by rw [HLL.out]; omega))
          have hd : L.getD 0 0 = (i : Int) - 1 := by rw [HLS.out 0 (by omega), if_pos rfl]
          rw [hd] at d0
          clear hd
          have hbe := beq_t (rfl : (i : Int) - 1 = (i : Int) - 1)
          go_wp2
          go_ret
          exact ⟨rfl, HBE.out⟩
end Go.Proofs.Ytnoleijdpilnpaa
