/- NumbersTight, walked. -/
import Derived.Test.YtpibbepojjicgaaNumF
namespace Go.Proofs.Ytpibbepojjicgaa
open Go.RowKit Pl

/-- all but the last byte go on; behind a round the last one is a nought behind others -/
def TShape (i : Nat) (B : List Nat) : Prop :=
  0 < B.length ∧ B.length ≤ 10 + i ∧ VOn B (B.length - 1) ∧ (∀ x ∈ B, x < 256) ∧ (0 < i → 2 ≤ B.length ∧ B.getD (B.length - 1) 0 = 0)
theorem TShape.start (n : Nat) (hn : n < 18446744073709551616) : TShape 0 (vput n) := by
  obtain ⟨h1, h2, h3, h4, h5⟩ := vput_on n []
  rw [List.append_nil] at h1
  exact ⟨h5, (vput_len64 n hn).1, h1, vput_lt n, fun h => absurd h (by omega)⟩
theorem TShape.step {i : Nat} {B : List Nat} (h : TShape i B) {y : Nat} (hy : y = B.getD (B.length - 1) 0) : TShape (i + 1) (B.set (B.length - 1) (y ||| 128) ++ [0]) := by
  obtain ⟨h0, hl, hon, hx, _⟩ := h
  have hy2 : y < 256 := by rw [hy]; exact getD_lt hx _
  have ho : y ||| 128 < 256 := Nat.or_lt_two_pow (n := 8) (by omega) (by omega)
  have ho2 : 128 ≤ y ||| 128 := Nat.right_le_or
  have hlen : (B.set (B.length - 1) (y ||| 128) ++ [0]).length = B.length + 1 := by simp
  refine ⟨by rw [hlen]; omega, by rw [hlen]; omega, ?_, ?_, fun _ => ⟨by rw [hlen]; omega, ?_⟩⟩
  · rw [hlen]
    intro j hj
    rw [List.getD_eq_getElem?_getD, List.getElem?_append_left (by simp; omega), List.getElem?_set]
    by_cases e : B.length - 1 = j
    · rw [if_pos e, if_pos (by omega)]; exact ho2
    · rw [if_neg e]
      have := hon j (by omega)
      rwa [List.getD_eq_getElem?_getD] at this
  · intro x hx'
    rw [List.mem_append] at hx'
    rcases hx' with h | h
    · rcases List.mem_or_eq_of_mem_set h with h | h
      · exact hx x h
      · omega
    · simp at h; omega
  · rw [hlen, List.getD_eq_getElem?_getD, List.getElem?_append_right (by simp)]
    simp

set_option maxHeartbeats 1000000 in
theorem numbersTight_walk (n more : Int) (w : World) (hn : (Lit.int .u64 n).wf = true) (hm : (Lit.int .i64 more).wf = true) : Calls Try.prog 5 #[.int .u64 n, .int .i64 more] w fun e w' => e = .returned (.bool true) ∧ Below w.heap.size w w' := by
  have HU := Lib.hid (U64.of_wf hn)
  clear hn hm
  by_cases h1 : more < 1
  · go_enter Try.func5, Try.ntmps5
    go_wp2_with fail
    refine (begun_any _).mono ?_
    rintro e w1 ⟨rfl, hb1⟩
    have HB1 := Lib.hid hb1
    clear hb1
    go_wp2_with fail
    go_ret
    exact ⟨rfl, HB1.out⟩
  · by_cases h2 : 12 < more
    · go_enter Try.func5, Try.ntmps5
      go_wp2_with fail
      refine (begun_any _).mono ?_
      rintro e w1 ⟨rfl, hb1⟩
      have HB1 := Lib.hid hb1
      clear hb1
      go_wp2_with fail
      go_ret
      exact ⟨rfl, HB1.out⟩
    · obtain ⟨m, rfl⟩ := Int.eq_ofNat_of_zero_le (show 0 ≤ more by omega)
      have hm1 : 1 ≤ m := by omega
      have hm2 : m ≤ 12 := by omega
      have hd1 : decide ((m : Int) < 1) = false := by simp; omega
      have hd2 : decide ((12 : Int) < (m : Int)) = false := by simp; omega
      clear h1 h2
      go_enter Try.func5, Try.ntmps5
      go_wp2_with fail
      refine (begun_any _).mono ?_
      rintro e w1 ⟨rfl, hb1⟩
      have HB1 := Lib.hid hb1
      clear hb1
      go_wp2_with fail
      refine (refPut_any n _ HU.out).mono ?_
      rintro e w2 ⟨v2, rfl, ho2, hb2⟩
      have HO2 : Hid (w2.ownsRow w.heap.size 5 1 v2 (vput n.toNat).length (u8s (vput n.toNat))) := Lib.hid (own_base ho2 HB1.out.size)
      have HB2 := Lib.hid (HB1.out.trans (hb2.mono HB1.out.size))
      clear ho2 hb2 HB1
      go_wp2_with fail
      go_loopw [6, 7] (fun v x wr => ∃ i : Nat, i ≤ m ∧ x = .int .i64 i ∧ ∃ B : List Nat, TShape i B ∧ wr.ownsRow w.heap.size 5 1 v B.length (u8s B) ∧ Below w.heap.size w wr) (fun _ x _ => m - (intOf x).toNat)
      case atStart => exact ⟨0, by omega, rfl, _, TShape.start n.toNat (by obtain ⟨a, b⟩ := HU.out; omega), HO2.out, HB2.out⟩
      case round =>
        obtain ⟨i, hi, rfl, B, ht, ho, hb⟩ := hrel
        have HT := Lib.hid ht
        have HB := Lib.hid hb
        have hsz := hb.size
        obtain ⟨g, cap, rfl, hg, hgl, hnc, hcm⟩ := own_open ho ht.1
        have HO := Lib.hid ho
        have hl0 := ht.1
        have hl1 := ht.2.1
        clear ht ho hb
        by_cases hlt : i < m
        · have hI : (0 : Int) ≤ (B.length : Int) - 1 := by omega
          have hI2 : ((B.length : Int) - 1).toNat = B.length - 1 := by omega
          have hI3 : (B.length : Int) - 1 < B.length := by omega
          have c0 := own_cell HO.out (i := B.length - 1) (by omega)
          have f0 := HO.out.frozenAt (B.length - 1)
          obtain ⟨y, hy⟩ : ∃ y, y = B.getD (B.length - 1) 0 := ⟨_, rfl⟩
          rw [← hy] at c0
          have HY := Lib.hid hy
          clear hy
          have HS := Lib.hid (HO.out.stored (B.length - 1) (.int .u8 (bits BinOp.or IntKind.u8 (y : Int) 128))).1
          have HGr := Lib.hid (HO.out.stored (B.length - 1) (.int .u8 (bits BinOp.or IntKind.u8 (y : Int) 128))).2
          have hsz2 : w.heap.size ≤ (wr.setCell ⟨g, B.length - 1, none⟩ (.int .u8 (bits BinOp.or IntKind.u8 (y : Int) 128))).heap.size := by simpa using hsz
          go_wp2_with (at_builtin; refine wpList_append_byte_at rfl (.tmp 34) (.tmp 35) rfl w.heap.size (.slice (some ⟨g, 0, none⟩) B.length cap) B.length _ _ rfl HS.out wr.heap.size (by simp) rfl (by omega) hsz2 ?_; intro v' w3 hown hgr)
          go_roundw
          case rel =>
            refine ⟨i + 1, by omega, by go_num, _, HT.out.step HY.out, ?_, ?_⟩
            · have e : bits BinOp.or IntKind.u8 (y : Int) 128 = ((y ||| 128 : Nat) : Int) := u8_or_nat y 128 (by rw [HY.out]; exact getD_lt HT.out.2.2.2.1 _) (by omega)
              rw [e, u8s_set, show (Value.int .u8 0) = .int .u8 ((0 : Nat) : Int) from rfl, ← u8s_snoc] at hown
              simpa using hown
            · exact bel_append (HB.out.grown HGr.out hsz (by intro k hk; simp at hk; omega)) _ HS.out hgr hsz2
          case measure => simp [intOf]; omega
        · obtain rfl : i = m := by omega
          have HP := Lib.hid (vget_any _ B wr (isBytes_own HT.out.2.2.2.1 HO.out))
          unfold VGetPost at HP
          rw [vget_long HT.out.2.2.1 (HT.out.2.2.2.2 (by omega)).1 (HT.out.2.2.2.2 (by omega)).2] at HP
          clear hlt hi
          go_wp2_with fail
          refine HP.out.mono ?_
          rintro e w3 ⟨rfl, rfl⟩
          go_wp2_with fail
          go_ret
          exact ⟨rfl, HB.out⟩
end Go.Proofs.Ytpibbepojjicgaa
