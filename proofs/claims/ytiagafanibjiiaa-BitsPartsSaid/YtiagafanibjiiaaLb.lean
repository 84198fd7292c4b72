/- The law BitsParts, walked. -/
import Derived.Test.YtiagafanibjiiaaLa
import Derived.Test.YtiagafanibjiiaaConv
namespace Go.Proofs.Ytiagafanibjiiaa
open Go.RowKit Pl
attribute [local go_sem ↓] build29_eq conv_eq
attribute [local go_sem] run_build29

theorem parts_bits (v n at_ : Nat) (h : at_ ≤ n) : bitsOf (v >>> at_) (n - at_) ++ bitsOf v at_ = bitsOf v n := by
  have := bitsOf_split v n (n - at_) (by omega)
  rw [show n - (n - at_) = at_ by omega] at this
  exact this.symm

/-- the law's last line: two writers that hold the same bits -/
def PartsPost (w : World) (e : Ending) (w' : World) : Prop := e = .returned (.bool true) ∧ Below w.heap.size w w'

set_option maxHeartbeats 2000000 in
theorem bitsParts_walk (a0 a1 a2 : Int) (w : World) (w0 : (Lit.int .u64 a0).wf = true) (w1 : (Lit.int .i64 a1).wf = true) (w2 : (Lit.int .i64 a2).wf = true) : Calls Try.prog 7 #[.int .u64 a0, .int .i64 a1, .int .i64 a2] w (PartsPost w) := by
  have HU : Hid (U64 a0) := Lib.hid (U64.of_wf w0)
  clear w0 w1 w2
  by_cases hout : a1 < 0 ∨ 64 < a1 ∨ a2 < 0 ∨ a1 < a2
  · have : (a1 < 0) ∨ (¬ a1 < 0 ∧ 64 < a1) ∨ (¬ a1 < 0 ∧ ¬ 64 < a1 ∧ a2 < 0) ∨ (¬ a1 < 0 ∧ ¬ 64 < a1 ∧ ¬ a2 < 0 ∧ a1 < a2) := by omega
    clear hout
    rcases this with h | ⟨h1, h2⟩ | ⟨h1, h2, h3⟩ | ⟨h1, h2, h3, h4⟩
    all_goals
      go_enter Try.func7, Try.ntmps7
      go_wp2_with fail
      refine (begun_any _).mono ?_
      rintro e w1 ⟨rfl, hb⟩
      go_wp2_with fail
      go_ret
      exact ⟨rfl, hb⟩
  · obtain ⟨n, rfl⟩ := Int.eq_ofNat_of_zero_le (by omega : 0 ≤ a1)
    obtain ⟨k, rfl⟩ := Int.eq_ofNat_of_zero_le (by omega : 0 ≤ a2)
    have hn : n ≤ 64 := by omega
    have hk : k ≤ n := by omega
    clear hout
    by_cases h64 : k < 64
    · go_enter Try.func7, Try.ntmps7
      go_wp2_with fail
      refine (begun_any _).mono ?_
      rintro e w1 ⟨rfl, hb⟩
      have HB1 := Lib.hid hb
      clear hb
      have HA1 := Lib.hid ((Wr.fresh w1).alloc (.cells (wcells none []).toArray 29))
      have HB1' := Lib.hid (Wr.fresh (w1.alloc (.cells (wcells none []).toArray 29)))
      have hs : (w1.alloc (.cells (wcells none []).toArray 29)).heap.size = w1.heap.size + 1 := by simp
      rw [hs] at HB1'
      have HBel1 := Lib.hid ((HB1.out.alloc HB1.out.size (.cells (wcells none []).toArray 29)).alloc (by rw [hs]; have := HB1.out.size; omega) (.cells (wcells none []).toArray 29))
      have hsz := HB1.out.size
      clear hs HB1
      go_wp2_with fail
      refine (put_any w1.heap.size [] a0 n _ HU.out HA1.out (by simp; omega) hn).mono ?_
      rintro e w2 ⟨rfl, ha2, hg2⟩
      have HA2 := Lib.hid ha2
      have HB2 := Lib.hid (HB1'.out.other hg2 HA1.out (by omega))
      have HBel2 := Lib.hid (HBel1.out.trans (hg2.below HBel1.out.size hsz))
      clear ha2 hg2 HA1 HB1' HBel1
      go_wp2_with fail
      rw [show ((n : Int) - (k : Int)) = ((n - k : Nat) : Int) by omega]
      refine (put_any (w1.heap.size + 1) [] (a0 / 2 ^ k) (n - k) _ (HU.out.shr k) HB2.out (by simp; omega) (by omega)).mono ?_
      rintro e w3 ⟨rfl, hb3, hg3⟩
      have HA3 := Lib.hid (HA2.out.other hg3 HB2.out (by omega))
      have HB3 := Lib.hid hb3
      have HBel3 := Lib.hid (HBel2.out.trans (hg3.below HBel2.out.size (by omega)))
      clear hb3 hg3 HA2 HB2 HBel2
      go_wp2_with fail
      refine (put_any (w1.heap.size + 1) _ a0 k _ HU.out HB3.out (by simp [bitsOf_length]; omega) (by omega)).mono ?_
      rintro e w4 ⟨rfl, hb4, hg4⟩
      have HA : Hid (Wr w4 w1.heap.size (bitsOf a0.toNat n)) := Lib.hid (HA3.out.other hg4 HB3.out (by omega))
      have HB : Hid (Wr w4 (w1.heap.size + 1) (bitsOf a0.toNat n)) := Lib.hid (by
        have e : (a0 / 2 ^ k).toNat = a0.toNat >>> k := by rw [shr_int a0 k HU.out.1]; rfl
        rw [e, List.nil_append, parts_bits _ _ _ hk] at hb4
        exact hb4)
      have HBel := Lib.hid (HBel3.out.trans (hg4.below HBel3.out.size (by omega)))
      have HLn : Hid ((bitsOf a0.toNat n).length = n) := Lib.hid (bitsOf_length _ _)
      have HLt : Hid ((bitsOf a0.toNat n).length < 17179869184) := Lib.hid (by rw [bitsOf_length]; omega)
      obtain ⟨L, hL⟩ : ∃ L, L = bitsOf a0.toNat n := ⟨_, rfl⟩
      rw [← hL] at HA HB HLn HLt
      clear hb4 hg4 HA3 HB3 HBel3 hL
      go_wp2_with fail
      go_region_with (first
        | (go_at_call_of 14 (Value.pointer (some { block := w1.heap.size, off := 0 })); refine (len_n w1.heap.size n _ _ HA.out.drew HLn.out).mono ?_; rintro e w5 ⟨rfl, rfl⟩)
        | (go_at_call_of 14 (Value.pointer (some { block := w1.heap.size + 1, off := 0 })); refine (len_n (w1.heap.size + 1) n _ _ HB.out.drew HLn.out).mono ?_; rintro e w5 ⟨rfl, rfl⟩)
        | (go_at_call_of 13 (Value.pointer (some { block := w1.heap.size, off := 0 })); refine (bytes_any w1.heap.size _ _ HA.out.drew HLt.out).mono ?_; rintro e w5 ⟨rfl, hk5, hb5⟩; have HB5 := Lib.hid (HB.out.drew.below hb5); have HI5 : Hid (IsBytes w5 (.slice (some ⟨w4.heap.size, 0, none⟩) ((L.length + 7) / 8) ((L.length + 7) / 8)) (bytesOf L)) := Lib.hid (isBytes_new hk5 rfl HLt.out); have hc5 := run_conv HI5.out; have HBel5 := Lib.hid (HBel.out.drew.trans (hb5.mono HBel.out.size)); clear hk5 hb5)
        | (go_at_call_of 13 (Value.pointer (some { block := w1.heap.size + 1, off := 0 })); refine (bytes_any (w1.heap.size + 1) _ _ HB5.out HLt.out).mono ?_; rintro e w6 ⟨rfl, hk6, hb6⟩; have hc56 := run_conv (HI5.out.below hb6); have hc6 := run_conv (isBytes_new hk6 rfl HLt.out); have HBel6 := Lib.hid (HBel5.out.trans (hb6.mono HBel5.out.size)); clear hk6 hb6))
      all_goals
        go_wp2_with fail
        go_ret
        exact ⟨by simp [Act.put], HBel6.out⟩
    · obtain rfl : k = 64 := by omega
      obtain rfl : n = 64 := by omega
      go_enter Try.func7, Try.ntmps7
      go_wp2_with fail
      refine (begun_any _).mono ?_
      rintro e w1 ⟨rfl, hb⟩
      have HB1 := Lib.hid hb
      clear hb
      have HA1 := Lib.hid ((Wr.fresh w1).alloc (.cells (wcells none []).toArray 29))
      have HB1' := Lib.hid (Wr.fresh (w1.alloc (.cells (wcells none []).toArray 29)))
      have hs : (w1.alloc (.cells (wcells none []).toArray 29)).heap.size = w1.heap.size + 1 := by simp
      rw [hs] at HB1'
      have HBel1 := Lib.hid ((HB1.out.alloc HB1.out.size (.cells (wcells none []).toArray 29)).alloc (by rw [hs]; have := HB1.out.size; omega) (.cells (wcells none []).toArray 29))
      have hsz := HB1.out.size
      clear hs HB1
      go_wp2_with fail
      refine (put_any w1.heap.size [] a0 64 _ HU.out HA1.out (by simp) (by omega)).mono ?_
      rintro e w2 ⟨rfl, ha2, hg2⟩
      have HA2 := Lib.hid ha2
      have HB2 := Lib.hid (HB1'.out.other hg2 HA1.out (by omega))
      have HBel2 := Lib.hid (HBel1.out.trans (hg2.below HBel1.out.size hsz))
      clear ha2 hg2 HA1 HB1' HBel1
      go_wp2_with fail
      refine (put_any (w1.heap.size + 1) _ a0 64 _ HU.out HB2.out (by simp) (by omega)).mono ?_
      rintro e w4 ⟨rfl, hb4, hg4⟩
      have HA : Hid (Wr w4 w1.heap.size (bitsOf a0.toNat 64)) := Lib.hid (HA2.out.other hg4 HB2.out (by omega))
      have HB : Hid (Wr w4 (w1.heap.size + 1) (bitsOf a0.toNat 64)) := Lib.hid (by
        rw [List.nil_append] at hb4
        exact hb4)
      have HBel := Lib.hid (HBel2.out.trans (hg4.below HBel2.out.size (by omega)))
      have HLn : Hid ((bitsOf a0.toNat 64).length = 64) := Lib.hid (bitsOf_length _ _)
      have HLt : Hid ((bitsOf a0.toNat 64).length < 17179869184) := Lib.hid (by rw [bitsOf_length]; omega)
      obtain ⟨L, hL⟩ : ∃ L, L = bitsOf a0.toNat 64 := ⟨_, rfl⟩
      rw [← hL] at HA HB HLn HLt
      clear hb4 hg4 HA2 HB2 HBel2 hL
      go_wp2_with fail
      go_region_with (first
        | (go_at_call_of 14 (Value.pointer (some { block := w1.heap.size, off := 0 })); refine (len_n w1.heap.size 64 _ _ HA.out.drew HLn.out).mono ?_; rintro e w5 ⟨rfl, rfl⟩)
        | (go_at_call_of 14 (Value.pointer (some { block := w1.heap.size + 1, off := 0 })); refine (len_n (w1.heap.size + 1) 64 _ _ HB.out.drew HLn.out).mono ?_; rintro e w5 ⟨rfl, rfl⟩)
        | (go_at_call_of 13 (Value.pointer (some { block := w1.heap.size, off := 0 })); refine (bytes_any w1.heap.size _ _ HA.out.drew HLt.out).mono ?_; rintro e w5 ⟨rfl, hk5, hb5⟩; have HB5 := Lib.hid (HB.out.drew.below hb5); have HI5 : Hid (IsBytes w5 (.slice (some ⟨w4.heap.size, 0, none⟩) ((L.length + 7) / 8) ((L.length + 7) / 8)) (bytesOf L)) := Lib.hid (isBytes_new hk5 rfl HLt.out); have hc5 := run_conv HI5.out; have HBel5 := Lib.hid (HBel.out.drew.trans (hb5.mono HBel.out.size)); clear hk5 hb5)
        | (go_at_call_of 13 (Value.pointer (some { block := w1.heap.size + 1, off := 0 })); refine (bytes_any (w1.heap.size + 1) _ _ HB5.out HLt.out).mono ?_; rintro e w6 ⟨rfl, hk6, hb6⟩; have hc56 := run_conv (HI5.out.below hb6); have hc6 := run_conv (isBytes_new hk6 rfl HLt.out); have HBel6 := Lib.hid (HBel5.out.trans (hb6.mono HBel5.out.size)); clear hk6 hb6))
      all_goals
        go_wp2_with fail
        go_ret
        exact ⟨by simp [Act.put], HBel6.out⟩
end Go.Proofs.Ytiagafanibjiiaa
