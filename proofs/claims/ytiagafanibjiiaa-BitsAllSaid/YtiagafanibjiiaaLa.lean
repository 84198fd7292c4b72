/- The laws on bits, walked: BitsNone, BitsWide, BitsParts. -/
import Derived.Test.YtiagafanibjiiaaBegun
namespace Go.Proofs.Ytiagafanibjiiaa
open Go.RowKit Pl

set_option maxHeartbeats 1000000 in
theorem bitsNone_walk (w : World) : Calls Try.prog 5 #[] w fun e w' => e = .returned (.bool true) ∧ Below w.heap.size w w' := by
  go_enter Try.func5, Try.ntmps5
  go_wp2_with fail
  refine (get_nil 1 _).mono ?_
  rintro e w1 ⟨rfl, rfl⟩
  go_wp2_with fail
  refine (begun_any _).mono ?_
  rintro e w1 ⟨rfl, hb⟩
  have HB := Lib.hid hb
  clear hb
  go_wp2_with fail
  refine (put_nil 1 1 _).mono ?_
  rintro e w2 ⟨rfl, rfl⟩
  go_wp2_with fail
  refine (len_nil _).mono ?_
  rintro e w2 ⟨rfl, rfl⟩
  go_wp2_with fail
  refine (bytes_nil _).mono ?_
  rintro e w2 ⟨rfl, rfl⟩
  go_wp2_with fail
  refine (left_nil _).mono ?_
  rintro e w2 ⟨rfl, rfl⟩
  go_wp2_with fail
  go_ret
  exact ⟨rfl, HB.out⟩

/-- the last bits of 0 .. k-1 -/
def lowbits (k : Nat) : List Bool := (List.range k).flatMap fun i => bitsOf i 1
theorem lowbits_succ (k : Nat) : lowbits (k + 1) = lowbits k ++ bitsOf k 1 := by simp [lowbits, List.range_succ]
theorem lowbits_length (k : Nat) : (lowbits k).length = k := by
  induction k with
  | zero => rfl
  | succ k ih => rw [lowbits_succ, List.length_append, ih, bitsOf_length]
theorem lowbits_split (n k : Nat) (h : k < n) : ∃ C, lowbits n = lowbits k ++ (bitsOf k 1 ++ C) := by
  induction n with
  | zero => omega
  | succ n ih =>
    rw [lowbits_succ]
    by_cases e : k = n
    · subst e; exact ⟨[], by simp⟩
    · obtain ⟨C, hC⟩ := ih (by omega)
      exact ⟨C ++ bitsOf n 1, by rw [hC]; simp⟩
def wideBits (lead v : Nat) : List Bool := lowbits lead ++ bitsOf v 64 ++ bitsOf 5 3
theorem wideBits_length (lead v : Nat) : (wideBits lead v).length = lead + 67 := by simp [wideBits, lowbits_length, bitsOf_length]
theorem wide_low (lead v k : Nat) (h : k < lead) : ((take (bytesOf (wideBits lead v)) k 1 : Nat) : Int) = (k : Int) % 2 := by
  obtain ⟨C, hC⟩ := lowbits_split lead k h
  unfold wideBits
  rw [hC, show lowbits k ++ (bitsOf k 1 ++ C) ++ bitsOf v 64 ++ bitsOf 5 3 = lowbits k ++ (bitsOf k 1 ++ (C ++ bitsOf v 64 ++ bitsOf 5 3)) by simp, take_bitsOf _ _ _ _ _ (lowbits_length k).symm]
  omega
theorem wide_mid (lead v : Nat) (hv : v < 18446744073709551616) : take (bytesOf (wideBits lead v)) lead 64 = v := by
  unfold wideBits
  rw [List.append_assoc, take_bitsOf _ _ _ _ _ (lowbits_length lead).symm]
  exact Nat.mod_eq_of_lt hv
theorem wide_end (lead v : Nat) : take (bytesOf (wideBits lead v)) (lead + 64) 3 = 5 := by
  unfold wideBits
  rw [show lowbits lead ++ bitsOf v 64 ++ bitsOf 5 3 = (lowbits lead ++ bitsOf v 64) ++ (bitsOf 5 3 ++ []) by simp, take_bitsOf _ _ _ _ _ (by rw [List.length_append, lowbits_length, bitsOf_length])]

attribute [local go_sem ↓] build29_eq
attribute [local go_sem] run_build29

set_option maxHeartbeats 2000000 in
theorem bitsWide_walk (a0 a1 : Int) (w : World) (w0 : (Lit.int .i64 a0).wf = true) (w1 : (Lit.int .u64 a1).wf = true) : Calls Try.prog 6 #[.int .i64 a0, .int .u64 a1] w fun e w' => e = .returned (.bool true) ∧ Below w.heap.size w w' := by
  have HU : Hid (U64 a1) := Lib.hid (U64.of_wf w1)
  clear w0 w1
  by_cases h1 : a0 < 0
  · go_enter Try.func6, Try.ntmps6
    go_wp2_with fail
    refine (begun_any _).mono ?_
    rintro e w1 ⟨rfl, hb⟩
    go_wp2_with fail
    go_ret
    exact ⟨rfl, hb⟩
  · by_cases h2 : 20 < a0
    · go_enter Try.func6, Try.ntmps6
      go_wp2_with fail
      refine (begun_any _).mono ?_
      rintro e w1 ⟨rfl, hb⟩
      go_wp2_with fail
      go_ret
      exact ⟨rfl, hb⟩
    · obtain ⟨lead, rfl⟩ := Int.eq_ofNat_of_zero_le (by omega : 0 ≤ a0)
      have hl : lead ≤ 20 := by omega
      go_enter Try.func6, Try.ntmps6
      go_wp2_with fail
      refine (begun_any _).mono ?_
      rintro e w1 ⟨rfl, hb⟩
      have HB1 := Lib.hid hb
      clear hb
      have HW1 := Lib.hid (Wr.fresh w1)
      have HB2 : Hid (Below w.heap.size w (w1.alloc (.cells (wcells none []).toArray 29))) := Lib.hid (HB1.out.alloc HB1.out.size _)
      go_wp2_with fail
      go_loopw [7] (fun x wr => ∃ k : Nat, k ≤ lead ∧ x = .int .i64 k ∧ Wr wr w1.heap.size (lowbits k) ∧ Below w.heap.size w wr) (fun x _ => lead - (intOf x).toNat)
      case atStart => exact ⟨0, Nat.zero_le _, rfl, HW1.out, HB2.out⟩
      case round =>
        obtain ⟨k, hk, rfl, hw, hb⟩ := hrel
        have HW := Lib.hid hw
        have HB := Lib.hid hb
        clear hw hb HW1 HB2
        by_cases hlt : k < lead
        · go_wp2_with (go_at_call 11; refine (put_any w1.heap.size (lowbits k) k 1 _ (U64.small (by omega) (by omega)) HW.out (by rw [lowbits_length]; omega) (by omega)).mono ?_; rintro e w2 ⟨rfl, hw2, hg2⟩)
          go_roundw
          case rel => exact ⟨k + 1, by omega, by go_num, by rw [lowbits_succ]; simpa using hw2, HB.out.trans (hg2.below HB.out.size HB1.out.size)⟩
          case measure => simp [intOf]; omega
        · obtain rfl : k = lead := by omega
          clear hlt
          go_wp2_with fail
          refine (put_any w1.heap.size (lowbits k) a1 64 _ HU.out HW.out (by rw [lowbits_length]; omega) (by omega)).mono ?_
          rintro e w2 ⟨rfl, hw2, hg2⟩
          have HW2 := Lib.hid hw2
          have HB2 := Lib.hid (HB.out.trans (hg2.below HB.out.size HB1.out.size))
          clear hw2 hg2 HW HB
          go_wp2_with fail
          refine (put_any w1.heap.size _ 5 3 _ (U64.small (by omega) (by omega)) HW2.out (by rw [List.length_append, lowbits_length, bitsOf_length]; omega) (by omega)).mono ?_
          rintro e w3 ⟨rfl, hw3, hg3⟩
          have HW3 : Hid (Wr w3 w1.heap.size (wideBits k a1.toNat)) := Lib.hid hw3
          have HB3 := Lib.hid (HB2.out.trans (hg3.below HB2.out.size HB1.out.size))
          clear hw3 hg3 HW2 HB2
          have hwl := wideBits_length k a1.toNat
          have HWL := Lib.hid hwl
          clear hwl
          go_wp2_with fail
          refine (bytes_any w1.heap.size _ _ HW3.out (by rw [HWL.out]; omega)).mono ?_
          rintro e w4 ⟨rfl, hk4, hb4⟩
          have HB4 := Lib.hid (HB3.out.trans (hb4.mono HB3.out.size))
          have HK4 := Lib.hid (isBytes_new hk4 rfl (by rw [HWL.out]; omega))
          clear hk4 hb4 HB3 HW3
          go_wp2_with fail
          refine (read_any _ (bytesOf (wideBits k a1.toNat)) _ HK4.out (by rw [bytesOf_length, HWL.out]; omega)).mono ?_
          rintro e w5 ⟨r, rfl, hr, hb5⟩
          have HB5 := Lib.hid (HB4.out.trans (hb5.mono HB4.out.size))
          have HR5 := Lib.hid hr
          have hrb : w.heap.size ≤ r := Nat.le_trans HB4.out.size hr.1
          obtain ⟨base, hbase⟩ : ∃ x, x = w4.heap.size := ⟨_, rfl⟩
          rw [← hbase] at HR5
          have HBL : Hid ((bytesOf (wideBits k a1.toNat)).length = (k + 74) / 8) := Lib.hid (by rw [bytesOf_length, HWL.out])
          clear hr hb5 HB4 HK4 hbase
          go_wp2_with fail
          go_loopw [9] (fun x wr => ∃ j : Nat, j ≤ k ∧ x = .int .i64 j ∧ Rd wr base r (bytesOf (wideBits k a1.toNat)) j ∧ Below w.heap.size w wr) (fun x _ => k - (intOf x).toNat)
          case atStart => exact ⟨0, Nat.zero_le _, rfl, HR5.out, HB5.out⟩
          case round =>
            obtain ⟨j, hj, rfl, hr, hb⟩ := hrel
            have HR := Lib.hid hr
            have HB := Lib.hid hb
            clear hr hb HR5 HB5
            by_cases hlt : j < k
            · have hget := get_any r base _ j 1 wr HR.out (by omega) (by rw [HBL.out]; omega)
              unfold GetPost at hget
              rw [wide_low k a1.toNat j hlt] at hget
              have HG := Lib.hid hget
              clear hget
              go_wp2_with (go_at_call 17; refine HG.out.mono ?_; rintro e w6 ⟨rfl, hr6, hg6⟩)
              go_roundw
              case rel => exact ⟨j + 1, by omega, by go_num, hr6, HB.out.trans (hg6.below HB.out.size hrb)⟩
              case measure => simp [intOf]; omega
            · obtain rfl : j = k := by omega
              clear hlt
              have hget := get_any r base _ j 64 wr HR.out (by omega) (by rw [HBL.out]; omega)
              unfold GetPost at hget
              rw [wide_mid j a1.toNat (by have := HU.out; unfold U64 at this; omega), Int.toNat_of_nonneg HU.out.1] at hget
              have HG := Lib.hid hget
              clear hget
              go_wp2_with fail
              refine HG.out.mono ?_
              rintro e w6 ⟨rfl, hr6, hg6⟩
              have hget := get_any r base _ (j + 64) 3 w6 hr6 (by omega) (by rw [HBL.out]; omega)
              unfold GetPost at hget
              rw [wide_end j a1.toNat] at hget
              have HG2 := Lib.hid hget
              have HB6 := Lib.hid (HB.out.trans (hg6.below HB.out.size hrb))
              clear hget hr6 hg6
              go_wp2_with fail
              refine HG2.out.mono ?_
              rintro e w7 ⟨rfl, hr7, hg7⟩
              have HB7 := Lib.hid (HB6.out.trans (hg7.below HB6.out.size hrb))
              clear hr7 hg7
              go_wp2_with fail
              go_ret
              exact ⟨rfl, HB7.out⟩
end Go.Proofs.Ytiagafanibjiiaa
