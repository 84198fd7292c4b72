/- The law BitsOnes, walked. -/
import Derived.Test.YtiagafanibjiiaaLa
namespace Go.Proofs.Ytiagafanibjiiaa
open Go.RowKit Pl
attribute [local go_sem ↓] build29_eq
attribute [local go_sem] run_build29

/-- how many ones a run has -/
def rk (z : Int) : Nat := (z.tmod 64).natAbs
theorem rk_le (z : Int) : rk z ≤ 63 := by
  have h1 := Int.tmod_lt_of_pos z (b := 64) (by decide)
  have h2 := Int.lt_tmod_of_pos z (b := 64) (by decide)
  unfold rk; omega
theorem rk_neg {z : Int} (h : z.tmod 64 < 0) : -(z.tmod 64) = (rk z : Int) := by unfold rk; omega
theorem rk_pos {z : Int} (h : ¬ z.tmod 64 < 0) : z.tmod 64 = (rk z : Int) := by unfold rk; omega
theorem allOnes (k : Nat) (h : k ≤ 64) : bitsOf (18446744073709551615 : Int).toNat k = List.replicate k true := by
  apply List.ext_getElem
  · simp [bitsOf_length]
  · intro i h1 h2
    rw [bitsOf_length] at h1
    have e : (18446744073709551615 : Int).toNat = 2 ^ 64 - 1 := by decide
    simp only [bitsOf, List.getElem_map, List.getElem_range, List.getElem_replicate, e, Nat.testBit_two_pow_sub_one]
    simp; omega
theorem aNought : bitsOf (0 : Int).toNat 1 = [false] := by decide
/-- the bits of the first k runs -/
def ones (zs : List Int) (k : Nat) : List Bool := (List.range k).flatMap fun i => List.replicate (rk (zs.getD i 0)) true ++ [false]
theorem ones_succ (zs : List Int) (k : Nat) : ones zs (k + 1) = ones zs k ++ (List.replicate (rk (zs.getD k 0)) true ++ [false]) := by simp [ones, List.range_succ]
theorem ones_length_succ (zs : List Int) (k : Nat) : (ones zs (k + 1)).length = (ones zs k).length + (rk (zs.getD k 0) + 1) := by rw [ones_succ]; simp
theorem ones_length_le (zs : List Int) (k : Nat) : (ones zs k).length ≤ 64 * k := by
  induction k with
  | zero => simp [ones]
  | succ k ih => rw [ones_length_succ]; have := rk_le (zs.getD k 0); omega
theorem ones_split (zs : List Int) (n k : Nat) (h : k < n) : ∃ C, ones zs n = ones zs k ++ (List.replicate (rk (zs.getD k 0)) true ++ ([false] ++ C)) := by
  induction n with
  | zero => omega
  | succ n ih =>
    rw [ones_succ]
    by_cases e : k = n
    · subst e; exact ⟨[], by simp⟩
    · obtain ⟨C, hC⟩ := ih (by omega)
      exact ⟨C ++ (List.replicate (rk (zs.getD n 0)) true ++ [false]), by rw [hC]; simp⟩
theorem ones_mono (zs : List Int) (n k : Nat) (h : k < n) : (ones zs k).length + rk (zs.getD k 0) + 1 ≤ (ones zs n).length := by
  obtain ⟨C, hC⟩ := ones_split zs n k h
  rw [hC]; simp; omega
/-- the bits that are read: a one in a run, a nought behind it -/
theorem ones_one (zs : List Int) (n k j : Nat) (h : k < n) (hj : j < rk (zs.getD k 0)) : take (bytesOf (ones zs n)) ((ones zs k).length + j) 1 = 1 := by
  obtain ⟨C, hC⟩ := ones_split zs n k h
  have e : List.replicate (rk (zs.getD k 0)) true = List.replicate j true ++ ([true] ++ List.replicate (rk (zs.getD k 0) - j - 1) true) := by
    rw [← List.append_assoc]
    have : [true] = List.replicate 1 true := rfl
    rw [this, List.replicate_append_replicate, List.replicate_append_replicate]
    congr 1; omega
  rw [hC, e, show ones zs k ++ (List.replicate j true ++ ([true] ++ List.replicate (rk (zs.getD k 0) - j - 1) true) ++ ([false] ++ C)) = (ones zs k ++ List.replicate j true) ++ ([true] ++ (List.replicate (rk (zs.getD k 0) - j - 1) true ++ ([false] ++ C))) by simp,
    take_mid _ [true] _ _ 1 (by simp) rfl]
  rfl
theorem ones_nought (zs : List Int) (n k : Nat) (h : k < n) : take (bytesOf (ones zs n)) ((ones zs k).length + rk (zs.getD k 0)) 1 = 0 := by
  obtain ⟨C, hC⟩ := ones_split zs n k h
  rw [hC, ← List.append_assoc, take_mid _ [false] C _ 1 (by simp) rfl]
  rfl

set_option maxHeartbeats 4000000 in
theorem bitsOnes_walk (a0 : Option Addr) (len0 cap0 : Nat) (z0 : List Int) (w : World) (w0 : IsRow .i64 w a0 len0 cap0 z0) : Calls Try.prog 8 #[.slice a0 len0 cap0] w fun e w' => e = .returned (.bool true) ∧ Below w.heap.size w w' := by
  have hmx := w0.len_le
  unfold maxLen at hmx
  obtain ⟨m, hm⟩ : ∃ m, m = min len0 20 := ⟨_, rfl⟩
  have hm1 : m ≤ len0 := by omega
  have hm2 : m ≤ 20 := by omega
  have hm3 : m = len0 ∨ m = 20 := by omega
  have HM := Lib.hid hm3
  clear hm hm3
  have HROW := Lib.hid w0
  clear w0
  go_enter Try.func8, Try.ntmps8
  go_wp2_with fail
  refine (begun_any _).mono ?_
  rintro e w1 ⟨rfl, hb⟩
  have HB1 := Lib.hid hb
  clear hb
  have HW1 := Lib.hid (Wr.fresh w1)
  have HB2 : Hid (Below w.heap.size w (w1.alloc (.cells (wcells none []).toArray 29))) := Lib.hid (HB1.out.alloc HB1.out.size _)
  go_wp2_with fail
  go_loopw [5, 6] (fun y x wr => ∃ k : Nat, k ≤ m ∧ x = .int .i64 k ∧ y = .int .i64 (ones z0 k).length ∧ Wr wr w1.heap.size (ones z0 k) ∧ Below w.heap.size w wr) (fun _ x _ => m - (intOf x).toNat)
  case atStart => exact ⟨0, Nat.zero_le _, rfl, rfl, HW1.out, HB2.out⟩
  case round =>
    obtain ⟨k, hk, rfl, rfl, hw, hb⟩ := hrel
    have HW := Lib.hid hw
    have HB := Lib.hid hb
    clear hw hb HW1 HB2
    by_cases hlt : k < m
    · obtain ⟨b0, off, rfl, hb0, _, _, hcell, _⟩ := HROW.out.cells (by omega)
      have c0 : ∀ W : World, Below w.heap.size w W → W.cell? ⟨b0, off + k, none⟩ = some (.int .i64 (z0.getD k 0)) := fun W hW => (hW.cell (p := ⟨b0, off + k, none⟩) hb0).trans (hcell k (by omega))
      have c1 := c0 _ HB.out
      clear hcell c0
      obtain ⟨z, hz⟩ : ∃ z, z = z0.getD k 0 := ⟨_, rfl⟩
      rw [← hz] at c1
      have HZ := Lib.hid hz
      have hlen := ones_length_le z0 k
      have HS : Hid (ones z0 (k + 1) = ones z0 k ++ (List.replicate (rk z) true ++ [false])) := Lib.hid (by rw [ones_succ, hz])
      have HSL : Hid ((ones z0 (k + 1)).length = (ones z0 k).length + (rk z + 1)) := Lib.hid (by rw [ones_length_succ, hz])
      clear hz
      have hr := rk_le z
      have t1 := Int.tmod_lt_of_pos z (b := 64) (by decide)
      have t2 := Int.lt_tmod_of_pos z (b := 64) (by decide)
      have hk20 : k < 20 := by omega
      have hklen : k < len0 := by omega
      by_cases hneg : z.tmod 64 < 0
      all_goals
        first
        | (have hn := rk_neg hneg; have HN := Lib.hid hn; clear hn)
        | (have hn := rk_pos hneg; have HN := Lib.hid hn; clear hn)
        go_wp2_with fail
        rw [HN.out]
        refine (put_any w1.heap.size (ones z0 k) 18446744073709551615 (rk z) _ ⟨by decide, by decide⟩ HW.out (by omega) (by omega)).mono ?_
        rintro e w2 ⟨rfl, hw2, hg2⟩
        rw [allOnes _ (by omega)] at hw2
        have HW2 := Lib.hid hw2
        have HB2 := Lib.hid (HB.out.trans (hg2.below HB.out.size HB1.out.size))
        clear hw2 hg2
        go_wp2_with fail
        refine (put_any w1.heap.size _ 0 1 _ (U64.small (by omega) (by omega)) HW2.out (by rw [List.length_append, List.length_replicate]; omega) (by omega)).mono ?_
        rintro e w3 ⟨rfl, hw3, hg3⟩
        rw [aNought, List.append_assoc, ← HS.out] at hw3
        have HW3 := Lib.hid hw3
        have HB3 := Lib.hid (HB2.out.trans (hg3.below HB2.out.size HB1.out.size))
        clear hw3 hg3 HW2 HB2
        go_wp2_with fail
        go_roundw
        case rel => exact ⟨k + 1, by omega, by go_num, by rw [HSL.out]; go_num, HW3.out, HB3.out⟩
        case measure => simp [intOf]; omega
    · obtain rfl : k = m := by omega
      clear hlt hk
      have HOL := ones_length_le z0 k
      have hsplit : len0 ≤ k ∨ (k < len0 ∧ 20 ≤ k) := by have := HM.out; omega
      rcases hsplit with hA | ⟨hA, hA2⟩
      all_goals
        go_wp2_with fail
        refine (bytes_any w1.heap.size _ _ HW.out (by omega)).mono ?_
        rintro e w4 ⟨rfl, hk4, hb4⟩
        have HW4 := Lib.hid (HW.out.below hb4)
        have HB4 := Lib.hid (HB.out.trans (hb4.mono HB.out.size))
        have HK4 := Lib.hid (isBytes_new hk4 rfl (by omega))
        clear hk4 hb4 HB HW
        have HBL : Hid ((bytesOf (ones z0 k)).length = ((ones z0 k).length + 7) / 8) := Lib.hid (bytesOf_length _)
        go_wp2_with fail
        refine (read_any _ (bytesOf (ones z0 k)) _ HK4.out (by rw [HBL.out]; omega)).mono ?_
        rintro e w5 ⟨r, rfl, hr, hb5⟩
        have HW5 := Lib.hid (HW4.out.below hb5)
        have HB5 := Lib.hid (HB4.out.trans (hb5.mono HB4.out.size))
        have HR5 := Lib.hid hr
        have hrb : w.heap.size ≤ r := Nat.le_trans HB4.out.size hr.1
        obtain ⟨base, hbase⟩ : ∃ x, x = w4.heap.size := ⟨_, rfl⟩
        rw [← hbase] at HR5
        clear hr hb5 HB4 HK4 hbase HW4
        go_wp2_with fail
        go_loopw [9] (fun x wr => ∃ j : Nat, j ≤ k ∧ x = .int .i64 j ∧ Rd wr base r (bytesOf (ones z0 k)) (ones z0 j).length ∧ Wr wr w1.heap.size (ones z0 k) ∧ Below w.heap.size w wr) (fun x _ => k - (intOf x).toNat)
        case atStart => exact ⟨0, Nat.zero_le _, rfl, HR5.out, HW5.out, HB5.out⟩
        case round =>
          obtain ⟨j, hj, rfl, hr, hw, hb⟩ := hrel
          have HR := Lib.hid hr
          have HB := Lib.hid hb
          have HW := Lib.hid hw
          clear hr hb hw HR5 HB5 HW5
          by_cases hlt : j < k
          · obtain ⟨b0, off, rfl, hb0, _, _, hcell, _⟩ := HROW.out.cells (by omega)
            have c0 : Hid (∀ W : World, Below w.heap.size w W → W.cell? ⟨b0, off + j, none⟩ = some (.int .i64 (z0.getD j 0))) := Lib.hid fun W hW => (hW.cell (p := ⟨b0, off + j, none⟩) hb0).trans (hcell j (by omega))
            clear hcell
            obtain ⟨z, hz⟩ : ∃ z, z = z0.getD j 0 := ⟨_, rfl⟩
            rw [← hz] at c0
            have hlen := ones_mono z0 k j hlt
            rw [← hz] at hlen
            have H1 : Hid (∀ q, q < rk z → take (bytesOf (ones z0 k)) ((ones z0 j).length + q) 1 = 1) := Lib.hid (by rw [hz]; exact fun q hq => ones_one z0 k j q hlt hq)
            have H2 : Hid (take (bytesOf (ones z0 k)) ((ones z0 j).length + rk z) 1 = 0) := Lib.hid (by rw [hz]; exact ones_nought z0 k j hlt)
            have HSL : Hid ((ones z0 (j + 1)).length = (ones z0 j).length + (rk z + 1)) := Lib.hid (by rw [ones_length_succ, hz])
            clear hz
            have hr := rk_le z
            have t1 := Int.tmod_lt_of_pos z (b := 64) (by decide)
            have t2 := Int.lt_tmod_of_pos z (b := 64) (by decide)
            have hj20 : decide ((j : Int) < 20) = true := by simp; omega
            have hjlen : j < len0 := by omega
            obtain ⟨wo, hwo⟩ : ∃ wo : World, wo = wr := ⟨_, rfl⟩
            subst hwo
            go_wp2_with fail
            go_loopw [10] (fun x wi => ∃ q : Nat, q ≤ rk z ∧ x = .int .i64 q ∧ Rd wi base r (bytesOf (ones z0 k)) ((ones z0 j).length + q) ∧ Wr wi w1.heap.size (ones z0 k) ∧ Below w.heap.size w wi) (fun x _ => rk z - (intOf x).toNat)
            case atStart => exact ⟨0, Nat.zero_le _, rfl, HR.out, HW.out, HB.out⟩
            case round =>
              obtain ⟨q, hq, rfl, hr, hw, hb⟩ := hrel
              have HRi := Lib.hid hr
              have HBi := Lib.hid hb
              have HWi := Lib.hid hw
              obtain ⟨_, _, _, _, _, _, hrb3, _⟩ := hr
              have HRB := Lib.hid hrb3
              clear hr hb hw HR HB HW hrb3
              by_cases hql : q < rk z
              · have hget := get_any r base _ ((ones z0 j).length + q) 1 wr HRi.out (by omega) (by rw [HBL.out]; omega)
                unfold GetPost at hget
                rw [H1.out q hql] at hget
                have HG := Lib.hid hget
                clear hget
                go_wp2_with (go_at_call 17; refine HG.out.mono ?_; rintro e w6 ⟨rfl, hr6, hg6⟩)
                go_roundw
                case rel => exact ⟨q + 1, by omega, by go_num, hr6, HWi.out.grown hg6 HRB.out (by decide) (by decide), HBi.out.trans (hg6.below HBi.out.size hrb)⟩
                case measure => simp [intOf]; omega
              · obtain rfl : q = rk z := by omega
                clear hql hq
                have hget := get_any r base _ ((ones z0 j).length + rk z) 1 wr HRi.out (by omega) (by rw [HBL.out]; omega)
                unfold GetPost at hget
                rw [H2.out] at hget
                have HG := Lib.hid hget
                clear hget
                go_wp2_with fail
                refine HG.out.mono ?_
                rintro e w6 ⟨rfl, hr6, hg6⟩
                have HR6 := Lib.hid hr6
                have HB6 := Lib.hid (HBi.out.trans (hg6.below HBi.out.size hrb))
                have HW6 := Lib.hid (HWi.out.grown hg6 HRB.out (by decide) (by decide))
                clear hr6 hg6 HG HRi HBi HWi HRB
                have c1 := c0.out _ HB6.out
                by_cases hneg : z.tmod 64 < 0
                · have HN : Hid (-(z.tmod 64) = (rk z : Int)) := Lib.hid (rk_neg hneg)
                  have hne : ((rk z : Int) != -(z.tmod 64)) = false := by rw [HN.out]; simp
                  go_wp2_with fail
                  go_roundw
                  case rel => exact ⟨j + 1, by omega, by go_num, by rw [HSL.out]; exact HR6.out, HW6.out, HB6.out⟩
                  case measure => simp [intOf]; omega
                · have HN : Hid (z.tmod 64 = (rk z : Int)) := Lib.hid (rk_pos hneg)
                  have hne : ((rk z : Int) != z.tmod 64) = false := by rw [HN.out]; simp
                  go_wp2_with fail
                  go_roundw
                  case rel => exact ⟨j + 1, by omega, by go_num, by rw [HSL.out]; exact HR6.out, HW6.out, HB6.out⟩
                  case measure => simp [intOf]; omega
          · obtain rfl : j = k := by omega
            clear hlt hj
            go_wp2_with fail
            refine (len_any w1.heap.size _ _ HW.out).mono ?_
            rintro e w6 ⟨rfl, rfl⟩
            have hleft := left_any r base _ _ _ HR.out
            rw [HBL.out] at hleft
            have HLe := Lib.hid hleft
            clear hleft
            go_wp2_with fail
            refine HLe.out.mono ?_
            rintro e w6 ⟨rfl, kk, rfl⟩
            go_wp2_with fail
            refine (bytes_any w1.heap.size _ _ (HW.out.drewN kk) (by omega)).mono ?_
            rintro e w7 ⟨rfl, hk7, hb7⟩
            have HB7 := Lib.hid ((bel_drewN HB.out kk).trans (hb7.mono HB.out.size))
            clear hk7 hb7
            go_wp2_with fail
            go_ret
            exact ⟨by simp, HB7.out⟩
end Go.Proofs.Ytiagafanibjiiaa
