/- zeros.appendRun, zeros.Encode: contracts. -/
import Derived.Test.YtaoafplijjpoaaaInts
import Derived.Test.YtaoafplijjpoaaaZerP
set_option linter.unusedSimpArgs false
set_option linter.unusedVariables false
namespace Go.Proofs.Ytaoafplijjpoaaa
open Go.RowKit Pl

/-- what a function answers that has appended to a row of the caller's own, to make L -/
def GrownL (base : Nat) (L : List Int) (w : World) (e : Ending) (w' : World) : Prop :=
  ∃ sp k cap, e = .returned (.slice sp k cap) ∧ L.length = k ∧ w'.ownsRow base 3 1 (.slice sp k cap) k (i64s L) ∧ Below base w w'
theorem own_sliceI {w : World} {base : Nat} {v : Value} {n : Nat} {L : List Int} (h : w.ownsRow base 3 1 v n (i64s L)) : ∃ sp cap, v = .slice sp n cap ∧ n ≤ cap ∧ cap ≤ maxLen := ownsRow_slice h

set_option maxHeartbeats 1000000 in
theorem run_any (v : Value) (A : List Int) (n base : Nat) (w : World) (ho : w.ownsRow base 3 1 v A.length (i64s A)) (hb : base ≤ w.heap.size) (hl : A.length + n ≤ 8589934592) :
    Calls Try.prog 16 #[v, .int .i64 n] w (GrownL base (A ++ dig n) w) := by
  obtain ⟨sp, cap, rfl, _, _⟩ := ownsRow_slice ho
  have HO := Lib.hid ho
  clear ho
  go_enter Try.func16, Try.ntmps16
  go_wp2
  go_loopw [0, 1] (fun v x wr => ∃ (B : List Int) (m : Nat), x = .int .i64 m ∧ B ++ dig m = A ++ dig n ∧ B.length + m ≤ A.length + n ∧ wr.ownsRow base 3 1 v B.length (i64s B) ∧ Below base w wr) (fun _ x _ => (intOf x).toNat)
  case atStart => exact ⟨A, n, rfl, rfl, Nat.le_refl _, HO.out, Below.refl _ _⟩
  case round =>
    obtain ⟨B, m, rfl, he, hlen, ho, hbel⟩ := hrel
    obtain ⟨sp, cap, rfl, _, _⟩ := ownsRow_slice ho
    have HE := Lib.hid he
    have HO2 := Lib.hid ho
    have HB := Lib.hid hbel
    have hsz : base ≤ wr.heap.size := Nat.le_trans hb hbel.size
    clear HO he ho hbel
    by_cases hm : 0 < m
    · have hd := dig_pos hm
      have h0 : (0 : Int) < (m : Int) := by omega
      have e1 : ((m : Nat) : Int).tmod 2 = ((m % 2 : Nat) : Int) := by rw [Int.tmod_eq_emod_of_nonneg (by omega)]; omega
      have hb2 : m % 2 < 2 := by omega
      generalize hq : m % 2 = q at *
      have e2 : (2 : Int) - (q : Int) - 1 = 1 - (q : Int) := by omega
      have e3 : ((m : Int) - (2 - (q : Int))).tdiv 2 = (((m - 1) / 2 : Nat) : Int) := by rw [Int.tdiv_eq_ediv_of_nonneg (by omega)]; omega
      clear hd
      go_wp2_with (at_builtin; refine wpList_append_int rfl (.tmp 11) (.tmp 14) rfl base (.slice sp B.length cap) B.length B (1 - (q : Int)) rfl HO2.out _ rfl rfl (by omega) hsz ?_; intro v' w1 hown hgr)
      go_roundw
      case rel =>
        refine ⟨B ++ [1 - (q : Int)], (m - 1) / 2, by simp, ?_, by simp; omega, by simpa using hown, bel_append HB.out _ HO2.out hgr hsz⟩
        rw [← HE.out, dig_pos hm, hq, List.append_assoc, List.singleton_append]
      case measure => simp [intOf]; omega
    · obtain rfl : m = 0 := by omega
      have HF := Lib.hid (show B = A ++ dig n by rw [← HE.out, dig_zero, List.append_nil])
      go_wp2
      go_ret
      rw [← HF.out]
      exact ⟨sp, _, cap, rfl, rfl, HO2.out, HB.out⟩

set_option maxHeartbeats 2000000 in
theorem encode_any (v : Value) (B : List Nat) (w : World) (hv : IsBytes w v B) (hB : B.length ≤ 4294967296) :
    Calls Try.prog 10 #[v] w (MadeL (enc B 0) w) := by
  obtain ⟨a, cap, rfl, hcap, hmax⟩ := hv.slice
  unfold maxLen at hmax
  have HV := Lib.hid hv
  clear hv
  go_enter Try.func10, Try.ntmps10
  go_wp2
  go_loopw [3, 4, 9] (fun v x y wr => ∃ (L : List Int) (run i : Nat), i ≤ B.length ∧ x = .int .i64 run ∧ y = .int .i64 i ∧ L ++ enc (B.drop i) run = enc B 0 ∧ L.length + run ≤ i ∧ wr.ownsRow w.heap.size 3 1 v L.length (i64s L) ∧ Below w.heap.size w wr) (fun _ _ y _ => B.length - (intOf y).toNat)
  case atStart => exact ⟨[], 0, 0, by omega, rfl, rfl, rfl, by simp, own_nilI _ _, Below.refl _ _⟩
  case round =>
    obtain ⟨L, run, i, hi, rfl, rfl, he, hlen, ho, hbel⟩ := hrel
    obtain ⟨sp, cp, rfl, _, _⟩ := ownsRow_slice ho
    have HE := Lib.hid he
    have HO := Lib.hid ho
    have HB := Lib.hid hbel
    have hsz := hbel.size
    clear he ho hbel
    obtain ⟨wo, hwo⟩ : ∃ wo, wo = wr := ⟨_, rfl⟩
    subst hwo
    by_cases hlt : i < B.length
    · obtain ⟨bb, off, cap', hs, _, _, _, hc⟩ := (HV.out.below HB.out).cells (by omega)
      simp at hs
      obtain ⟨rfl, rfl⟩ := hs
      have c0 := hc i hlt
      have hx := getD_lt HV.out.1 i
      have hdr : B.drop i = B.getD i 0 :: B.drop (i + 1) := by
        rw [List.drop_eq_getElem_cons hlt]; simp [List.getD, hlt]
      rw [hdr] at HE
      generalize B.getD i 0 = x at *
      clear hc hdr
      by_cases hz : x = 0
      · subst hz
        rw [enc_zero] at HE
        have HE2 := HE
        go_wp2_with fail
        go_roundw
        case rel => exact ⟨L, run + 1, i + 1, by omega, by go_num, by go_num, HE2.out, by omega, HO.out, HB.out⟩
        case measure => simp [intOf]; omega
      · rw [enc_byte hz] at HE
        have hz1 : ((x : Int) == 0) = false := beq_f (by omega)
        go_wp2_with fail
        refine (run_any _ L run w.heap.size wo HO.out hsz (by omega)).mono ?_
        rintro e w2 ⟨sp2, k2, cp2, rfl, hk2, ho2, hb2⟩
        have HO2 := Lib.hid ho2
        have hsz2 : w.heap.size ≤ w2.heap.size := Nat.le_trans hsz hb2.size
        have HB2 := Lib.hid (HB.out.trans hb2)
        have hdl := dig_length run
        rw [List.length_append] at hk2
        have hk3 : k2 ≤ i := by omega
        clear HO HB ho2 hb2 c0 hdl
        go_wp2_with (at_builtin; refine wpList_append_int rfl (.tmp 19) (.tmp 23) rfl w.heap.size _ k2 _ ((x : Int) + 1) rfl HO2.out _ rfl rfl (by omega) hsz2 ?_; intro v' w3 hown hgr)
        go_roundw
        case rel =>
          refine ⟨L ++ dig run ++ [(x : Int) + 1], 0, i + 1, by omega, by go_num, by go_num, ?_, by simp; omega, ?_, bel_append HB2.out _ HO2.out hgr hsz2⟩
          · rw [← HE.out]; simp
          · rw [List.length_append, List.length_append, hk2]; exact hown
        case measure => simp [intOf]; omega
    · obtain rfl : i = B.length := by omega
      rw [List.drop_length, enc_nil] at HE
      go_wp2_with fail
      refine (run_any _ L run w.heap.size wo HO.out hsz (by omega)).mono ?_
      rintro e w2 ⟨sp2, k2, cp2, rfl, hk2, ho2, hb2⟩
      have HO2 := Lib.hid ho2
      have hsz2 : w.heap.size ≤ w2.heap.size := Nat.le_trans hsz hb2.size
      have HB2 := Lib.hid (HB.out.trans hb2)
      have hdl := dig_length run
      rw [List.length_append] at hk2
      have hk3 : k2 ≤ B.length := by omega
      clear HO HB ho2 hb2 hdl
      go_wp2_with (at_builtin; refine wpList_append_int rfl (.tmp 28) (.tmp 29) rfl w.heap.size _ k2 _ 257 rfl HO2.out _ rfl rfl (by omega) hsz2 ?_; intro v' w3 hown hgr)
      go_ret
      obtain ⟨sp3, cp3, rfl, _, _⟩ := ownsRow_slice hown
      rw [← HE.out]
      refine ⟨sp3, _, cp3, rfl, ?_, ?_, bel_append HB2.out _ HO2.out hgr hsz2⟩
      · simp; omega
      · rw [← List.append_assoc]; exact hown
end Go.Proofs.Ytaoafplijjpoaaa
