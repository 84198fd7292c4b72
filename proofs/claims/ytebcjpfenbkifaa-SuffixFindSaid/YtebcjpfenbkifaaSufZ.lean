/- SuffixRabbits, walked; the order of strings is the order of bytes. -/
import Derived.Test.YtebcjpfenbkifaaSufW
import Derived.Test.YtebcjpfenbkifaaSaH
import Derived.Test.YtebcjpfenbkifaaSlice
set_option linter.unusedSimpArgs false
set_option linter.unusedVariables false
namespace Go.Proofs.Ytebcjpfenbkifaa
open Go.RowKit Pl
theorem bytes_less : ∀ (A B : List Nat), (∀ x ∈ A, x < 256) → (∀ x ∈ B, x < 256) → Op.bytesLess (A.map UInt8.ofNat) (B.map UInt8.ofNat) = lexB A B := by
  intro A
  induction A with
  | nil => intro B _ _; cases B <;> rfl
  | cons a A ih =>
    intro B hA hB
    cases B with
    | nil => rfl
    | cons b B =>
      have ha := hA a (List.mem_cons_self ..)
      have hb := hB b (List.mem_cons_self ..)
      have h := ih B (fun x hx => hA x (List.mem_cons_of_mem _ hx)) (fun x hx => hB x (List.mem_cons_of_mem _ hx))
      rw [List.map_cons, List.map_cons]
      unfold Op.bytesLess
      rw [h]
      have e1 : (UInt8.ofNat a < UInt8.ofNat b) ↔ a < b := by
        rw [UInt8.lt_iff_toNat_lt, UInt8.toNat_ofNat', UInt8.toNat_ofNat', Nat.mod_eq_of_lt (by omega), Nat.mod_eq_of_lt (by omega)]
      have e2 : (UInt8.ofNat a = UInt8.ofNat b) ↔ a = b := by
        rw [← UInt8.toNat_inj, UInt8.toNat_ofNat', UInt8.toNat_ofNat', Nat.mod_eq_of_lt (by omega), Nat.mod_eq_of_lt (by omega)]
      rcases Nat.lt_trichotomy a b with h1 | h1 | h1
      · rw [lexB_lt h1, decide_eq_true (e1.2 h1), Bool.true_or]
      · subst h1
        rw [lexB_same, decide_eq_false (by rw [e1]; omega)]
        simp
      · rw [lexB_gt h1, decide_eq_false (by rw [e1]; omega), beq_eq_false_iff_ne.2 (by rw [ne_eq, e2]; omega)]
        rfl
theorem str_less {A B : List Nat} (hA : ∀ x ∈ A, x < 256) (hB : ∀ x ∈ B, x < 256) : Op.bytesLess (str A).toList (str B).toList = lexB A B := by
  rw [ByteArray.toList_eq, ByteArray.toList_eq]
  exact bytes_less A B hA hB
theorem sa_step {B R : List Nat} (h : IsSA B R) {j : Nat} (hj : j + 1 < R.length) : sufB B (R.getD j 0) (R.getD (j + 1) 0) = true := by
  have := List.pairwise_iff_getElem.1 h.1 j (j + 1) (by omega) hj (by omega)
  rw [← getD_get R 0, ← getD_get R 0] at this
  exact this
/-- two neighbours in the order, as the program compares them -/
theorem sa_less {B R : List Nat} (hB : ∀ x ∈ B, x < 256) (h : IsSA B R) {j : Nat} (hj : j + 1 < R.length) : Op.bytesLess (str (B.drop (R.getD j 0))).toList (str (B.drop (R.getD (j + 1) 0))).toList = true := by
  rw [str_less (fun x hx => hB x (List.mem_of_mem_drop hx)) (fun x hx => hB x (List.mem_of_mem_drop hx))]
  exact sa_step h hj
attribute [local go_sem ↓] sliceU8_eq conv_eq
set_option maxHeartbeats 8000000 in
set_option maxRecDepth 100000 in
theorem suffixRabbits_walk (n x y : Int) (w : World) (wn : (Lit.int .i64 n).wf = true) (wx : (Lit.int .u8 x).wf = true) (wy : (Lit.int .u8 y).wf = true) :
    Calls Try.prog 8 #[.int .i64 n, .int .u8 x, .int .u8 y] w fun e w' => e = .returned (.bool true) ∧ Below w.heap.size w w' := by
  by_cases h1 : n < 0
  · go_enter Try.func8, Try.ntmps8
    go_wp2_with fail
    refine (begun_any _).mono ?_
    rintro e w1 ⟨rfl, hb1⟩
    have HB1 := Lib.hid hb1
    clear hb1
    go_wp2_with fail
    go_ret
    exact ⟨rfl, HB1.out⟩
  by_cases h2 : 13 < n
  · go_enter Try.func8, Try.ntmps8
    go_wp2_with fail
    refine (begun_any _).mono ?_
    rintro e w1 ⟨rfl, hb1⟩
    have HB1 := Lib.hid hb1
    clear hb1
    go_wp2_with fail
    go_ret
    exact ⟨rfl, HB1.out⟩
  obtain ⟨n, rfl⟩ : ∃ k : Nat, n = k := ⟨n.toNat, by omega⟩
  have hn : n ≤ 13 := by omega
  have hx := u8_wf wx
  obtain ⟨x, rfl⟩ : ∃ k : Nat, x = k := ⟨x.toNat, by omega⟩
  obtain ⟨hx1, hx2⟩ := hx
  have hy := u8_wf wy
  obtain ⟨y, rfl⟩ : ∃ k : Nat, y = k := ⟨y.toNat, by omega⟩
  obtain ⟨hy1, hy2⟩ := hy
  have HX : Hid (x < 256) := Lib.hid (by omega)
  have HY : Hid (y < 256) := Lib.hid (by omega)
  clear wn wx wy hx1 hx2 hy1 hy2
  go_enter Try.func8, Try.ntmps8
  go_wp2_with fail
  refine (begun_any _).mono ?_
  rintro e w1 ⟨rfl, hb1⟩
  have HB1 := Lib.hid hb1
  clear hb1
  go_wp2_with fail
  go_loopw [8, 9, 10] (fun u v t wr => ∃ (i M : Nat) (sa sb : Option Addr) (A B : List Nat) (la lb ca cb : Nat), i ≤ n ∧ M = 2 ^ i ∧ t = .int .i64 i ∧ u = .slice sa la ca ∧ v = .slice sb lb cb ∧ A.length = la ∧ B.length = lb ∧ la ≤ M ∧ lb ≤ M ∧ IsBytes wr u A ∧ IsBytes wr v B ∧ Below w1.heap.size w1 wr) (fun _ _ t _ => n - (intOf t).toNat)
  case atStart =>
    refine ⟨0, 1, _, _, [x], [y], 1, 1, 1, 1, by omega, rfl, rfl, rfl, rfl, rfl, rfl, by omega, by omega, ?_, ?_, ?_⟩
    · exact IsBytes.below (isBytes_mark w1 [x] _ (by simpa using HX.out) (by simp [maxLen])) ((Below.refl _ _).alloc (Nat.le_refl _) _)
    · have hh := isBytes_mark (w1.alloc (.cells #[.int .u8 x] 5)) [y] (0, 0) (by simpa using HY.out) (by simp [maxLen])
      rw [show (w1.alloc (.cells #[.int .u8 (x : Int)] 5)).heap.size = w1.heap.size + 1 by simp] at hh
      exact hh
    · exact ((Below.refl _ _).alloc (Nat.le_refl _) _).alloc (by simp) _
  case round =>
    obtain ⟨i, M, sa, sb, A, B, la, lb, ca, cb, hi, hM, rfl, rfl, rfl, hA, hB, hAM, hBM, ha, hb, hbel⟩ := hrel
    have hM2 : M ≤ 8192 := by
      rw [hM]
      exact Nat.le_trans (Nat.pow_le_pow_right (by omega) (show i ≤ 13 by omega)) (by decide)
    have HM := Lib.hid hM
    have HAL := Lib.hid hA
    have HBL := Lib.hid hB
    have HA := Lib.hid ha
    have HB := Lib.hid hb
    have HBE := Lib.hid hbel
    have hsz := Nat.le_refl wr.heap.size
    clear hM hA hB ha hb hbel HX HY
    by_cases hlt : i < n
    · go_wp2_with (first
        | (at_builtin; refine wpList_append_bytes rfl _ (.tmp 32) rfl wr.heap.size (.slice none 0 0) 0 [] rfl (own_nil _ _) _ B rfl HB.out (by rw [HBL.out]; omega) hsz ?_; intro v4 w4 hown hgr; rw [Nat.zero_add, List.nil_append, HBL.out] at hown; have HO4 := Lib.hid hown; have HB4 : Hid (Below wr.heap.size wr w4) := Lib.hid ⟨hgr.os, hgr.tape, hgr.output, hgr.size, fun k hk => hgr.block k hk (by simp [Value.ownBlock])⟩; have hsz4 := HB4.out.size; obtain ⟨sp4, cp4, rfl, _, _⟩ := ownsRow_slice hown; clear hown hgr)
        | (at_builtin; refine wpList_append_bytes rfl (.tmp 33) (.tmp 34) rfl wr.heap.size _ lb _ rfl HO4.out _ A rfl (HA.out.below HB4.out) (by rw [HAL.out]; omega) hsz4 ?_; intro v6 w6 hown hgr; rw [← u8s_append, HAL.out] at hown; have HO6 := Lib.hid hown; have HB6 := Lib.hid (HB4.out.grown hgr hsz4 (own_lt HO4.out)); have hsz6 := HB6.out.size; obtain ⟨sp6, cp6, rfl, _, _⟩ := ownsRow_slice hown; clear hown hgr))
      have hl6 : (B ++ A).length = lb + la := by rw [List.length_append, HAL.out, HBL.out]
      refine ⟨⟨i + 1, 2 * M, _, _, B, B ++ A, lb, lb + la, _, _, by omega, by rw [Nat.pow_succ, ← HM.out]; omega, by first | rfl | go_num, rfl, rfl, HBL.out, hl6, by omega, by omega, HB.out.below HB6.out, ?_, HBE.out.trans (HB6.out.mono HBE.out.size)⟩, ?_⟩
      · exact isBytes_ownS (base := wr.heap.size) (fun z hz => by
          rcases List.mem_append.1 hz with h | h
          · exact HB.out.1 z h
          · exact HA.out.1 z h) hl6.symm (by rw [hl6]; exact HO6.out)
      · simp only [intOf_i]; omega
    · obtain rfl : i = n := by omega
      go_wp2_with fail
      refine (sort_s (n := lb) HB.out (by rw [HBL.out]; omega) HBL.out).mono ?_
      rintro e w3 ⟨g3, R, rfl, hR, hRl, hi3, hb3⟩
      have HR := Lib.hid hR
      have HRL := Lib.hid hRl
      have HI3 := Lib.hid hi3
      have HJ3 := Lib.hid (HB.out.below hb3)
      have HB3 := Lib.hid (HB1.out.trans ((HBE.out.trans (hb3.mono HBE.out.size)).mono HB1.out.size))
      have hbn : ((lb : Int) != (lb : Int)) = false := bne_f rfl
      clear hR hRl hi3 hb3 HB HA HBE HB1
      go_wp2_with fail
      clear hbn
      go_loopw [13] (fun t wr => ∃ (j m : Nat), j ≤ lb ∧ t = .int .i64 ((j : Int) + 1) ∧ wr = w3.drewN m) (fun t _ => lb - (intOf t).toNat)
      case atStart => exact ⟨0, 0, by omega, rfl, rfl⟩
      case round =>
        obtain ⟨j, m, hj, rfl, rfl⟩ := hrel
        by_cases hlt2 : j + 1 < lb
        · have hlt3 : (j : Int) + 1 < (lb : Int) := by omega
          obtain ⟨b1, o1, q1, e1, -, -, -, hx1⟩ := HI3.out.cells (by rw [nI_length, HRL.out]; omega)
          simp only [Value.slice.injEq, Option.some.injEq, Addr.mk.injEq, and_true] at e1
          obtain ⟨⟨rfl, rfl⟩, -⟩ := e1
          have d1 := hx1 j (by rw [nI_length, HRL.out]; omega)
          have d2 := hx1 (j + 1) (by rw [nI_length, HRL.out]; omega)
          rw [nI_get, Nat.zero_add] at d1 d2
          have hp1 := sa_lt HR.out (k := j) (by rw [HRL.out]; omega)
          have hp2 := sa_lt HR.out (k := j + 1) (by rw [HRL.out]; omega)
          have hls := sa_less HJ3.out.1 HR.out (j := j) (by rw [HRL.out]; omega)
          rw [HBL.out] at hp1 hp2
          generalize R.getD j 0 = p at *
          generalize R.getD (j + 1) 0 = q at *
          obtain ⟨a1, c1, r1, k1⟩ := run_from HJ3.out p (by rw [HBL.out]; omega)
          obtain ⟨a2, c2, r2, k2⟩ := run_from HJ3.out q (by rw [HBL.out]; omega)
          rw [HBL.out] at r1 r2 k1 k2
          have s1 := fun m => run_conv (k1.below (bel_drewN (Below.refl _ _) m))
          have s2 := fun m => run_conv (k2.below (bel_drewN (Below.refl _ _) m))
          clear hx1 k1 k2
          go_wp2_with fail
          go_quiet (fail)
          go_wp2_with fail
          refine ⟨⟨j + 1, _, by omega, by first | rfl | go_num, rfl⟩, ?_⟩
          simp only [intOf_i]; omega
        · have hlt3 : (lb : Int) ≤ (j : Int) + 1 := by omega
          go_wp2_with fail
          go_ret
          exact ⟨rfl, bel_drewN HB3.out m⟩
end Go.Proofs.Ytebcjpfenbkifaa
