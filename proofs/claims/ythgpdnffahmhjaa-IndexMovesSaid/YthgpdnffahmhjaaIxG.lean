/- IndexHolds; IndexNone. -/
import Derived.Test.YthgpdnffahmhjaaIxF
set_option linter.unusedSimpArgs false
set_option linter.unusedVariables false
set_option linter.unusedSectionVars false
set_option maxRecDepth 100000
namespace Go.Proofs.Ythgpdnffahmhjaa.S20
open Go.RowKit Go.Maps Go.Shelf
theorem intOf_i (n : Int) : intOf (.int .i64 n) = n := rfl
def maxN (ats : Array TypeId) (ty : TypeId) (v u : Value) : Sem Value := Builtin.max_ ats ty #[v, u]
theorem maxN_eq (ats : Array TypeId) (ty : TypeId) (v u : Value) : Builtin.max_ ats ty #[v, u] = maxN ats ty v u := rfl
theorem run_maxN (ats : Array TypeId) (ty : TypeId) (m n : Int) (w : World) : (maxN ats ty (.int .i64 m) (.int .i64 n)).run Try.prog w = .ok (.int .i64 (max m n)) w := by
  unfold maxN Builtin.max_
  by_cases h : m < n
  · have e : max m n = n := by omega
    rw [e]
    simp [Builtin.max2, h]
  · have e : max m n = m := by omega
    rw [e]
    simp [Builtin.max2, h]
/-- an index of which the segment seg has i readers -/
def SH (seg i : Int) : IX := ⟨fun _ => none, 0, fun _ => none, fun _ => 0, fun x => if x = seg then i else 0⟩
theorem sh_zero (seg : Int) : S0 = SH seg 0 := by simp [S0, SH]
theorem sh_add (seg i d : Int) : ({ SH seg i with rd := cadd (SH seg i).rd seg d } : IX) = SH seg (i + d) := by
  simp only [SH, IX.mk.injEq, true_and]
  funext x
  simp only [cadd]
  split <;> simp
theorem sh_at (seg i : Int) : (SH seg i).rd seg = i := by simp [SH]
attribute [local go_sem ↓] maxN_eq
attribute [local go_sem] run_maxN
set_option maxHeartbeats 8000000 in
theorem indexHolds_walk (seg n f : Int) (w : World) (hs : (Lit.int .i64 seg).wf = true) (hn : (Lit.int .i64 n).wf = true) (hf : (Lit.int .i64 f).wf = true) : Calls Try.prog 6 #[.int .i64 seg, .int .i64 n, .int .i64 f] w fun e w' => e = .returned (.bool true) ∧ Below w.heap.size w w' := by
  have hbg := begun_any w
  have HSG := Lib.hid hs
  clear hn hf hs
  go_enter Try.func6, Try.ntmps6
  go_wp2_with fail
  refine hbg.mono ?_
  rintro e w1 ⟨rfl, hb1⟩
  have HB1 := Lib.hid hb1
  clear hbg
  by_cases h1 : n < 0
  · have q1 : decide (n < 0) = true := decide_eq_true h1
    go_wp2_with fail
    go_ret
    exact ⟨rfl, HB1.out⟩
  have q1 : decide (n < 0) = false := decide_eq_false h1
  by_cases h2 : 50 < n
  · have q2 : decide (50 < n) = true := decide_eq_true h2
    go_wp2_with fail
    go_ret
    exact ⟨rfl, HB1.out⟩
  have q2 : decide (50 < n) = false := decide_eq_false h2
  by_cases h3 : f < 0
  · have q3 : decide (f < 0) = true := decide_eq_true h3
    go_wp2_with fail
    go_ret
    exact ⟨rfl, HB1.out⟩
  have q3 : decide (f < 0) = false := decide_eq_false h3
  by_cases h4 : 60 < f
  · have q4 : decide (60 < f) = true := decide_eq_true h4
    go_wp2_with fail
    go_ret
    exact ⟨rfl, HB1.out⟩
  have q4 : decide (60 < f) = false := decide_eq_false h4
  obtain ⟨N, hN⟩ : ∃ N : Nat, n = N := ⟨n.toNat, by omega⟩
  obtain ⟨F, hF⟩ : ∃ F : Nat, f = F := ⟨f.toNat, by omega⟩
  subst hN; subst hF
  have hN50 : N ≤ 50 := by omega
  have hF60 : F ≤ 60 := by omega
  have hnew := new_any w1
  clear hb1 h1 h2 h3 h4
  go_wp2_with fail
  refine hnew.mono ?_
  rintro e w2 ⟨p, rfl, hI2⟩
  rw [sh_zero seg] at hI2
  clear hnew q1 q2 q3 q4
  go_wp2_with fail
  go_loopw [9] (fun v wr => ∃ i : Nat, i ≤ N ∧ v = .int .i64 i ∧ Hid (InX w1 p (SH seg i) i wr)) (fun v _ => N - (intOf v).toNat)
  case atStart => exact ⟨0, by omega, rfl, hI2⟩
  case round =>
    obtain ⟨i, hi, rfl, HI⟩ := hrel
    by_cases hlt : i < N
    · have q5 : decide ((i : Int) < (N : Int)) = true := decide_eq_true (by omega)
      have hh := hold_h seg HI.out (by omega) HSG.out
      rw [sh_add] at hh
      go_wp2_with fail
      refine hh.mono ?_
      rintro e w3 ⟨rfl, hI3⟩
      clear hh
      go_wp2_with fail
      go_roundw
      case rel => exact ⟨i + 1, by omega, by first | rfl | go_num, by have := hI3; simpa using this⟩
      case measure => simp only [intOf_i]; omega
    · obtain rfl : i = N := by omega
      have q5 : decide ((i : Int) < (i : Int)) = false := decide_eq_false (by omega)
      clear hlt hI2
      go_wp2_with fail
      go_loopw [10] (fun v wr => ∃ j : Nat, 1 ≤ j ∧ j ≤ F + 1 ∧ v = .int .i64 j ∧ Hid (InX w1 p (SH seg ((i - (j - 1) : Nat) : Int)) (i + j) wr)) (fun v _ => F + 1 - (intOf v).toNat)
      case atStart => exact ⟨1, by omega, by omega, rfl, Lib.hid (HI.out.more (by omega))⟩
      case round =>
        obtain ⟨j, hj1, hj, rfl, HJ⟩ := hrel
        by_cases hlt : j ≤ F
        · have q6 : decide ((j : Int) ≤ (F : Int)) = true := decide_eq_true (by omega)
          have hh := free_h seg HJ.out (by omega) HSG.out
          rw [sh_at] at hh
          by_cases hz : i - (j - 1) = 0
          · have q7 : ((j : Int) == (i : Int)) = false := beq_f (by omega)
            rw [hz] at hh
            simp only [Int.cast_ofNat_Int, if_true] at hh
            go_wp2_with fail
            refine hh.mono ?_
            rintro e w3 ⟨rfl, hI3⟩
            clear hh
            go_wp2_with fail
            go_roundw
            case rel => exact ⟨j + 1, by omega, by omega, by first | rfl | go_num, by have : i - (j + 1 - 1) = 0 := by omega
                                                                                      rw [this]; exact hI3⟩
            case measure => simp only [intOf_i]; omega
          · obtain ⟨m, hm⟩ : ∃ m, i - (j - 1) = m + 1 := ⟨i - j, by omega⟩
            have hne : ((m + 1 : Nat) : Int) ≠ 0 := by omega
            rw [hm, if_neg hne, if_neg hne, sh_add] at hh
            have HM := Lib.hid (show i - (j + 1 - 1) = m by omega)
            have hmm : ((m + 1 : Nat) : Int) + -1 = (m : Int) := by omega
            rw [hmm] at hh
            by_cases h0 : m = 0
            · have q7 : ((j : Int) == (i : Int)) = true := by simp; omega
              have q8 : decide (((m + 1 : Nat) : Int) = 1) = true := decide_eq_true (by omega)
              rw [q8] at hh
              clear q8
              go_wp2_with fail
              refine hh.mono ?_
              rintro e w3 ⟨rfl, hI3⟩
              clear hh
              go_wp2_with fail
              go_roundw
              case rel => exact ⟨j + 1, by omega, by omega, by first | rfl | go_num, by rw [HM.out]; exact hI3⟩
              case measure => simp only [intOf_i]; omega
            · have q7 : ((j : Int) == (i : Int)) = false := beq_f (by omega)
              have q8 : decide (((m + 1 : Nat) : Int) = 1) = false := decide_eq_false (by omega)
              rw [q8] at hh
              clear q8
              go_wp2_with fail
              refine hh.mono ?_
              rintro e w3 ⟨rfl, hI3⟩
              clear hh
              go_wp2_with fail
              go_roundw
              case rel => exact ⟨j + 1, by omega, by omega, by first | rfl | go_num, by rw [HM.out]; exact hI3⟩
              case measure => simp only [intOf_i]; omega
        · obtain rfl : j = F + 1 := by omega
          have q6 : decide (((F + 1 : Nat) : Int) ≤ (F : Int)) = false := decide_eq_false (by omega)
          have hh := held_h seg HJ.out HSG.out
          rw [sh_at] at hh
          have q7 : ((((i - (F + 1 - 1) : Nat) : Int)) == max 0 ((i : Int) - (F : Int))) = true := by simp; omega
          have q8 : IntKind.i64.wrap ((i : Int) - (F : Int)) = (i : Int) - (F : Int) := by rw [IntKind.wrap_i64]; omega
          obtain ⟨x, hx⟩ : ∃ x : Int, ((i - (F + 1 - 1) : Nat) : Int) = x := ⟨_, rfl⟩
          rw [hx] at hh q7
          clear hx hlt
          go_wp2_with fail
          refine hh.mono ?_
          rintro e w3 ⟨rfl, rfl⟩
          clear hh
          go_wp2_with fail
          go_ret
          exact ⟨rfl, HB1.out.trans (HJ.out.bel.mono HB1.out.size)⟩
end Go.Proofs.Ythgpdnffahmhjaa.S20
