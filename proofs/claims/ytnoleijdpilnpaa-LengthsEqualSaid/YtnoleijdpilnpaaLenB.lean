/- lengths.inRange, with slices.ContainsFunc and slices.IndexFunc in place: contracts. -/
import Derived.Test.YtnoleijdpilnpaaLenA
import Derived.Shelf.Abstract
set_option linter.unusedSimpArgs false
set_option linter.unusedVariables false
namespace Go.Proofs.Ytnoleijdpilnpaa
open Go.RowKit Pl
namespace Pl
def allOk (F : List Int) : Prop := ∀ x ∈ F, 0 ≤ x ∧ x ≤ 1073741824
theorem allOk_cons {x : Int} {F : List Int} : allOk (x :: F) ↔ (0 ≤ x ∧ x ≤ 1073741824) ∧ allOk F := by simp [allOk]
theorem allOk_nil : allOk [] := by simp [allOk]
theorem allOk_drop {F : List Int} {i : Nat} (h : i < F.length) (h0 : 0 ≤ F.getD i 0) (h1 : F.getD i 0 ≤ 1073741824) : allOk (F.drop i) ↔ allOk (F.drop (i + 1)) := by
  rw [drop_cons h, allOk_cons]; exact ⟨fun h => h.2, fun h => ⟨⟨h0, h1⟩, h⟩⟩
theorem allOk_not {F : List Int} {i : Nat} (h : i < F.length) (h0 : ¬ (0 ≤ F.getD i 0 ∧ F.getD i 0 ≤ 1073741824)) : ¬ allOk (F.drop i) := by
  rw [drop_cons h, allOk_cons]; exact fun h => h0 h.1
end Pl
set_option maxHeartbeats 1000000 in
theorem outside_any (x : Int) (w : World) : Calls Try.prog 24 #[.int .i64 x] w fun e w' => e = .returned (.bool (decide (x < 0 ∨ 1073741824 < x))) ∧ w = w' := by
  by_cases h1 : x < 0
  · have e : decide (x < 0 ∨ 1073741824 < x) = true := decide_eq_true (.inl h1)
    rw [e]
    go_enter Try.func24, Try.ntmps24
    go_wp2
    go_ret
    exact ⟨rfl, rfl⟩
  · by_cases h2 : 1073741824 < x
    · have e : decide (x < 0 ∨ 1073741824 < x) = true := decide_eq_true (.inr h2)
      rw [e]
      go_enter Try.func24, Try.ntmps24
      go_wp2
      go_ret
      exact ⟨rfl, rfl⟩
    · have e : decide (x < 0 ∨ 1073741824 < x) = false := decide_eq_false (by omega)
      rw [e]
      go_enter Try.func24, Try.ntmps24
      go_wp2
      go_ret
      exact ⟨rfl, rfl⟩
set_option maxHeartbeats 4000000 in
theorem index_any (v : Value) (F : List Int) (w : World) (hv : IsInts w v F) (hF : F.length ≤ 1000000) :
    Calls Try.prog 31 #[v, .func (.func 24) #[] #[]] w fun e w' => (∃ r, e = .returned (.int .i64 r) ∧ (0 ≤ r ↔ ¬ allOk F)) ∧ w = w' := by
  obtain ⟨a, cap, rfl, hcap, hmax⟩ := hv.slice
  have HV := Lib.hid hv
  clear hv
  go_enter Try.func31, Try.ntmps31
  go_wp2
  go_loopw [8] (fun y wr => ∃ (i : Nat), i ≤ F.length ∧ y = .int .i64 i ∧ (allOk (F.drop i) ↔ allOk F) ∧ wr = w) (fun y _ => F.length - (intOf y).toNat)
  case atStart => exact ⟨0, by omega, rfl, Iff.rfl, rfl⟩
  case round =>
    obtain ⟨i, hi, rfl, he, rfl⟩ := hrel
    have HE := Lib.hid he
    clear he
    by_cases hlt : i < F.length
    · obtain ⟨bb, off, cap', hs, _, _, _, hc⟩ := HV.out.cells (by omega)
      simp at hs
      obtain ⟨rfl, rfl⟩ := hs
      have c0 := hc i hlt
      have h1 := @allOk_drop F i hlt
      have h2 := @allOk_not F i hlt
      have H1 := Lib.hid h1
      have H2 := Lib.hid h2
      clear h1 h2
      generalize F.getD i 0 = x at *
      clear hc
      have hcl := outside_any x wr
      by_cases hx : 0 ≤ x ∧ x ≤ 1073741824
      · have e : decide (x < 0 ∨ 1073741824 < x) = false := decide_eq_false (by omega)
        rw [e] at hcl
        clear e
        go_wp2_with fail
        refine hcl.mono ?_
        rintro e w' ⟨rfl, rfl⟩
        go_wp2
        refine ⟨⟨i + 1, by omega, by first | rfl | go_num, (H1.out hx.1 hx.2).symm.trans HE.out, by first | trivial | rfl⟩, ?_⟩
        simp only [intOf_int]; omega
      · have e : decide (x < 0 ∨ 1073741824 < x) = true := decide_eq_true (by omega)
        rw [e] at hcl
        clear e
        go_wp2_with fail
        refine hcl.mono ?_
        rintro e w' ⟨rfl, rfl⟩
        go_wp2
        go_ret
        exact ⟨⟨_, rfl, by rw [← HE.out]; exact ⟨fun _ => H2.out hx, fun _ => by omega⟩⟩, rfl⟩
    · have e : F.drop i = [] := List.drop_eq_nil_of_le (by omega)
      rw [e] at HE
      clear e
      go_wp2
      go_ret
      exact ⟨⟨_, rfl, by rw [← HE.out]; exact ⟨fun h => by omega, fun h => absurd allOk_nil h⟩⟩, rfl⟩
set_option maxHeartbeats 4000000 in
theorem contains_any (v : Value) (F : List Int) (w : World) (hv : IsInts w v F) (hF : F.length ≤ 1000000) :
    Calls Try.prog 25 #[v, .func (.func 24) #[] #[]] w fun e w' => (∃ b, e = .returned (.bool b) ∧ (b = true ↔ ¬ allOk F)) ∧ w = w' := by
  have hc := index_any v F w hv hF
  go_enter Try.func25, Try.ntmps25
  go_wp2_with fail
  refine hc.mono ?_
  rintro e w' ⟨⟨r, rfl, hr⟩, rfl⟩
  have H := Lib.hid hr
  clear hr hc
  go_wp2
  go_ret
  exact ⟨⟨decide (0 ≤ r), rfl, by rw [decide_eq_true_iff]; exact H.out⟩, rfl⟩
set_option maxHeartbeats 4000000 in
theorem inRange_any (v : Value) (F : List Int) (w : World) (hv : IsInts w v F) (hF : F.length ≤ 1000000) :
    Calls Try.prog 19 #[v] w fun e w' => (∃ b, e = .returned (.bool b) ∧ (b = true ↔ F.length ≤ 300 ∧ allOk F)) ∧ w = w' := by
  have hc := contains_any v F w hv hF
  obtain ⟨a, cap, rfl, hcap, hmax⟩ := hv.slice
  by_cases hl : F.length ≤ 300
  · go_enter Try.func19, Try.ntmps19
    go_wp2_with fail
    refine hc.mono ?_
    rintro e w' ⟨⟨b, rfl, hb⟩, rfl⟩
    have HB := Lib.hid hb
    clear hb hc
    go_wp2
    go_ret
    refine ⟨⟨!b, rfl, ?_⟩, rfl⟩
    have := HB.out
    cases b <;> simp_all
  · go_enter Try.func19, Try.ntmps19
    go_wp2
    go_ret
    exact ⟨rfl, rfl⟩
end Go.Proofs.Ytnoleijdpilnpaa
