/- suffix.text.isCut: contracts. -/
import Derived.Test.YtklpmpniempmcaaSufR
set_option linter.unusedSimpArgs false
set_option linter.unusedVariables false
namespace Go.Proofs.Ytklpmpniempmcaa
open Go.RowKit Pl
set_option maxHeartbeats 4000000 in
theorem isCut_b (T : List Nat) (lv sv : Value) (rb i : Nat) (w : World) (hr : Blk w rb 4 (bls (risL T))) (hi : i < T.length) (hn : T.length ≤ 1000000) :
    Calls Try.prog 27 #[.agg #[lv, .slice (some ⟨rb, 0, none⟩) T.length T.length, sv], .int .i64 i] w fun e w' => e = .returned (.bool (isc T i)) ∧ Below w.heap.size w w' := by
  have hrb := hr.lt
  have c0 := hr.cell (bls_get (risL T) i (by rw [risL_length]; exact hi))
  rw [risL_get T i hi] at c0
  have c1 : 0 < i → Blk w rb 4 (bls (risL T)) → w.cell? ⟨rb, i - 1, none⟩ = some (.bool (ris T (i - 1))) := fun h h2 => by
    have := h2.cell (bls_get (risL T) (i - 1) (by rw [risL_length]; omega))
    rwa [risL_get T (i - 1) (by omega)] at this
  obtain ⟨N, hN⟩ : ∃ N, N = T.length := ⟨_, rfl⟩
  rw [← hN] at hi hn ⊢
  by_cases h0 : i = 0
  · subst h0
    have e : isc T 0 = false := rfl
    rw [e]
    go_enter Try.func27, Try.ntmps27
    go_wp2_with fail
    go_ret
    exact ⟨rfl, (Below.refl _ _).alloc (Nat.le_refl _) _⟩
  · have c1 := c1 (by omega) hr
    obtain ⟨j, rfl⟩ : ∃ j, i = j + 1 := ⟨i - 1, by omega⟩
    rw [isc_succ]
    simp only [Nat.add_sub_cancel] at c1
    generalize ris T (j + 1) = r1 at *
    generalize ris T j = r0 at *
    clear hr
    cases r1 with
    | false =>
      go_enter Try.func27, Try.ntmps27
      go_wp2_with fail
      go_ret
      exact ⟨rfl, (Below.refl _ _).alloc (Nat.le_refl _) _⟩
    | true =>
      go_enter Try.func27, Try.ntmps27
      go_wp2_with fail
      go_ret
      exact ⟨by cases r0 <;> rfl, (Below.refl _ _).alloc (Nat.le_refl _) _⟩
end Go.Proofs.Ytklpmpniempmcaa
