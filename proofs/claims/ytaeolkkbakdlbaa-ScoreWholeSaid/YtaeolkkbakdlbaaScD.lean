/- foliolaw12.begun: a contract. -/
import Derived.Test.YtaeolkkbakdlbaaScC
set_option linter.unusedSimpArgs false
set_option linter.unusedVariables false
namespace Go.Proofs.Ytaeolkkbakdlbaa.S12
open Go.RowKit Pl
theorem isF_new (w : World) (t : TypeId) (L : List Nat) (c : List Value) (hc : c = f64s L) (n : Nat) (hn : n = L.length) (hl : n ≤ maxLen) : IsF (w.alloc (.cells c.toArray t)) (.slice (some ⟨w.heap.size, 0, none⟩) n n) L := by
  subst hn hc
  refine .inr ⟨⟨w.heap.size, 0, none⟩, L.length, rfl, Nat.le_refl _, hl, fun i u hu => ?_⟩
  have hadd : (⟨w.heap.size, 0, none⟩ : Addr).add i = ⟨w.heap.size, i, none⟩ := by unfold Addr.add; split <;> simp_all
  rw [hadd]
  have hh : (w.alloc (.cells (f64s L).toArray t)).heap[w.heap.size]? = some (.cells (f64s L).toArray t) := heap_alloc_new w _
  unfold World.cell?
  rw [hh]
  simpa using hu
theorem half (r : Nat) (h : RatR 1 2 r) : r = 4602678819172646912 := h.of (by decide)
set_option maxHeartbeats 4000000 in
set_option maxRecDepth 100000 in
theorem begun_any (w : World) : Calls Try.prog 8 #[] w fun e w' => e = .returned (.bool true) ∧ Below w.heap.size w w' := by
  have c0 : (Ieee.double.order 4602678819172646912 4602678819172646912 == some .eq) = true := by decide
  have l1 := fun W => less_any 9221120237041090561 18442240474082181120 W (by decide) (by decide)
  have l2 := fun W => less_any 9221120237041090561 9221120237041090561 W (by decide) (by decide)
  have l3 := fun W => less_any 9223372036854775808 0 W (by decide) (by decide)
  have b1 := fun W => bits_any 9221120237041090561 W (by decide)
  rw [show fless 9221120237041090561 18442240474082181120 = true by decide] at l1
  rw [show fless 9221120237041090561 9221120237041090561 = false by decide] at l2
  rw [show fless 9223372036854775808 0 = true by decide] at l3
  rw [show fB 9221120237041090561 = 9221120237041090561 by decide] at b1
  go_enter Try.func8, Try.ntmps8
  go_wp2_with fail
  refine (nan_any _).mono ?_
  rintro e w1 ⟨rfl, rfl⟩
  go_wp2_with fail
  refine (ratio_any _ _ _).mono ?_
  rintro e w2 ⟨r, n, rfl, hr, rfl⟩
  obtain rfl := half r hr
  go_wp2_with fail
  refine (inf_minus _).mono ?_
  rintro e w1 ⟨rfl, rfl⟩
  go_wp2_with fail
  refine (l1 _).mono ?_
  rintro e w1 ⟨rfl, rfl⟩
  go_wp2_with fail
  refine (l2 _).mono ?_
  rintro e w1 ⟨rfl, rfl⟩
  go_wp2_with fail
  refine (copysign_minus _).mono ?_
  rintro e w1 ⟨rfl, rfl⟩
  go_wp2_with fail
  refine (l3 _).mono ?_
  rintro e w1 ⟨rfl, rfl⟩
  go_wp2_with fail
  refine (best_any _ [4607182418800017408, 9221120237041090561, 4613937818241073152, 4613937818241073152] _ (isF_new (w1.drewN n) _ _ _ rfl 4 rfl (by unfold maxLen; omega)) (by decide) (by decide)).mono ?_
  rintro e w3 ⟨rfl, rfl⟩
  rw [show bestUp [4607182418800017408, 9221120237041090561, 4613937818241073152, 4613937818241073152] [4607182418800017408, 9221120237041090561, 4613937818241073152, 4613937818241073152].length = 2 by decide]
  go_wp2_with fail
  refine (b1 _).mono ?_
  rintro e w4 ⟨rfl, rfl⟩
  go_wp2_with fail
  go_ret
  exact ⟨rfl, (bel_drewN (Below.refl _ _) n).alloc (by simp [World.drewN]) _⟩
end Go.Proofs.Ytaeolkkbakdlbaa.S12
