/- A float put into a row of floats, the row's end behind it: laws; ScoreSort, walked. -/
import Derived.Test.YtaeolkkbakdlbaaScH
import Derived.ArgAppend
set_option linter.unusedSimpArgs false
set_option linter.unusedVariables false
set_option maxRecDepth 100000
namespace Go.Proofs.Ytaeolkkbakdlbaa.S12
open Go.RowKit Pl
def sliceF (x : Value) (lo hi mx : Option Value) : Sem Value := Instr.sliceAt 33 x lo hi mx
theorem sliceF_eq (x : Value) (lo hi mx : Option Value) : Instr.sliceAt 33 x lo hi mx = sliceF x lo hi mx := rfl
theorem elem_f64s : Try.prog.elem 33 = 24 := by kernel_rfl
theorem und_f64s : Try.prog.underlying 33 = some (.slice (Try.prog.elem 33)) := by rw [elem_f64s]; exact Try.underlying33
theorem run_size_f (w : World) : (sizeOf (Try.prog.elem 33)).run Try.prog w = .ok 1 w := by
  obtain ⟨i0, hi, hz0, hz1, hz2⟩ := infoF_parts infoF
  rw [elem_f64s]
  simp [sizeOf, typeInfo, hi, hz1]
theorem addF_zero (a : Addr) : a.add 0 = a := by
  obtain ⟨b, o, s⟩ := a
  unfold Addr.add
  cases s <;> simp
/-- l[k:] -/
theorem run_fromF {w : World} {a : Option Addr} {n cap : Nat} {L : List Nat} (hv : IsF w (.slice a n cap) L) (hn : L.length = n) (k : Nat) (hk : k ≤ n) :
    ∃ a1 c1, (∀ W, (sliceF (.slice a n cap) (some (.int .i64 k)) none none).run Try.prog W = .ok (.slice a1 (n - k) c1) W) ∧ IsF w (.slice a1 (n - k) c1) (L.drop k) := by
  subst hn
  obtain ⟨a', cap', he, hcap, hmax⟩ := hv.slice
  simp at he
  obtain ⟨rfl, rfl⟩ := he
  refine ⟨if cap = k then a else a.map (·.add (k * 1)), cap - k, ?_, ?_⟩
  rotate_left
  · obtain ⟨he, hL⟩ | ⟨x, c, he, h1, h2, hc⟩ := hv
    · simp at he
      obtain ⟨rfl, hl, rfl⟩ := he
      have hk0 : k = 0 := by omega
      subst hk0
      rw [hL]
      exact .inl ⟨by simp, rfl⟩
    · simp at he
      obtain ⟨rfl, rfl⟩ := he
      have hl : (L.drop k).length = L.length - k := by simp
      by_cases e : cap = k
      · rw [if_pos e]
        refine .inr ⟨x, cap - k, by rw [hl], by omega, by omega, fun i u hu => ?_⟩
        have := (List.getElem?_eq_some_iff.1 hu).1
        rw [f64s_length, hl] at this
        omega
      · rw [if_neg e, Nat.mul_one]
        refine .inr ⟨x.add k, cap - k, by rw [hl]; rfl, by omega, by omega, fun i u hu => ?_⟩
        have e2 : f64s (L.drop k) = (f64s L).drop k := by simp [f64s, List.map_drop]
        rw [e2, List.getElem?_drop] at hu
        rw [Addr.add_add]
        exact hc (k + i) u hu
  · intro W
    unfold sliceF
    rw [run_sliceAt_slice _ _ _ _ _ _ und_f64s, run_slice_l _ _ _ _ _ und_f64s _ _ (by omega) (by omega), run_size_f, Int.toNat_natCast]
    rfl
/-- what l[:k:k] is: a row without room -/
def Full (w : World) (v : Value) (k : Nat) (A : List Nat) : Prop := (v = .slice none 0 0 ∧ k = 0 ∧ A = []) ∨ ∃ b, v = .slice (some b) k k ∧ A.length = k ∧ k ≤ maxLen ∧ ∀ i u, (f64s A)[i]? = some u → w.cell? (b.add i) = some u
theorem run_capF {w : World} {a : Option Addr} {n cap : Nat} {L : List Nat} (hv : IsF w (.slice a n cap) L) (hn : L.length = n) (k : Nat) (hk : k ≤ n) :
    ∃ a1, (∀ W, (sliceF (.slice a n cap) none (some (.int .i64 k)) (some (.int .i64 k))).run Try.prog W = .ok (.slice a1 k k) W) ∧ Full w (.slice a1 k k) k (L.take k) := by
  subst hn
  obtain ⟨a', cap', he, hcap, hmax⟩ := hv.slice
  simp at he
  obtain ⟨rfl, rfl⟩ := he
  refine ⟨if k = 0 then a else a.map (·.add (0 * 1)), ?_, ?_⟩
  rotate_left
  · obtain ⟨he, hL⟩ | ⟨x, c, he, h1, h2, hc⟩ := hv
    · simp at he
      obtain ⟨rfl, hl, rfl⟩ := he
      have hk0 : k = 0 := by omega
      subst hk0
      exact .inl ⟨by simp, rfl, by simp⟩
    · simp at he
      obtain ⟨rfl, rfl⟩ := he
      have hl : (L.take k).length = k := by rw [List.length_take]; omega
      refine .inr ⟨x, ?_, hl, by omega, fun i u hu => ?_⟩
      · split
        · rfl
        · simp only [Nat.zero_mul, Option.map_some, addF_zero]
      · have hi := (List.getElem?_eq_some_iff.1 hu).1
        rw [f64s_length, hl] at hi
        have e2 : f64s (L.take k) = (f64s L).take k := by simp [f64s, List.map_take]
        rw [e2, List.getElem?_take_of_lt hi] at hu
        exact hc i u hu
  · intro W
    unfold sliceF
    rw [run_sliceAt_slice _ _ _ _ _ _ und_f64s, run_slice_hm _ _ _ _ _ und_f64s _ _ _ _ (by omega) (by omega) (by omega), run_size_f, Int.toNat_natCast]
    simp only [Result.andThen, sliced, Nat.sub_zero]
theorem Full.below {w w' : World} {v : Value} {k : Nat} {A : List Nat} (h : Full w v k A) (hb : Below w.heap.size w w') : Full w' v k A := by
  obtain h | ⟨b, rfl, h1, h2, hc⟩ := h
  · exact .inl h
  · refine .inr ⟨b, rfl, h1, h2, fun i u hu => ?_⟩
    have := hc i u hu
    rw [hb.cell (p := b.add i) (World.block_lt_of_cell? w _ this)]
    exact this
/-- append([]float64{x}, l...) -/
theorem app_front {w : World} (ty : TypeId) (x : Nat) (src : Value) (M : List Nat) (m : Nat) (hm : M.length = m) (hs : IsF w src M) (hb : m ≤ 4294967296) :
    ∃ sp cp w', (Builtin.append_ #[33, 33] ty #[.slice (some ⟨w.heap.size, 0, none⟩) 1 1, src]).run Try.prog (w.alloc (.cells #[.float .f64 x] 24 (0, 0))) = .ok (.slice sp (1 + m) cp) w' ∧
      IsF w' (.slice sp (1 + m) cp) (x :: M) ∧ Below w.heap.size w w' := by
  obtain ⟨i0, hi, hz0, hz1, hz2⟩ := infoF_parts infoF
  subst hm
  have hown : (w.alloc (.cells #[.float .f64 x] 24 (0, 0))).ownsRow w.heap.size 24 1 (.slice (some ⟨w.heap.size, 0, none⟩) 1 1) 1 (f64s [x]) :=
    ⟨rfl, .inr ⟨w.heap.size, 1, #[.float .f64 x], rfl, Nat.le_refl _, heap_alloc_new w _, Nat.le_refl _, by unfold maxLen; omega, rfl, rfl⟩⟩
  have hbel : Below w.heap.size w (w.alloc (.cells #[.float .f64 x] 24 (0, 0))) := (Below.refl _ _).alloc (Nat.le_refl _) _
  have hs' := hs.below hbel
  obtain ⟨rfl, rfl⟩ | ⟨ad, cap, rfl, h1, h2, hc⟩ := hs'
  · have hr := run_append_owned_none (P := Try.prog) (w := w.alloc (.cells #[.float .f64 x] 24 (0, 0))) w.heap.size 33 ty 24 i0 1 Try.underlying33 hi _ 1 _ hown
    exact ⟨_, 1, _, hr, isF_own (L := [x]) rfl hown, hbel⟩
  · obtain ⟨v', w', hr, r1, r2, _⟩ := run_append_own (P := Try.prog) (w.alloc (.cells #[.float .f64 x] 24 (0, 0))) w.heap.size 33 ty 24 i0 (.float .f64 0) 1 8 Try.underlying33 hi hz0 hz1 hz2 rfl (by decide) _ 1 _ hown ad M.length cap (f64s M) (by rw [f64s_length, Nat.mul_one]) hc (f64s_one M) (by unfold maxLen; omega) (by omega) (by simp)
    obtain ⟨sp, cp, rfl, _, _⟩ := ownsF_slice r1
    have r3 : w'.ownsRow w.heap.size 24 1 (.slice sp (1 + M.length) cp) (1 + M.length) (f64s (x :: M)) := r1
    exact ⟨sp, cp, w', hr, isF_own (L := x :: M) (n := 1 + M.length) (by simp [Nat.add_comm]) r3, hbel.grown r2 (by simp) (ownF_lt hown)⟩
/-- append(l[:k:k], m...) -/
theorem app_back {w : World} (ty : TypeId) (v : Value) (k : Nat) (A : List Nat) (hv : Full w v k A) (src : Value) (M : List Nat) (m : Nat) (hm : M.length = m) (h0 : 0 < m) (hs : IsF w src M) (hb : k + m ≤ 4294967296) :
    ∃ sp cp w', (Builtin.append_ #[33, 33] ty #[v, src]).run Try.prog w = .ok (.slice sp (k + m) cp) w' ∧ IsF w' (.slice sp (k + m) cp) (A ++ M) ∧ Below w.heap.size w w' := by
  obtain ⟨i0, hi, hz0, hz1, hz2⟩ := infoF_parts infoF
  subst hm
  obtain ⟨rfl, rfl⟩ | ⟨ad, cap, rfl, h1, h2, hc⟩ := hs
  · simp at h0
  · have hnl : (f64s M).length = M.length * 1 := by rw [f64s_length, Nat.mul_one]
    obtain ⟨rfl, rfl, rfl⟩ | ⟨b, rfl, hA, hk, hcb⟩ := hv
    · obtain ⟨v', w', hr, r1, r2, _⟩ := run_append_own (P := Try.prog) w w.heap.size 33 ty 24 i0 (.float .f64 0) 1 8 Try.underlying33 hi hz0 hz1 hz2 rfl (by decide) (.slice none 0 0) 0 [] (World.ownsRow_nil _ _ _ _) ad M.length cap (f64s M) hnl hc (f64s_one M) (by unfold maxLen; omega) (by omega) (Nat.le_refl _)
      obtain ⟨sp, cp, rfl, _, _⟩ := ownsF_slice r1
      exact ⟨sp, cp, w', hr, isF_own (L := M) (n := 0 + M.length) (by omega) r1, (Below.refl _ _).grown r2 (Nat.le_refl _) (by simp [Value.ownBlock])⟩
    · obtain ⟨v', w', hr, r1, r2⟩ := run_append_arg_grows (P := Try.prog) (w := w) 33 ty 24 i0 (.float .f64 0) 1 8 Try.underlying33 hi hz0 hz1 hz2 rfl (by decide) b k k (f64s A) (by rw [f64s_length, hA, Nat.mul_one]) hcb ad M.length cap (f64s M) hnl hc (by omega) (by unfold maxLen; omega) (by omega)
      obtain ⟨sp, cp, rfl, _, _⟩ := ownsF_slice r1
      exact ⟨sp, cp, w', hr, isF_own (L := A ++ M) (n := k + M.length) (by rw [List.length_append, hA]) (by rw [f64s_append]; exact r1), (Below.refl _ _).grown r2 (Nat.le_refl _) (by simp)⟩
theorem wp_append_F {w w' : World} {o : Oper} {a : Act} {K : Act → World → Prop} {Q : Exit → Act → World → Prop} (s x : Operand)
    (ho : o.op = .call { callee := .builtin .append, args := #[s, x], argTypes := #[33, 33] })
    (v src v' : Value) (hs : a.eval s = v) (hx : a.eval x = src) (hr : (Builtin.append_ #[33, 33] o.type #[v, src]).run Try.prog w = .ok v' w') (h : K (a.put o.dst v') w') : o.wp Try.prog a w K Q := by
  unfold Oper.wp execOp
  simp only [ho, resolve, invoke, builtin, Sem.run_bind, Sem.run_pure, Result.andThen_ok, List.map_toArray, List.map_cons, List.map_nil, hs, hx, hr]
  exact h
namespace Pl
def SrtF (F : List Nat) : Prop := ∀ i, i + 1 < F.length → fless (F.getD (i + 1) 0) (F.getD i 0) = false
theorem holeN (L M : List Nat) (k x : Nat) (hk : k ≤ L.length) (hM : M = L.take k ++ (x :: L.drop k)) (i : Nat) : M.getD i 0 = if i < k then L.getD i 0 else if i = k then x else L.getD (i - 1) 0 := by
  have hl : (L.take k).length = k := by rw [List.length_take]; omega
  subst hM
  simp only [List.getD_eq_getElem?_getD]
  by_cases h1 : i < k
  · rw [if_pos h1, List.getElem?_append_left (by omega), List.getElem?_take_of_lt h1]
  · rw [if_neg h1]
    by_cases h2 : i = k
    · rw [if_pos h2, List.getElem?_append_right (by omega), hl, h2]
      simp
    · rw [if_neg h2, List.getElem?_append_right (by omega), hl]
      obtain ⟨j, hj⟩ : ∃ j, i - k = j + 1 := ⟨i - k - 1, by omega⟩
      rw [hj, List.getElem?_cons_succ, List.getElem?_drop]
      congr 2
      omega
theorem fless_asymm {x y : Nat} (h : fless x y = true) : fless y x = false := by
  cases h2 : fless y x with
  | false => rfl
  | true =>
    have := fless_trans' h h2
    exact this
  where
    fless_trans' {x y : Nat} (h : fless x y = true) (h2 : fless y x = true) : true = false := by
      unfold fless at *
      revert h h2
      cases fN x <;> cases fN y <;> simp <;> omega
theorem ins_srt {F M : List Nat} {k x : Nat} (h : SrtF F) (hk : k ≤ F.length) (h1 : ∀ j, j < k → fless x (F.getD j 0) = false) (h2 : k < F.length → fless x (F.getD k 0) = true) (hM : M = F.take k ++ (x :: F.drop k)) : SrtF M := by
  have hml : M.length = F.length + 1 := by rw [hM]; simp; omega
  intro i hi
  rw [holeN F M k x hk hM i, holeN F M k x hk hM (i + 1)]
  by_cases c1 : i + 1 < k
  · rw [if_pos c1, if_pos (by omega)]; exact h i (by omega)
  · rw [if_neg c1]
    by_cases c2 : i + 1 = k
    · rw [if_pos c2, if_pos (by omega)]; exact h1 i (by omega)
    · rw [if_neg c2, Nat.add_sub_cancel]
      by_cases c3 : i = k
      · rw [if_neg (by omega), if_pos c3, c3]; exact fless_asymm (h2 (by omega))
      · rw [if_neg (by omega), if_neg c3]
        have := h (i - 1) (by omega)
        rw [show i - 1 + 1 = i by omega] at this
        exact this
end Pl
end Go.Proofs.Ytaeolkkbakdlbaa.S12
