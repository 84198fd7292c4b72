/- Rows of integers ([]int) in memory: what came in, what the call owns, appends, a slice expression: lemmas without a walk. -/
import Derived.Test.YtaffmfocjaihlaaDoorMade
set_option linter.unusedSimpArgs false
set_option linter.unusedVariables false
namespace Go.Proofs.YtaffmfocjaihlaaDoor
open Go.RowKit Pl

def i64s (L : List Int) : List Value := L.map fun x => .int .i64 x
theorem i64s_length (L : List Int) : (i64s L).length = L.length := by simp [i64s]
theorem i64s_get (L : List Int) (i : Nat) (h : i < L.length) : (i64s L)[i]? = some (.int .i64 (L.getD i 0)) := by simp [i64s, h, List.getD]
theorem i64s_append (A B : List Int) : i64s (A ++ B) = i64s A ++ i64s B := by simp [i64s]
theorem i64s_snoc (A : List Int) (c : Int) : i64s (A ++ [c]) = i64s A ++ [.int .i64 c] := by simp [i64s]
theorem i64s_one (L : List Int) : ∀ v ∈ i64s L, v.oneCell' = true := by
  intro v hv; simp only [i64s, List.mem_map] at hv; obtain ⟨x, _, rfl⟩ := hv; rfl
theorem infoI : (Tryd.prog.info? 3).map (fun i => (i.zero, i.size, i.bytes)) = some (some (.int .i64 0), 1, 8) := by kernel_rfl
theorem infoI_parts {o : Option TypeInfo} (h : o.map (fun i => (i.zero, i.size, i.bytes)) = some (some (Value.int .i64 0), 1, 8)) : ∃ i, o = some i ∧ i.zero = some (.int .i64 0) ∧ i.size = 1 ∧ i.bytes = 8 := by
  cases o with
  | none => cases h
  | some i => simp at h; exact ⟨i, rfl, h.1, h.2.1, h.2.2⟩
/-- the integers L, as the slice v tells them -/
def IsInts (w : World) (v : Value) (L : List Int) : Prop :=
  (v = .slice none 0 0 ∧ L = []) ∨ ∃ a cap, v = .slice (some a) L.length cap ∧ L.length ≤ cap ∧ cap ≤ maxLen ∧ ∀ i u, (i64s L)[i]? = some u → w.cell? (a.add i) = some u
theorem isInts_nil (w : World) : IsInts w (.slice none 0 0) [] := .inl ⟨rfl, rfl⟩
theorem IsInts.below {w w' : World} {v : Value} {L : List Int} (h : IsInts w v L) (hb : Below w.heap.size w w') : IsInts w' v L := by
  obtain h | ⟨a, cap, rfl, h1, h2, hc⟩ := h
  · exact .inl h
  · refine .inr ⟨a, cap, rfl, h1, h2, fun i u hu => ?_⟩
    have := hc i u hu
    rw [hb.cell (p := a.add i) (World.block_lt_of_cell? w _ this)]
    exact this
theorem IsInts.slice {w : World} {v : Value} {L : List Int} (h : IsInts w v L) : ∃ a cap, v = .slice a L.length cap ∧ L.length ≤ cap ∧ cap ≤ maxLen := by
  obtain ⟨rfl, rfl⟩ | ⟨a, cap, rfl, h1, h2, _⟩ := h
  · exact ⟨none, 0, rfl, Nat.le_refl _, by unfold maxLen; omega⟩
  · exact ⟨some a, cap, rfl, h1, h2⟩
theorem IsInts.cells {w : World} {v : Value} {L : List Int} (h : IsInts w v L) (h0 : 0 < L.length) : ∃ b off cap, v = .slice (some ⟨b, off, none⟩) L.length cap ∧ L.length ≤ cap ∧ cap ≤ maxLen ∧ b < w.heap.size ∧ (∀ i, i < L.length → w.cell? ⟨b, off + i, none⟩ = some (.int .i64 (L.getD i 0))) := by
  obtain ⟨rfl, rfl⟩ | ⟨a, cap, rfl, h1, h2, hc⟩ := h
  · simp at h0
  · obtain ⟨b, off, spot⟩ := a
    have hc0 := hc 0 _ (i64s_get L 0 h0)
    have hspot : spot = none := by simpa [Addr.add] using World.cell?_spot hc0
    subst hspot
    refine ⟨b, off, cap, rfl, h1, h2, World.block_lt_of_cell? w _ hc0, fun i hi => ?_⟩
    have := hc i _ (i64s_get L i hi)
    have hadd : (⟨b, off, none⟩ : Addr).add i = ⟨b, off + i, none⟩ := by unfold Addr.add; split <;> simp_all
    rwa [hadd] at this
theorem isInts_row {w : World} {a : Option Addr} {len cap : Nat} {zs : List Int} (h : IsRow .i64 w a len cap zs) : IsInts w (.slice a len cap) (zs.take len) ∧ (zs.take len).length = len := by
  rcases h with ⟨rfl, rfl, rfl, rfl⟩ | ⟨x, rfl, h1, h2, h3, hc, hw⟩
  · exact ⟨.inl ⟨rfl, rfl⟩, rfl⟩
  · have hl : (zs.take len).length = len := by simp; omega
    refine ⟨.inr ⟨x, cap, by rw [hl], by omega, h2, ?_⟩, hl⟩
    intro i u hu
    have hi : i < len := by
      have := (List.getElem?_eq_some_iff.1 hu).1
      rw [i64s_length, hl] at this; exact this
    rw [hc i (by omega)]
    rw [i64s_get _ _ (by rw [hl]; exact hi)] at hu
    rw [← hu]
    simp only [List.getD_eq_getElem?_getD, List.getElem?_take_of_lt hi]
theorem isInts_own {w : World} {base : Nat} {sp : Option Addr} {cap n : Nat} {L : List Int} (hn : n = L.length) (h : w.ownsRow base 3 1 (.slice sp n cap) n (i64s L)) : IsInts w (.slice sp n cap) L := by
  subst hn
  obtain ⟨hl, ⟨he, h0⟩ | ⟨g, cap', cur, hv, _, hh, hn, hm, hs, ht⟩⟩ := h
  · have hB : L = [] := List.eq_nil_of_length_eq_zero h0
    subst hB
    exact .inl ⟨he, rfl⟩
  · simp at hv
    obtain ⟨rfl, rfl⟩ := hv
    refine .inr ⟨⟨g, 0, none⟩, cap, rfl, hn, hm, fun i u hu => ?_⟩
    have hadd : (⟨g, 0, none⟩ : Addr).add i = ⟨g, i, none⟩ := by unfold Addr.add; split <;> simp_all
    rw [hadd]
    have hi := (List.getElem?_eq_some_iff.1 hu).1
    rw [i64s_length] at hi
    rw [← ht, List.getElem?_take_of_lt (by omega)] at hu
    simp [World.cell?, hh]
    simpa using hu
theorem isInts_new (w : World) (L : List Int) (r : Nat × Nat) (hl : L.length ≤ maxLen) : IsInts (w.alloc (.cells (i64s L).toArray 3 r)) (.slice (some ⟨w.heap.size, 0, none⟩) L.length L.length) L := by
  refine .inr ⟨⟨w.heap.size, 0, none⟩, L.length, rfl, Nat.le_refl _, hl, fun i u hu => ?_⟩
  have hadd : (⟨w.heap.size, 0, none⟩ : Addr).add i = ⟨w.heap.size, i, none⟩ := by unfold Addr.add; split <;> simp_all
  rw [hadd]
  have hh : (w.alloc (.cells (i64s L).toArray 3 r)).heap[w.heap.size]? = some (.cells (i64s L).toArray 3 r) := heap_alloc_new w _
  unfold World.cell?
  rw [hh]
  simpa using hu
theorem own_nilI (w : World) (base : Nat) : w.ownsRow base 3 1 (.slice none 0 0) 0 (i64s []) := World.ownsRow_nil _ _ _ _
/-- append(own, x): one integer, whose own block was made just ahead -/
theorem wpList_append_int {w : World} {ops : Array Oper} {rest : List Oper} {o : Oper} {a : Act} {Q : Exit → Act → World → Prop} (hgd : o.guard = none) (s x : Operand)
    (ho : o.op = .call { callee := .builtin .append, args := #[s, x], argTypes := #[39, 39] })
    (base : Nat) (v : Value) (n : Nat) (L : List Int) (c : Int) (hs : a.eval s = v) (hown : w.ownsRow base 3 1 v n (i64s L))
    (b : Nat) (hb : b = w.heap.size) (hx : a.eval x = .slice (some ⟨b, 0, none⟩) 1 1)
    (hbytes : n + 1 ≤ 17592186044416) (hbase : base ≤ w.heap.size)
    (h : ∀ v' w', w'.ownsRow base 3 1 v' (n + 1) (i64s (L ++ [c])) → (w.alloc (.cells #[.int .i64 c] 3 (0, 0))).grownBy w' v.ownBlock → wpList Tryd.prog ops Q rest (a.put o.dst v') w') : wpList Tryd.prog ops Q (o :: rest) a (w.alloc (.cells #[.int .i64 c] 3 (0, 0))) := by
  subst hb
  obtain ⟨i0, hi, hz0, hz1, hz2⟩ := infoI_parts infoI
  exact wpList_append_own _ hgd s x _ ho base 3 i0 (.int .i64 0) 1 8 Tryd.underlying39 hi hz0 hz1 hz2 rfl (by decide) v n _ hs (hown.alloc _) ⟨w.heap.size, 0, none⟩ 1 1 [.int .i64 c] hx rfl (cell_one_new _ _ _) (by intro u hu; simp at hu; subst hu; rfl) (by unfold maxLen; omega) (by omega) (by simp; omega) fun v' w' h2 h3 _ => h v' w' (by rw [i64s_snoc]; exact h2) h3
/-- append(own, l...) -/
theorem wpList_append_ints {w : World} {ops : Array Oper} {rest : List Oper} {o : Oper} {a : Act} {Q : Exit → Act → World → Prop} (hgd : o.guard = none) (s x : Operand)
    (ho : o.op = .call { callee := .builtin .append, args := #[s, x], argTypes := #[39, 39] })
    (base : Nat) (v : Value) (n : Nat) (L : List Int) (hs : a.eval s = v) (hown : w.ownsRow base 3 1 v n (i64s L))
    (src : Value) (M : List Int) (hx : a.eval x = src) (hsrc : IsInts w src M)
    (hbytes : n + M.length ≤ 17592186044416) (hbase : base ≤ w.heap.size)
    (h : ∀ v' w', w'.ownsRow base 3 1 v' (n + M.length) (i64s (L ++ M)) → w.grownBy w' v.ownBlock → wpList Tryd.prog ops Q rest (a.put o.dst v') w') : wpList Tryd.prog ops Q (o :: rest) a w := by
  obtain ⟨i0, hi, hz0, hz1, hz2⟩ := infoI_parts infoI
  obtain ⟨rfl, rfl⟩ | ⟨ad, cap, rfl, h1, h2, hc⟩ := hsrc
  · refine wpList_append_own_none hgd s x _ ho base 3 i0 1 Tryd.underlying39 hi v n _ hs hown hx ?_
    exact h v w (by simpa [i64s] using hown) (grownBy_refl _ _)
  · refine wpList_append_own w hgd s x _ ho base 3 i0 (.int .i64 0) 1 8 Tryd.underlying39 hi hz0 hz1 hz2 rfl (by decide) v n _ hs hown ad M.length cap (i64s M) hx (by rw [i64s_length, Nat.mul_one]) hc (i64s_one M) (by unfold maxLen; omega) (by omega) hbase ?_
    exact fun v' w' h3 h4 _ => h v' w' (by rw [i64s_append]; exact h3) h4
/-- l[:n] as one closed step -/
def sliceI (x : Value) (lo hi mx : Option Value) : Sem Value := Instr.sliceAt 39 x lo hi mx
theorem sliceI_eq (x : Value) (lo hi mx : Option Value) : Instr.sliceAt 39 x lo hi mx = sliceI x lo hi mx := rfl
theorem elem_i64s : Tryd.prog.elem 39 = 3 := by kernel_rfl
theorem und_i64s : Tryd.prog.underlying 39 = some (.slice (Tryd.prog.elem 39)) := by rw [elem_i64s]; exact Tryd.underlying39
theorem run_size_i (w : World) : (sizeOf (Tryd.prog.elem 39)).run Tryd.prog w = .ok 1 w := by
  obtain ⟨i0, hi, hz0, hz1, hz2⟩ := infoI_parts infoI
  rw [elem_i64s]
  simp [sizeOf, typeInfo, hi, hz1]
theorem IsInts.take {w : World} {a : Option Addr} {len cap : Nat} {L : List Int} (h : IsInts w (.slice a len cap) L) (hl : L.length = len) (n : Nat) (hn : n ≤ len) : IsInts w (.slice a n cap) (L.take n) := by
  subst hl
  have hl : (L.take n).length = n := by rw [List.length_take]; omega
  obtain ⟨he, rfl⟩ | ⟨x, c, he, h1, h2, hc⟩ := h
  · simp at he hn
    obtain ⟨rfl, rfl⟩ := he
    subst hn
    exact .inl ⟨rfl, rfl⟩
  · simp at he
    obtain ⟨rfl, rfl⟩ := he
    refine .inr ⟨x, cap, by rw [hl], by omega, h2, fun i u hu => hc i u ?_⟩
    have hi := (List.getElem?_eq_some_iff.1 hu).1
    rw [i64s_length, hl] at hi
    simp only [i64s, List.map_take] at hu ⊢
    rwa [List.getElem?_take_of_lt hi] at hu
theorem addr_zero (a : Addr) : a.add 0 = a := by
  obtain ⟨b, o, s⟩ := a
  unfold Addr.add
  cases s <;> simp
theorem run_uptoI {w : World} {a : Option Addr} {len cap : Nat} {L : List Int} (hv : IsInts w (.slice a len cap) L) (hl : L.length = len) (n : Nat) (N : Int) (hN : N = n) (hn : n ≤ len) :
    ∃ a1 c1, (∀ W, (sliceI (.slice a len cap) none (some (.int .i64 N)) none).run Tryd.prog W = .ok (.slice a1 n c1) W) ∧ IsInts w (.slice a1 n c1) (L.take n) := by
  subst hN hl
  obtain ⟨a', cap', he, hcap, hmax⟩ := hv.slice
  simp at he
  obtain ⟨rfl, rfl⟩ := he
  refine ⟨if cap = 0 then a else a.map (·.add (0 * 1)), cap, ?_, ?_⟩
  rotate_left
  · have := hv.take rfl n hn
    split
    · exact this
    · cases a with
      | none => exact this
      | some x => simpa only [Nat.zero_mul, Option.map_some, addr_zero] using this
  · intro W
    unfold sliceI
    rw [run_sliceAt_slice _ _ _ _ _ _ und_i64s, run_slice_h _ _ _ _ _ und_i64s _ _ (by omega) (by omega), run_size_i, Int.toNat_natCast]
    simp only [Result.andThen, sliced, Nat.sub_zero]
/-- what a function answers that makes integers -/
def MadeL (L : List Int) (w : World) (e : Ending) (w' : World) : Prop :=
  ∃ sp n cap, e = .returned (.slice sp n cap) ∧ L.length = n ∧ w'.ownsRow w.heap.size 3 1 (.slice sp n cap) n (i64s L) ∧ Below w.heap.size w w'
end Go.Proofs.YtaffmfocjaihlaaDoor
