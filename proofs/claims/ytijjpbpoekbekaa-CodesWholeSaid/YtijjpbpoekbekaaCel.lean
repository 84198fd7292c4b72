/- Rows in memory, of integers among others, behind the bits' texts: what came in, what the call owns, appends: lemmas without a walk. -/
import Derived.Test.YtijjpbpoekbekaaConv
import Derived.Lib.SliceRun
import Derived.Laws.OwnMore
import Derived.Deep.RegionWith
set_option linter.unusedSimpArgs false
set_option linter.unusedVariables false
namespace Go.Proofs.Ytijjpbpoekbekaa
open Go.RowKit Pl

theorem beq_t {a b : Int} (h : a = b) : (a == b) = true := by subst h; simp
theorem beq_f {a b : Int} (h : a ≠ b) : (a == b) = false := by simpa using h
theorem bne_t {a b : Int} (h : a ≠ b) : (a != b) = true := by simpa using h
theorem bne_f {a b : Int} (h : a = b) : (a != b) = false := by subst h; simp
theorem grownBy_trans {w w' w'' : World} {r : Option Nat} (h : w.grownBy w' r) (k : w'.grownBy w'' r) : w.grownBy w'' r :=
  ⟨k.os.trans h.os, k.tape.trans h.tape, k.output.trans h.output, Nat.le_trans h.size k.size,
    fun i hi hn => (k.block i (Nat.lt_of_lt_of_le hi h.size) hn).trans (h.block i hi hn)⟩
theorem grownBy_refl (w : World) (r : Option Nat) : w.grownBy w r := ⟨rfl, rfl, rfl, Nat.le_refl _, fun _ _ _ => rfl⟩
theorem blk_ty {w : World} {b : Nat} {t t2 : TypeId} {c c2 : List Value} (h : Blk w b t c) (h2 : Blk w b t2 c2) : t = t2 := by
  apply Classical.byContradiction
  intro hne
  exact h.ne h2 hne rfl
theorem own_gr {w w' : World} {base n r size : Nat} {e t : TypeId} {v : Value} {xs cs : List Value} (h : w.ownsRow base e size v n xs) (hg : Gr w w' r) (hb : Blk w r t cs) (h1 : t ≠ e) : w'.ownsRow base e size v n xs :=
  ownsRow_row h hg fun k t' cs' e' hk _ => by
    simp at e'
    subst e'
    have := blk_ty hb hk
    subst this
    exact h1
theorem own_below {w w' : World} {base n size : Nat} {e : TypeId} {v : Value} {xs : List Value} (h : w.ownsRow base e size v n xs) (hb : Below w.heap.size w w') : w'.ownsRow base e size v n xs :=
  ownsRow_row h (r := none) ⟨hb.os, hb.tape, hb.output, hb.size, fun k hk _ => hb.block k hk⟩ (by simp)
theorem own_ne {w w' : World} {base e n r size : Nat} {v : Value} {xs : List Value} (h : w.ownsRow base e size v n xs) (hg : Gr w w' r) (hne : ∀ g, v.ownBlock = some g → g < r) : w'.ownsRow base e size v n xs := by
  refine h.kept hg ?_
  cases hv : v.ownBlock with
  | none => exact .inl rfl
  | some g => right; have := hne g hv; simp; omega
theorem own_lt {w : World} {base n size : Nat} {e : TypeId} {v : Value} {xs : List Value} (h : w.ownsRow base e size v n xs) : ∀ k, v.ownBlock = some k → base ≤ k := fun k hk => (h.lt k hk).1
/-- the world behind an append to an own row -/
theorem bel_append {w w1 w2 : World} {base n size : Nat} {e : TypeId} {v : Value} {xs : List Value} (hb : Below base w w1) (o : Obj) (h : w1.ownsRow base e size v n xs) (hg : (w1.alloc o).grownBy w2 v.ownBlock) (hbase : base ≤ w1.heap.size) : Below base w w2 :=
  (hb.alloc hbase o).grown hg (by simp; omega) (own_lt h)
theorem own_open {w : World} {base n size : Nat} {e : TypeId} {v : Value} {xs : List Value} (h : w.ownsRow base e size v n xs) (h0 : 0 < n) : ∃ g cap, v = .slice (some ⟨g, 0, none⟩) n cap ∧ base ≤ g ∧ g < w.heap.size ∧ n ≤ cap ∧ cap ≤ maxLen := by
  obtain ⟨hl, ⟨rfl, rfl⟩ | ⟨g, cap, cur, rfl, hb, hh, hn, hm, _⟩⟩ := h
  · omega
  · exact ⟨g, cap, rfl, hb, (Array.getElem?_eq_some_iff.1 hh).1, hn, hm⟩
theorem own_base {w : World} {base base' n size : Nat} {e : TypeId} {v : Value} {xs : List Value} (h : w.ownsRow base e size v n xs) (hb : base' ≤ base) : w.ownsRow base' e size v n xs := by
  obtain ⟨hl, h | ⟨g, cap, cur, hv, hg, hrest⟩⟩ := h
  · exact ⟨hl, .inl h⟩
  · exact ⟨hl, .inr ⟨g, cap, cur, hv, by omega, hrest⟩⟩

/-- the cells vs, n elements, as the slice v tells them -/
def IsCells (w : World) (v : Value) (n : Nat) (vs : List Value) : Prop :=
  (v = .slice none 0 0 ∧ n = 0 ∧ vs = []) ∨ ∃ a cap, v = .slice (some a) n cap ∧ n ≤ cap ∧ cap ≤ maxLen ∧ ∀ i u, vs[i]? = some u → w.cell? (a.add i) = some u
theorem isCells_nil (w : World) : IsCells w (.slice none 0 0) 0 [] := .inl ⟨rfl, rfl, rfl⟩
theorem IsCells.below {w w' : World} {v : Value} {n : Nat} {vs : List Value} (h : IsCells w v n vs) (hb : Below w.heap.size w w') : IsCells w' v n vs := by
  obtain h | ⟨a, cap, rfl, h1, h2, hc⟩ := h
  · exact .inl h
  · refine .inr ⟨a, cap, rfl, h1, h2, fun i u hu => ?_⟩
    have := hc i u hu
    rw [hb.cell (p := a.add i) (World.block_lt_of_cell? w _ this)]
    exact this
theorem add_block (a : Addr) (i : Nat) : (a.add i).block = a.block := by unfold Addr.add; split <;> rfl
theorem IsCells.row {w w' : World} {v : Value} {n : Nat} {vs : List Value} (h : IsCells w v n vs) {r : Option Nat} (hg : w.grownBy w' r) (hr : ∀ a m c, v = .slice (some a) m c → 0 < vs.length → some a.block ≠ r) : IsCells w' v n vs := by
  obtain h | ⟨a, cap, rfl, h1, h2, hc⟩ := h
  · exact .inl h
  · refine .inr ⟨a, cap, rfl, h1, h2, fun i u hu => ?_⟩
    have := hc i u hu
    have hl : i < vs.length := (List.getElem?_eq_some_iff.1 hu).1
    exact hg.cell this (by rw [add_block]; exact hr a _ _ rfl (by omega))
theorem IsCells.slice {w : World} {v : Value} {n : Nat} {vs : List Value} (h : IsCells w v n vs) : ∃ a cap, v = .slice a n cap ∧ n ≤ cap ∧ cap ≤ maxLen := by
  obtain ⟨rfl, rfl, rfl⟩ | ⟨a, cap, rfl, h1, h2, _⟩ := h
  · exact ⟨none, 0, rfl, Nat.le_refl _, by unfold maxLen; omega⟩
  · exact ⟨some a, cap, rfl, h1, h2⟩
theorem add_none (b off i : Nat) : (⟨b, off, none⟩ : Addr).add i = ⟨b, off + i, none⟩ := by unfold Addr.add; split <;> simp_all
theorem IsCells.cells {w : World} {v : Value} {n : Nat} {vs : List Value} (h : IsCells w v n vs) (h0 : 0 < vs.length) : ∃ b off cap, v = .slice (some ⟨b, off, none⟩) n cap ∧ n ≤ cap ∧ cap ≤ maxLen ∧ b < w.heap.size ∧ (∀ i u, vs[i]? = some u → w.cell? ⟨b, off + i, none⟩ = some u) := by
  obtain ⟨rfl, rfl, rfl⟩ | ⟨a, cap, rfl, h1, h2, hc⟩ := h
  · simp at h0
  · obtain ⟨b, off, spot⟩ := a
    have hc0 := hc 0 vs[0] (by simp [h0])
    have hspot : spot = none := by simpa [Addr.add] using World.cell?_spot hc0
    subst hspot
    refine ⟨b, off, cap, rfl, h1, h2, World.block_lt_of_cell? w _ hc0, fun i u hu => ?_⟩
    have := hc i u hu
    rwa [add_none] at this
theorem isCells_own {w : World} {base n size : Nat} {e : TypeId} {v : Value} {xs : List Value} (h : w.ownsRow base e size v n xs) : IsCells w v n xs := by
  have h' := h
  obtain ⟨hl, ⟨he, h0⟩ | ⟨g, cap', cur, hv, _, hh, hn, hm, hs, ht⟩⟩ := h
  · subst h0
    exact .inl ⟨he, rfl, List.eq_nil_of_length_eq_zero (by omega)⟩
  · subst hv
    refine .inr ⟨⟨g, 0, none⟩, cap', rfl, hn, hm, fun i u hu => ?_⟩
    exact h'.cells (g := g) rfl i u hu
theorem isCells_blk {w : World} {b : Nat} {t : TypeId} {vs : List Value} {n : Nat} (h : Blk w b t vs) (hl : n ≤ maxLen) : IsCells w (.slice (some ⟨b, 0, none⟩) n n) n vs :=
  .inr ⟨⟨b, 0, none⟩, n, rfl, Nat.le_refl _, hl, fun i u hu => by rw [add_none, Nat.zero_add]; exact h.cell hu⟩
theorem IsCells.take {w : World} {a : Option Addr} {n cap : Nat} {vs : List Value} (h : IsCells w (.slice a n cap) n vs) (m j : Nat) (hm : m ≤ n) : IsCells w (.slice a m cap) m (vs.take j) := by
  obtain ⟨he, h0, rfl⟩ | ⟨x, c, he, h1, h2, hc⟩ := h
  · simp at he
    obtain ⟨rfl, rfl, rfl⟩ := he
    have : m = 0 := by omega
    subst this
    exact .inl ⟨rfl, rfl, by simp⟩
  · simp at he
    obtain ⟨rfl, rfl⟩ := he
    refine .inr ⟨x, cap, rfl, by omega, h2, fun i u hu => hc i u ?_⟩
    have hi := (List.getElem?_eq_some_iff.1 hu).1
    rw [List.length_take] at hi
    rwa [List.getElem?_take_of_lt (by omega)] at hu
theorem IsCells.drop {w : World} {a : Option Addr} {n cap : Nat} {vs : List Value} (h : IsCells w (.slice a n cap) n vs) (m j : Nat) (hm : m ≤ n) : IsCells w (.slice (a.map fun x => x.add j) (n - m) (cap - m)) (n - m) (vs.drop j) := by
  obtain ⟨he, h0, rfl⟩ | ⟨x, c, he, h1, h2, hc⟩ := h
  · simp at he
    obtain ⟨rfl, rfl, rfl⟩ := he
    exact .inl ⟨by simp, by omega, by simp⟩
  · simp at he
    obtain ⟨rfl, rfl⟩ := he
    refine .inr ⟨x.add j, cap - m, rfl, by omega, by omega, fun i u hu => ?_⟩
    rw [List.getElem?_drop] at hu
    have hcell := hc (j + i) u hu
    rw [Addr.add_add]; exact hcell
/-- a slice whose cells are all gone -/
theorem isCells_zero (w : World) (a : Option Addr) (cap : Nat) (h : a = none → cap = 0) (hc : cap ≤ maxLen) : IsCells w (.slice a 0 cap) 0 [] := by
  cases a with
  | none => rw [h rfl]; exact isCells_nil w
  | some x => exact .inr ⟨x, cap, rfl, Nat.zero_le _, hc, by simp⟩
theorem addr_zero (a : Addr) : a.add 0 = a := by
  obtain ⟨b, o, s⟩ := a
  unfold Addr.add
  cases s <;> simp

/-! integers -/
def i64s (L : List Int) : List Value := L.map fun x => .int .i64 x
theorem i64s_length (L : List Int) : (i64s L).length = L.length := by simp [i64s]
theorem i64s_get (L : List Int) (i : Nat) (h : i < L.length) : (i64s L)[i]? = some (.int .i64 (L.getD i 0)) := by simp [i64s, h, List.getD]
theorem i64s_append (A B : List Int) : i64s (A ++ B) = i64s A ++ i64s B := by simp [i64s]
theorem i64s_snoc (A : List Int) (c : Int) : i64s (A ++ [c]) = i64s A ++ [.int .i64 c] := by simp [i64s]
theorem i64s_set (B : List Int) (i : Nat) (c : Int) : (i64s B).set i (.int .i64 c) = i64s (B.set i c) := by simp [i64s, List.map_set]
theorem i64s_one (L : List Int) : ∀ v ∈ i64s L, v.oneCell' = true := by
  intro v hv; simp only [i64s, List.mem_map] at hv; obtain ⟨x, _, rfl⟩ := hv; rfl
def IsInts (w : World) (v : Value) (L : List Int) : Prop := IsCells w v L.length (i64s L)
theorem IsInts.below {w w' : World} {v : Value} {L : List Int} (h : IsInts w v L) (hb : Below w.heap.size w w') : IsInts w' v L := IsCells.below h hb
theorem IsInts.slice {w : World} {v : Value} {L : List Int} (h : IsInts w v L) : ∃ a cap, v = .slice a L.length cap ∧ L.length ≤ cap ∧ cap ≤ maxLen := IsCells.slice h
theorem IsInts.cells {w : World} {v : Value} {L : List Int} (h : IsInts w v L) (h0 : 0 < L.length) : ∃ b off cap, v = .slice (some ⟨b, off, none⟩) L.length cap ∧ L.length ≤ cap ∧ cap ≤ maxLen ∧ b < w.heap.size ∧ (∀ i, i < L.length → w.cell? ⟨b, off + i, none⟩ = some (.int .i64 (L.getD i 0))) := by
  obtain ⟨b, off, cap, h1, h2, h3, h4, h5⟩ := IsCells.cells h (by rw [i64s_length]; exact h0)
  exact ⟨b, off, cap, h1, h2, h3, h4, fun i hi => h5 i _ (i64s_get L i hi)⟩
theorem isInts_row {w : World} {a : Option Addr} {len cap : Nat} {zs : List Int} (h : IsRow .i64 w a len cap zs) : IsInts w (.slice a len cap) (zs.take len) ∧ (zs.take len).length = len := by
  rcases h with ⟨rfl, rfl, rfl, rfl⟩ | ⟨x, rfl, h1, h2, h3, hc, hw⟩
  · exact ⟨.inl ⟨rfl, rfl, rfl⟩, rfl⟩
  · have hl : (zs.take len).length = len := by simp; omega
    refine ⟨.inr ⟨x, cap, by rw [hl], by omega, h2, ?_⟩, hl⟩
    intro i u hu
    have hi : i < len := by
      have := (List.getElem?_eq_some_iff.1 hu).1
      rw [i64s_length, hl] at this; exact this
    rw [hc i (by omega)]
    rw [i64s_get _ _ (by rw [hl]; exact hi)] at hu
    rw [← hu]
    simp only [List.getD_eq_getElem?_getD, List.getElem?_take_of_lt hi]
theorem i64_wf {x : Int} (h : (Lit.int .i64 x).wf = true) : -9223372036854775808 ≤ x ∧ x < 9223372036854775808 := by
  simp [Lit.wf, IntKind.min, IntKind.max, IntKind.signed, IntKind.bits] at h
  omega
theorem row_wf {w : World} {a : Option Addr} {len cap : Nat} {zs : List Int} (h : IsRow .i64 w a len cap zs) : ∀ x ∈ zs.take len, -9223372036854775808 ≤ x ∧ x < 9223372036854775808 := by
  rcases h with ⟨rfl, rfl, rfl, rfl⟩ | ⟨x, rfl, h1, h2, h3, hc, hw⟩
  · simp
  · intro y hy; exact i64_wf (hw y (List.mem_of_mem_take hy))
theorem isInts_own {w : World} {base : Nat} {e : TypeId} {v : Value} {n : Nat} {L : List Int} (hn : n = L.length) (h : w.ownsRow base e 1 v n (i64s L)) : IsInts w v L := by
  subst hn; exact isCells_own h
theorem isInts_blk {w : World} {b : Nat} {t : TypeId} {L : List Int} {n : Nat} (h : Blk w b t (i64s L)) (hn : n = L.length) (hl : n ≤ maxLen) : IsInts w (.slice (some ⟨b, 0, none⟩) n n) L := by
  subst hn; exact isCells_blk h hl
theorem own_nilI (w : World) (base : Nat) (e : TypeId) : w.ownsRow base e 1 (.slice none 0 0) 0 (i64s []) := World.ownsRow_nil _ _ _ _
theorem infoI : (Try.prog.info? 3).map (fun i => (i.zero, i.size, i.bytes)) = some (some (.int .i64 0), 1, 8) := by kernel_rfl
theorem infoI_parts {o : Option TypeInfo} (h : o.map (fun i => (i.zero, i.size, i.bytes)) = some (some (Value.int .i64 0), 1, 8)) : ∃ i, o = some i ∧ i.zero = some (.int .i64 0) ∧ i.size = 1 ∧ i.bytes = 8 := by
  cases o with
  | none => cases h
  | some i => simp at h; exact ⟨i, rfl, h.1, h.2.1, h.2.2⟩
/-- append(own, x): one int, whose own block was made just ahead -/
theorem wpList_append_j {w : World} {ops : Array Oper} {rest : List Oper} {o : Oper} {a : Act} {Q : Exit → Act → World → Prop} (hgd : o.guard = none) (s x : Operand)
    (ho : o.op = .call { callee := .builtin .append, args := #[s, x], argTypes := #[22, 22] })
    (base : Nat) (v : Value) (n : Nat) (L : List Int) (c : Int) (hs : a.eval s = v) (hown : w.ownsRow base 3 1 v n (i64s L))
    (b : Nat) (hb : b = w.heap.size) (hx : a.eval x = .slice (some ⟨b, 0, none⟩) 1 1)
    (hbytes : n + 1 ≤ 17592186044416) (hbase : base ≤ w.heap.size)
    (h : ∀ v' w', w'.ownsRow base 3 1 v' (n + 1) (i64s (L ++ [c])) → (w.alloc (.cells #[.int .i64 c] 3 (0, 0))).grownBy w' v.ownBlock → wpList Try.prog ops Q rest (a.put o.dst v') w') : wpList Try.prog ops Q (o :: rest) a (w.alloc (.cells #[.int .i64 c] 3 (0, 0))) := by
  subst hb
  obtain ⟨i0, hi, hz0, hz1, hz2⟩ := infoI_parts infoI
  exact wpList_append_own _ hgd s x _ ho base 3 i0 (.int .i64 0) 1 8 Try.underlying22 hi hz0 hz1 hz2 rfl (by decide) v n _ hs (hown.alloc _) ⟨w.heap.size, 0, none⟩ 1 1 [.int .i64 c] hx rfl (cell_one_new _ _ _) (by intro u hu; simp at hu; subst hu; rfl) (by unfold maxLen; omega) (by omega) (by simp; omega) fun v' w' h2 h3 _ => h v' w' (by rw [i64s_snoc]; exact h2) h3
/-- append(own, l...) of []int -/
theorem wpList_append_js {w : World} {ops : Array Oper} {rest : List Oper} {o : Oper} {a : Act} {Q : Exit → Act → World → Prop} (hgd : o.guard = none) (s x : Operand)
    (ho : o.op = .call { callee := .builtin .append, args := #[s, x], argTypes := #[22, 22] })
    (base : Nat) (v : Value) (n : Nat) (L : List Int) (hs : a.eval s = v) (hown : w.ownsRow base 3 1 v n (i64s L))
    (src : Value) (M : List Int) (hx : a.eval x = src) (hsrc : IsInts w src M)
    (hbytes : n + M.length ≤ 17592186044416) (hbase : base ≤ w.heap.size)
    (h : ∀ v' w', w'.ownsRow base 3 1 v' (n + M.length) (i64s (L ++ M)) → w.grownBy w' v.ownBlock → wpList Try.prog ops Q rest (a.put o.dst v') w') : wpList Try.prog ops Q (o :: rest) a w := by
  obtain ⟨i0, hi, hz0, hz1, hz2⟩ := infoI_parts infoI
  obtain ⟨rfl, h0, hm⟩ | ⟨ad, cap, rfl, h1, h2, hc⟩ := hsrc
  · have hM : M = [] := List.eq_nil_of_length_eq_zero h0
    subst hM
    refine wpList_append_own_none hgd s x _ ho base 3 i0 1 Try.underlying22 hi v n _ hs hown hx ?_
    exact h v w (by simpa [i64s] using hown) (grownBy_refl _ _)
  · refine wpList_append_own w hgd s x _ ho base 3 i0 (.int .i64 0) 1 8 Try.underlying22 hi hz0 hz1 hz2 rfl (by decide) v n _ hs hown ad M.length cap (i64s M) hx (by rw [i64s_length, Nat.mul_one]) hc (i64s_one M) (by unfold maxLen; omega) (by omega) hbase ?_
    exact fun v' w' h3 h4 _ => h v' w' (by rw [i64s_append]; exact h3) h4

end Go.Proofs.Ytijjpbpoekbekaa
