/- disk: two file systems in hand, apart; an operation in memory, loaded and stored whole. -/
import Derived.Test.YtdjcblboibbefaaDkY
import Derived.Test.YtdjcblboibbefaaRec
set_option linter.unusedSimpArgs false
set_option linter.unusedVariables false
set_option maxRecDepth 100000
namespace Go.Proofs.Ytdjcblboibbefaa.S13
open Go.RowKit Go.Maps Go.Shelf Dk
/-- in p and q are two file systems that the call has made, apart from each other and from the blocks Z -/
def TwoZ (w0 : World) (p q : Nat) (A B : St) (Z : Nat → Prop) (w : World) : Prop :=
  ∃ la lb, la.p = p ∧ lb.p = q ∧ IsFS w la A ∧ IsFS w lb B ∧ (∀ b, la.at A.F.length b → w0.heap.size ≤ b ∧ ¬ lb.at B.F.length b) ∧ (∀ b, lb.at B.F.length b → w0.heap.size ≤ b) ∧
    Below w0.heap.size w0 w ∧ ∀ b, Z b → b < w.heap.size ∧ ¬ la.at A.F.length b ∧ ¬ lb.at B.F.length b
section
variable {w0 w w' : World} {p q : Nat} {A B : St} {Z : Nat → Prop}
theorem TwoZ.bel (h : TwoZ w0 p q A B Z w) : Below w0.heap.size w0 w := by obtain ⟨_, _, _, _, _, _, _, _, h, _⟩ := h; exact h
theorem TwoZ.swap (h : TwoZ w0 p q A B Z w) : TwoZ w0 q p B A Z w := by
  obtain ⟨la, lb, hp, hq, hA, hB, h1, h2, hw, hz⟩ := h
  exact ⟨lb, la, hq, hp, hB, hA, fun b hb => ⟨h2 b hb, fun h' => (h1 b h').2 hb⟩, fun b hb => (h1 b hb).1, hw, fun b hb => ⟨(hz b hb).1, (hz b hb).2.2, (hz b hb).2.1⟩⟩
theorem TwoZ.toA (h : TwoZ w0 p q A B Z w) : InH w0 p A w := by
  obtain ⟨la, lb, hp, hq, hA, hB, h1, h2, hw, hz⟩ := h
  exact ⟨la, hp, hA, fun b hb => (h1 b hb).1, hw⟩
theorem TwoZ.toB (h : TwoZ w0 p q A B Z w) : InH w0 q B w := h.swap.toA
theorem TwoZ.below (h : TwoZ w0 p q A B Z w) (hb : Below w.heap.size w w') : TwoZ w0 p q A B Z w' := by
  obtain ⟨la, lb, hp, hq, hA, hB, h1, h2, hw, hz⟩ := h
  exact ⟨la, lb, hp, hq, hA.below hb, hB.below hb, h1, h2, hw.trans (hb.mono hw.size), fun b h => ⟨Nat.lt_of_lt_of_le (hz b h).1 hb.size, (hz b h).2⟩⟩
theorem TwoZ.drop (h : TwoZ w0 p q A B Z w) : TwoZ w0 p q A B (fun _ => False) w := by
  obtain ⟨la, lb, hp, hq, hA, hB, h1, h2, hw, hz⟩ := h
  exact ⟨la, lb, hp, hq, hA, hB, h1, h2, hw, fun b h => h.elim⟩
/-- new blocks lie apart -/
theorem TwoZ.more (h : TwoZ w0 p q A B (fun _ => False) w) (hb : Below w.heap.size w w') (hZ : ∀ b, Z b → w.heap.size ≤ b ∧ b < w'.heap.size) : TwoZ w0 p q A B Z w' := by
  obtain ⟨la, lb, hp, hq, hA, hB, h1, h2, hw, hz⟩ := h
  exact ⟨la, lb, hp, hq, hA.below hb, hB.below hb, h1, h2, hw.trans (hb.mono hw.size), fun b h => ⟨(hZ b h).2, fun h' => by have := hA.lt b h'; have := (hZ b h).1; omega, fun h' => by have := hB.lt b h'; have := (hZ b h).1; omega⟩⟩
/-- only a block of Z has turned -/
theorem TwoZ.turn (h : TwoZ w0 p q A B Z w) {k : Nat} (hk : Z k) (hk0 : w0.heap.size ≤ k) (hg : w.grownBy w' (some k)) : TwoZ w0 p q A B Z w' := by
  obtain ⟨la, lb, hp, hq, hA, hB, h1, h2, hw, hz⟩ := h
  have hs := hg.size
  exact ⟨la, lb, hp, hq, hA.keep fun b hb => hg.block b (hA.lt b hb) (fun e => (hz k hk).2.1 (by cases e; exact hb)), hB.keep fun b hb => hg.block b (hB.lt b hb) (fun e => (hz k hk).2.2 (by cases e; exact hb)), h1, h2,
    hw.grown hg hw.size (fun j hj => by cases hj; exact hk0), fun b h => ⟨Nat.lt_of_lt_of_le (hz b h).1 hs, (hz b h).2⟩⟩
theorem twoZ_new (h : InH w0 p A w) (h' : InH w q B w') : TwoZ w0 p q A B (fun _ => False) w' := by
  obtain ⟨la, hp, hA, ha, hw⟩ := h
  obtain ⟨lb, hq, hB, hb, hw'⟩ := h'
  exact ⟨la, lb, hp, hq, hA.below hw', hB, fun b h => ⟨ha b h, fun h' => by have := hA.lt b h; have := hb b h'; omega⟩, fun b h => by have := hb b h; have := hw.size; omega, hw.trans (hw'.mono hw.size), fun b h => h.elim⟩
def TwoPost (w0 : World) (p q : Nat) (r : St × Nat) (B : St) (Z : Nat → Prop) (w : World) (e : Ending) (w' : World) : Prop :=
  e = .returned (errV r.2) ∧ TwoZ w0 p q r.1 B Z w' ∧ ∀ b, Z b → w'.heap[b]? = w.heap[b]?
theorem OpOk.below {o : OpT} {bv : Value} (h : OpOk w o bv) (hb : Below w.heap.size w w') : OpOk w' o bv := ⟨h.kind, h.n, h.name, h.to', h.B.below hb, h.x⟩
theorem OpOk.bel {o : OpT} {bv : Value} (h : OpOk w0 o bv) (hb : Below w0.heap.size w0 w) : OpOk w o bv := h.below hb
theorem do_z {o : OpT} {a t : Option Addr} {N cap tl tc : Nat} (h : TwoZ w0 p q A B Z w) (hc : A.calls ≤ 1099511627776) (ho : OpOk w o (.slice a N cap)) (hB : o.B.length ≤ 1000000) :
    Calls Try.prog 25 #[pP p, .agg (opL o (.slice a N cap) (.slice t tl tc)).toArray] w (TwoPost w0 p q (doF A o) B Z w) := by
  obtain ⟨la, lb, rfl, rfl, hA, hBB, h1, h2, hw, hz⟩ := h
  refine (do_any la A o a t N cap tl tc w hA hc ho hB).mono ?_
  rintro e w' ⟨he, l', hp', hI, hS⟩
  have hS := hS.out
  refine ⟨he, ⟨l', lb, hp', rfl, hI.out, hBB.other hS fun b hb h' => (h1 b h').2 hb, ?_, h2, hw.trans (hS.below hw.size fun b hb => (h1 b hb).1), fun b hb => ⟨Nat.lt_of_lt_of_le (hz b hb).1 hS.size, fun h' => (hS.more b h').elim (hz b hb).2.1 (fun h3 => by have := (hz b hb).1; omega), (hz b hb).2.2⟩⟩, fun b hb => hS.block b (hz b hb).1 (hz b hb).2.1⟩
  intro b hb
  rcases hS.more b hb with h' | h'
  · exact h1 b h'
  · exact ⟨by have := hw.size; omega, fun h3 => by have := hBB.lt b h3; omega⟩
theorem do_z2 {o : OpT} {a t : Option Addr} {N cap tl tc : Nat} (h : TwoZ w0 p q A B Z w) (hc : B.calls ≤ 1099511627776) (ho : OpOk w o (.slice a N cap)) (hB : o.B.length ≤ 1000000) :
    Calls Try.prog 25 #[pP q, .agg (opL o (.slice a N cap) (.slice t tl tc)).toArray] w (fun e w' => e = .returned (errV (doF B o).2) ∧ TwoZ w0 p q A (doF B o).1 Z w' ∧ ∀ b, Z b → w'.heap[b]? = w.heap[b]?) := by
  refine (do_z (t := t) (tl := tl) (tc := tc) h.swap hc ho hB).mono ?_
  rintro e w' ⟨he, hI, hk⟩
  exact ⟨he, hI.swap, hk⟩
end
theorem withB_calls (S : St) (f : St → St × Nat) (hf : ∀ T : St, (f T).1.calls = T.calls) : (withB S f).1.calls ≤ S.calls + 1 := by
  unfold withB
  split
  · rw [beg_calls]; exact Nat.le_refl _
  · rw [hf, beg_calls]; exact Nat.le_refl _
theorem withF_calls (S : St) (n : Nm) (f : St → Nat → St × Nat) (hf : ∀ (T : St) i, (f T i).1.calls = T.calls) : (withF S n f).1.calls ≤ S.calls + 1 := by
  unfold withF
  refine withB_calls S _ fun T => ?_
  split
  · rfl
  · exact hf T _
theorem doF_calls (S : St) (o : OpT) : (doF S o).1.calls ≤ S.calls + 1 := by
  unfold doF
  split
  · unfold create
    refine withB_calls S _ fun T => ?_
    split
    · rfl
    · split <;> rfl
  split
  · unfold append
    refine withF_calls S _ _ fun T i => ?_
    split <;> rfl
  split
  · unfold sync
    exact withF_calls S _ _ fun T i => rfl
  split
  · unfold syncDir
    exact withB_calls S _ fun T => rfl
  split
  · unfold rename
    refine withF_calls S _ _ fun T i => ?_
    split <;> rfl
  split
  · unfold remove
    exact withF_calls S _ _ fun T i => rfl
  · unfold rot
    split
    · exact Nat.le_succ _
    · split
      · exact Nat.le_succ _
      · exact Nat.le_succ _
/-! an operation loaded and stored whole -/
def loadO (v : Value) : Sem Value := Instr.loadAt 42 v
theorem loadO_eq (v : Value) : Instr.loadAt 42 v = loadO v := rfl
theorem run_loadO {w : World} {g o : Nat} {cs : List Value} (hl : cs.length = 7) (h : ∀ j u, cs[j]? = some u → w.cell? ⟨g, o + j, none⟩ = some u) :
    (loadO (.pointer (some ⟨g, o, none⟩))).run Try.prog w = .ok (.agg cs.toArray) w := by
  simp only [loadO, Instr.loadAt, Instr.sureAddr, loadVar, loadCells, Sem.run_bind, Sem.run_pure, Result.andThen_ok, Try.isAgg42, Try.sizeOf42, if_true]
  have := run_loadCellsFrom_list Try.prog w ⟨g, o, none⟩ cs 7 hl (fun j v hj => by
    rw [addr_at]
    exact h j v hj)
  rw [this]
  rfl
def storeO (p v : Value) : Sem Unit := Instr.storeAt 42 p v
theorem storeO_eq (p v : Value) : Instr.storeAt 42 p v = storeO p v := rfl
theorem run_storeO {w : World} {g : Nat} {t : TypeId} {cs ds : List Value} (h : Blk w g t cs) (ho : cs.length = 7) (hd : ds.length = 7) (h1 : ∀ u ∈ ds, u.oneCell' = true) :
    (storeO (.pointer (some ⟨g, 0, none⟩)) (.agg ds.toArray)).run Try.prog w = .ok () (w.setRow g ds.toArray) := by
  simp only [storeO, Instr.storeAt, Instr.sureAddr, storeVar, Sem.run_bind, Sem.run_pure, Result.andThen_ok, Try.sizeOf42]
  rw [if_neg (by simp [Value.cells, hd])]
  have := run_storeCells_at (P := Try.prog) g 0 t ds 0 cs.toArray w h (by simp [ho, hd]) h1
  have e : cs.drop 7 = [] := List.drop_of_length_le (by omega)
  simpa [Value.cells, e, hd] using this
/-- an operation as nothing has been stored in it -/
def opZ : List Value := [.int .i64 0, .int .i64 0, .string ⟨#[]⟩, .string ⟨#[]⟩, .slice none 0 0, .slice none 0 0, .int .u8 0]
theorem infoO : (Try.prog.info? 42).map (fun i => (i.zero, i.size)) = some (some (.agg opZ.toArray), 7) := by kernel_rfl
theorem opL_length (o : OpT) (bv tv : Value) : (opL o bv tv).length = 7 := rfl
theorem opL_one (o : OpT) (a t : Option Addr) (N cap tl tc : Nat) : ∀ u ∈ opL o (.slice a N cap) (.slice t tl tc), u.oneCell' = true := by
  intro u hu
  simp [opL] at hu
  rcases hu with rfl | rfl | rfl | rfl | rfl | rfl | rfl <;> rfl
/-! an operation that came in -/
def opF : List FK := [.int .i64, .int .i64, .str, .str, .ints .u8, .ints .i64, .int .u8]
theorem opsTy : Try.prog.cellsOf 42 = opF.length := by kernel_rfl
theorem rec_op {w : World} {a : Option Addr} {len : Nat} (h : IsRecs opF w a len) (hl : 0 < len) : ∃ b off, a = some ⟨b, off, none⟩ ∧ b < w.heap.size ∧ ∀ i, i < len →
    ∃ (o : OpT) (ba ta : Option Addr) (N cap tl tc : Nat) (zs : List Int), OpOk w o (.slice ba N cap) ∧ o.B.length = N ∧ IsRow .i64 w ta tl tc zs ∧ ∀ j u, (opL o (.slice ba N cap) (.slice ta tl tc))[j]? = some u → w.cell? ⟨b, off + i * 7 + j, none⟩ = some u := by
  obtain ⟨b, off, ha, hb, hc⟩ := h.cells hl (by decide)
  refine ⟨b, off, ha, hb, fun i hi => ?_⟩
  obtain ⟨v0, c0, z0, rfl, k0⟩ := hc i hi 0 _ rfl
  obtain ⟨v1, c1, z1, rfl, k1⟩ := hc i hi 1 _ rfl
  obtain ⟨v2, c2, s2, rfl, k2⟩ := hc i hi 2 _ rfl
  obtain ⟨v3, c3, s3, rfl, k3⟩ := hc i hi 3 _ rfl
  obtain ⟨v4, c4, a4, l4, p4, z4, rfl, k4⟩ := hc i hi 4 _ rfl
  obtain ⟨v5, c5, a5, l5, p5, z5, rfl, k5⟩ := hc i hi 5 _ rfl
  obtain ⟨v6, c6, z6, rfl, k6⟩ := hc i hi 6 _ rfl
  have hx8 := u8_wf k6
  obtain ⟨x, rfl⟩ : ∃ m : Nat, z6 = (m : Int) := ⟨z6.toNat, by omega⟩
  obtain ⟨hby, hbl⟩ := isBytes_row k4
  refine ⟨⟨z0, z1, s2, s3, bytesZ z4 l4, x⟩, a4, a5, l4, p4, l5, p5, z5, ⟨k0, k1, k2, k3, hby, by show x < 256; omega⟩, hbl, k5, fun j u hj => ?_⟩
  have e7 : opF.length = 7 := rfl
  rw [e7] at c0 c1 c2 c3 c4 c5 c6
  rw [Nat.add_assoc]
  match j, hj with
  | 0, hj => simp [opL] at hj; subst hj; exact c0
  | 1, hj => simp [opL] at hj; subst hj; exact c1
  | 2, hj => simp [opL] at hj; subst hj; exact c2
  | 3, hj => simp [opL] at hj; subst hj; exact c3
  | 4, hj => simp [opL] at hj; subst hj; exact c4
  | 5, hj => simp [opL] at hj; subst hj; exact c5
  | 6, hj => simp [opL] at hj; subst hj; exact c6
  | n + 7, hj => simp [opL] at hj
end Go.Proofs.Ytdjcblboibbefaa.S13
