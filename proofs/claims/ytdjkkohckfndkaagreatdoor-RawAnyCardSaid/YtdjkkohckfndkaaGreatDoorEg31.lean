/- Texts put together: RcA, RcB. -/
import Derived.Test.YtdjkkohckfndkaaGreatDoorEg30
import Derived.Laws.ResultCell
import Derived.Shelf.SlicesQ.Load
import Derived.Laws.CopyRow
set_option linter.unusedSimpArgs false
set_option linter.unusedVariables false
set_option maxRecDepth 100000
namespace Go.Proofs.YtdjkkohckfndkaaGreatDoor.S14
open Go.RowKit
def recL (r : RT) : List Value := [.int .i64 r.kind, .int .i64 r.seq, .string r.key, .string r.val]
theorem recL_length (r : RT) : (recL r).length = 4 := rfl
theorem recL_one (r : RT) : ∀ u ∈ recL r, u.oneCell' = true := by
  intro u hu
  simp [recL] at hu
  rcases hu with rfl | rfl | rfl | rfl <;> rfl
structure RIn (r : RT) : Prop where
  kind : (Lit.int .i64 r.kind).wf = true
  seq : (Lit.int .i64 r.seq).wf = true
  key : r.key.size ≤ maxLen
  val : r.val.size ≤ maxLen
theorem addr_at (g o j : Nat) : (⟨g, o, none⟩ : Addr).add j = ⟨g, o + j, none⟩ := by unfold Addr.add; split <;> simp_all
def loadR (v : Value) : Sem Value := Instr.loadAt 32 v
theorem loadR_eq (v : Value) : Instr.loadAt 32 v = loadR v := rfl
theorem run_loadR {w : World} {g o : Nat} {cs : List Value} (hl : cs.length = 4) (h : ∀ j u, cs[j]? = some u → w.cell? ⟨g, o + j, none⟩ = some u) :
    (loadR (.pointer (some ⟨g, o, none⟩))).run Tryz.prog w = .ok (.agg cs.toArray) w := by
  simp only [loadR, Instr.loadAt, Instr.sureAddr, loadVar, loadCells, Sem.run_bind, Sem.run_pure, Result.andThen_ok, Tryz.isAgg32, Tryz.sizeOf32, if_true]
  have := run_loadCellsFrom_list Tryz.prog w ⟨g, o, none⟩ cs 4 hl (fun j v hj => by
    rw [addr_at]
    exact h j v hj)
  rw [this]
  rfl
theorem run_loadR_blk {w : World} {g : Nat} {t : TypeId} {r : RT} (h : Blk w g t (recL r)) : (loadR (.pointer (some ⟨g, 0, none⟩))).run Tryz.prog w = .ok (.agg #[.int .i64 r.kind, .int .i64 r.seq, .string r.key, .string r.val]) w :=
  run_loadR (cs := recL r) rfl fun j u hj => by rw [Nat.zero_add]; exact h.cell hj
def storeR (p v : Value) : Sem Unit := Instr.storeAt 32 p v
theorem storeR_eq (p v : Value) : Instr.storeAt 32 p v = storeR p v := rfl
theorem run_storeR {w : World} {g : Nat} {t : TypeId} {cs ds : List Value} (h : Blk w g t cs) (ho : cs.length = 4) (hd : ds.length = 4) (h1 : ∀ u ∈ ds, u.oneCell' = true) :
    (storeR (.pointer (some ⟨g, 0, none⟩)) (.agg ds.toArray)).run Tryz.prog w = .ok () (w.setRow g ds.toArray) := by
  simp only [storeR, Instr.storeAt, Instr.sureAddr, storeVar, Sem.run_bind, Sem.run_pure, Result.andThen_ok, Tryz.sizeOf32]
  rw [if_neg (by simp [Value.cells, hd])]
  have := run_storeCells_at (P := Tryz.prog) g 0 t ds 0 cs.toArray w h (by simp [ho, hd]) h1
  have e : cs.drop 4 = [] := List.drop_of_length_le (by omega)
  simpa [Value.cells, e, hd] using this
theorem empty_eq (s : ByteArray) : s.toList.isEmpty = decide (s.size = 0) := by
  rw [ByteArray.toList_eq]
  rcases s with ⟨⟨l⟩⟩
  cases l with
  | nil => rfl
  | cons a t => simp [ByteArray.size]
attribute [local go_sem ↓] loadR_eq
set_option maxHeartbeats 2000000 in
theorem hasForm_any (r : RT) (w : World) (hr : r.val.size ≤ maxLen) : Calls Tryz.prog 124 #[.agg #[.int .i64 r.kind, .int .i64 r.seq, .string r.key, .string r.val]] w fun e w' => e = .returned (.bool (formR r)) ∧ Below w.heap.size w w' := by
  obtain ⟨k, s, key, val⟩ := r
  by_cases h1 : s < 1
  · have hf : formR ⟨k, s, key, val⟩ = false := by unfold formR; simp; omega
    rw [hf]
    clear hf
    go_enter Tryz.func124, Tryz.ntmps124
    go_wp2
    go_ret
    exact ⟨rfl, (Below.refl _ _).alloc (Nat.le_refl _) _⟩
  · by_cases h2 : 1125899906842624 < s
    · have hf : formR ⟨k, s, key, val⟩ = false := by unfold formR; simp; omega
      rw [hf]
      clear hf
      go_enter Tryz.func124, Tryz.ntmps124
      go_wp2
      go_ret
      exact ⟨rfl, (Below.refl _ _).alloc (Nat.le_refl _) _⟩
    · by_cases h3 : k = 1
      · have hf : formR ⟨k, s, key, val⟩ = true := by unfold formR; simp; omega
        rw [hf]
        clear hf
        subst h3
        go_enter Tryz.func124, Tryz.ntmps124
        go_wp2
        go_ret
        exact ⟨rfl, (Below.refl _ _).alloc (Nat.le_refl _) _⟩
      · have q3 : (k == 1) = false := beq_f h3
        by_cases h4 : k = 0
        · subst h4
          go_enter Tryz.func124, Tryz.ntmps124
          go_wp2
          go_ret
          refine ⟨?_, (Below.refl _ _).alloc (Nat.le_refl _) _⟩
          show Ending.returned (.bool val.toList.isEmpty) = _
          rw [empty_eq]
          unfold formR
          simp [h1, h2]
        · have q4 : (k == 0) = false := beq_f h4
          have hf : formR ⟨k, s, key, val⟩ = false := by unfold formR; simp [h3, h4]
          rw [hf]
          clear hf
          go_enter Tryz.func124, Tryz.ntmps124
          go_wp2
          go_ret
          exact ⟨rfl, (Below.refl _ _).alloc (Nat.le_refl _) _⟩
theorem agg_zero (w : World) (r : RT) : Below w.heap.size w (w.alloc (.cells #[.int .i64 r.kind, .int .i64 r.seq, .string r.key, .string r.val] 32)) := (Below.refl _ _).alloc (Nat.le_refl _) _
set_option maxHeartbeats 2000000 in
theorem check_any (r : RT) (w : World) (hk : r.key.size ≤ maxLen) (hr : r.val.size ≤ maxLen) : Calls Tryz.prog 91 #[.agg #[.int .i64 r.kind, .int .i64 r.seq, .string r.key, .string r.val]] w fun e w' => e = .returned (.int .i64 (chk r : Nat)) ∧ Below w.heap.size w w' := by
  have hb1 := agg_zero w r
  have hk1 := Blk.new w 32 (recL r)
  obtain ⟨w1, hw1⟩ : ∃ w1, w.alloc (.cells #[.int .i64 r.kind, .int .i64 r.seq, .string r.key, .string r.val] 32) = w1 := ⟨_, rfl⟩
  rw [hw1] at hb1
  have hk1' : Blk w1 w.heap.size 32 (recL r) := by rw [← hw1]; exact hk1
  have c2 : w1.cell? ⟨w.heap.size, 2, none⟩ = some (.string r.key) := hk1'.cell rfl
  have c3 : w1.cell? ⟨w.heap.size, 3, none⟩ = some (.string r.val) := hk1'.cell rfl
  have hld := run_loadR_blk hk1'
  have HB := Lib.hid hb1
  clear hb1 hk1 hk1'
  unfold maxLen at hk hr
  have e1 := empty_eq r.key
  by_cases h1 : r.key.size = 0
  · have q1 : r.key.toList.isEmpty = true := by rw [e1]; simp [h1]
    rw [chk_1 h1]
    clear e1 h1 hk hr hld
    go_enter Tryz.func91, Tryz.ntmps91
    go_wp2
    go_ret
    exact ⟨rfl, HB.out⟩
  · have q1 : r.key.toList.isEmpty = false := by rw [e1]; simp [h1]
    by_cases h2 : 100 < r.key.size
    · have HC := Lib.hid (chk_2 h1 (.inl h2))
      clear e1 hld
      go_enter Tryz.func91, Tryz.ntmps91
      go_wp2
      go_ret
      exact ⟨by rw [HC.out]; rfl, HB.out⟩
    · by_cases h3 : 4000 < r.val.size
      · have HC := Lib.hid (chk_2 h1 (.inr h3))
        clear e1 hld
        go_enter Tryz.func91, Tryz.ntmps91
        go_wp2
        go_ret
        exact ⟨by rw [HC.out]; rfl, HB.out⟩
      · have HC := Lib.hid (chk_3 h1 (by omega) (by omega))
        have hf := hasForm_any r w1 (by unfold maxLen; omega)
        clear e1
        go_enter Tryz.func91, Tryz.ntmps91
        go_wp2_with fail
        refine hf.mono ?_
        rintro e w2 ⟨rfl, hb2⟩
        have HB2 := Lib.hid (HB.out.trans (hb2.mono HB.out.size))
        clear hb2 hf
        obtain ⟨b, hb⟩ : ∃ b, formR r = b := ⟨_, rfl⟩
        rw [hb] at HC ⊢
        cases b with
        | true =>
          go_wp2
          go_ret
          exact ⟨by rw [HC.out]; rfl, HB2.out⟩
        | false =>
          go_wp2
          go_ret
          exact ⟨by rw [HC.out]; rfl, HB2.out⟩
end Go.Proofs.YtdjkkohckfndkaaGreatDoor.S14
namespace Go.Proofs.YtdjkkohckfndkaaGreatDoor.S14
open Go.RowKit
attribute [local go_sem ↓] loadR_eq
theorem form_no {r : RT} (h : ¬ (r.kind = 1 ∨ r.kind = 0 ∧ r.val.size = 0) ∨ r.seq < 1 ∨ 1125899906842624 < r.seq) : formR r = false := by
  cases hf : formR r with
  | false => rfl
  | true =>
    obtain ⟨a, b, c⟩ := form_ok hf
    rcases h with h | h | h
    · exact absurd c h
    · omega
    · omega
theorem form_yes {r : RT} (h : r.kind = 1 ∨ r.kind = 0 ∧ r.val.size = 0) (h1 : 1 ≤ r.seq) (h2 : r.seq ≤ 1125899906842624) : formR r = true := by
  unfold formR
  simp only [Bool.and_eq_true, Bool.or_eq_true, decide_eq_true_eq]
  exact ⟨⟨h1, h2⟩, h⟩
set_option maxHeartbeats 4000000 in
theorem refCheck_any (r : RT) (w : World) (hk : r.key.size ≤ maxLen) (hr : r.val.size ≤ maxLen) : Calls Tryz.prog 43 #[.agg #[.int .i64 r.kind, .int .i64 r.seq, .string r.key, .string r.val]] w fun e w' => e = .returned (.int .i64 (chk r : Nat)) ∧ Below w.heap.size w w' := by
  obtain ⟨k, s, key, val⟩ := r
  have HB := Lib.hid (agg_zero w ⟨k, s, key, val⟩)
  simp only at hk hr HB ⊢
  unfold maxLen at hk hr
  have e1 := empty_eq key
  have e2 := empty_eq val
  by_cases h1 : key.size = 0
  · have q1 : key.toList.isEmpty = true := by rw [e1]; simp [h1]
    rw [chk_1 h1]
    clear e1 e2 h1 hk hr
    go_enter Tryz.func43, Tryz.ntmps43
    go_wp2
    go_ret
    exact ⟨rfl, HB.out⟩
  have q1 : key.toList.isEmpty = false := by rw [e1]; simp [h1]
  by_cases h2 : 100 < key.size
  · have HC := Lib.hid (chk_2 (r := ⟨k, s, key, val⟩) h1 (.inl h2))
    clear e1 e2
    go_enter Tryz.func43, Tryz.ntmps43
    go_wp2
    go_ret
    exact ⟨by rw [HC.out]; rfl, HB.out⟩
  by_cases h3 : 4000 < val.size
  · have HC := Lib.hid (chk_2 (r := ⟨k, s, key, val⟩) h1 (.inr h3))
    clear e1 e2
    go_enter Tryz.func43, Tryz.ntmps43
    go_wp2
    go_ret
    exact ⟨by rw [HC.out]; rfl, HB.out⟩
  have hc := chk_3 (r := ⟨k, s, key, val⟩) h1 (by simp only; omega) (by simp only; omega)
  clear e1
  by_cases h4 : k = 1
  · subst h4
    by_cases h6 : s < 1
    · rw [form_no (.inr (.inl h6))] at hc
      have HC := Lib.hid hc
      clear hc e2
      go_enter Tryz.func43, Tryz.ntmps43
      go_wp2
      go_ret
      exact ⟨by rw [HC.out]; rfl, HB.out⟩
    by_cases h7 : 1125899906842624 < s
    · rw [form_no (.inr (.inr h7))] at hc
      have HC := Lib.hid hc
      clear hc e2
      go_enter Tryz.func43, Tryz.ntmps43
      go_wp2
      go_ret
      exact ⟨by rw [HC.out]; rfl, HB.out⟩
    rw [form_yes (.inl rfl) (by simp only; omega) (by simp only; omega)] at hc
    have HC := Lib.hid hc
    clear hc e2
    go_enter Tryz.func43, Tryz.ntmps43
    go_wp2
    go_ret
    exact ⟨by rw [HC.out]; rfl, HB.out⟩
  have q4 : (k == 1) = false := beq_f h4
  have q5 : (k != 1) = true := bne_t h4
  by_cases h5 : k = 0
  · subst h5
    by_cases h8 : val.size = 0
    · have q8 : val.toList.isEmpty = true := by rw [e2]; simp [h8]
      by_cases h6 : s < 1
      · rw [form_no (.inr (.inl h6))] at hc
        have HC := Lib.hid hc
        clear hc e2
        go_enter Tryz.func43, Tryz.ntmps43
        go_wp2
        go_ret
        exact ⟨by rw [HC.out]; rfl, HB.out⟩
      by_cases h7 : 1125899906842624 < s
      · rw [form_no (.inr (.inr h7))] at hc
        have HC := Lib.hid hc
        clear hc e2
        go_enter Tryz.func43, Tryz.ntmps43
        go_wp2
        go_ret
        exact ⟨by rw [HC.out]; rfl, HB.out⟩
      rw [form_yes (.inr ⟨rfl, h8⟩) (by simp only; omega) (by simp only; omega)] at hc
      have HC := Lib.hid hc
      clear hc e2
      go_enter Tryz.func43, Tryz.ntmps43
      go_wp2
      go_ret
      exact ⟨by rw [HC.out]; rfl, HB.out⟩
    · have q8 : val.toList.isEmpty = false := by rw [e2]; simp [h8]
      rw [form_no (.inl fun h => h.elim (fun h => h4 h) fun h => h8 h.2)] at hc
      have HC := Lib.hid hc
      clear hc e2
      go_enter Tryz.func43, Tryz.ntmps43
      go_wp2
      go_ret
      exact ⟨by rw [HC.out]; rfl, HB.out⟩
  have q6 : (k == 0) = false := beq_f h5
  have q7 : (k != 0) = true := bne_t h5
  rw [form_no (.inl fun h => h.elim (fun h => h4 h) fun h => h5 h.1)] at hc
  have HC := Lib.hid hc
  clear hc e2
  go_enter Tryz.func43, Tryz.ntmps43
  go_wp2
  go_ret
  exact ⟨by rw [HC.out]; rfl, HB.out⟩
end Go.Proofs.YtdjkkohckfndkaaGreatDoor.S14
