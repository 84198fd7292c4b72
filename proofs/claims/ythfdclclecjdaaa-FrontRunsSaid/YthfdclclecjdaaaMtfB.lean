/- (*mtf.order).take: a contract. -/
import Derived.Test.YthfdclclecjdaaaMtfA
set_option linter.unusedSimpArgs false
set_option linter.unusedVariables false
namespace Go.Proofs.Ythfdclclecjdaaa
open Go.RowKit Pl

theorem u8s_take (B : List Nat) (n : Nat) : (u8s B).take n = u8s (B.take n) := by simp [u8s, List.map_take]
theorem u8s_drop (B : List Nat) (n : Nat) : (u8s B).drop n = u8s (B.drop n) := by simp [u8s, List.map_drop]
theorem splice_mv {L : List Nat} (hl : L.length = 256) (k : Nat) (hk : k < 256) : (splice (u8s L) 1 (u8s (L.take k))).set 0 (.int .u8 (L.getD k 0 : Nat)) = u8s (mv L k) := by
  have hkl : (u8s (L.take k)).length = k := by rw [u8s_length, List.length_take]; omega
  unfold splice mv
  rw [hkl, u8s_take, u8s_drop, ← u8s_append, ← u8s_append, u8s_set, Nat.add_comm 1 k]
  congr 1
  cases L with
  | nil => simp at hl
  | cons a r => simp

/-- what a call of take leaves -/
def TakePost (b : Nat) (L : List Nat) (k : Nat) (w : World) (e : Ending) (w' : World) : Prop :=
  e = .returned (.int .u8 (L.getD k 0 : Nat)) ∧ Blk w' b 30 (u8s (mv L k)) ∧ Below b w w'
theorem take_end {b : Nat} {L : List Nat} {k : Nat} {w w2 : World} (hl : L.length = 256) (hk : k < 256)
    (h : w2.heap[b]? = some (.cells (splice (u8s L) 1 (u8s (L.take k))).toArray 30 (0, 0))) (hb : Below b w w2) :
    TakePost b L k w (.returned (.int .u8 (L.getD k 0 : Nat))) (w2.setCell ⟨b, 0, none⟩ (.int .u8 (L.getD k 0 : Nat))) := by
  refine ⟨rfl, ?_, hb.setCell (Nat.le_refl _) _⟩
  have := Blk.set (show Blk w2 b 30 _ from h) 0 (.int .u8 (L.getD k 0 : Nat))
  rwa [splice_mv hl k hk] at this

set_option maxHeartbeats 1000000 in
set_option maxRecDepth 100000 in
theorem take_any (b : Nat) (L : List Nat) (k : Nat) (w : World) (hb : Blk w b 30 (u8s L)) (hl : L.length = 256) (hk : k < 256) :
    Calls Try.prog 15 #[.pointer (some ⟨b, 0, none⟩), .int .u8 k] w (TakePost b L k w) := by
  have HB := Lib.hid hb
  have HL := Lib.hid hl
  have c0 := hb.cell (u8s_get L k (by omega))
  have hx : (L.getD k 0) = (L.getD k 0) := rfl
  obtain ⟨x, hx⟩ : ∃ x, x = L.getD k 0 := ⟨_, rfl⟩
  rw [← hx] at c0
  have HX := Lib.hid hx
  clear hb hl hx
  go_enter Try.func15, Try.ntmps15
  go_wp2
  have hk1 : (k : Int) ≤ 256 := by omega
  have F1 : Hid ((u8s (L.take k)).length = Nat.min k 255) := Lib.hid (by rw [u8s_length, List.length_take]; show min k L.length = min k 255; have := HL.out; omega)
  have F2 : CSrc w (u8s (L.take k)) (some ⟨b, 1, none⟩) b 1 (some ⟨b, 0, none⟩) := fun _ => ⟨rfl, _, rfl, fun j v hj => by
    have hadd : (⟨b, 0, none⟩ : Addr).add j = ⟨b, j, none⟩ := by unfold Addr.add; split <;> simp_all
    rw [hadd]
    have hjl := (List.getElem?_eq_some_iff.1 hj).1
    rw [u8s_length, List.length_take] at hjl
    refine HB.out.cell ?_
    rw [← u8s_take, List.getElem?_take_of_lt (by omega)] at hj
    exact hj⟩
  have F3 : Hid (1 + (u8s (L.take k)).length ≤ (u8s L).length) := Lib.hid (by rw [u8s_length, u8s_length, List.length_take]; have := HL.out; omega)
  have F4 : Hid (∀ v ∈ u8s (L.take k), v.oneCell' = true) := Lib.hid (u8s_one _)
  go_region_law (refine step_copy_splice rfl (.tmp 13) (.tmp 17) 22 22 rfl 5 Try.underlying22 size5 (some ⟨b, 1, none⟩) (some ⟨b, 0, none⟩) 255 255 k 256 (by simp [Act.eval, Act.put]) (by simp [Act.eval, Act.put]) b 1 _ 30 HB.out (u8s (L.take k)) F1.out F2 F3.out F4.out b w (Below.refl _ _).drew (Nat.le_refl _) ?_; intro w2 hG2 hB2)
  all_goals
    have HW : Hid (Blk w2 b 30 (splice (u8s L) 1 (u8s (L.take k)))) := Lib.hid hG2.out
    have HF := Lib.hid hB2
    obtain ⟨y, d0⟩ : ∃ y, w2.cell? ⟨b, 0, none⟩ = some y := by
      obtain ⟨y, hy⟩ : ∃ y, (splice (u8s L) 1 (u8s (L.take k)))[0]? = some y := ⟨_, List.getElem?_eq_getElem (by rw [length_splice _ _ _ F3.out, u8s_length, HL.out]; omega)⟩
      exact ⟨y, HW.out.cell hy⟩
    have f0 := HW.out.frozen 0
    clear F1 F2 F3 F4 hG2 hB2 c0
    generalize (((u8s (L.take k)).length : Nat) : Int) = leny
    go_wp2
    go_ret
    have := take_end HL.out hk HW.out HF.out
    rw [← HX.out] at this
    exact this
end Go.Proofs.Ythfdclclecjdaaa
