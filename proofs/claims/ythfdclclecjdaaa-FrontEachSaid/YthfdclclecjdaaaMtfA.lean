/- A list of 256 bytes in memory; mtf.ascending: a contract. -/
import Derived.Test.YthfdclclecjdaaaMade
import Derived.Test.YthfdclclecjdaaaMtfP
import Derived.Deep.WholeRow
set_option linter.unusedSimpArgs false
set_option linter.unusedVariables false
namespace Go.Proofs.Ythfdclclecjdaaa
open Go.RowKit Pl

namespace Pl
/-- the list's first i places are laid -/
def ascAt (i : Nat) : List Nat := List.range i ++ List.replicate (256 - i) 0
theorem ascAt_length (i : Nat) (h : i ≤ 256) : (ascAt i).length = 256 := by simp [ascAt]; omega
theorem ascAt_all : ascAt 256 = asc := by simp [ascAt, asc]
theorem ascAt_set (i : Nat) (h : i < 256) : (ascAt i).set i i = ascAt (i + 1) := by
  unfold ascAt
  rw [List.set_append_right _ _ (by simp), List.length_range, Nat.sub_self, List.range_succ, show 256 - i = (256 - (i + 1)) + 1 by omega, List.replicate_succ]
  simp
theorem ascAt_zero : ascAt 0 = List.replicate 256 0 := rfl
theorem asc_length : asc.length = 256 := by simp [asc]
end Pl

def zeroCells : List Value := u8s (ascAt 0)
theorem u8s_set_int (B : List Nat) (i c : Nat) (z : Int) (h : z = c) : (u8s B).set i (.int .u8 z) = u8s (B.set i c) := by subst h; exact u8s_set B i c
theorem u8s_all_one (B : List Nat) : (u8s B).toArray.all (·.oneCell') = true := by
  rw [List.all_toArray, List.all_eq_true]; exact u8s_one B
theorem zero_order (w : World) : (zeroValue 30).run Try.prog w = .ok (.agg zeroCells.toArray) w := by kernel_rfl
theorem size_order : (Try.prog.info? 30).map (·.size) = some 256 := by kernel_rfl
def loadOrd (v : Value) : Sem Value := Instr.loadAt 30 v
theorem loadOrd_eq (v : Value) : Instr.loadAt 30 v = loadOrd v := rfl
def storeOrd (p v : Value) : Sem Unit := Instr.storeAt 30 p v
theorem storeOrd_eq (p v : Value) : Instr.storeAt 30 p v = storeOrd p v := rfl
def allocOrd (b : Bool) (v : Value) : Sem Value := Instr.alloc 30 b v
theorem allocOrd_eq (b : Bool) (v : Value) : Instr.alloc 30 b v = allocOrd b v := rfl
theorem run_allocOrd (w : World) (v : Value) : (allocOrd true v).run Try.prog w = .ok (.pointer (some ⟨w.heap.size, 0, none⟩)) (w.alloc (.cells zeroCells.toArray 30)) := by
  unfold allocOrd Instr.alloc
  rw [Sem.run_bind, zero_order]
  cases v <;> rfl
theorem run_loadOrd {w : World} {b : Nat} {L : List Nat} (h : Blk w b 30 (u8s L)) (hl : L.length = 256) : (loadOrd (.pointer (some ⟨b, 0, none⟩))).run Try.prog w = .ok (.agg (u8s L).toArray) w := by
  simp only [loadOrd, Instr.loadAt, Instr.sureAddr, Sem.run_bind, Sem.run_pure, Result.andThen_ok]
  exact run_loadVar_row w b _ _ _ (0, 0) _ h Try.underlying30 rfl (by rw [size_order]; simp [hl, u8s_length])
theorem run_storeOrd {w : World} {b : Nat} {K L : List Nat} (h : Blk w b 30 (u8s K)) (hk : K.length = 256) (hl : L.length = 256) : (storeOrd (.pointer (some ⟨b, 0, none⟩)) (.agg (u8s L).toArray)).run Try.prog w = .ok () (w.setRow b (u8s L).toArray) := by
  simp only [storeOrd, Instr.storeAt, Instr.sureAddr, Sem.run_bind, Sem.run_pure, Result.andThen_ok]
  exact run_storeVar_row w b _ _ _ _ h (by rw [size_order]; simp [hl, u8s_length]) (by simp [hk, hl, u8s_length]) (u8s_all_one L)
theorem Blk.setRow {w : World} {b : Nat} {t : TypeId} {c : List Value} (h : Blk w b t c) (c' : List Value) : Blk (w.setRow b c'.toArray) b t c' := by
  unfold Blk at h ⊢
  exact setRow_heap w b _ _ t _ h
theorem Blk.setRowOther {w : World} {b : Nat} {t : TypeId} {c : List Value} (h : Blk w b t c) {g : Nat} (hg : b ≠ g) (c' : Array Value) : Blk (w.setRow g c') b t c := by
  unfold Blk at h ⊢
  rw [setRow_other w g b c' hg]; exact h

def AscPost (w : World) (e : Ending) (w' : World) : Prop := e = .returned (.agg (u8s asc).toArray) ∧ Below w.heap.size w w'

attribute [local go_sem ↓] loadOrd_eq storeOrd_eq allocOrd_eq
attribute [local go_sem] run_allocOrd
set_option maxHeartbeats 1000000 in
set_option maxRecDepth 100000 in
theorem ascending_any (w : World) : Calls Try.prog 13 #[] w (AscPost w) := by
  go_enter Try.func13, Try.ntmps13
  go_wp2
  have hb0 : Below w.heap.size w ((w.alloc (.cells zeroCells.toArray 30)).alloc (.cells zeroCells.toArray 30)) := ((Below.refl _ _).alloc (Nat.le_refl _) _).alloc (by simp) _
  have hA0 := (Blk.new w 30 zeroCells).alloc (.cells zeroCells.toArray 30)
  have hA1 : Blk ((w.alloc (.cells zeroCells.toArray 30)).alloc (.cells zeroCells.toArray 30)) (w.heap.size + 1) 30 zeroCells := by
    have := Blk.new (w.alloc (.cells zeroCells.toArray 30)) 30 zeroCells
    simpa using this
  have HB0 := Lib.hid hb0
  have HA0 := Lib.hid hA0
  have HA1 := Lib.hid hA1
  clear hb0 hA0 hA1
  go_loopw [3] (fun x wr => ∃ i : Nat, i ≤ 256 ∧ x = .int .i64 i ∧ Blk wr w.heap.size 30 zeroCells ∧ Blk wr (w.heap.size + 1) 30 (u8s (ascAt i)) ∧ Below w.heap.size w wr) (fun x _ => 256 - (intOf x).toNat)
  case atStart => exact ⟨0, by omega, rfl, HA0.out, HA1.out, HB0.out⟩
  case round =>
    obtain ⟨i, hi, rfl, h0, h1, hb⟩ := hrel
    have H0 := Lib.hid h0
    have H1 := Lib.hid h1
    have HB := Lib.hid hb
    clear HB0 HA0 HA1 h0 h1 hb
    by_cases hlt : i < 256
    · have c0 := H1.out.cell (u8s_get (ascAt i) i (by rw [ascAt_length i hi]; exact hlt))
      have f0 := H1.out.frozen i
      generalize (ascAt i).getD i 0 = y at *
      have hm : (i : Int) % 256 = i := by omega
      go_wp2
      go_roundw
      case rel => exact ⟨i + 1, by omega, by go_num, H0.out.setOther (by simp) _, by
        have := H1.out.set i (.int .u8 i)
        rw [u8s_set, ascAt_set i hlt] at this
        exact this, HB.out.setCell (by simp) _⟩
      case measure => simp [intOf]; omega
    · obtain rfl : i = 256 := by omega
      have hl := run_loadOrd H1.out (ascAt_length 256 hi)
      have hs := run_storeOrd H0.out (ascAt_length 0 (by omega)) (ascAt_length 256 hi)
      have HE : Hid (Blk (wr.setRow w.heap.size (u8s (ascAt 256)).toArray) w.heap.size 30 (u8s asc)) := Lib.hid (by have := H0.out.setRow (u8s (ascAt 256)); rwa [ascAt_all] at this ⊢)
      have HF := Lib.hid (below_setRow HB.out (Nat.le_refl _) (u8s (ascAt 256)).toArray)
      generalize ascAt 256 = A at *
      go_wp2
      refine bodyPost_ret (v := .agg (u8s asc).toArray) ?_ rfl ⟨rfl, HF.out⟩
      refine results_cell_row rfl _ _ w.heap.size 30 (u8s asc).toArray (0, 0) _ (by simp) HE.out Try.underlying30 rfl (by rw [size_order]; simp [asc_length, u8s_length])
end Go.Proofs.Ythfdclclecjdaaa
