/- Arrays of 256 integers in memory: made, loaded whole, read by an index; rows of numbers told by a function: no walk of the program's. -/
import Derived.Test.YtklpmpniempmcaaInts
import Derived.Deep.WholeRow
set_option linter.unusedSimpArgs false
set_option linter.unusedVariables false
namespace Go.Proofs.Ytklpmpniempmcaa
open Go.RowKit Pl
namespace Pl
/-- n numbers, told by a function -/
def fnL (n : Nat) (f : Nat → Nat) : List Int := (List.range n).map fun x => (f x : Int)
theorem fnL_length (n : Nat) (f : Nat → Nat) : (fnL n f).length = n := by simp [fnL]
theorem fnL_get {n : Nat} (f : Nat → Nat) {x : Nat} (h : x < n) : (fnL n f).getD x 0 = (f x : Int) := by simp [fnL, List.getD, h]
theorem fnL_congr {n : Nat} {f g : Nat → Nat} (h : ∀ x, x < n → f x = g x) : fnL n f = fnL n g := by
  unfold fnL
  exact List.map_congr_left fun x hx => by rw [h x (List.mem_range.1 hx)]
theorem fnL_set {n : Nat} {f g : Nat → Nat} {x : Nat} {v : Int} (hv : x < n → v = (g x : Int)) (h : ∀ y, y < n → y ≠ x → g y = f y) : (fnL n f).set x v = fnL n g := by
  refine List.ext_getElem (by simp [fnL]) fun i h1 h2 => ?_
  rw [fnL_length] at h2
  rw [List.getElem_set]
  simp only [fnL, List.getElem_map, List.getElem_range]
  split
  · rename_i e; subst e; exact hv h2
  · rename_i e; rw [h i h2 (fun q => e q.symm)]
theorem fnL_zero (n : Nat) : fnL n (fun _ => 0) = List.replicate n 0 := by
  refine List.ext_getElem (by simp [fnL]) fun i h1 h2 => ?_
  simp [fnL]
end Pl
def zArr : List Value := i64s (fnL 256 fun _ => 0)
theorem i64s_all_one (L : List Int) : (i64s L).toArray.all (·.oneCell') = true := by
  rw [List.all_toArray, List.all_eq_true]; exact i64s_one L
theorem zero_arr (w : World) : (zeroValue 38).run Try.prog w = .ok (.agg zArr.toArray) w := by kernel_rfl
theorem size_arr : (Try.prog.info? 38).map (·.size) = some 256 := by kernel_rfl
def loadArr (v : Value) : Sem Value := Instr.loadAt 38 v
theorem loadArr_eq (v : Value) : Instr.loadAt 38 v = loadArr v := rfl
def allocArr (b : Bool) (v : Value) : Sem Value := Instr.alloc 38 b v
theorem allocArr_eq (b : Bool) (v : Value) : Instr.alloc 38 b v = allocArr b v := rfl
theorem run_allocArr (w : World) (v : Value) : (allocArr true v).run Try.prog w = .ok (.pointer (some ⟨w.heap.size, 0, none⟩)) (w.alloc (.cells zArr.toArray 38)) := by
  unfold allocArr Instr.alloc
  rw [Sem.run_bind, zero_arr]
  cases v <;> rfl
theorem run_loadArr {w : World} {b : Nat} {L : List Int} (h : Blk w b 38 (i64s L)) (hl : L.length = 256) : (loadArr (.pointer (some ⟨b, 0, none⟩))).run Try.prog w = .ok (.agg (i64s L).toArray) w := by
  simp only [loadArr, Instr.loadAt, Instr.sureAddr, Sem.run_bind, Sem.run_pure, Result.andThen_ok]
  exact run_loadVar_row w b _ _ _ (0, 0) _ h Try.underlying38 rfl (by rw [size_arr]; simp [hl, i64s_length])
def idxArr (x i : Value) : Sem Value := Instr.index 38 x i
theorem idxArr_eq (x i : Value) : Instr.index 38 x i = idxArr x i := rfl
theorem run_idxArr (w : World) {L : List Int} (hl : L.length = 256) {i : Nat} (hi : i < 256) : (idxArr (.agg (i64s L).toArray) (.int .i64 i)).run Try.prog w = .ok (.int .i64 (L.getD i 0)) w := by
  have hg := i64s_get L i (by omega)
  have ha : (asIntOf (.int .i64 (i : Int))).run Try.prog w = .ok (.i64, (i : Int)) w := rfl
  have h1 : (0 : Int) ≤ (i : Int) ∧ (i : Int) < ((256 : Nat) : Int) := by omega
  have hag : (isAgg 3).run Try.prog w = .ok false w := by kernel_rfl
  have hsz : (sizeOf 3).run Try.prog w = .ok 1 w := by kernel_rfl
  unfold idxArr Instr.index
  simp only [Sem.run_bind, ha, Result.andThen_ok, run_underlying Try.underlying38]
  rw [if_pos h1]
  simp only [Sem.run_bind, hsz, Result.andThen_ok, part, hag, Int.toNat_natCast, Nat.mul_one]
  simp [hg]
theorem arr_new (w : World) : Blk (w.alloc (.cells zArr.toArray 38)) w.heap.size 38 (i64s (fnL 256 fun _ => 0)) := Blk.new w _ _
theorem made_ints {w : World} {base g n : Nat} (h : w.ownsRow base 3 1 (.slice (some ⟨g, 0, none⟩) n n) n (madeCells (Value.int .i64 0).cells (n * 1)).toList) : Blk w g 3 (i64s (fnL n fun _ => 0)) := by
  have h1 := made_blk h
  have e : (madeCells (Value.int .i64 0).cells (n * 1)).toList = i64s (fnL n fun _ => 0) := by
    rw [fnL_zero]
    apply List.ext_getElem?
    intro i
    by_cases h : i < n
    · simp [madeCells, Value.cells, i64s, h, Nat.mod_one]
    · simp [madeCells, Value.cells, i64s, h]
  rw [e] at h1
  exact h1
theorem i64s_setA (L : List Int) (i : Nat) (c : Int) : (i64s L).set i (.int .i64 c) = i64s (L.set i c) := by simp [i64s, List.map_set]
end Go.Proofs.Ytklpmpniempmcaa
