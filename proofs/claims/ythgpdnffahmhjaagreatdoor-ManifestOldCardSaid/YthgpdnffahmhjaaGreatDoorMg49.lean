/- Texts put together: RawLd. -/
import Derived.Test.YthgpdnffahmhjaaGreatDoorMg7
import Derived.Test.YthgpdnffahmhjaaGreatDoorRows
import Derived.LaidMore
import Derived.Lib.LaidTab
import Derived.Stop.Joined
import Derived.ProofKit
set_option linter.unusedSimpArgs false
set_option linter.unusedVariables false
set_option maxRecDepth 100000
namespace Go.Proofs.YthgpdnffahmhjaaGreatDoor.S15
open Go.RowKit S3 S3.Pl
def laidFour : List (String × DataW Unit) := [("math/bits.deBruijn32tab", Rows.laid_math_bits_deBruijn32tab), ("math/bits.deBruijn64tab", Rows.laid_math_bits_deBruijn64tab), ("internal/strconv.uint64pow10", Rows.laid_internal_strconv_uint64pow10), ("folio/crc.steps", Rows.laid_folio_crc_steps)]
def stepsZ4 : List Int := [0, 498536548, 997073096, 651767980, 1994146192, 1802195444, 1303535960, 1342533948, 3988292384, 4027552580, 3604390888, 3412177804, 2607071920, 2262029012, 2685067896, 3183342108]
theorem gSteps4 : Tryz.prog.globalNamed "folio/crc.steps" = some 0 := by kernel_rfl
theorem tSteps4 : (Tryz.prog.globals[0]?).map (·.type) = some 166 := by kernel_rfl
theorem laidMet_tail {P : Program} {W : World} {x : String × DataW Unit} {rest : List (String × DataW Unit)} (h : laidMet P (x :: rest) W) : laidMet P rest W := by
  obtain ⟨ps, ⟨g', t', cs, fuel, p, q, hg', ht', hvar, hd, hq, he⟩, hn, hc⟩ := h
  subst he
  exact ⟨q, hq, (List.nodup_append.1 hn).2.1, fun b off hm => hc b off (List.mem_append_right _ hm)⟩
set_option maxRecDepth 100000 in
theorem door_met (os : Os) (args : Array Value) : laidMetH Tryz.prog laidFour ((World.doorLaid Tryz.prog 400 os).forCall (fun _ _ => 0) ⟨#[], args, []⟩).memory :=
  laidMetH_of_parts3 (fuel := 8) (laidMet_of_run' 8 (by kernel_rfl) (by kernel_rfl)) (by kernel_rfl) (by kernel_rfl)
theorem of_laid {W : World} (h : laidMetH Tryz.prog laidFour W) : Tab W := by
  rw [MakeChecks.laidMetH_plain _ _ _ (by kernel_rfl)] at h
  have h := laidMet_tail (laidMet_tail (laidMet_tail h))
  have hT : Lib.TabIs Tryz.prog W "folio/crc.steps" .u32 stepsZ4 := Lib.tabIs_of_head gSteps4 tSteps4 Tryz.underlying166 Tryz.underlying38 (by kernel_rfl) (by kernel_rfl) h
  have hc := fun i hi => hT.cell gSteps4 i hi
  refine ⟨World.block_lt_of_cell? W ⟨0, 0, none⟩ (hc 0 (by decide)), fun i hi => ?_⟩
  rw [hc i hi]
  have : ∀ k : Fin 16, stepsZ4.getD k.val 0 = ((tabAt k.val : Nat) : Int) := by decide
  have e := this ⟨i, hi⟩
  simp only at e
  rw [e]
end Go.Proofs.YthgpdnffahmhjaaGreatDoor.S15
