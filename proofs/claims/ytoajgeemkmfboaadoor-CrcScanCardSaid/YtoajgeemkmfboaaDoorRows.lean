/-
  NARROWER THAN 'FOR EVERY INPUT', by the rows' own cells (each row's printed sentence says how): CrcSum: laid · CrcSeal: laid · CrcScan: laid · CrcCut: laid · CrcRot: laid · CrcThree: laid · CrcBurst: laid · CrcMany: laid.
  DERIVED. THE GIVEN ROWS OF THIS SEAT. 8 by the template 'for every input the law returns true; each argument reads behind the call as it read before'; 0 by the template 'total and deterministic' (their statements: YtoajgeemkmfboaaDoorTotals.lean).
  GIVEN WITH THE SEED: the statements are not yours to turn. If you find one false, say at which input.
  Laid BY PROGRAM, IN A SANDBOX (cutbox-rows.mjs): the forced cells as the released guide's own fill.sh prints them over the translation 7dab88905894ba06… (all of the seat's roots in one cut). By AI agents, Wed Nov 11 2026. No macro, syntax, notation, axiom, sorry.
-/
import Derived.Test.YtoajgeemkmfboaaDoorChecked
import GoSem.Claim
import GoSem.ClaimJoined
import GoSem.ClaimMapViews
import Derived.JoinedTies
import Derived.KernelRfl
namespace Go.Proofs.YtoajgeemkmfboaaDoor
/- THE CELL 'sum', in the pinned program and in every row, IS THE sha256 OF THE DUMP (.gsa) THAT YtoajgeemkmfboaaDoorProg.lean LOADS. Nothing in Lean hashes anything: it is a label: what it is worth is what the hold of that sum in a sandbox is worth. -/
noncomputable def Tryd.pinned : Pinned := { name := "ytoajgeemkmfboaadoor", sum := "7dab88905894ba06f6a7fabc6131e1052f41f4624f42603d06bd449ac478cad8", checked := Tryd.checked }
namespace Rows
def none {H : Type} : Left H := { results := [], args := [] }

/- WHAT THE LISTED PACKAGE-LEVEL VARIABLES READ AS WHEN THE CALL BEGINS. Each datum BY PROGRAM (the guide's laid-datum.mjs) off the statement by which the dump's own 'gosem.cut.vars' lays the variable. In a bare row this is a premise. The card (YtoajgeemkmfboaaDoorCards.lean) ties it to the program's text. -/
def laid_folio_crc_steps {H : Type} : DataW H := .agg [.lit (.int .u32 0), .lit (.int .u32 498536548), .lit (.int .u32 997073096), .lit (.int .u32 651767980), .lit (.int .u32 1994146192), .lit (.int .u32 1802195444), .lit (.int .u32 1303535960), .lit (.int .u32 1342533948), .lit (.int .u32 3988292384), .lit (.int .u32 4027552580), .lit (.int .u32 3604390888), .lit (.int .u32 3412177804), .lit (.int .u32 2607071920), .lit (.int .u32 2262029012), .lit (.int .u32 2685067896), .lit (.int .u32 3183342108)]

/-- 'foliolaw3.CrcSum': WHATEVER THE INPUT: true; the input reads as it did. -/
def crcSumSpec : ChangeSpec := { name := "crcSum", fn := fun _ => fun
  | [d1, d2, d3] => { results := [.lit (.bool true)], args := [d1, d2, d3] }
  | _ => none }
def crcSumRow : OpenClaim := { program := "ytoajgeemkmfboaadoor", sum := "7dab88905894ba06f6a7fabc6131e1052f41f4624f42603d06bd449ac478cad8", func := "folio/foliolaw3.CrcSum", spec := "crcSum", named := ["folio/crc.steps"], apart := false, laid := [("folio/crc.steps", laid_folio_crc_steps)] }
def CrcSumSaid : Prop := crcSumRow.holds Tryd.pinned (OpenSpec.ofChange crcSumSpec)

/-- ITS FALSE NEIGHBOUR: 'it returns false'. Refute it at one input. -/
def crcSumWrong : ChangeSpec := { name := "crcSum", fn := fun _ => fun
  | [d1, d2, d3] => { results := [.lit (.bool false)], args := [d1, d2, d3] }
  | _ => none }
def CrcSumWrongFalsely : Prop := crcSumRow.holds Tryd.pinned (OpenSpec.ofChange crcSumWrong)

/-- 'foliolaw3.CrcSeal': WHATEVER THE INPUT: true; the input reads as it did. -/
def crcSealSpec : ChangeSpec := { name := "crcSeal", fn := fun _ => fun
  | [d] => { results := [.lit (.bool true)], args := [d] }
  | _ => none }
def crcSealRow : OpenClaim := { program := "ytoajgeemkmfboaadoor", sum := "7dab88905894ba06f6a7fabc6131e1052f41f4624f42603d06bd449ac478cad8", func := "folio/foliolaw3.CrcSeal", spec := "crcSeal", named := ["folio/crc.steps"], apart := false, laid := [("folio/crc.steps", laid_folio_crc_steps)] }
def CrcSealSaid : Prop := crcSealRow.holds Tryd.pinned (OpenSpec.ofChange crcSealSpec)

/-- ITS FALSE NEIGHBOUR: 'it returns false'. Refute it at one input. -/
def crcSealWrong : ChangeSpec := { name := "crcSeal", fn := fun _ => fun
  | [d] => { results := [.lit (.bool false)], args := [d] }
  | _ => none }
def CrcSealWrongFalsely : Prop := crcSealRow.holds Tryd.pinned (OpenSpec.ofChange crcSealWrong)

/-- 'foliolaw3.CrcScan': WHATEVER THE INPUT: true; the input reads as it did. -/
def crcScanSpec : ChangeSpec := { name := "crcScan", fn := fun _ => fun
  | [d1, d2, d3, d4] => { results := [.lit (.bool true)], args := [d1, d2, d3, d4] }
  | _ => none }
def crcScanRow : OpenClaim := { program := "ytoajgeemkmfboaadoor", sum := "7dab88905894ba06f6a7fabc6131e1052f41f4624f42603d06bd449ac478cad8", func := "folio/foliolaw3.CrcScan", spec := "crcScan", named := ["folio/crc.steps"], apart := false, laid := [("folio/crc.steps", laid_folio_crc_steps)] }
def CrcScanSaid : Prop := crcScanRow.holds Tryd.pinned (OpenSpec.ofChange crcScanSpec)

/-- ITS FALSE NEIGHBOUR: 'it returns false'. Refute it at one input. -/
def crcScanWrong : ChangeSpec := { name := "crcScan", fn := fun _ => fun
  | [d1, d2, d3, d4] => { results := [.lit (.bool false)], args := [d1, d2, d3, d4] }
  | _ => none }
def CrcScanWrongFalsely : Prop := crcScanRow.holds Tryd.pinned (OpenSpec.ofChange crcScanWrong)

/-- 'foliolaw3.CrcCut': WHATEVER THE INPUT: true; the input reads as it did. -/
def crcCutSpec : ChangeSpec := { name := "crcCut", fn := fun _ => fun
  | [d1, d2] => { results := [.lit (.bool true)], args := [d1, d2] }
  | _ => none }
def crcCutRow : OpenClaim := { program := "ytoajgeemkmfboaadoor", sum := "7dab88905894ba06f6a7fabc6131e1052f41f4624f42603d06bd449ac478cad8", func := "folio/foliolaw3.CrcCut", spec := "crcCut", named := ["folio/crc.steps"], apart := false, laid := [("folio/crc.steps", laid_folio_crc_steps)] }
def CrcCutSaid : Prop := crcCutRow.holds Tryd.pinned (OpenSpec.ofChange crcCutSpec)

/-- ITS FALSE NEIGHBOUR: 'it returns false'. Refute it at one input. -/
def crcCutWrong : ChangeSpec := { name := "crcCut", fn := fun _ => fun
  | [d1, d2] => { results := [.lit (.bool false)], args := [d1, d2] }
  | _ => none }
def CrcCutWrongFalsely : Prop := crcCutRow.holds Tryd.pinned (OpenSpec.ofChange crcCutWrong)

/-- 'foliolaw3.CrcRot': WHATEVER THE INPUT: true; the input reads as it did. -/
def crcRotSpec : ChangeSpec := { name := "crcRot", fn := fun _ => fun
  | [d1, d2, d3] => { results := [.lit (.bool true)], args := [d1, d2, d3] }
  | _ => none }
def crcRotRow : OpenClaim := { program := "ytoajgeemkmfboaadoor", sum := "7dab88905894ba06f6a7fabc6131e1052f41f4624f42603d06bd449ac478cad8", func := "folio/foliolaw3.CrcRot", spec := "crcRot", named := ["folio/crc.steps"], apart := false, laid := [("folio/crc.steps", laid_folio_crc_steps)] }
def CrcRotSaid : Prop := crcRotRow.holds Tryd.pinned (OpenSpec.ofChange crcRotSpec)

/-- ITS FALSE NEIGHBOUR: 'it returns false'. Refute it at one input. -/
def crcRotWrong : ChangeSpec := { name := "crcRot", fn := fun _ => fun
  | [d1, d2, d3] => { results := [.lit (.bool false)], args := [d1, d2, d3] }
  | _ => none }
def CrcRotWrongFalsely : Prop := crcRotRow.holds Tryd.pinned (OpenSpec.ofChange crcRotWrong)

/-- 'foliolaw3.CrcThree': WHATEVER THE INPUT: true; the input reads as it did. -/
def crcThreeSpec : ChangeSpec := { name := "crcThree", fn := fun _ => fun
  | [d1, d2, d3] => { results := [.lit (.bool true)], args := [d1, d2, d3] }
  | _ => none }
def crcThreeRow : OpenClaim := { program := "ytoajgeemkmfboaadoor", sum := "7dab88905894ba06f6a7fabc6131e1052f41f4624f42603d06bd449ac478cad8", func := "folio/foliolaw3.CrcThree", spec := "crcThree", named := ["folio/crc.steps"], apart := false, laid := [("folio/crc.steps", laid_folio_crc_steps)] }
def CrcThreeSaid : Prop := crcThreeRow.holds Tryd.pinned (OpenSpec.ofChange crcThreeSpec)

/-- ITS FALSE NEIGHBOUR: 'it returns false'. Refute it at one input. -/
def crcThreeWrong : ChangeSpec := { name := "crcThree", fn := fun _ => fun
  | [d1, d2, d3] => { results := [.lit (.bool false)], args := [d1, d2, d3] }
  | _ => none }
def CrcThreeWrongFalsely : Prop := crcThreeRow.holds Tryd.pinned (OpenSpec.ofChange crcThreeWrong)

/-- 'foliolaw3.CrcBurst': WHATEVER THE INPUT: true; the input reads as it did. -/
def crcBurstSpec : ChangeSpec := { name := "crcBurst", fn := fun _ => fun
  | [d1, d2, d3] => { results := [.lit (.bool true)], args := [d1, d2, d3] }
  | _ => none }
def crcBurstRow : OpenClaim := { program := "ytoajgeemkmfboaadoor", sum := "7dab88905894ba06f6a7fabc6131e1052f41f4624f42603d06bd449ac478cad8", func := "folio/foliolaw3.CrcBurst", spec := "crcBurst", named := ["folio/crc.steps"], apart := false, laid := [("folio/crc.steps", laid_folio_crc_steps)] }
def CrcBurstSaid : Prop := crcBurstRow.holds Tryd.pinned (OpenSpec.ofChange crcBurstSpec)

/-- ITS FALSE NEIGHBOUR: 'it returns false'. Refute it at one input. -/
def crcBurstWrong : ChangeSpec := { name := "crcBurst", fn := fun _ => fun
  | [d1, d2, d3] => { results := [.lit (.bool false)], args := [d1, d2, d3] }
  | _ => none }
def CrcBurstWrongFalsely : Prop := crcBurstRow.holds Tryd.pinned (OpenSpec.ofChange crcBurstWrong)

/-- 'foliolaw3.CrcMany': WHATEVER THE INPUT: true; the input reads as it did. -/
def crcManySpec : ChangeSpec := { name := "crcMany", fn := fun _ => fun
  | [d1, d2] => { results := [.lit (.bool true)], args := [d1, d2] }
  | _ => none }
def crcManyRow : OpenClaim := { program := "ytoajgeemkmfboaadoor", sum := "7dab88905894ba06f6a7fabc6131e1052f41f4624f42603d06bd449ac478cad8", func := "folio/foliolaw3.CrcMany", spec := "crcMany", named := ["folio/crc.steps"], apart := false, laid := [("folio/crc.steps", laid_folio_crc_steps)] }
def CrcManySaid : Prop := crcManyRow.holds Tryd.pinned (OpenSpec.ofChange crcManySpec)

/-- ITS FALSE NEIGHBOUR: 'it returns false'. Refute it at one input. -/
def crcManyWrong : ChangeSpec := { name := "crcMany", fn := fun _ => fun
  | [d1, d2] => { results := [.lit (.bool false)], args := [d1, d2] }
  | _ => none }
def CrcManyWrongFalsely : Prop := crcManyRow.holds Tryd.pinned (OpenSpec.ofChange crcManyWrong)

/- THE SECOND FORM. 'bulk': how many values and letters a reading holds, each counted each time it is reached (what is shared counts as often as it is met; a slice's spare places count too). A statement '..UptoSaid' is the law's where the arguments, and the package variables that the reading takes, are together of bulk at most 1048576: NARROWER than '..Said'. Prove '..Said' where nothing that the law and all that it calls make is longer than what came in: it says more and counts as full. Else prove '..UptoSaid'. A law counts once. -/
mutual
def uptoBulk {H : Type} : DataW H → Nat
  | .lit (.string bytes) => bytes.length + 1
  | .lit _ => 1
  | .nil => 1
  | .ptr d => uptoBulk d + 1
  | .slice elems spare => uptoBulkAll elems + uptoBulkAll spare + 1
  | .agg parts => uptoBulkAll parts + 1
  | .iface _ d => uptoBulk d + 1
  | .map entries => uptoBulkEntries entries + 1
  | .held _ => 1
def uptoBulkAll {H : Type} : List (DataW H) → Nat
  | [] => 0
  | d :: r => uptoBulk d + uptoBulkAll r
def uptoBulkEntries {H : Type} : List (Lit × DataW H) → Nat
  | [] => 0
  | x :: r => uptoBulkEntry x + uptoBulkEntries r
def uptoBulkEntry {H : Type} : Lit × DataW H → Nat
  | (.string bytes, d) => bytes.length + uptoBulk d + 1
  | (_, d) => uptoBulk d + 1
 end
def uptoSmall : (H : Type) → List (DataW H) → Bool := fun _ ds => decide (uptoBulkAll ds ≤ 1048576)
def OpenSpec.upto (s : _root_.Go.ChangeSpec) : _root_.Go.OpenSpec := { _root_.Go.OpenSpec.ofChange s with cond := some uptoSmall }

/-- 'foliolaw3.CrcSum', WHERE WHAT IT READS IS OF BULK AT MOST 1048576: true; the input reads as it did. -/
def crcSumUptoRow : OpenClaim := { program := "ytoajgeemkmfboaadoor", sum := "7dab88905894ba06f6a7fabc6131e1052f41f4624f42603d06bd449ac478cad8", func := "folio/foliolaw3.CrcSum", spec := "crcSum", named := ["folio/crc.steps"], apart := false, laid := [("folio/crc.steps", laid_folio_crc_steps)], narrowed := true }
def CrcSumUptoSaid : Prop := crcSumUptoRow.holds Tryd.pinned (OpenSpec.upto crcSumSpec)

/-- 'foliolaw3.CrcSeal', WHERE WHAT IT READS IS OF BULK AT MOST 1048576: true; the input reads as it did. -/
def crcSealUptoRow : OpenClaim := { program := "ytoajgeemkmfboaadoor", sum := "7dab88905894ba06f6a7fabc6131e1052f41f4624f42603d06bd449ac478cad8", func := "folio/foliolaw3.CrcSeal", spec := "crcSeal", named := ["folio/crc.steps"], apart := false, laid := [("folio/crc.steps", laid_folio_crc_steps)], narrowed := true }
def CrcSealUptoSaid : Prop := crcSealUptoRow.holds Tryd.pinned (OpenSpec.upto crcSealSpec)

/-- 'foliolaw3.CrcScan', WHERE WHAT IT READS IS OF BULK AT MOST 1048576: true; the input reads as it did. -/
def crcScanUptoRow : OpenClaim := { program := "ytoajgeemkmfboaadoor", sum := "7dab88905894ba06f6a7fabc6131e1052f41f4624f42603d06bd449ac478cad8", func := "folio/foliolaw3.CrcScan", spec := "crcScan", named := ["folio/crc.steps"], apart := false, laid := [("folio/crc.steps", laid_folio_crc_steps)], narrowed := true }
def CrcScanUptoSaid : Prop := crcScanUptoRow.holds Tryd.pinned (OpenSpec.upto crcScanSpec)

/-- 'foliolaw3.CrcCut', WHERE WHAT IT READS IS OF BULK AT MOST 1048576: true; the input reads as it did. -/
def crcCutUptoRow : OpenClaim := { program := "ytoajgeemkmfboaadoor", sum := "7dab88905894ba06f6a7fabc6131e1052f41f4624f42603d06bd449ac478cad8", func := "folio/foliolaw3.CrcCut", spec := "crcCut", named := ["folio/crc.steps"], apart := false, laid := [("folio/crc.steps", laid_folio_crc_steps)], narrowed := true }
def CrcCutUptoSaid : Prop := crcCutUptoRow.holds Tryd.pinned (OpenSpec.upto crcCutSpec)

/-- 'foliolaw3.CrcRot', WHERE WHAT IT READS IS OF BULK AT MOST 1048576: true; the input reads as it did. -/
def crcRotUptoRow : OpenClaim := { program := "ytoajgeemkmfboaadoor", sum := "7dab88905894ba06f6a7fabc6131e1052f41f4624f42603d06bd449ac478cad8", func := "folio/foliolaw3.CrcRot", spec := "crcRot", named := ["folio/crc.steps"], apart := false, laid := [("folio/crc.steps", laid_folio_crc_steps)], narrowed := true }
def CrcRotUptoSaid : Prop := crcRotUptoRow.holds Tryd.pinned (OpenSpec.upto crcRotSpec)

/-- 'foliolaw3.CrcThree', WHERE WHAT IT READS IS OF BULK AT MOST 1048576: true; the input reads as it did. -/
def crcThreeUptoRow : OpenClaim := { program := "ytoajgeemkmfboaadoor", sum := "7dab88905894ba06f6a7fabc6131e1052f41f4624f42603d06bd449ac478cad8", func := "folio/foliolaw3.CrcThree", spec := "crcThree", named := ["folio/crc.steps"], apart := false, laid := [("folio/crc.steps", laid_folio_crc_steps)], narrowed := true }
def CrcThreeUptoSaid : Prop := crcThreeUptoRow.holds Tryd.pinned (OpenSpec.upto crcThreeSpec)

/-- 'foliolaw3.CrcBurst', WHERE WHAT IT READS IS OF BULK AT MOST 1048576: true; the input reads as it did. -/
def crcBurstUptoRow : OpenClaim := { program := "ytoajgeemkmfboaadoor", sum := "7dab88905894ba06f6a7fabc6131e1052f41f4624f42603d06bd449ac478cad8", func := "folio/foliolaw3.CrcBurst", spec := "crcBurst", named := ["folio/crc.steps"], apart := false, laid := [("folio/crc.steps", laid_folio_crc_steps)], narrowed := true }
def CrcBurstUptoSaid : Prop := crcBurstUptoRow.holds Tryd.pinned (OpenSpec.upto crcBurstSpec)

/-- 'foliolaw3.CrcMany', WHERE WHAT IT READS IS OF BULK AT MOST 1048576: true; the input reads as it did. -/
def crcManyUptoRow : OpenClaim := { program := "ytoajgeemkmfboaadoor", sum := "7dab88905894ba06f6a7fabc6131e1052f41f4624f42603d06bd449ac478cad8", func := "folio/foliolaw3.CrcMany", spec := "crcMany", named := ["folio/crc.steps"], apart := false, laid := [("folio/crc.steps", laid_folio_crc_steps)], narrowed := true }
def CrcManyUptoSaid : Prop := crcManyUptoRow.holds Tryd.pinned (OpenSpec.upto crcManySpec)

end Rows
end Go.Proofs.YtoajgeemkmfboaaDoor
