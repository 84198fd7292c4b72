/-
  NARROWER THAN 'FOR EVERY INPUT', by the rows' own cells (each row's printed sentence says how): EditBytes: laid · EditRot: laid · EditAny: laid · EditEnds: laid · EditMany: laid.
  DERIVED. THE GIVEN ROWS OF THIS SEAT. 5 by the template 'for every input the law returns true; each argument reads behind the call as it read before'; 0 by the template 'total and deterministic' (their statements: YtaffmfocjaihlaaDoorTotals.lean).
  GIVEN WITH THE SEED: the statements are not yours to turn. If you find one false, say at which input.
  Laid BY PROGRAM, IN A SANDBOX (cutbox-rows.mjs): the forced cells as the released guide's own fill.sh prints them over the translation c5379a1bead7dcf8… (all of the seat's roots in one cut). By AI agents, Wed Nov 11 2026. No macro, syntax, notation, axiom, sorry.
-/
import Derived.Test.YtaffmfocjaihlaaDoorChecked
import GoSem.Claim
import GoSem.ClaimJoined
import GoSem.ClaimMapViews
import Derived.JoinedTies
import Derived.KernelRfl
namespace Go.Proofs.YtaffmfocjaihlaaDoor
/- THE CELL 'sum', in the pinned program and in every row, IS THE sha256 OF THE DUMP (.gsa) THAT YtaffmfocjaihlaaDoorProg.lean LOADS. Nothing in Lean hashes anything: it is a label: what it is worth is what the hold of that sum in a sandbox is worth. -/
noncomputable def Tryd.pinned : Pinned := { name := "ytaffmfocjaihlaadoor", sum := "c5379a1bead7dcf8bad41fc867114c2f52f2fb2b62b845bfcb41fc678517159d", checked := Tryd.checked }
namespace Rows
def none {H : Type} : Left H := { results := [], args := [] }

/- WHAT THE LISTED PACKAGE-LEVEL VARIABLES READ AS WHEN THE CALL BEGINS. Each datum BY PROGRAM (the guide's laid-datum.mjs) off the statement by which the dump's own 'gosem.cut.vars' lays the variable. In a bare row this is a premise. The card (YtaffmfocjaihlaaDoorCards.lean) ties it to the program's text. -/
def laid_folio_crc_steps {H : Type} : DataW H := .agg [.lit (.int .u32 0), .lit (.int .u32 498536548), .lit (.int .u32 997073096), .lit (.int .u32 651767980), .lit (.int .u32 1994146192), .lit (.int .u32 1802195444), .lit (.int .u32 1303535960), .lit (.int .u32 1342533948), .lit (.int .u32 3988292384), .lit (.int .u32 4027552580), .lit (.int .u32 3604390888), .lit (.int .u32 3412177804), .lit (.int .u32 2607071920), .lit (.int .u32 2262029012), .lit (.int .u32 2685067896), .lit (.int .u32 3183342108)]

/-- 'foliolaw18.EditBytes': WHATEVER THE INPUT: true; the input reads as it did. -/
def editBytesSpec : ChangeSpec := { name := "editBytes", fn := fun _ => fun
  | [d1, d2] => { results := [.lit (.bool true)], args := [d1, d2] }
  | _ => none }
def editBytesRow : OpenClaim := { program := "ytaffmfocjaihlaadoor", sum := "c5379a1bead7dcf8bad41fc867114c2f52f2fb2b62b845bfcb41fc678517159d", func := "folio/foliolaw18.EditBytes", spec := "editBytes", unfollowed := true, recurses := true, named := ["folio/crc.steps"], apart := false, laid := [("folio/crc.steps", laid_folio_crc_steps)] }
def EditBytesSaid : Prop := editBytesRow.holds Tryd.pinned (OpenSpec.ofChange editBytesSpec)

/-- ITS FALSE NEIGHBOUR: 'it returns false'. Refute it at one input. -/
def editBytesWrong : ChangeSpec := { name := "editBytes", fn := fun _ => fun
  | [d1, d2] => { results := [.lit (.bool false)], args := [d1, d2] }
  | _ => none }
def EditBytesWrongFalsely : Prop := editBytesRow.holds Tryd.pinned (OpenSpec.ofChange editBytesWrong)

/-- 'foliolaw18.EditRot': WHATEVER THE INPUT: true; the input reads as it did. -/
def editRotSpec : ChangeSpec := { name := "editRot", fn := fun _ => fun
  | [d1, d2, d3, d4] => { results := [.lit (.bool true)], args := [d1, d2, d3, d4] }
  | _ => none }
def editRotRow : OpenClaim := { program := "ytaffmfocjaihlaadoor", sum := "c5379a1bead7dcf8bad41fc867114c2f52f2fb2b62b845bfcb41fc678517159d", func := "folio/foliolaw18.EditRot", spec := "editRot", unfollowed := true, recurses := true, named := ["folio/crc.steps"], apart := false, laid := [("folio/crc.steps", laid_folio_crc_steps)] }
def EditRotSaid : Prop := editRotRow.holds Tryd.pinned (OpenSpec.ofChange editRotSpec)

/-- ITS FALSE NEIGHBOUR: 'it returns false'. Refute it at one input. -/
def editRotWrong : ChangeSpec := { name := "editRot", fn := fun _ => fun
  | [d1, d2, d3, d4] => { results := [.lit (.bool false)], args := [d1, d2, d3, d4] }
  | _ => none }
def EditRotWrongFalsely : Prop := editRotRow.holds Tryd.pinned (OpenSpec.ofChange editRotWrong)

/-- 'foliolaw18.EditAny': WHATEVER THE INPUT: true; the input reads as it did. -/
def editAnySpec : ChangeSpec := { name := "editAny", fn := fun _ => fun
  | [d] => { results := [.lit (.bool true)], args := [d] }
  | _ => none }
def editAnyRow : OpenClaim := { program := "ytaffmfocjaihlaadoor", sum := "c5379a1bead7dcf8bad41fc867114c2f52f2fb2b62b845bfcb41fc678517159d", func := "folio/foliolaw18.EditAny", spec := "editAny", unfollowed := true, recurses := true, named := ["folio/crc.steps"], apart := false, laid := [("folio/crc.steps", laid_folio_crc_steps)] }
def EditAnySaid : Prop := editAnyRow.holds Tryd.pinned (OpenSpec.ofChange editAnySpec)

/-- ITS FALSE NEIGHBOUR: 'it returns false'. Refute it at one input. -/
def editAnyWrong : ChangeSpec := { name := "editAny", fn := fun _ => fun
  | [d] => { results := [.lit (.bool false)], args := [d] }
  | _ => none }
def EditAnyWrongFalsely : Prop := editAnyRow.holds Tryd.pinned (OpenSpec.ofChange editAnyWrong)

/-- 'foliolaw18.EditEnds': WHATEVER THE INPUT: true; the input reads as it did. -/
def editEndsSpec : ChangeSpec := { name := "editEnds", fn := fun _ => fun
  | [d1, d2, d3, d4, d5, d6] => { results := [.lit (.bool true)], args := [d1, d2, d3, d4, d5, d6] }
  | _ => none }
def editEndsRow : OpenClaim := { program := "ytaffmfocjaihlaadoor", sum := "c5379a1bead7dcf8bad41fc867114c2f52f2fb2b62b845bfcb41fc678517159d", func := "folio/foliolaw18.EditEnds", spec := "editEnds", unfollowed := true, recurses := true, named := ["folio/crc.steps"], apart := false, laid := [("folio/crc.steps", laid_folio_crc_steps)] }
def EditEndsSaid : Prop := editEndsRow.holds Tryd.pinned (OpenSpec.ofChange editEndsSpec)

/-- ITS FALSE NEIGHBOUR: 'it returns false'. Refute it at one input. -/
def editEndsWrong : ChangeSpec := { name := "editEnds", fn := fun _ => fun
  | [d1, d2, d3, d4, d5, d6] => { results := [.lit (.bool false)], args := [d1, d2, d3, d4, d5, d6] }
  | _ => none }
def EditEndsWrongFalsely : Prop := editEndsRow.holds Tryd.pinned (OpenSpec.ofChange editEndsWrong)

/-- 'foliolaw18.EditMany': WHATEVER THE INPUT: true; the input reads as it did. -/
def editManySpec : ChangeSpec := { name := "editMany", fn := fun _ => fun
  | [d1, d2] => { results := [.lit (.bool true)], args := [d1, d2] }
  | _ => none }
def editManyRow : OpenClaim := { program := "ytaffmfocjaihlaadoor", sum := "c5379a1bead7dcf8bad41fc867114c2f52f2fb2b62b845bfcb41fc678517159d", func := "folio/foliolaw18.EditMany", spec := "editMany", unfollowed := true, recurses := true, named := ["folio/crc.steps"], apart := false, laid := [("folio/crc.steps", laid_folio_crc_steps)] }
def EditManySaid : Prop := editManyRow.holds Tryd.pinned (OpenSpec.ofChange editManySpec)

/-- ITS FALSE NEIGHBOUR: 'it returns false'. Refute it at one input. -/
def editManyWrong : ChangeSpec := { name := "editMany", fn := fun _ => fun
  | [d1, d2] => { results := [.lit (.bool false)], args := [d1, d2] }
  | _ => none }
def EditManyWrongFalsely : Prop := editManyRow.holds Tryd.pinned (OpenSpec.ofChange editManyWrong)

/- THE SECOND FORM. 'bulk': how many values and letters a reading holds, each counted each time it is reached (what is shared counts as often as it is met; a slice's spare places count too). A statement '..UptoSaid' is the law's where the arguments, and the package variables that the reading takes, are together of bulk at most 1048576: NARROWER than '..Said'. Prove '..Said' where nothing that the law and all that it calls make is longer than what came in: it says more and counts as full. Else prove '..UptoSaid'. A law counts once. -/
mutual
def uptoBulk {H : Type} : DataW H → Nat
  | .lit (.string bytes) => bytes.length + 1
  | .lit _ => 1
  | .nil => 1
  | .ptr d => uptoBulk d + 1
  | .slice elems spare => uptoBulkAll elems + uptoBulkAll spare + 1
  | .agg parts => uptoBulkAll parts + 1
  | .iface _ d => uptoBulk d + 1
  | .map entries => uptoBulkEntries entries + 1
  | .held _ => 1
def uptoBulkAll {H : Type} : List (DataW H) → Nat
  | [] => 0
  | d :: r => uptoBulk d + uptoBulkAll r
def uptoBulkEntries {H : Type} : List (Lit × DataW H) → Nat
  | [] => 0
  | x :: r => uptoBulkEntry x + uptoBulkEntries r
def uptoBulkEntry {H : Type} : Lit × DataW H → Nat
  | (.string bytes, d) => bytes.length + uptoBulk d + 1
  | (_, d) => uptoBulk d + 1
 end
def uptoSmall : (H : Type) → List (DataW H) → Bool := fun _ ds => decide (uptoBulkAll ds ≤ 1048576)
def OpenSpec.upto (s : _root_.Go.ChangeSpec) : _root_.Go.OpenSpec := { _root_.Go.OpenSpec.ofChange s with cond := some uptoSmall }

/-- 'foliolaw18.EditBytes', WHERE WHAT IT READS IS OF BULK AT MOST 1048576: true; the input reads as it did. -/
def editBytesUptoRow : OpenClaim := { program := "ytaffmfocjaihlaadoor", sum := "c5379a1bead7dcf8bad41fc867114c2f52f2fb2b62b845bfcb41fc678517159d", func := "folio/foliolaw18.EditBytes", spec := "editBytes", unfollowed := true, recurses := true, named := ["folio/crc.steps"], apart := false, laid := [("folio/crc.steps", laid_folio_crc_steps)], narrowed := true }
def EditBytesUptoSaid : Prop := editBytesUptoRow.holds Tryd.pinned (OpenSpec.upto editBytesSpec)

/-- 'foliolaw18.EditRot', WHERE WHAT IT READS IS OF BULK AT MOST 1048576: true; the input reads as it did. -/
def editRotUptoRow : OpenClaim := { program := "ytaffmfocjaihlaadoor", sum := "c5379a1bead7dcf8bad41fc867114c2f52f2fb2b62b845bfcb41fc678517159d", func := "folio/foliolaw18.EditRot", spec := "editRot", unfollowed := true, recurses := true, named := ["folio/crc.steps"], apart := false, laid := [("folio/crc.steps", laid_folio_crc_steps)], narrowed := true }
def EditRotUptoSaid : Prop := editRotUptoRow.holds Tryd.pinned (OpenSpec.upto editRotSpec)

/-- 'foliolaw18.EditAny', WHERE WHAT IT READS IS OF BULK AT MOST 1048576: true; the input reads as it did. -/
def editAnyUptoRow : OpenClaim := { program := "ytaffmfocjaihlaadoor", sum := "c5379a1bead7dcf8bad41fc867114c2f52f2fb2b62b845bfcb41fc678517159d", func := "folio/foliolaw18.EditAny", spec := "editAny", unfollowed := true, recurses := true, named := ["folio/crc.steps"], apart := false, laid := [("folio/crc.steps", laid_folio_crc_steps)], narrowed := true }
def EditAnyUptoSaid : Prop := editAnyUptoRow.holds Tryd.pinned (OpenSpec.upto editAnySpec)

/-- 'foliolaw18.EditEnds', WHERE WHAT IT READS IS OF BULK AT MOST 1048576: true; the input reads as it did. -/
def editEndsUptoRow : OpenClaim := { program := "ytaffmfocjaihlaadoor", sum := "c5379a1bead7dcf8bad41fc867114c2f52f2fb2b62b845bfcb41fc678517159d", func := "folio/foliolaw18.EditEnds", spec := "editEnds", unfollowed := true, recurses := true, named := ["folio/crc.steps"], apart := false, laid := [("folio/crc.steps", laid_folio_crc_steps)], narrowed := true }
def EditEndsUptoSaid : Prop := editEndsUptoRow.holds Tryd.pinned (OpenSpec.upto editEndsSpec)

/-- 'foliolaw18.EditMany', WHERE WHAT IT READS IS OF BULK AT MOST 1048576: true; the input reads as it did. -/
def editManyUptoRow : OpenClaim := { program := "ytaffmfocjaihlaadoor", sum := "c5379a1bead7dcf8bad41fc867114c2f52f2fb2b62b845bfcb41fc678517159d", func := "folio/foliolaw18.EditMany", spec := "editMany", unfollowed := true, recurses := true, named := ["folio/crc.steps"], apart := false, laid := [("folio/crc.steps", laid_folio_crc_steps)], narrowed := true }
def EditManyUptoSaid : Prop := editManyUptoRow.holds Tryd.pinned (OpenSpec.upto editManySpec)

end Rows
end Go.Proofs.YtaffmfocjaihlaaDoor
