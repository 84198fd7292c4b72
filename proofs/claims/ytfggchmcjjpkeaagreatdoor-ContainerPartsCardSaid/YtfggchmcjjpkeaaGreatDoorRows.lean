/-
  NARROWER THAN 'FOR EVERY INPUT', by the rows' own cells (each row's printed sentence says how): ContainerRot: laid · ContainerAny: laid · ContainerParts: laid · ContainerPoor: laid.
  DERIVED. THE GIVEN ROWS OF THIS SEAT. 4 by the template 'for every input the law returns true; each argument reads behind the call as it read before'; 0 by the template 'total and deterministic' (their statements: YtfggchmcjjpkeaaGreatDoorTotals.lean).
  GIVEN WITH THE SEED: the statements are not yours to turn. If you find one false, say at which input.
  Laid BY PROGRAM, IN A SANDBOX (cutbox-rows.mjs): the forced cells as the released guide's own fill.sh prints them over the translation 4efbe28959cb7dd6… (all of the seat's roots in one cut). By AI agents, Wed Nov 11 2026. No macro, syntax, notation, axiom, sorry.
-/
import Derived.Test.YtfggchmcjjpkeaaGreatDoorChecked
import GoSem.Claim
import GoSem.ClaimJoined
import GoSem.ClaimMapViews
import Derived.JoinedTies
import Derived.KernelRfl
namespace Go.Proofs.YtfggchmcjjpkeaaGreatDoor
/- THE CELL 'sum', in the pinned program and in every row, IS THE sha256 OF THE DUMP (.gsa) THAT YtfggchmcjjpkeaaGreatDoorProg.lean LOADS. Nothing in Lean hashes anything: it is a label: what it is worth is what the hold of that sum in a sandbox is worth. -/
noncomputable def Tryz.pinned : Pinned := { name := "ytfggchmcjjpkeaagreatdoor", sum := "4efbe28959cb7dd65ed5216c3ab5162e10395a39bec5042a8a06035bb8637e33", checked := Tryz.checked }
namespace Rows
def none {H : Type} : Left H := { results := [], args := [] }

/- WHAT THE LISTED PACKAGE-LEVEL VARIABLES READ AS WHEN THE CALL BEGINS. Each datum BY PROGRAM (the guide's laid-datum.mjs) off the statement by which the dump's own 'gosem.cut.vars' lays the variable. In a bare row this is a premise. The card (YtfggchmcjjpkeaaGreatDoorCards.lean) ties it to the program's text. -/
def laid_folio_crc_steps {H : Type} : DataW H := .agg [.lit (.int .u32 0), .lit (.int .u32 498536548), .lit (.int .u32 997073096), .lit (.int .u32 651767980), .lit (.int .u32 1994146192), .lit (.int .u32 1802195444), .lit (.int .u32 1303535960), .lit (.int .u32 1342533948), .lit (.int .u32 3988292384), .lit (.int .u32 4027552580), .lit (.int .u32 3604390888), .lit (.int .u32 3412177804), .lit (.int .u32 2607071920), .lit (.int .u32 2262029012), .lit (.int .u32 2685067896), .lit (.int .u32 3183342108)]

/-- 'foliolaw11.ContainerRot': WHATEVER THE INPUT: true; the input reads as it did. -/
def containerRotSpec : ChangeSpec := { name := "containerRot", fn := fun _ => fun
  | [d1, d2, d3, d4, d5, d6] => { results := [.lit (.bool true)], args := [d1, d2, d3, d4, d5, d6] }
  | _ => none }
def containerRotRow : OpenClaim := { program := "ytfggchmcjjpkeaagreatdoor", sum := "4efbe28959cb7dd65ed5216c3ab5162e10395a39bec5042a8a06035bb8637e33", func := "folio/foliolaw11.ContainerRot", spec := "containerRot", inPlace := ["slices.overlaps[int]", "internal/bytealg.IndexByte"], unfollowed := true, recurses := true, named := ["folio/crc.steps"], apart := false, laid := [("folio/crc.steps", laid_folio_crc_steps)] }
def ContainerRotSaid : Prop := containerRotRow.holds Tryz.pinned (OpenSpec.ofChange containerRotSpec)

/-- ITS FALSE NEIGHBOUR: 'it returns false'. Refute it at one input. -/
def containerRotWrong : ChangeSpec := { name := "containerRot", fn := fun _ => fun
  | [d1, d2, d3, d4, d5, d6] => { results := [.lit (.bool false)], args := [d1, d2, d3, d4, d5, d6] }
  | _ => none }
def ContainerRotWrongFalsely : Prop := containerRotRow.holds Tryz.pinned (OpenSpec.ofChange containerRotWrong)

/-- 'foliolaw11.ContainerAny': WHATEVER THE INPUT: true; the input reads as it did. -/
def containerAnySpec : ChangeSpec := { name := "containerAny", fn := fun _ => fun
  | [d1, d2, d3] => { results := [.lit (.bool true)], args := [d1, d2, d3] }
  | _ => none }
def containerAnyRow : OpenClaim := { program := "ytfggchmcjjpkeaagreatdoor", sum := "4efbe28959cb7dd65ed5216c3ab5162e10395a39bec5042a8a06035bb8637e33", func := "folio/foliolaw11.ContainerAny", spec := "containerAny", inPlace := ["slices.overlaps[int]", "internal/bytealg.IndexByte"], unfollowed := true, recurses := true, named := ["folio/crc.steps"], apart := false, laid := [("folio/crc.steps", laid_folio_crc_steps)] }
def ContainerAnySaid : Prop := containerAnyRow.holds Tryz.pinned (OpenSpec.ofChange containerAnySpec)

/-- ITS FALSE NEIGHBOUR: 'it returns false'. Refute it at one input. -/
def containerAnyWrong : ChangeSpec := { name := "containerAny", fn := fun _ => fun
  | [d1, d2, d3] => { results := [.lit (.bool false)], args := [d1, d2, d3] }
  | _ => none }
def ContainerAnyWrongFalsely : Prop := containerAnyRow.holds Tryz.pinned (OpenSpec.ofChange containerAnyWrong)

/-- 'foliolaw11.ContainerParts': WHATEVER THE INPUT: true; the input reads as it did. -/
def containerPartsSpec : ChangeSpec := { name := "containerParts", fn := fun _ => fun
  | [d1, d2, d3] => { results := [.lit (.bool true)], args := [d1, d2, d3] }
  | _ => none }
def containerPartsRow : OpenClaim := { program := "ytfggchmcjjpkeaagreatdoor", sum := "4efbe28959cb7dd65ed5216c3ab5162e10395a39bec5042a8a06035bb8637e33", func := "folio/foliolaw11.ContainerParts", spec := "containerParts", inPlace := ["slices.overlaps[int]", "internal/bytealg.IndexByte"], unfollowed := true, recurses := true, named := ["folio/crc.steps"], apart := false, laid := [("folio/crc.steps", laid_folio_crc_steps)] }
def ContainerPartsSaid : Prop := containerPartsRow.holds Tryz.pinned (OpenSpec.ofChange containerPartsSpec)

/-- ITS FALSE NEIGHBOUR: 'it returns false'. Refute it at one input. -/
def containerPartsWrong : ChangeSpec := { name := "containerParts", fn := fun _ => fun
  | [d1, d2, d3] => { results := [.lit (.bool false)], args := [d1, d2, d3] }
  | _ => none }
def ContainerPartsWrongFalsely : Prop := containerPartsRow.holds Tryz.pinned (OpenSpec.ofChange containerPartsWrong)

/-- 'foliolaw11.ContainerPoor': WHATEVER THE INPUT: true; the input reads as it did. -/
def containerPoorSpec : ChangeSpec := { name := "containerPoor", fn := fun _ => fun
  | [d1, d2] => { results := [.lit (.bool true)], args := [d1, d2] }
  | _ => none }
def containerPoorRow : OpenClaim := { program := "ytfggchmcjjpkeaagreatdoor", sum := "4efbe28959cb7dd65ed5216c3ab5162e10395a39bec5042a8a06035bb8637e33", func := "folio/foliolaw11.ContainerPoor", spec := "containerPoor", inPlace := ["slices.overlaps[int]", "internal/bytealg.IndexByte"], unfollowed := true, recurses := true, named := ["folio/crc.steps"], apart := false, laid := [("folio/crc.steps", laid_folio_crc_steps)] }
def ContainerPoorSaid : Prop := containerPoorRow.holds Tryz.pinned (OpenSpec.ofChange containerPoorSpec)

/-- ITS FALSE NEIGHBOUR: 'it returns false'. Refute it at one input. -/
def containerPoorWrong : ChangeSpec := { name := "containerPoor", fn := fun _ => fun
  | [d1, d2] => { results := [.lit (.bool false)], args := [d1, d2] }
  | _ => none }
def ContainerPoorWrongFalsely : Prop := containerPoorRow.holds Tryz.pinned (OpenSpec.ofChange containerPoorWrong)

/- THE SECOND FORM. 'bulk': how many values and letters a reading holds, each counted each time it is reached (what is shared counts as often as it is met; a slice's spare places count too). A statement '..UptoSaid' is the law's where the arguments, and the package variables that the reading takes, are together of bulk at most 1048576: NARROWER than '..Said'. Prove '..Said' where nothing that the law and all that it calls make is longer than what came in: it says more and counts as full. Else prove '..UptoSaid'. A law counts once. -/
mutual
def uptoBulk {H : Type} : DataW H → Nat
  | .lit (.string bytes) => bytes.length + 1
  | .lit _ => 1
  | .nil => 1
  | .ptr d => uptoBulk d + 1
  | .slice elems spare => uptoBulkAll elems + uptoBulkAll spare + 1
  | .agg parts => uptoBulkAll parts + 1
  | .iface _ d => uptoBulk d + 1
  | .map entries => uptoBulkEntries entries + 1
  | .held _ => 1
def uptoBulkAll {H : Type} : List (DataW H) → Nat
  | [] => 0
  | d :: r => uptoBulk d + uptoBulkAll r
def uptoBulkEntries {H : Type} : List (Lit × DataW H) → Nat
  | [] => 0
  | x :: r => uptoBulkEntry x + uptoBulkEntries r
def uptoBulkEntry {H : Type} : Lit × DataW H → Nat
  | (.string bytes, d) => bytes.length + uptoBulk d + 1
  | (_, d) => uptoBulk d + 1
 end
def uptoSmall : (H : Type) → List (DataW H) → Bool := fun _ ds => decide (uptoBulkAll ds ≤ 1048576)
def OpenSpec.upto (s : _root_.Go.ChangeSpec) : _root_.Go.OpenSpec := { _root_.Go.OpenSpec.ofChange s with cond := some uptoSmall }

/-- 'foliolaw11.ContainerRot', WHERE WHAT IT READS IS OF BULK AT MOST 1048576: true; the input reads as it did. -/
def containerRotUptoRow : OpenClaim := { program := "ytfggchmcjjpkeaagreatdoor", sum := "4efbe28959cb7dd65ed5216c3ab5162e10395a39bec5042a8a06035bb8637e33", func := "folio/foliolaw11.ContainerRot", spec := "containerRot", inPlace := ["slices.overlaps[int]", "internal/bytealg.IndexByte"], unfollowed := true, recurses := true, named := ["folio/crc.steps"], apart := false, laid := [("folio/crc.steps", laid_folio_crc_steps)], narrowed := true }
def ContainerRotUptoSaid : Prop := containerRotUptoRow.holds Tryz.pinned (OpenSpec.upto containerRotSpec)

/-- 'foliolaw11.ContainerAny', WHERE WHAT IT READS IS OF BULK AT MOST 1048576: true; the input reads as it did. -/
def containerAnyUptoRow : OpenClaim := { program := "ytfggchmcjjpkeaagreatdoor", sum := "4efbe28959cb7dd65ed5216c3ab5162e10395a39bec5042a8a06035bb8637e33", func := "folio/foliolaw11.ContainerAny", spec := "containerAny", inPlace := ["slices.overlaps[int]", "internal/bytealg.IndexByte"], unfollowed := true, recurses := true, named := ["folio/crc.steps"], apart := false, laid := [("folio/crc.steps", laid_folio_crc_steps)], narrowed := true }
def ContainerAnyUptoSaid : Prop := containerAnyUptoRow.holds Tryz.pinned (OpenSpec.upto containerAnySpec)

/-- 'foliolaw11.ContainerParts', WHERE WHAT IT READS IS OF BULK AT MOST 1048576: true; the input reads as it did. -/
def containerPartsUptoRow : OpenClaim := { program := "ytfggchmcjjpkeaagreatdoor", sum := "4efbe28959cb7dd65ed5216c3ab5162e10395a39bec5042a8a06035bb8637e33", func := "folio/foliolaw11.ContainerParts", spec := "containerParts", inPlace := ["slices.overlaps[int]", "internal/bytealg.IndexByte"], unfollowed := true, recurses := true, named := ["folio/crc.steps"], apart := false, laid := [("folio/crc.steps", laid_folio_crc_steps)], narrowed := true }
def ContainerPartsUptoSaid : Prop := containerPartsUptoRow.holds Tryz.pinned (OpenSpec.upto containerPartsSpec)

/-- 'foliolaw11.ContainerPoor', WHERE WHAT IT READS IS OF BULK AT MOST 1048576: true; the input reads as it did. -/
def containerPoorUptoRow : OpenClaim := { program := "ytfggchmcjjpkeaagreatdoor", sum := "4efbe28959cb7dd65ed5216c3ab5162e10395a39bec5042a8a06035bb8637e33", func := "folio/foliolaw11.ContainerPoor", spec := "containerPoor", inPlace := ["slices.overlaps[int]", "internal/bytealg.IndexByte"], unfollowed := true, recurses := true, named := ["folio/crc.steps"], apart := false, laid := [("folio/crc.steps", laid_folio_crc_steps)], narrowed := true }
def ContainerPoorUptoSaid : Prop := containerPoorUptoRow.holds Tryz.pinned (OpenSpec.upto containerPoorSpec)

end Rows
end Go.Proofs.YtfggchmcjjpkeaaGreatDoor
