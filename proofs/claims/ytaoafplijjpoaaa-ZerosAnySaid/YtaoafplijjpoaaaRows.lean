/-
  No cell of these rows narrows 'for every input' (looked for: loops, veiled, ifaces, maps, wideKeys, modest, calm, conditions, laid).
  DERIVED. THE GIVEN ROWS OF THIS SEAT. 4 by the template 'for every input the law returns true; each argument reads behind the call as it read before'; 0 by the template 'total and deterministic' (their statements: YtaoafplijjpoaaaTotals.lean).
  GIVEN WITH THE SEED: the statements are not yours to turn. If you find one false, say at which input.
  Laid BY PROGRAM, IN A SANDBOX (cutbox-rows.mjs): the forced cells as the released guide's own fill.sh prints them over the translation dfc8da31b635c89b… (all of the seat's roots in one cut). By AI agents, Wed Nov 11 2026. No macro, syntax, notation, axiom, sorry.
-/
import Derived.Test.YtaoafplijjpoaaaChecked
import GoSem.Claim
import GoSem.ClaimJoined
import GoSem.ClaimMapViews
import Derived.JoinedTies
import Derived.KernelRfl
namespace Go.Proofs.Ytaoafplijjpoaaa
/- THE CELL 'sum', in the pinned program and in every row, IS THE sha256 OF THE DUMP (.gsa) THAT YtaoafplijjpoaaaProg.lean LOADS. Nothing in Lean hashes anything: it is a label: what it is worth is what the hold of that sum in a sandbox is worth. -/
noncomputable def Try.pinned : Pinned := { name := "ytaoafplijjpoaaa", sum := "dfc8da31b635c89b5040bd63b578b7ae5b5aef22d9107361204d2a9fe842296c", checked := Try.checked }
namespace Rows
def none {H : Type} : Left H := { results := [], args := [] }

/-- 'foliolaw5.ZerosAny': WHATEVER THE INPUT: true; the input reads as it did. -/
def zerosAnySpec : ChangeSpec := { name := "zerosAny", fn := fun _ => fun
  | [d1, d2] => { results := [.lit (.bool true)], args := [d1, d2] }
  | _ => none }
def zerosAnyRow : OpenClaim := { program := "ytaoafplijjpoaaa", sum := "dfc8da31b635c89b5040bd63b578b7ae5b5aef22d9107361204d2a9fe842296c", func := "folio/foliolaw5.ZerosAny", spec := "zerosAny", unfollowed := true, recurses := true, apart := false }
def ZerosAnySaid : Prop := zerosAnyRow.holds Try.pinned (OpenSpec.ofChange zerosAnySpec)

/-- ITS FALSE NEIGHBOUR: 'it returns false'. Refute it at one input. -/
def zerosAnyWrong : ChangeSpec := { name := "zerosAny", fn := fun _ => fun
  | [d1, d2] => { results := [.lit (.bool false)], args := [d1, d2] }
  | _ => none }
def ZerosAnyWrongFalsely : Prop := zerosAnyRow.holds Try.pinned (OpenSpec.ofChange zerosAnyWrong)

/-- 'foliolaw5.ZerosRun': WHATEVER THE INPUT: true; the input reads as it did. -/
def zerosRunSpec : ChangeSpec := { name := "zerosRun", fn := fun _ => fun
  | [d] => { results := [.lit (.bool true)], args := [d] }
  | _ => none }
def zerosRunRow : OpenClaim := { program := "ytaoafplijjpoaaa", sum := "dfc8da31b635c89b5040bd63b578b7ae5b5aef22d9107361204d2a9fe842296c", func := "folio/foliolaw5.ZerosRun", spec := "zerosRun", unfollowed := true, recurses := true, apart := false }
def ZerosRunSaid : Prop := zerosRunRow.holds Try.pinned (OpenSpec.ofChange zerosRunSpec)

/-- ITS FALSE NEIGHBOUR: 'it returns false'. Refute it at one input. -/
def zerosRunWrong : ChangeSpec := { name := "zerosRun", fn := fun _ => fun
  | [d] => { results := [.lit (.bool false)], args := [d] }
  | _ => none }
def ZerosRunWrongFalsely : Prop := zerosRunRow.holds Try.pinned (OpenSpec.ofChange zerosRunWrong)

/-- 'foliolaw5.ZerosJoin': WHATEVER THE INPUT: true; the input reads as it did. -/
def zerosJoinSpec : ChangeSpec := { name := "zerosJoin", fn := fun _ => fun
  | [d1, d2, d3] => { results := [.lit (.bool true)], args := [d1, d2, d3] }
  | _ => none }
def zerosJoinRow : OpenClaim := { program := "ytaoafplijjpoaaa", sum := "dfc8da31b635c89b5040bd63b578b7ae5b5aef22d9107361204d2a9fe842296c", func := "folio/foliolaw5.ZerosJoin", spec := "zerosJoin", unfollowed := true, recurses := true, apart := false }
def ZerosJoinSaid : Prop := zerosJoinRow.holds Try.pinned (OpenSpec.ofChange zerosJoinSpec)

/-- ITS FALSE NEIGHBOUR: 'it returns false'. Refute it at one input. -/
def zerosJoinWrong : ChangeSpec := { name := "zerosJoin", fn := fun _ => fun
  | [d1, d2, d3] => { results := [.lit (.bool false)], args := [d1, d2, d3] }
  | _ => none }
def ZerosJoinWrongFalsely : Prop := zerosJoinRow.holds Try.pinned (OpenSpec.ofChange zerosJoinWrong)

/-- 'foliolaw5.ZerosGreat': WHATEVER THE INPUT: true; the input reads as it did. -/
def zerosGreatSpec : ChangeSpec := { name := "zerosGreat", fn := fun _ => fun
  | [d1, d2] => { results := [.lit (.bool true)], args := [d1, d2] }
  | _ => none }
def zerosGreatRow : OpenClaim := { program := "ytaoafplijjpoaaa", sum := "dfc8da31b635c89b5040bd63b578b7ae5b5aef22d9107361204d2a9fe842296c", func := "folio/foliolaw5.ZerosGreat", spec := "zerosGreat", unfollowed := true, recurses := true, apart := false }
def ZerosGreatSaid : Prop := zerosGreatRow.holds Try.pinned (OpenSpec.ofChange zerosGreatSpec)

/-- ITS FALSE NEIGHBOUR: 'it returns false'. Refute it at one input. -/
def zerosGreatWrong : ChangeSpec := { name := "zerosGreat", fn := fun _ => fun
  | [d1, d2] => { results := [.lit (.bool false)], args := [d1, d2] }
  | _ => none }
def ZerosGreatWrongFalsely : Prop := zerosGreatRow.holds Try.pinned (OpenSpec.ofChange zerosGreatWrong)

/- THE SECOND FORM. 'bulk': how many values and letters a reading holds, each counted each time it is reached (what is shared counts as often as it is met; a slice's spare places count too). A statement '..UptoSaid' is the law's where the arguments, and the package variables that the reading takes, are together of bulk at most 1048576: NARROWER than '..Said'. Prove '..Said' where nothing that the law and all that it calls make is longer than what came in: it says more and counts as full. Else prove '..UptoSaid'. A law counts once. -/
mutual
def uptoBulk {H : Type} : DataW H → Nat
  | .lit (.string bytes) => bytes.length + 1
  | .lit _ => 1
  | .nil => 1
  | .ptr d => uptoBulk d + 1
  | .slice elems spare => uptoBulkAll elems + uptoBulkAll spare + 1
  | .agg parts => uptoBulkAll parts + 1
  | .iface _ d => uptoBulk d + 1
  | .map entries => uptoBulkEntries entries + 1
  | .held _ => 1
def uptoBulkAll {H : Type} : List (DataW H) → Nat
  | [] => 0
  | d :: r => uptoBulk d + uptoBulkAll r
def uptoBulkEntries {H : Type} : List (Lit × DataW H) → Nat
  | [] => 0
  | x :: r => uptoBulkEntry x + uptoBulkEntries r
def uptoBulkEntry {H : Type} : Lit × DataW H → Nat
  | (.string bytes, d) => bytes.length + uptoBulk d + 1
  | (_, d) => uptoBulk d + 1
 end
def uptoSmall : (H : Type) → List (DataW H) → Bool := fun _ ds => decide (uptoBulkAll ds ≤ 1048576)
def OpenSpec.upto (s : _root_.Go.ChangeSpec) : _root_.Go.OpenSpec := { _root_.Go.OpenSpec.ofChange s with cond := some uptoSmall }

/-- 'foliolaw5.ZerosAny', WHERE WHAT IT READS IS OF BULK AT MOST 1048576: true; the input reads as it did. -/
def zerosAnyUptoRow : OpenClaim := { program := "ytaoafplijjpoaaa", sum := "dfc8da31b635c89b5040bd63b578b7ae5b5aef22d9107361204d2a9fe842296c", func := "folio/foliolaw5.ZerosAny", spec := "zerosAny", unfollowed := true, recurses := true, apart := false, narrowed := true }
def ZerosAnyUptoSaid : Prop := zerosAnyUptoRow.holds Try.pinned (OpenSpec.upto zerosAnySpec)

/-- 'foliolaw5.ZerosRun', WHERE WHAT IT READS IS OF BULK AT MOST 1048576: true; the input reads as it did. -/
def zerosRunUptoRow : OpenClaim := { program := "ytaoafplijjpoaaa", sum := "dfc8da31b635c89b5040bd63b578b7ae5b5aef22d9107361204d2a9fe842296c", func := "folio/foliolaw5.ZerosRun", spec := "zerosRun", unfollowed := true, recurses := true, apart := false, narrowed := true }
def ZerosRunUptoSaid : Prop := zerosRunUptoRow.holds Try.pinned (OpenSpec.upto zerosRunSpec)

/-- 'foliolaw5.ZerosJoin', WHERE WHAT IT READS IS OF BULK AT MOST 1048576: true; the input reads as it did. -/
def zerosJoinUptoRow : OpenClaim := { program := "ytaoafplijjpoaaa", sum := "dfc8da31b635c89b5040bd63b578b7ae5b5aef22d9107361204d2a9fe842296c", func := "folio/foliolaw5.ZerosJoin", spec := "zerosJoin", unfollowed := true, recurses := true, apart := false, narrowed := true }
def ZerosJoinUptoSaid : Prop := zerosJoinUptoRow.holds Try.pinned (OpenSpec.upto zerosJoinSpec)

/-- 'foliolaw5.ZerosGreat', WHERE WHAT IT READS IS OF BULK AT MOST 1048576: true; the input reads as it did. -/
def zerosGreatUptoRow : OpenClaim := { program := "ytaoafplijjpoaaa", sum := "dfc8da31b635c89b5040bd63b578b7ae5b5aef22d9107361204d2a9fe842296c", func := "folio/foliolaw5.ZerosGreat", spec := "zerosGreat", unfollowed := true, recurses := true, apart := false, narrowed := true }
def ZerosGreatUptoSaid : Prop := zerosGreatUptoRow.holds Try.pinned (OpenSpec.upto zerosGreatSpec)

end Rows
end Go.Proofs.Ytaoafplijjpoaaa
