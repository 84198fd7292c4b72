/-
  No cell of these rows narrows 'for every input' (looked for: loops, veiled, ifaces, maps, wideKeys, modest, calm, conditions, laid).
  DERIVED. THE GIVEN ROWS OF THIS SEAT. 4 by the template 'for every input the law returns true; each argument reads behind the call as it read before'; 0 by the template 'total and deterministic' (their statements: YtmeejkfoeihcfaaTotals.lean).
  GIVEN WITH THE SEED: the statements are not yours to turn. If you find one false, say at which input.
  Laid BY PROGRAM, IN A SANDBOX (cutbox-rows.mjs): the forced cells as the released guide's own fill.sh prints them over the translation ca4f8885ba596471… (all of the seat's roots in one cut). By AI agents, Wed Nov 11 2026. No macro, syntax, notation, axiom, sorry.
-/
import Derived.Test.YtmeejkfoeihcfaaChecked
import GoSem.Claim
import GoSem.ClaimJoined
import GoSem.ClaimMapViews
import Derived.JoinedTies
import Derived.KernelRfl
namespace Go.Proofs.Ytmeejkfoeihcfaa
/- THE CELL 'sum', in the pinned program and in every row, IS THE sha256 OF THE DUMP (.gsa) THAT YtmeejkfoeihcfaaProg.lean LOADS. Nothing in Lean hashes anything: it is a label: what it is worth is what the hold of that sum in a sandbox is worth. -/
noncomputable def Try.pinned : Pinned := { name := "ytmeejkfoeihcfaa", sum := "ca4f8885ba5964711c119da37c345f5655f6848d225845b4bed1a077506c5774", checked := Try.checked }
namespace Rows
def none {H : Type} : Left H := { results := [], args := [] }

/-- 'foliolaw10.EntropyAll': WHATEVER THE INPUT: true; the input reads as it did. -/
def entropyAllSpec : ChangeSpec := { name := "entropyAll", fn := fun _ => fun
  | [d1, d2, d3] => { results := [.lit (.bool true)], args := [d1, d2, d3] }
  | _ => none }
def entropyAllRow : OpenClaim := { program := "ytmeejkfoeihcfaa", sum := "ca4f8885ba5964711c119da37c345f5655f6848d225845b4bed1a077506c5774", func := "folio/foliolaw10.EntropyAll", spec := "entropyAll", inPlace := ["slices.overlaps[int]", "internal/bytealg.IndexByte"], unfollowed := true, recurses := true, apart := false }
def EntropyAllSaid : Prop := entropyAllRow.holds Try.pinned (OpenSpec.ofChange entropyAllSpec)

/-- ITS FALSE NEIGHBOUR: 'it returns false'. Refute it at one input. -/
def entropyAllWrong : ChangeSpec := { name := "entropyAll", fn := fun _ => fun
  | [d1, d2, d3] => { results := [.lit (.bool false)], args := [d1, d2, d3] }
  | _ => none }
def EntropyAllWrongFalsely : Prop := entropyAllRow.holds Try.pinned (OpenSpec.ofChange entropyAllWrong)

/-- 'foliolaw10.EntropyEqual': WHATEVER THE INPUT: true; the input reads as it did. -/
def entropyEqualSpec : ChangeSpec := { name := "entropyEqual", fn := fun _ => fun
  | [d1, d2] => { results := [.lit (.bool true)], args := [d1, d2] }
  | _ => none }
def entropyEqualRow : OpenClaim := { program := "ytmeejkfoeihcfaa", sum := "ca4f8885ba5964711c119da37c345f5655f6848d225845b4bed1a077506c5774", func := "folio/foliolaw10.EntropyEqual", spec := "entropyEqual", inPlace := ["slices.overlaps[int]", "internal/bytealg.IndexByte"], unfollowed := true, recurses := true, apart := false }
def EntropyEqualSaid : Prop := entropyEqualRow.holds Try.pinned (OpenSpec.ofChange entropyEqualSpec)

/-- ITS FALSE NEIGHBOUR: 'it returns false'. Refute it at one input. -/
def entropyEqualWrong : ChangeSpec := { name := "entropyEqual", fn := fun _ => fun
  | [d1, d2] => { results := [.lit (.bool false)], args := [d1, d2] }
  | _ => none }
def EntropyEqualWrongFalsely : Prop := entropyEqualRow.holds Try.pinned (OpenSpec.ofChange entropyEqualWrong)

/-- 'foliolaw10.EntropyAny': WHATEVER THE INPUT: true; the input reads as it did. -/
def entropyAnySpec : ChangeSpec := { name := "entropyAny", fn := fun _ => fun
  | [d1, d2, d3, d4] => { results := [.lit (.bool true)], args := [d1, d2, d3, d4] }
  | _ => none }
def entropyAnyRow : OpenClaim := { program := "ytmeejkfoeihcfaa", sum := "ca4f8885ba5964711c119da37c345f5655f6848d225845b4bed1a077506c5774", func := "folio/foliolaw10.EntropyAny", spec := "entropyAny", inPlace := ["slices.overlaps[int]", "internal/bytealg.IndexByte"], unfollowed := true, recurses := true, apart := false }
def EntropyAnySaid : Prop := entropyAnyRow.holds Try.pinned (OpenSpec.ofChange entropyAnySpec)

/-- ITS FALSE NEIGHBOUR: 'it returns false'. Refute it at one input. -/
def entropyAnyWrong : ChangeSpec := { name := "entropyAny", fn := fun _ => fun
  | [d1, d2, d3, d4] => { results := [.lit (.bool false)], args := [d1, d2, d3, d4] }
  | _ => none }
def EntropyAnyWrongFalsely : Prop := entropyAnyRow.holds Try.pinned (OpenSpec.ofChange entropyAnyWrong)

/-- 'foliolaw10.EntropyApart': WHATEVER THE INPUT: true; the input reads as it did. -/
def entropyApartSpec : ChangeSpec := { name := "entropyApart", fn := fun _ => fun
  | [d1, d2, d3, d4] => { results := [.lit (.bool true)], args := [d1, d2, d3, d4] }
  | _ => none }
def entropyApartRow : OpenClaim := { program := "ytmeejkfoeihcfaa", sum := "ca4f8885ba5964711c119da37c345f5655f6848d225845b4bed1a077506c5774", func := "folio/foliolaw10.EntropyApart", spec := "entropyApart", inPlace := ["slices.overlaps[int]", "internal/bytealg.IndexByte"], unfollowed := true, recurses := true, apart := false }
def EntropyApartSaid : Prop := entropyApartRow.holds Try.pinned (OpenSpec.ofChange entropyApartSpec)

/-- ITS FALSE NEIGHBOUR: 'it returns false'. Refute it at one input. -/
def entropyApartWrong : ChangeSpec := { name := "entropyApart", fn := fun _ => fun
  | [d1, d2, d3, d4] => { results := [.lit (.bool false)], args := [d1, d2, d3, d4] }
  | _ => none }
def EntropyApartWrongFalsely : Prop := entropyApartRow.holds Try.pinned (OpenSpec.ofChange entropyApartWrong)

/- THE SECOND FORM. 'bulk': how many values and letters a reading holds, each counted each time it is reached (what is shared counts as often as it is met; a slice's spare places count too). A statement '..UptoSaid' is the law's where the arguments, and the package variables that the reading takes, are together of bulk at most 1048576: NARROWER than '..Said'. Prove '..Said' where nothing that the law and all that it calls make is longer than what came in: it says more and counts as full. Else prove '..UptoSaid'. A law counts once. -/
mutual
def uptoBulk {H : Type} : DataW H → Nat
  | .lit (.string bytes) => bytes.length + 1
  | .lit _ => 1
  | .nil => 1
  | .ptr d => uptoBulk d + 1
  | .slice elems spare => uptoBulkAll elems + uptoBulkAll spare + 1
  | .agg parts => uptoBulkAll parts + 1
  | .iface _ d => uptoBulk d + 1
  | .map entries => uptoBulkEntries entries + 1
  | .held _ => 1
def uptoBulkAll {H : Type} : List (DataW H) → Nat
  | [] => 0
  | d :: r => uptoBulk d + uptoBulkAll r
def uptoBulkEntries {H : Type} : List (Lit × DataW H) → Nat
  | [] => 0
  | x :: r => uptoBulkEntry x + uptoBulkEntries r
def uptoBulkEntry {H : Type} : Lit × DataW H → Nat
  | (.string bytes, d) => bytes.length + uptoBulk d + 1
  | (_, d) => uptoBulk d + 1
 end
def uptoSmall : (H : Type) → List (DataW H) → Bool := fun _ ds => decide (uptoBulkAll ds ≤ 1048576)
def OpenSpec.upto (s : _root_.Go.ChangeSpec) : _root_.Go.OpenSpec := { _root_.Go.OpenSpec.ofChange s with cond := some uptoSmall }

/-- 'foliolaw10.EntropyAll', WHERE WHAT IT READS IS OF BULK AT MOST 1048576: true; the input reads as it did. -/
def entropyAllUptoRow : OpenClaim := { program := "ytmeejkfoeihcfaa", sum := "ca4f8885ba5964711c119da37c345f5655f6848d225845b4bed1a077506c5774", func := "folio/foliolaw10.EntropyAll", spec := "entropyAll", inPlace := ["slices.overlaps[int]", "internal/bytealg.IndexByte"], unfollowed := true, recurses := true, apart := false, narrowed := true }
def EntropyAllUptoSaid : Prop := entropyAllUptoRow.holds Try.pinned (OpenSpec.upto entropyAllSpec)

/-- 'foliolaw10.EntropyEqual', WHERE WHAT IT READS IS OF BULK AT MOST 1048576: true; the input reads as it did. -/
def entropyEqualUptoRow : OpenClaim := { program := "ytmeejkfoeihcfaa", sum := "ca4f8885ba5964711c119da37c345f5655f6848d225845b4bed1a077506c5774", func := "folio/foliolaw10.EntropyEqual", spec := "entropyEqual", inPlace := ["slices.overlaps[int]", "internal/bytealg.IndexByte"], unfollowed := true, recurses := true, apart := false, narrowed := true }
def EntropyEqualUptoSaid : Prop := entropyEqualUptoRow.holds Try.pinned (OpenSpec.upto entropyEqualSpec)

/-- 'foliolaw10.EntropyAny', WHERE WHAT IT READS IS OF BULK AT MOST 1048576: true; the input reads as it did. -/
def entropyAnyUptoRow : OpenClaim := { program := "ytmeejkfoeihcfaa", sum := "ca4f8885ba5964711c119da37c345f5655f6848d225845b4bed1a077506c5774", func := "folio/foliolaw10.EntropyAny", spec := "entropyAny", inPlace := ["slices.overlaps[int]", "internal/bytealg.IndexByte"], unfollowed := true, recurses := true, apart := false, narrowed := true }
def EntropyAnyUptoSaid : Prop := entropyAnyUptoRow.holds Try.pinned (OpenSpec.upto entropyAnySpec)

/-- 'foliolaw10.EntropyApart', WHERE WHAT IT READS IS OF BULK AT MOST 1048576: true; the input reads as it did. -/
def entropyApartUptoRow : OpenClaim := { program := "ytmeejkfoeihcfaa", sum := "ca4f8885ba5964711c119da37c345f5655f6848d225845b4bed1a077506c5774", func := "folio/foliolaw10.EntropyApart", spec := "entropyApart", inPlace := ["slices.overlaps[int]", "internal/bytealg.IndexByte"], unfollowed := true, recurses := true, apart := false, narrowed := true }
def EntropyApartUptoSaid : Prop := entropyApartUptoRow.holds Try.pinned (OpenSpec.upto entropyApartSpec)

end Rows
end Go.Proofs.Ytmeejkfoeihcfaa
