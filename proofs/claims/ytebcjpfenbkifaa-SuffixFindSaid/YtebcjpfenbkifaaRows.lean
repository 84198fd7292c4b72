/-
  No cell of these rows narrows 'for every input' (looked for: loops, veiled, ifaces, maps, wideKeys, modest, calm, conditions, laid).
  DERIVED. THE GIVEN ROWS OF THIS SEAT. 6 by the template 'for every input the law returns true; each argument reads behind the call as it read before'; 0 by the template 'total and deterministic' (their statements: YtebcjpfenbkifaaTotals.lean).
  GIVEN WITH THE SEED: the statements are not yours to turn. If you find one false, say at which input.
  Laid BY PROGRAM, IN A SANDBOX (cutbox-rows.mjs): the forced cells as the released guide's own fill.sh prints them over the translation 436dac09b39b5919… (all of the seat's roots in one cut). By AI agents, Wed Nov 11 2026. No macro, syntax, notation, axiom, sorry.
-/
import Derived.Test.YtebcjpfenbkifaaChecked
import GoSem.Claim
import GoSem.ClaimJoined
import GoSem.ClaimMapViews
import Derived.JoinedTies
import Derived.KernelRfl
namespace Go.Proofs.Ytebcjpfenbkifaa
/- THE CELL 'sum', in the pinned program and in every row, IS THE sha256 OF THE DUMP (.gsa) THAT YtebcjpfenbkifaaProg.lean LOADS. Nothing in Lean hashes anything: it is a label: what it is worth is what the hold of that sum in a sandbox is worth. -/
noncomputable def Try.pinned : Pinned := { name := "ytebcjpfenbkifaa", sum := "436dac09b39b5919086285779af6573cc3f2aa178c5697220809187133076509", checked := Try.checked }
namespace Rows
def none {H : Type} : Left H := { results := [], args := [] }

/-- 'foliolaw8.SuffixAll': WHATEVER THE INPUT: true; the input reads as it did. -/
def suffixAllSpec : ChangeSpec := { name := "suffixAll", fn := fun _ => fun
  | [d] => { results := [.lit (.bool true)], args := [d] }
  | _ => none }
def suffixAllRow : OpenClaim := { program := "ytebcjpfenbkifaa", sum := "436dac09b39b5919086285779af6573cc3f2aa178c5697220809187133076509", func := "folio/foliolaw8.SuffixAll", spec := "suffixAll", unfollowed := true, recurses := true, apart := false }
def SuffixAllSaid : Prop := suffixAllRow.holds Try.pinned (OpenSpec.ofChange suffixAllSpec)

/-- ITS FALSE NEIGHBOUR: 'it returns false'. Refute it at one input. -/
def suffixAllWrong : ChangeSpec := { name := "suffixAll", fn := fun _ => fun
  | [d] => { results := [.lit (.bool false)], args := [d] }
  | _ => none }
def SuffixAllWrongFalsely : Prop := suffixAllRow.holds Try.pinned (OpenSpec.ofChange suffixAllWrong)

/-- 'foliolaw8.SuffixWords': WHATEVER THE INPUT: true; the input reads as it did. -/
def suffixWordsSpec : ChangeSpec := { name := "suffixWords", fn := fun _ => fun
  | [d1, d2] => { results := [.lit (.bool true)], args := [d1, d2] }
  | _ => none }
def suffixWordsRow : OpenClaim := { program := "ytebcjpfenbkifaa", sum := "436dac09b39b5919086285779af6573cc3f2aa178c5697220809187133076509", func := "folio/foliolaw8.SuffixWords", spec := "suffixWords", unfollowed := true, recurses := true, apart := false }
def SuffixWordsSaid : Prop := suffixWordsRow.holds Try.pinned (OpenSpec.ofChange suffixWordsSpec)

/-- ITS FALSE NEIGHBOUR: 'it returns false'. Refute it at one input. -/
def suffixWordsWrong : ChangeSpec := { name := "suffixWords", fn := fun _ => fun
  | [d1, d2] => { results := [.lit (.bool false)], args := [d1, d2] }
  | _ => none }
def SuffixWordsWrongFalsely : Prop := suffixWordsRow.holds Try.pinned (OpenSpec.ofChange suffixWordsWrong)

/-- 'foliolaw8.SuffixFind': WHATEVER THE INPUT: true; the input reads as it did. -/
def suffixFindSpec : ChangeSpec := { name := "suffixFind", fn := fun _ => fun
  | [d1, d2] => { results := [.lit (.bool true)], args := [d1, d2] }
  | _ => none }
def suffixFindRow : OpenClaim := { program := "ytebcjpfenbkifaa", sum := "436dac09b39b5919086285779af6573cc3f2aa178c5697220809187133076509", func := "folio/foliolaw8.SuffixFind", spec := "suffixFind", unfollowed := true, recurses := true, apart := false }
def SuffixFindSaid : Prop := suffixFindRow.holds Try.pinned (OpenSpec.ofChange suffixFindSpec)

/-- ITS FALSE NEIGHBOUR: 'it returns false'. Refute it at one input. -/
def suffixFindWrong : ChangeSpec := { name := "suffixFind", fn := fun _ => fun
  | [d1, d2] => { results := [.lit (.bool false)], args := [d1, d2] }
  | _ => none }
def SuffixFindWrongFalsely : Prop := suffixFindRow.holds Try.pinned (OpenSpec.ofChange suffixFindWrong)

/-- 'foliolaw8.SuffixTail': WHATEVER THE INPUT: true; the input reads as it did. -/
def suffixTailSpec : ChangeSpec := { name := "suffixTail", fn := fun _ => fun
  | [d] => { results := [.lit (.bool true)], args := [d] }
  | _ => none }
def suffixTailRow : OpenClaim := { program := "ytebcjpfenbkifaa", sum := "436dac09b39b5919086285779af6573cc3f2aa178c5697220809187133076509", func := "folio/foliolaw8.SuffixTail", spec := "suffixTail", unfollowed := true, recurses := true, apart := false }
def SuffixTailSaid : Prop := suffixTailRow.holds Try.pinned (OpenSpec.ofChange suffixTailSpec)

/-- ITS FALSE NEIGHBOUR: 'it returns false'. Refute it at one input. -/
def suffixTailWrong : ChangeSpec := { name := "suffixTail", fn := fun _ => fun
  | [d] => { results := [.lit (.bool false)], args := [d] }
  | _ => none }
def SuffixTailWrongFalsely : Prop := suffixTailRow.holds Try.pinned (OpenSpec.ofChange suffixTailWrong)

/-- 'foliolaw8.SuffixOne': WHATEVER THE INPUT: true; the input reads as it did. -/
def suffixOneSpec : ChangeSpec := { name := "suffixOne", fn := fun _ => fun
  | [d1, d2] => { results := [.lit (.bool true)], args := [d1, d2] }
  | _ => none }
def suffixOneRow : OpenClaim := { program := "ytebcjpfenbkifaa", sum := "436dac09b39b5919086285779af6573cc3f2aa178c5697220809187133076509", func := "folio/foliolaw8.SuffixOne", spec := "suffixOne", unfollowed := true, recurses := true, apart := false }
def SuffixOneSaid : Prop := suffixOneRow.holds Try.pinned (OpenSpec.ofChange suffixOneSpec)

/-- ITS FALSE NEIGHBOUR: 'it returns false'. Refute it at one input. -/
def suffixOneWrong : ChangeSpec := { name := "suffixOne", fn := fun _ => fun
  | [d1, d2] => { results := [.lit (.bool false)], args := [d1, d2] }
  | _ => none }
def SuffixOneWrongFalsely : Prop := suffixOneRow.holds Try.pinned (OpenSpec.ofChange suffixOneWrong)

/-- 'foliolaw8.SuffixRabbits': WHATEVER THE INPUT: true; the input reads as it did. -/
def suffixRabbitsSpec : ChangeSpec := { name := "suffixRabbits", fn := fun _ => fun
  | [d1, d2, d3] => { results := [.lit (.bool true)], args := [d1, d2, d3] }
  | _ => none }
def suffixRabbitsRow : OpenClaim := { program := "ytebcjpfenbkifaa", sum := "436dac09b39b5919086285779af6573cc3f2aa178c5697220809187133076509", func := "folio/foliolaw8.SuffixRabbits", spec := "suffixRabbits", unfollowed := true, recurses := true, apart := false }
def SuffixRabbitsSaid : Prop := suffixRabbitsRow.holds Try.pinned (OpenSpec.ofChange suffixRabbitsSpec)

/-- ITS FALSE NEIGHBOUR: 'it returns false'. Refute it at one input. -/
def suffixRabbitsWrong : ChangeSpec := { name := "suffixRabbits", fn := fun _ => fun
  | [d1, d2, d3] => { results := [.lit (.bool false)], args := [d1, d2, d3] }
  | _ => none }
def SuffixRabbitsWrongFalsely : Prop := suffixRabbitsRow.holds Try.pinned (OpenSpec.ofChange suffixRabbitsWrong)

/- THE SECOND FORM. 'bulk': how many values and letters a reading holds, each counted each time it is reached (what is shared counts as often as it is met; a slice's spare places count too). A statement '..UptoSaid' is the law's where the arguments, and the package variables that the reading takes, are together of bulk at most 1048576: NARROWER than '..Said'. Prove '..Said' where nothing that the law and all that it calls make is longer than what came in: it says more and counts as full. Else prove '..UptoSaid'. A law counts once. -/
mutual
def uptoBulk {H : Type} : DataW H → Nat
  | .lit (.string bytes) => bytes.length + 1
  | .lit _ => 1
  | .nil => 1
  | .ptr d => uptoBulk d + 1
  | .slice elems spare => uptoBulkAll elems + uptoBulkAll spare + 1
  | .agg parts => uptoBulkAll parts + 1
  | .iface _ d => uptoBulk d + 1
  | .map entries => uptoBulkEntries entries + 1
  | .held _ => 1
def uptoBulkAll {H : Type} : List (DataW H) → Nat
  | [] => 0
  | d :: r => uptoBulk d + uptoBulkAll r
def uptoBulkEntries {H : Type} : List (Lit × DataW H) → Nat
  | [] => 0
  | x :: r => uptoBulkEntry x + uptoBulkEntries r
def uptoBulkEntry {H : Type} : Lit × DataW H → Nat
  | (.string bytes, d) => bytes.length + uptoBulk d + 1
  | (_, d) => uptoBulk d + 1
 end
def uptoSmall : (H : Type) → List (DataW H) → Bool := fun _ ds => decide (uptoBulkAll ds ≤ 1048576)
def OpenSpec.upto (s : _root_.Go.ChangeSpec) : _root_.Go.OpenSpec := { _root_.Go.OpenSpec.ofChange s with cond := some uptoSmall }

/-- 'foliolaw8.SuffixAll', WHERE WHAT IT READS IS OF BULK AT MOST 1048576: true; the input reads as it did. -/
def suffixAllUptoRow : OpenClaim := { program := "ytebcjpfenbkifaa", sum := "436dac09b39b5919086285779af6573cc3f2aa178c5697220809187133076509", func := "folio/foliolaw8.SuffixAll", spec := "suffixAll", unfollowed := true, recurses := true, apart := false, narrowed := true }
def SuffixAllUptoSaid : Prop := suffixAllUptoRow.holds Try.pinned (OpenSpec.upto suffixAllSpec)

/-- 'foliolaw8.SuffixWords', WHERE WHAT IT READS IS OF BULK AT MOST 1048576: true; the input reads as it did. -/
def suffixWordsUptoRow : OpenClaim := { program := "ytebcjpfenbkifaa", sum := "436dac09b39b5919086285779af6573cc3f2aa178c5697220809187133076509", func := "folio/foliolaw8.SuffixWords", spec := "suffixWords", unfollowed := true, recurses := true, apart := false, narrowed := true }
def SuffixWordsUptoSaid : Prop := suffixWordsUptoRow.holds Try.pinned (OpenSpec.upto suffixWordsSpec)

/-- 'foliolaw8.SuffixFind', WHERE WHAT IT READS IS OF BULK AT MOST 1048576: true; the input reads as it did. -/
def suffixFindUptoRow : OpenClaim := { program := "ytebcjpfenbkifaa", sum := "436dac09b39b5919086285779af6573cc3f2aa178c5697220809187133076509", func := "folio/foliolaw8.SuffixFind", spec := "suffixFind", unfollowed := true, recurses := true, apart := false, narrowed := true }
def SuffixFindUptoSaid : Prop := suffixFindUptoRow.holds Try.pinned (OpenSpec.upto suffixFindSpec)

/-- 'foliolaw8.SuffixTail', WHERE WHAT IT READS IS OF BULK AT MOST 1048576: true; the input reads as it did. -/
def suffixTailUptoRow : OpenClaim := { program := "ytebcjpfenbkifaa", sum := "436dac09b39b5919086285779af6573cc3f2aa178c5697220809187133076509", func := "folio/foliolaw8.SuffixTail", spec := "suffixTail", unfollowed := true, recurses := true, apart := false, narrowed := true }
def SuffixTailUptoSaid : Prop := suffixTailUptoRow.holds Try.pinned (OpenSpec.upto suffixTailSpec)

/-- 'foliolaw8.SuffixOne', WHERE WHAT IT READS IS OF BULK AT MOST 1048576: true; the input reads as it did. -/
def suffixOneUptoRow : OpenClaim := { program := "ytebcjpfenbkifaa", sum := "436dac09b39b5919086285779af6573cc3f2aa178c5697220809187133076509", func := "folio/foliolaw8.SuffixOne", spec := "suffixOne", unfollowed := true, recurses := true, apart := false, narrowed := true }
def SuffixOneUptoSaid : Prop := suffixOneUptoRow.holds Try.pinned (OpenSpec.upto suffixOneSpec)

/-- 'foliolaw8.SuffixRabbits', WHERE WHAT IT READS IS OF BULK AT MOST 1048576: true; the input reads as it did. -/
def suffixRabbitsUptoRow : OpenClaim := { program := "ytebcjpfenbkifaa", sum := "436dac09b39b5919086285779af6573cc3f2aa178c5697220809187133076509", func := "folio/foliolaw8.SuffixRabbits", spec := "suffixRabbits", unfollowed := true, recurses := true, apart := false, narrowed := true }
def SuffixRabbitsUptoSaid : Prop := suffixRabbitsUptoRow.holds Try.pinned (OpenSpec.upto suffixRabbitsSpec)

end Rows
end Go.Proofs.Ytebcjpfenbkifaa
