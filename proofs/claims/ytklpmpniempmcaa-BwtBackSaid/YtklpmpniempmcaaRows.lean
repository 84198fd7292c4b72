/-
  No cell of these rows narrows 'for every input' (looked for: loops, veiled, ifaces, maps, wideKeys, modest, calm, conditions, laid).
  DERIVED. THE GIVEN ROWS OF THIS SEAT. 6 by the template 'for every input the law returns true; each argument reads behind the call as it read before'; 0 by the template 'total and deterministic' (their statements: YtklpmpniempmcaaTotals.lean).
  GIVEN WITH THE SEED: the statements are not yours to turn. If you find one false, say at which input.
  Laid BY PROGRAM, IN A SANDBOX (cutbox-rows.mjs): the forced cells as the released guide's own fill.sh prints them over the translation 927078a7ca045a80… (all of the seat's roots in one cut). By AI agents, Wed Nov 11 2026. No macro, syntax, notation, axiom, sorry.
-/
import Derived.Test.YtklpmpniempmcaaChecked
import GoSem.Claim
import GoSem.ClaimJoined
import GoSem.ClaimMapViews
import Derived.JoinedTies
import Derived.KernelRfl
namespace Go.Proofs.Ytklpmpniempmcaa
/- THE CELL 'sum', in the pinned program and in every row, IS THE sha256 OF THE DUMP (.gsa) THAT YtklpmpniempmcaaProg.lean LOADS. Nothing in Lean hashes anything: it is a label: what it is worth is what the hold of that sum in a sandbox is worth. -/
noncomputable def Try.pinned : Pinned := { name := "ytklpmpniempmcaa", sum := "927078a7ca045a80219e4873fd1ff89ee689a90acca87b68ef013b28626bb414", checked := Try.checked }
namespace Rows
def none {H : Type} : Left H := { results := [], args := [] }

/-- 'foliolaw8.SuffixAll': WHATEVER THE INPUT: true; the input reads as it did. -/
def suffixAllSpec : ChangeSpec := { name := "suffixAll", fn := fun _ => fun
  | [d] => { results := [.lit (.bool true)], args := [d] }
  | _ => none }
def suffixAllRow : OpenClaim := { program := "ytklpmpniempmcaa", sum := "927078a7ca045a80219e4873fd1ff89ee689a90acca87b68ef013b28626bb414", func := "folio/foliolaw8.SuffixAll", spec := "suffixAll", unfollowed := true, recurses := true, apart := false }
def SuffixAllSaid : Prop := suffixAllRow.holds Try.pinned (OpenSpec.ofChange suffixAllSpec)

/-- ITS FALSE NEIGHBOUR: 'it returns false'. Refute it at one input. -/
def suffixAllWrong : ChangeSpec := { name := "suffixAll", fn := fun _ => fun
  | [d] => { results := [.lit (.bool false)], args := [d] }
  | _ => none }
def SuffixAllWrongFalsely : Prop := suffixAllRow.holds Try.pinned (OpenSpec.ofChange suffixAllWrong)

/-- 'foliolaw9.BwtForward': WHATEVER THE INPUT: true; the input reads as it did. -/
def bwtForwardSpec : ChangeSpec := { name := "bwtForward", fn := fun _ => fun
  | [d] => { results := [.lit (.bool true)], args := [d] }
  | _ => none }
def bwtForwardRow : OpenClaim := { program := "ytklpmpniempmcaa", sum := "927078a7ca045a80219e4873fd1ff89ee689a90acca87b68ef013b28626bb414", func := "folio/foliolaw9.BwtForward", spec := "bwtForward", inPlace := ["slices.overlaps[int]"], unfollowed := true, recurses := true, apart := false }
def BwtForwardSaid : Prop := bwtForwardRow.holds Try.pinned (OpenSpec.ofChange bwtForwardSpec)

/-- ITS FALSE NEIGHBOUR: 'it returns false'. Refute it at one input. -/
def bwtForwardWrong : ChangeSpec := { name := "bwtForward", fn := fun _ => fun
  | [d] => { results := [.lit (.bool false)], args := [d] }
  | _ => none }
def BwtForwardWrongFalsely : Prop := bwtForwardRow.holds Try.pinned (OpenSpec.ofChange bwtForwardWrong)

/-- 'foliolaw9.BwtBack': WHATEVER THE INPUT: true; the input reads as it did. -/
def bwtBackSpec : ChangeSpec := { name := "bwtBack", fn := fun _ => fun
  | [d1, d2] => { results := [.lit (.bool true)], args := [d1, d2] }
  | _ => none }
def bwtBackRow : OpenClaim := { program := "ytklpmpniempmcaa", sum := "927078a7ca045a80219e4873fd1ff89ee689a90acca87b68ef013b28626bb414", func := "folio/foliolaw9.BwtBack", spec := "bwtBack", inPlace := ["slices.overlaps[int]"], unfollowed := true, recurses := true, apart := false }
def BwtBackSaid : Prop := bwtBackRow.holds Try.pinned (OpenSpec.ofChange bwtBackSpec)

/-- ITS FALSE NEIGHBOUR: 'it returns false'. Refute it at one input. -/
def bwtBackWrong : ChangeSpec := { name := "bwtBack", fn := fun _ => fun
  | [d1, d2] => { results := [.lit (.bool false)], args := [d1, d2] }
  | _ => none }
def BwtBackWrongFalsely : Prop := bwtBackRow.holds Try.pinned (OpenSpec.ofChange bwtBackWrong)

/-- 'foliolaw9.BwtPlaces': WHATEVER THE INPUT: true; the input reads as it did. -/
def bwtPlacesSpec : ChangeSpec := { name := "bwtPlaces", fn := fun _ => fun
  | [d1, d2] => { results := [.lit (.bool true)], args := [d1, d2] }
  | _ => none }
def bwtPlacesRow : OpenClaim := { program := "ytklpmpniempmcaa", sum := "927078a7ca045a80219e4873fd1ff89ee689a90acca87b68ef013b28626bb414", func := "folio/foliolaw9.BwtPlaces", spec := "bwtPlaces", inPlace := ["slices.overlaps[int]"], unfollowed := true, recurses := true, apart := false }
def BwtPlacesSaid : Prop := bwtPlacesRow.holds Try.pinned (OpenSpec.ofChange bwtPlacesSpec)

/-- ITS FALSE NEIGHBOUR: 'it returns false'. Refute it at one input. -/
def bwtPlacesWrong : ChangeSpec := { name := "bwtPlaces", fn := fun _ => fun
  | [d1, d2] => { results := [.lit (.bool false)], args := [d1, d2] }
  | _ => none }
def BwtPlacesWrongFalsely : Prop := bwtPlacesRow.holds Try.pinned (OpenSpec.ofChange bwtPlacesWrong)

/-- 'foliolaw9.BwtSame': WHATEVER THE INPUT: true; the input reads as it did. -/
def bwtSameSpec : ChangeSpec := { name := "bwtSame", fn := fun _ => fun
  | [d] => { results := [.lit (.bool true)], args := [d] }
  | _ => none }
def bwtSameRow : OpenClaim := { program := "ytklpmpniempmcaa", sum := "927078a7ca045a80219e4873fd1ff89ee689a90acca87b68ef013b28626bb414", func := "folio/foliolaw9.BwtSame", spec := "bwtSame", inPlace := ["slices.overlaps[int]"], unfollowed := true, recurses := true, apart := false }
def BwtSameSaid : Prop := bwtSameRow.holds Try.pinned (OpenSpec.ofChange bwtSameSpec)

/-- ITS FALSE NEIGHBOUR: 'it returns false'. Refute it at one input. -/
def bwtSameWrong : ChangeSpec := { name := "bwtSame", fn := fun _ => fun
  | [d] => { results := [.lit (.bool false)], args := [d] }
  | _ => none }
def BwtSameWrongFalsely : Prop := bwtSameRow.holds Try.pinned (OpenSpec.ofChange bwtSameWrong)

/-- 'foliolaw9.BwtWords': WHATEVER THE INPUT: true; the input reads as it did. -/
def bwtWordsSpec : ChangeSpec := { name := "bwtWords", fn := fun _ => fun
  | [d1, d2] => { results := [.lit (.bool true)], args := [d1, d2] }
  | _ => none }
def bwtWordsRow : OpenClaim := { program := "ytklpmpniempmcaa", sum := "927078a7ca045a80219e4873fd1ff89ee689a90acca87b68ef013b28626bb414", func := "folio/foliolaw9.BwtWords", spec := "bwtWords", inPlace := ["slices.overlaps[int]"], unfollowed := true, recurses := true, apart := false }
def BwtWordsSaid : Prop := bwtWordsRow.holds Try.pinned (OpenSpec.ofChange bwtWordsSpec)

/-- ITS FALSE NEIGHBOUR: 'it returns false'. Refute it at one input. -/
def bwtWordsWrong : ChangeSpec := { name := "bwtWords", fn := fun _ => fun
  | [d1, d2] => { results := [.lit (.bool false)], args := [d1, d2] }
  | _ => none }
def BwtWordsWrongFalsely : Prop := bwtWordsRow.holds Try.pinned (OpenSpec.ofChange bwtWordsWrong)

/- THE SECOND FORM. 'bulk': how many values and letters a reading holds, each counted each time it is reached (what is shared counts as often as it is met; a slice's spare places count too). A statement '..UptoSaid' is the law's where the arguments, and the package variables that the reading takes, are together of bulk at most 1048576: NARROWER than '..Said'. Prove '..Said' where nothing that the law and all that it calls make is longer than what came in: it says more and counts as full. Else prove '..UptoSaid'. A law counts once. -/
mutual
def uptoBulk {H : Type} : DataW H → Nat
  | .lit (.string bytes) => bytes.length + 1
  | .lit _ => 1
  | .nil => 1
  | .ptr d => uptoBulk d + 1
  | .slice elems spare => uptoBulkAll elems + uptoBulkAll spare + 1
  | .agg parts => uptoBulkAll parts + 1
  | .iface _ d => uptoBulk d + 1
  | .map entries => uptoBulkEntries entries + 1
  | .held _ => 1
def uptoBulkAll {H : Type} : List (DataW H) → Nat
  | [] => 0
  | d :: r => uptoBulk d + uptoBulkAll r
def uptoBulkEntries {H : Type} : List (Lit × DataW H) → Nat
  | [] => 0
  | x :: r => uptoBulkEntry x + uptoBulkEntries r
def uptoBulkEntry {H : Type} : Lit × DataW H → Nat
  | (.string bytes, d) => bytes.length + uptoBulk d + 1
  | (_, d) => uptoBulk d + 1
 end
def uptoSmall : (H : Type) → List (DataW H) → Bool := fun _ ds => decide (uptoBulkAll ds ≤ 1048576)
def OpenSpec.upto (s : _root_.Go.ChangeSpec) : _root_.Go.OpenSpec := { _root_.Go.OpenSpec.ofChange s with cond := some uptoSmall }

/-- 'foliolaw8.SuffixAll', WHERE WHAT IT READS IS OF BULK AT MOST 1048576: true; the input reads as it did. -/
def suffixAllUptoRow : OpenClaim := { program := "ytklpmpniempmcaa", sum := "927078a7ca045a80219e4873fd1ff89ee689a90acca87b68ef013b28626bb414", func := "folio/foliolaw8.SuffixAll", spec := "suffixAll", unfollowed := true, recurses := true, apart := false, narrowed := true }
def SuffixAllUptoSaid : Prop := suffixAllUptoRow.holds Try.pinned (OpenSpec.upto suffixAllSpec)

/-- 'foliolaw9.BwtForward', WHERE WHAT IT READS IS OF BULK AT MOST 1048576: true; the input reads as it did. -/
def bwtForwardUptoRow : OpenClaim := { program := "ytklpmpniempmcaa", sum := "927078a7ca045a80219e4873fd1ff89ee689a90acca87b68ef013b28626bb414", func := "folio/foliolaw9.BwtForward", spec := "bwtForward", inPlace := ["slices.overlaps[int]"], unfollowed := true, recurses := true, apart := false, narrowed := true }
def BwtForwardUptoSaid : Prop := bwtForwardUptoRow.holds Try.pinned (OpenSpec.upto bwtForwardSpec)

/-- 'foliolaw9.BwtBack', WHERE WHAT IT READS IS OF BULK AT MOST 1048576: true; the input reads as it did. -/
def bwtBackUptoRow : OpenClaim := { program := "ytklpmpniempmcaa", sum := "927078a7ca045a80219e4873fd1ff89ee689a90acca87b68ef013b28626bb414", func := "folio/foliolaw9.BwtBack", spec := "bwtBack", inPlace := ["slices.overlaps[int]"], unfollowed := true, recurses := true, apart := false, narrowed := true }
def BwtBackUptoSaid : Prop := bwtBackUptoRow.holds Try.pinned (OpenSpec.upto bwtBackSpec)

/-- 'foliolaw9.BwtPlaces', WHERE WHAT IT READS IS OF BULK AT MOST 1048576: true; the input reads as it did. -/
def bwtPlacesUptoRow : OpenClaim := { program := "ytklpmpniempmcaa", sum := "927078a7ca045a80219e4873fd1ff89ee689a90acca87b68ef013b28626bb414", func := "folio/foliolaw9.BwtPlaces", spec := "bwtPlaces", inPlace := ["slices.overlaps[int]"], unfollowed := true, recurses := true, apart := false, narrowed := true }
def BwtPlacesUptoSaid : Prop := bwtPlacesUptoRow.holds Try.pinned (OpenSpec.upto bwtPlacesSpec)

/-- 'foliolaw9.BwtSame', WHERE WHAT IT READS IS OF BULK AT MOST 1048576: true; the input reads as it did. -/
def bwtSameUptoRow : OpenClaim := { program := "ytklpmpniempmcaa", sum := "927078a7ca045a80219e4873fd1ff89ee689a90acca87b68ef013b28626bb414", func := "folio/foliolaw9.BwtSame", spec := "bwtSame", inPlace := ["slices.overlaps[int]"], unfollowed := true, recurses := true, apart := false, narrowed := true }
def BwtSameUptoSaid : Prop := bwtSameUptoRow.holds Try.pinned (OpenSpec.upto bwtSameSpec)

/-- 'foliolaw9.BwtWords', WHERE WHAT IT READS IS OF BULK AT MOST 1048576: true; the input reads as it did. -/
def bwtWordsUptoRow : OpenClaim := { program := "ytklpmpniempmcaa", sum := "927078a7ca045a80219e4873fd1ff89ee689a90acca87b68ef013b28626bb414", func := "folio/foliolaw9.BwtWords", spec := "bwtWords", inPlace := ["slices.overlaps[int]"], unfollowed := true, recurses := true, apart := false, narrowed := true }
def BwtWordsUptoSaid : Prop := bwtWordsUptoRow.holds Try.pinned (OpenSpec.upto bwtWordsSpec)

end Rows
end Go.Proofs.Ytklpmpniempmcaa
