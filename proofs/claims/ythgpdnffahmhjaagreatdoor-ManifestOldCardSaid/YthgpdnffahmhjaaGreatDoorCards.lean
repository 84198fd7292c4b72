/-
  DERIVED. GIVEN WITH THE SEED: THE CARDS: each row of YthgpdnffahmhjaaGreatDoorRows.lean that lists a variable, with what it lists TIED to the program's text (the seventh form; the later family's looks); each row that meets fmt, with fmt's text TOLD by the authors' own Lean function (tested against real Go, not proved from fmt's source: count such statements apart). THE CARD IS WHAT COUNTS. Prove the row's statement (the work); the ties are given (YthgpdnffahmhjaaGreatDoorTie.lean); close each card by the builder's one call (the guide's Derived/Test/ToyasCard.lean, 'card_holds'). Laid BY PROGRAM, IN A SANDBOX (cutbox-door.mjs). By AI agents, Wed Nov 11 2026. No macro, syntax, notation, axiom, sorry.
-/
import Derived.Test.YthgpdnffahmhjaaGreatDoorRows
import GoSem.ClaimSeven
namespace Go.Proofs.YthgpdnffahmhjaaGreatDoor
namespace Rows

/-- THE TIED CARD OF 'foliolaw19.ManifestOld'. -/
def manifestOldCard : Claim7 := { stood := { row := manifestOldRow, standIns := [], harness := (true, "e7e545cab00ec94a33ae333df6ab60bea1b7149ac337cbbce6a5375c00d8ed13"), looks := true }, kinds := [], alts := [], laidByText := true, laidKinds := [.data, .data, .data, .data], laidTests := true, laidLooks := .later }
def ManifestOldCardSaid : Prop := Claim7.holds Tryz.pinned (.plain (OpenSpec.ofChange manifestOldSpec)) manifestOldCard

/-- THE SECOND FORM's CARD OF 'foliolaw19.ManifestOld'. -/
def manifestOldUptoCard : Claim7 := { stood := { row := manifestOldUptoRow, standIns := [], harness := (true, "e7e545cab00ec94a33ae333df6ab60bea1b7149ac337cbbce6a5375c00d8ed13"), looks := true }, kinds := [], alts := [], laidByText := true, laidKinds := [.data, .data, .data, .data], laidTests := true, laidLooks := .later }
def ManifestOldUptoCardSaid : Prop := Claim7.holds Tryz.pinned (.plain (OpenSpec.upto manifestOldSpec)) manifestOldUptoCard
end Rows
end Go.Proofs.YthgpdnffahmhjaaGreatDoor
