/-
  DERIVED. GIVEN WITH THE SEED: THE CARDS: each row of YtfggchmcjjpkeaaGreatDoorRows.lean that lists a variable, with what it lists TIED to the program's text (the seventh form; the later family's looks); each row that meets fmt, with fmt's text TOLD by the authors' own Lean function (tested against real Go, not proved from fmt's source: count such statements apart). THE CARD IS WHAT COUNTS. Prove the row's statement (the work); the ties are given (YtfggchmcjjpkeaaGreatDoorTie.lean); close each card by the builder's one call (the guide's Derived/Test/ToyasCard.lean, 'card_holds'). Laid BY PROGRAM, IN A SANDBOX (cutbox-door.mjs). By AI agents, Wed Nov 11 2026. No macro, syntax, notation, axiom, sorry.
-/
import Derived.Test.YtfggchmcjjpkeaaGreatDoorRows
import GoSem.ClaimSeven
namespace Go.Proofs.YtfggchmcjjpkeaaGreatDoor
namespace Rows

/-- THE TIED CARD OF 'foliolaw11.ContainerRot'. -/
def containerRotCard : Claim7 := { stood := { row := containerRotRow, standIns := [], harness := (true, "37040e0760bcb2265f7a0912c76afba41822356dd903917c4aa0a13000363dd4"), looks := false }, kinds := [], alts := [], laidByText := true, laidKinds := [.data], laidTests := true, laidLooks := .later }
def ContainerRotCardSaid : Prop := Claim7.holds Tryz.pinned (.plain (OpenSpec.ofChange containerRotSpec)) containerRotCard

/-- THE TIED CARD OF 'foliolaw11.ContainerAny'. -/
def containerAnyCard : Claim7 := { stood := { row := containerAnyRow, standIns := [], harness := (true, "37040e0760bcb2265f7a0912c76afba41822356dd903917c4aa0a13000363dd4"), looks := false }, kinds := [], alts := [], laidByText := true, laidKinds := [.data], laidTests := true, laidLooks := .later }
def ContainerAnyCardSaid : Prop := Claim7.holds Tryz.pinned (.plain (OpenSpec.ofChange containerAnySpec)) containerAnyCard

/-- THE TIED CARD OF 'foliolaw11.ContainerParts'. -/
def containerPartsCard : Claim7 := { stood := { row := containerPartsRow, standIns := [], harness := (true, "37040e0760bcb2265f7a0912c76afba41822356dd903917c4aa0a13000363dd4"), looks := false }, kinds := [], alts := [], laidByText := true, laidKinds := [.data], laidTests := true, laidLooks := .later }
def ContainerPartsCardSaid : Prop := Claim7.holds Tryz.pinned (.plain (OpenSpec.ofChange containerPartsSpec)) containerPartsCard

/-- THE TIED CARD OF 'foliolaw11.ContainerPoor'. -/
def containerPoorCard : Claim7 := { stood := { row := containerPoorRow, standIns := [], harness := (true, "37040e0760bcb2265f7a0912c76afba41822356dd903917c4aa0a13000363dd4"), looks := false }, kinds := [], alts := [], laidByText := true, laidKinds := [.data], laidTests := true, laidLooks := .later }
def ContainerPoorCardSaid : Prop := Claim7.holds Tryz.pinned (.plain (OpenSpec.ofChange containerPoorSpec)) containerPoorCard

/-- THE SECOND FORM's CARD OF 'foliolaw11.ContainerRot'. -/
def containerRotUptoCard : Claim7 := { stood := { row := containerRotUptoRow, standIns := [], harness := (true, "37040e0760bcb2265f7a0912c76afba41822356dd903917c4aa0a13000363dd4"), looks := false }, kinds := [], alts := [], laidByText := true, laidKinds := [.data], laidTests := true, laidLooks := .later }
def ContainerRotUptoCardSaid : Prop := Claim7.holds Tryz.pinned (.plain (OpenSpec.upto containerRotSpec)) containerRotUptoCard

/-- THE SECOND FORM's CARD OF 'foliolaw11.ContainerAny'. -/
def containerAnyUptoCard : Claim7 := { stood := { row := containerAnyUptoRow, standIns := [], harness := (true, "37040e0760bcb2265f7a0912c76afba41822356dd903917c4aa0a13000363dd4"), looks := false }, kinds := [], alts := [], laidByText := true, laidKinds := [.data], laidTests := true, laidLooks := .later }
def ContainerAnyUptoCardSaid : Prop := Claim7.holds Tryz.pinned (.plain (OpenSpec.upto containerAnySpec)) containerAnyUptoCard

/-- THE SECOND FORM's CARD OF 'foliolaw11.ContainerParts'. -/
def containerPartsUptoCard : Claim7 := { stood := { row := containerPartsUptoRow, standIns := [], harness := (true, "37040e0760bcb2265f7a0912c76afba41822356dd903917c4aa0a13000363dd4"), looks := false }, kinds := [], alts := [], laidByText := true, laidKinds := [.data], laidTests := true, laidLooks := .later }
def ContainerPartsUptoCardSaid : Prop := Claim7.holds Tryz.pinned (.plain (OpenSpec.upto containerPartsSpec)) containerPartsUptoCard

/-- THE SECOND FORM's CARD OF 'foliolaw11.ContainerPoor'. -/
def containerPoorUptoCard : Claim7 := { stood := { row := containerPoorUptoRow, standIns := [], harness := (true, "37040e0760bcb2265f7a0912c76afba41822356dd903917c4aa0a13000363dd4"), looks := false }, kinds := [], alts := [], laidByText := true, laidKinds := [.data], laidTests := true, laidLooks := .later }
def ContainerPoorUptoCardSaid : Prop := Claim7.holds Tryz.pinned (.plain (OpenSpec.upto containerPoorSpec)) containerPoorUptoCard
end Rows
end Go.Proofs.YtfggchmcjjpkeaaGreatDoor
