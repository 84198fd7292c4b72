/-
  DERIVED. GIVEN WITH THE SEED: THE CARDS: each row of YtaffmfocjaihlaaDoorRows.lean that lists a variable, with what it lists TIED to the program's text (the seventh form; the later family's looks); each row that meets fmt, with fmt's text TOLD by the authors' own Lean function (tested against real Go, not proved from fmt's source: count such statements apart). THE CARD IS WHAT COUNTS. Prove the row's statement (the work); the ties are given (YtaffmfocjaihlaaDoorTie.lean); close each card by the builder's one call (the guide's Derived/Test/ToyasCard.lean, 'card_holds'). Laid BY PROGRAM, IN A SANDBOX (cutbox-door.mjs). By AI agents, Wed Nov 11 2026. No macro, syntax, notation, axiom, sorry.
-/
import Derived.Test.YtaffmfocjaihlaaDoorRows
import GoSem.ClaimSeven
namespace Go.Proofs.YtaffmfocjaihlaaDoor
namespace Rows

/-- THE TIED CARD OF 'foliolaw18.EditBytes'. -/
def editBytesCard : Claim7 := { stood := { row := editBytesRow, standIns := [], harness := (true, "b9d9116cdc7003da11ff3a4b0102f782443fc390fe454d0453706d7c1d6fa665"), looks := false }, kinds := [], alts := [], laidByText := true, laidKinds := [.data], laidTests := true, laidLooks := .later }
def EditBytesCardSaid : Prop := Claim7.holds Tryd.pinned (.plain (OpenSpec.ofChange editBytesSpec)) editBytesCard

/-- THE TIED CARD OF 'foliolaw18.EditRot'. -/
def editRotCard : Claim7 := { stood := { row := editRotRow, standIns := [], harness := (true, "b9d9116cdc7003da11ff3a4b0102f782443fc390fe454d0453706d7c1d6fa665"), looks := false }, kinds := [], alts := [], laidByText := true, laidKinds := [.data], laidTests := true, laidLooks := .later }
def EditRotCardSaid : Prop := Claim7.holds Tryd.pinned (.plain (OpenSpec.ofChange editRotSpec)) editRotCard

/-- THE TIED CARD OF 'foliolaw18.EditAny'. -/
def editAnyCard : Claim7 := { stood := { row := editAnyRow, standIns := [], harness := (true, "b9d9116cdc7003da11ff3a4b0102f782443fc390fe454d0453706d7c1d6fa665"), looks := false }, kinds := [], alts := [], laidByText := true, laidKinds := [.data], laidTests := true, laidLooks := .later }
def EditAnyCardSaid : Prop := Claim7.holds Tryd.pinned (.plain (OpenSpec.ofChange editAnySpec)) editAnyCard

/-- THE TIED CARD OF 'foliolaw18.EditEnds'. -/
def editEndsCard : Claim7 := { stood := { row := editEndsRow, standIns := [], harness := (true, "b9d9116cdc7003da11ff3a4b0102f782443fc390fe454d0453706d7c1d6fa665"), looks := false }, kinds := [], alts := [], laidByText := true, laidKinds := [.data], laidTests := true, laidLooks := .later }
def EditEndsCardSaid : Prop := Claim7.holds Tryd.pinned (.plain (OpenSpec.ofChange editEndsSpec)) editEndsCard

/-- THE TIED CARD OF 'foliolaw18.EditMany'. -/
def editManyCard : Claim7 := { stood := { row := editManyRow, standIns := [], harness := (true, "b9d9116cdc7003da11ff3a4b0102f782443fc390fe454d0453706d7c1d6fa665"), looks := false }, kinds := [], alts := [], laidByText := true, laidKinds := [.data], laidTests := true, laidLooks := .later }
def EditManyCardSaid : Prop := Claim7.holds Tryd.pinned (.plain (OpenSpec.ofChange editManySpec)) editManyCard

/-- THE SECOND FORM's CARD OF 'foliolaw18.EditBytes'. -/
def editBytesUptoCard : Claim7 := { stood := { row := editBytesUptoRow, standIns := [], harness := (true, "b9d9116cdc7003da11ff3a4b0102f782443fc390fe454d0453706d7c1d6fa665"), looks := false }, kinds := [], alts := [], laidByText := true, laidKinds := [.data], laidTests := true, laidLooks := .later }
def EditBytesUptoCardSaid : Prop := Claim7.holds Tryd.pinned (.plain (OpenSpec.upto editBytesSpec)) editBytesUptoCard

/-- THE SECOND FORM's CARD OF 'foliolaw18.EditRot'. -/
def editRotUptoCard : Claim7 := { stood := { row := editRotUptoRow, standIns := [], harness := (true, "b9d9116cdc7003da11ff3a4b0102f782443fc390fe454d0453706d7c1d6fa665"), looks := false }, kinds := [], alts := [], laidByText := true, laidKinds := [.data], laidTests := true, laidLooks := .later }
def EditRotUptoCardSaid : Prop := Claim7.holds Tryd.pinned (.plain (OpenSpec.upto editRotSpec)) editRotUptoCard

/-- THE SECOND FORM's CARD OF 'foliolaw18.EditAny'. -/
def editAnyUptoCard : Claim7 := { stood := { row := editAnyUptoRow, standIns := [], harness := (true, "b9d9116cdc7003da11ff3a4b0102f782443fc390fe454d0453706d7c1d6fa665"), looks := false }, kinds := [], alts := [], laidByText := true, laidKinds := [.data], laidTests := true, laidLooks := .later }
def EditAnyUptoCardSaid : Prop := Claim7.holds Tryd.pinned (.plain (OpenSpec.upto editAnySpec)) editAnyUptoCard

/-- THE SECOND FORM's CARD OF 'foliolaw18.EditEnds'. -/
def editEndsUptoCard : Claim7 := { stood := { row := editEndsUptoRow, standIns := [], harness := (true, "b9d9116cdc7003da11ff3a4b0102f782443fc390fe454d0453706d7c1d6fa665"), looks := false }, kinds := [], alts := [], laidByText := true, laidKinds := [.data], laidTests := true, laidLooks := .later }
def EditEndsUptoCardSaid : Prop := Claim7.holds Tryd.pinned (.plain (OpenSpec.upto editEndsSpec)) editEndsUptoCard

/-- THE SECOND FORM's CARD OF 'foliolaw18.EditMany'. -/
def editManyUptoCard : Claim7 := { stood := { row := editManyUptoRow, standIns := [], harness := (true, "b9d9116cdc7003da11ff3a4b0102f782443fc390fe454d0453706d7c1d6fa665"), looks := false }, kinds := [], alts := [], laidByText := true, laidKinds := [.data], laidTests := true, laidLooks := .later }
def EditManyUptoCardSaid : Prop := Claim7.holds Tryd.pinned (.plain (OpenSpec.upto editManySpec)) editManyUptoCard
end Rows
end Go.Proofs.YtaffmfocjaihlaaDoor
