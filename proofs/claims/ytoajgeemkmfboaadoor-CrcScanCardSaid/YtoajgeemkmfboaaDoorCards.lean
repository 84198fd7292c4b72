/-
  DERIVED. GIVEN WITH THE SEED: THE CARDS: each row of YtoajgeemkmfboaaDoorRows.lean that lists a variable, with what it lists TIED to the program's text (the seventh form; the later family's looks); each row that meets fmt, with fmt's text TOLD by the authors' own Lean function (tested against real Go, not proved from fmt's source: count such statements apart). THE CARD IS WHAT COUNTS. Prove the row's statement (the work); the ties are given (YtoajgeemkmfboaaDoorTie.lean); close each card by the builder's one call (the guide's Derived/Test/ToyasCard.lean, 'card_holds'). Laid BY PROGRAM, IN A SANDBOX (cutbox-door.mjs). By AI agents, Wed Nov 11 2026. No macro, syntax, notation, axiom, sorry.
-/
import Derived.Test.YtoajgeemkmfboaaDoorRows
import GoSem.ClaimSeven
namespace Go.Proofs.YtoajgeemkmfboaaDoor
namespace Rows

/-- THE TIED CARD OF 'foliolaw3.CrcSum'. -/
def crcSumCard : Claim7 := { stood := { row := crcSumRow, standIns := [], harness := (true, "1d7ed3430edec3119e5584b40867bf0c4b95d40b8f734497d65adf60cbee5fbe"), looks := false }, kinds := [], alts := [], laidByText := true, laidKinds := [.data], laidTests := true, laidLooks := .later }
def CrcSumCardSaid : Prop := Claim7.holds Tryd.pinned (.plain (OpenSpec.ofChange crcSumSpec)) crcSumCard

/-- THE TIED CARD OF 'foliolaw3.CrcSeal'. -/
def crcSealCard : Claim7 := { stood := { row := crcSealRow, standIns := [], harness := (true, "1d7ed3430edec3119e5584b40867bf0c4b95d40b8f734497d65adf60cbee5fbe"), looks := false }, kinds := [], alts := [], laidByText := true, laidKinds := [.data], laidTests := true, laidLooks := .later }
def CrcSealCardSaid : Prop := Claim7.holds Tryd.pinned (.plain (OpenSpec.ofChange crcSealSpec)) crcSealCard

/-- THE TIED CARD OF 'foliolaw3.CrcScan'. -/
def crcScanCard : Claim7 := { stood := { row := crcScanRow, standIns := [], harness := (true, "1d7ed3430edec3119e5584b40867bf0c4b95d40b8f734497d65adf60cbee5fbe"), looks := false }, kinds := [], alts := [], laidByText := true, laidKinds := [.data], laidTests := true, laidLooks := .later }
def CrcScanCardSaid : Prop := Claim7.holds Tryd.pinned (.plain (OpenSpec.ofChange crcScanSpec)) crcScanCard

/-- THE TIED CARD OF 'foliolaw3.CrcCut'. -/
def crcCutCard : Claim7 := { stood := { row := crcCutRow, standIns := [], harness := (true, "1d7ed3430edec3119e5584b40867bf0c4b95d40b8f734497d65adf60cbee5fbe"), looks := false }, kinds := [], alts := [], laidByText := true, laidKinds := [.data], laidTests := true, laidLooks := .later }
def CrcCutCardSaid : Prop := Claim7.holds Tryd.pinned (.plain (OpenSpec.ofChange crcCutSpec)) crcCutCard

/-- THE TIED CARD OF 'foliolaw3.CrcRot'. -/
def crcRotCard : Claim7 := { stood := { row := crcRotRow, standIns := [], harness := (true, "1d7ed3430edec3119e5584b40867bf0c4b95d40b8f734497d65adf60cbee5fbe"), looks := false }, kinds := [], alts := [], laidByText := true, laidKinds := [.data], laidTests := true, laidLooks := .later }
def CrcRotCardSaid : Prop := Claim7.holds Tryd.pinned (.plain (OpenSpec.ofChange crcRotSpec)) crcRotCard

/-- THE TIED CARD OF 'foliolaw3.CrcThree'. -/
def crcThreeCard : Claim7 := { stood := { row := crcThreeRow, standIns := [], harness := (true, "1d7ed3430edec3119e5584b40867bf0c4b95d40b8f734497d65adf60cbee5fbe"), looks := false }, kinds := [], alts := [], laidByText := true, laidKinds := [.data], laidTests := true, laidLooks := .later }
def CrcThreeCardSaid : Prop := Claim7.holds Tryd.pinned (.plain (OpenSpec.ofChange crcThreeSpec)) crcThreeCard

/-- THE TIED CARD OF 'foliolaw3.CrcBurst'. -/
def crcBurstCard : Claim7 := { stood := { row := crcBurstRow, standIns := [], harness := (true, "1d7ed3430edec3119e5584b40867bf0c4b95d40b8f734497d65adf60cbee5fbe"), looks := false }, kinds := [], alts := [], laidByText := true, laidKinds := [.data], laidTests := true, laidLooks := .later }
def CrcBurstCardSaid : Prop := Claim7.holds Tryd.pinned (.plain (OpenSpec.ofChange crcBurstSpec)) crcBurstCard

/-- THE TIED CARD OF 'foliolaw3.CrcMany'. -/
def crcManyCard : Claim7 := { stood := { row := crcManyRow, standIns := [], harness := (true, "1d7ed3430edec3119e5584b40867bf0c4b95d40b8f734497d65adf60cbee5fbe"), looks := false }, kinds := [], alts := [], laidByText := true, laidKinds := [.data], laidTests := true, laidLooks := .later }
def CrcManyCardSaid : Prop := Claim7.holds Tryd.pinned (.plain (OpenSpec.ofChange crcManySpec)) crcManyCard

/-- THE SECOND FORM's CARD OF 'foliolaw3.CrcSum'. -/
def crcSumUptoCard : Claim7 := { stood := { row := crcSumUptoRow, standIns := [], harness := (true, "1d7ed3430edec3119e5584b40867bf0c4b95d40b8f734497d65adf60cbee5fbe"), looks := false }, kinds := [], alts := [], laidByText := true, laidKinds := [.data], laidTests := true, laidLooks := .later }
def CrcSumUptoCardSaid : Prop := Claim7.holds Tryd.pinned (.plain (OpenSpec.upto crcSumSpec)) crcSumUptoCard

/-- THE SECOND FORM's CARD OF 'foliolaw3.CrcSeal'. -/
def crcSealUptoCard : Claim7 := { stood := { row := crcSealUptoRow, standIns := [], harness := (true, "1d7ed3430edec3119e5584b40867bf0c4b95d40b8f734497d65adf60cbee5fbe"), looks := false }, kinds := [], alts := [], laidByText := true, laidKinds := [.data], laidTests := true, laidLooks := .later }
def CrcSealUptoCardSaid : Prop := Claim7.holds Tryd.pinned (.plain (OpenSpec.upto crcSealSpec)) crcSealUptoCard

/-- THE SECOND FORM's CARD OF 'foliolaw3.CrcScan'. -/
def crcScanUptoCard : Claim7 := { stood := { row := crcScanUptoRow, standIns := [], harness := (true, "1d7ed3430edec3119e5584b40867bf0c4b95d40b8f734497d65adf60cbee5fbe"), looks := false }, kinds := [], alts := [], laidByText := true, laidKinds := [.data], laidTests := true, laidLooks := .later }
def CrcScanUptoCardSaid : Prop := Claim7.holds Tryd.pinned (.plain (OpenSpec.upto crcScanSpec)) crcScanUptoCard

/-- THE SECOND FORM's CARD OF 'foliolaw3.CrcCut'. -/
def crcCutUptoCard : Claim7 := { stood := { row := crcCutUptoRow, standIns := [], harness := (true, "1d7ed3430edec3119e5584b40867bf0c4b95d40b8f734497d65adf60cbee5fbe"), looks := false }, kinds := [], alts := [], laidByText := true, laidKinds := [.data], laidTests := true, laidLooks := .later }
def CrcCutUptoCardSaid : Prop := Claim7.holds Tryd.pinned (.plain (OpenSpec.upto crcCutSpec)) crcCutUptoCard

/-- THE SECOND FORM's CARD OF 'foliolaw3.CrcRot'. -/
def crcRotUptoCard : Claim7 := { stood := { row := crcRotUptoRow, standIns := [], harness := (true, "1d7ed3430edec3119e5584b40867bf0c4b95d40b8f734497d65adf60cbee5fbe"), looks := false }, kinds := [], alts := [], laidByText := true, laidKinds := [.data], laidTests := true, laidLooks := .later }
def CrcRotUptoCardSaid : Prop := Claim7.holds Tryd.pinned (.plain (OpenSpec.upto crcRotSpec)) crcRotUptoCard

/-- THE SECOND FORM's CARD OF 'foliolaw3.CrcThree'. -/
def crcThreeUptoCard : Claim7 := { stood := { row := crcThreeUptoRow, standIns := [], harness := (true, "1d7ed3430edec3119e5584b40867bf0c4b95d40b8f734497d65adf60cbee5fbe"), looks := false }, kinds := [], alts := [], laidByText := true, laidKinds := [.data], laidTests := true, laidLooks := .later }
def CrcThreeUptoCardSaid : Prop := Claim7.holds Tryd.pinned (.plain (OpenSpec.upto crcThreeSpec)) crcThreeUptoCard

/-- THE SECOND FORM's CARD OF 'foliolaw3.CrcBurst'. -/
def crcBurstUptoCard : Claim7 := { stood := { row := crcBurstUptoRow, standIns := [], harness := (true, "1d7ed3430edec3119e5584b40867bf0c4b95d40b8f734497d65adf60cbee5fbe"), looks := false }, kinds := [], alts := [], laidByText := true, laidKinds := [.data], laidTests := true, laidLooks := .later }
def CrcBurstUptoCardSaid : Prop := Claim7.holds Tryd.pinned (.plain (OpenSpec.upto crcBurstSpec)) crcBurstUptoCard

/-- THE SECOND FORM's CARD OF 'foliolaw3.CrcMany'. -/
def crcManyUptoCard : Claim7 := { stood := { row := crcManyUptoRow, standIns := [], harness := (true, "1d7ed3430edec3119e5584b40867bf0c4b95d40b8f734497d65adf60cbee5fbe"), looks := false }, kinds := [], alts := [], laidByText := true, laidKinds := [.data], laidTests := true, laidLooks := .later }
def CrcManyUptoCardSaid : Prop := Claim7.holds Tryd.pinned (.plain (OpenSpec.upto crcManySpec)) crcManyUptoCard
end Rows
end Go.Proofs.YtoajgeemkmfboaaDoor
