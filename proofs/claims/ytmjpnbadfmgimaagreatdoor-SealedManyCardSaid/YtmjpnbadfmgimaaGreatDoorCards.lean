/-
  DERIVED. GIVEN WITH THE SEED: THE CARDS: each row of YtmjpnbadfmgimaaGreatDoorRows.lean that lists a variable, with what it lists TIED to the program's text (the seventh form; the later family's looks); each row that meets fmt, with fmt's text TOLD by the authors' own Lean function (tested against real Go, not proved from fmt's source: count such statements apart). THE CARD IS WHAT COUNTS. Prove the row's statement (the work); the ties are given (YtmjpnbadfmgimaaGreatDoorTie.lean); close each card by the builder's one call (the guide's Derived/Test/ToyasCard.lean, 'card_holds'). Laid BY PROGRAM, IN A SANDBOX (cutbox-door.mjs). By AI agents, Wed Nov 11 2026. No macro, syntax, notation, axiom, sorry.
-/
import Derived.Test.YtmjpnbadfmgimaaGreatDoorRows
import GoSem.ClaimSeven
namespace Go.Proofs.YtmjpnbadfmgimaaGreatDoor
namespace Rows

/-- THE TIED CARD OF 'foliolaw16.SealedAll'. -/
def sealedAllCard : Claim7 := { stood := { row := sealedAllRow, standIns := [], harness := (true, "c0332ace05fdf18e9c07363e1d6c80ed2039476969d22b4f826dcdb9bd111433"), looks := false }, kinds := [], alts := [], laidByText := true, laidKinds := [.data], laidTests := true, laidLooks := .later }
def SealedAllCardSaid : Prop := Claim7.holds Tryz.pinned (.plain (OpenSpec.ofChange sealedAllSpec)) sealedAllCard

/-- THE TIED CARD OF 'foliolaw16.SealedRaw'. -/
def sealedRawCard : Claim7 := { stood := { row := sealedRawRow, standIns := [], harness := (true, "c0332ace05fdf18e9c07363e1d6c80ed2039476969d22b4f826dcdb9bd111433"), looks := false }, kinds := [], alts := [], laidByText := true, laidKinds := [.data], laidTests := true, laidLooks := .later }
def SealedRawCardSaid : Prop := Claim7.holds Tryz.pinned (.plain (OpenSpec.ofChange sealedRawSpec)) sealedRawCard

/-- THE TIED CARD OF 'foliolaw16.SealedNone'. -/
def sealedNoneCard : Claim7 := { stood := { row := sealedNoneRow, standIns := [], harness := (true, "c0332ace05fdf18e9c07363e1d6c80ed2039476969d22b4f826dcdb9bd111433"), looks := false }, kinds := [], alts := [], laidByText := true, laidKinds := [.data], laidTests := true, laidLooks := .later }
def SealedNoneCardSaid : Prop := Claim7.holds Tryz.pinned (.plain (OpenSpec.ofChange sealedNoneSpec)) sealedNoneCard

/-- THE TIED CARD OF 'foliolaw16.SealedAny'. -/
def sealedAnyCard : Claim7 := { stood := { row := sealedAnyRow, standIns := [], harness := (true, "c0332ace05fdf18e9c07363e1d6c80ed2039476969d22b4f826dcdb9bd111433"), looks := false }, kinds := [], alts := [], laidByText := true, laidKinds := [.data], laidTests := true, laidLooks := .later }
def SealedAnyCardSaid : Prop := Claim7.holds Tryz.pinned (.plain (OpenSpec.ofChange sealedAnySpec)) sealedAnyCard

/-- THE TIED CARD OF 'foliolaw16.SealedTwins'. -/
def sealedTwinsCard : Claim7 := { stood := { row := sealedTwinsRow, standIns := [], harness := (true, "c0332ace05fdf18e9c07363e1d6c80ed2039476969d22b4f826dcdb9bd111433"), looks := false }, kinds := [], alts := [], laidByText := true, laidKinds := [.data], laidTests := true, laidLooks := .later }
def SealedTwinsCardSaid : Prop := Claim7.holds Tryz.pinned (.plain (OpenSpec.ofChange sealedTwinsSpec)) sealedTwinsCard

/-- THE TIED CARD OF 'foliolaw16.SealedMany'. -/
def sealedManyCard : Claim7 := { stood := { row := sealedManyRow, standIns := [], harness := (true, "c0332ace05fdf18e9c07363e1d6c80ed2039476969d22b4f826dcdb9bd111433"), looks := false }, kinds := [], alts := [], laidByText := true, laidKinds := [.data], laidTests := true, laidLooks := .later }
def SealedManyCardSaid : Prop := Claim7.holds Tryz.pinned (.plain (OpenSpec.ofChange sealedManySpec)) sealedManyCard

/-- THE SECOND FORM's CARD OF 'foliolaw16.SealedAll'. -/
def sealedAllUptoCard : Claim7 := { stood := { row := sealedAllUptoRow, standIns := [], harness := (true, "c0332ace05fdf18e9c07363e1d6c80ed2039476969d22b4f826dcdb9bd111433"), looks := false }, kinds := [], alts := [], laidByText := true, laidKinds := [.data], laidTests := true, laidLooks := .later }
def SealedAllUptoCardSaid : Prop := Claim7.holds Tryz.pinned (.plain (OpenSpec.upto sealedAllSpec)) sealedAllUptoCard

/-- THE SECOND FORM's CARD OF 'foliolaw16.SealedRaw'. -/
def sealedRawUptoCard : Claim7 := { stood := { row := sealedRawUptoRow, standIns := [], harness := (true, "c0332ace05fdf18e9c07363e1d6c80ed2039476969d22b4f826dcdb9bd111433"), looks := false }, kinds := [], alts := [], laidByText := true, laidKinds := [.data], laidTests := true, laidLooks := .later }
def SealedRawUptoCardSaid : Prop := Claim7.holds Tryz.pinned (.plain (OpenSpec.upto sealedRawSpec)) sealedRawUptoCard

/-- THE SECOND FORM's CARD OF 'foliolaw16.SealedNone'. -/
def sealedNoneUptoCard : Claim7 := { stood := { row := sealedNoneUptoRow, standIns := [], harness := (true, "c0332ace05fdf18e9c07363e1d6c80ed2039476969d22b4f826dcdb9bd111433"), looks := false }, kinds := [], alts := [], laidByText := true, laidKinds := [.data], laidTests := true, laidLooks := .later }
def SealedNoneUptoCardSaid : Prop := Claim7.holds Tryz.pinned (.plain (OpenSpec.upto sealedNoneSpec)) sealedNoneUptoCard

/-- THE SECOND FORM's CARD OF 'foliolaw16.SealedAny'. -/
def sealedAnyUptoCard : Claim7 := { stood := { row := sealedAnyUptoRow, standIns := [], harness := (true, "c0332ace05fdf18e9c07363e1d6c80ed2039476969d22b4f826dcdb9bd111433"), looks := false }, kinds := [], alts := [], laidByText := true, laidKinds := [.data], laidTests := true, laidLooks := .later }
def SealedAnyUptoCardSaid : Prop := Claim7.holds Tryz.pinned (.plain (OpenSpec.upto sealedAnySpec)) sealedAnyUptoCard

/-- THE SECOND FORM's CARD OF 'foliolaw16.SealedTwins'. -/
def sealedTwinsUptoCard : Claim7 := { stood := { row := sealedTwinsUptoRow, standIns := [], harness := (true, "c0332ace05fdf18e9c07363e1d6c80ed2039476969d22b4f826dcdb9bd111433"), looks := false }, kinds := [], alts := [], laidByText := true, laidKinds := [.data], laidTests := true, laidLooks := .later }
def SealedTwinsUptoCardSaid : Prop := Claim7.holds Tryz.pinned (.plain (OpenSpec.upto sealedTwinsSpec)) sealedTwinsUptoCard

/-- THE SECOND FORM's CARD OF 'foliolaw16.SealedMany'. -/
def sealedManyUptoCard : Claim7 := { stood := { row := sealedManyUptoRow, standIns := [], harness := (true, "c0332ace05fdf18e9c07363e1d6c80ed2039476969d22b4f826dcdb9bd111433"), looks := false }, kinds := [], alts := [], laidByText := true, laidKinds := [.data], laidTests := true, laidLooks := .later }
def SealedManyUptoCardSaid : Prop := Claim7.holds Tryz.pinned (.plain (OpenSpec.upto sealedManySpec)) sealedManyUptoCard
end Rows
end Go.Proofs.YtmjpnbadfmgimaaGreatDoor
