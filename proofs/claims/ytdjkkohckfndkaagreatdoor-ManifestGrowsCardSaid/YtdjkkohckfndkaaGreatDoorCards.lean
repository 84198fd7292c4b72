/-
  DERIVED. GIVEN WITH THE SEED: THE CARDS: each row of YtdjkkohckfndkaaGreatDoorRows.lean that lists a variable, with what it lists TIED to the program's text (the seventh form; the later family's looks); each row that meets fmt, with fmt's text TOLD by the authors' own Lean function (tested against real Go, not proved from fmt's source: count such statements apart). THE CARD IS WHAT COUNTS. Prove the row's statement (the work); the ties are given (YtdjkkohckfndkaaGreatDoorTie.lean); close each card by the builder's one call (the guide's Derived/Test/ToyasCard.lean, 'card_holds'). Laid BY PROGRAM, IN A SANDBOX (cutbox-door.mjs). By AI agents, Wed Nov 11 2026. No macro, syntax, notation, axiom, sorry.
-/
import Derived.Test.YtdjkkohckfndkaaGreatDoorRows
import GoSem.ClaimSeven
namespace Go.Proofs.YtdjkkohckfndkaaGreatDoor
namespace Rows

/-- THE TIED CARD OF 'foliolaw15.RawAny'. -/
def rawAnyCard : Claim7 := { stood := { row := rawAnyRow, standIns := [], harness := (true, "c57ab09980f82c5b049fcabf1c989bef84464edc3ba93621ee491f3e749f3b36"), looks := true }, kinds := [], alts := [], laidByText := true, laidKinds := [.data, .data, .data, .data], laidTests := true, laidLooks := .later }
def RawAnyCardSaid : Prop := Claim7.holds Tryz.pinned (.plain (OpenSpec.ofChange rawAnySpec)) rawAnyCard

/-- THE TIED CARD OF 'foliolaw19.ManifestAny'. -/
def manifestAnyCard : Claim7 := { stood := { row := manifestAnyRow, standIns := [], harness := (true, "c57ab09980f82c5b049fcabf1c989bef84464edc3ba93621ee491f3e749f3b36"), looks := true }, kinds := [], alts := [], laidByText := true, laidKinds := [.data], laidTests := true, laidLooks := .later }
def ManifestAnyCardSaid : Prop := Claim7.holds Tryz.pinned (.plain (OpenSpec.ofChange manifestAnySpec)) manifestAnyCard

/-- THE TIED CARD OF 'foliolaw19.ManifestGrows'. -/
def manifestGrowsCard : Claim7 := { stood := { row := manifestGrowsRow, standIns := [], harness := (true, "c57ab09980f82c5b049fcabf1c989bef84464edc3ba93621ee491f3e749f3b36"), looks := true }, kinds := [], alts := [], laidByText := true, laidKinds := [.data, .data, .data, .data], laidTests := true, laidLooks := .later }
def ManifestGrowsCardSaid : Prop := Claim7.holds Tryz.pinned (.plain (OpenSpec.ofChange manifestGrowsSpec)) manifestGrowsCard

/-- THE TIED CARD OF 'foliolaw19.ManifestOld'. -/
def manifestOldCard : Claim7 := { stood := { row := manifestOldRow, standIns := [], harness := (true, "c57ab09980f82c5b049fcabf1c989bef84464edc3ba93621ee491f3e749f3b36"), looks := true }, kinds := [], alts := [], laidByText := true, laidKinds := [.data, .data, .data, .data], laidTests := true, laidLooks := .later }
def ManifestOldCardSaid : Prop := Claim7.holds Tryz.pinned (.plain (OpenSpec.ofChange manifestOldSpec)) manifestOldCard

/-- THE TIED CARD OF 'foliolaw19.ManifestNone'. -/
def manifestNoneCard : Claim7 := { stood := { row := manifestNoneRow, standIns := [], harness := (true, "c57ab09980f82c5b049fcabf1c989bef84464edc3ba93621ee491f3e749f3b36"), looks := true }, kinds := [], alts := [], laidByText := true, laidKinds := [.data, .data, .data, .data], laidTests := true, laidLooks := .later }
def ManifestNoneCardSaid : Prop := Claim7.holds Tryz.pinned (.plain (OpenSpec.ofChange manifestNoneSpec)) manifestNoneCard

/-- THE SECOND FORM's CARD OF 'foliolaw15.RawAny'. -/
def rawAnyUptoCard : Claim7 := { stood := { row := rawAnyUptoRow, standIns := [], harness := (true, "c57ab09980f82c5b049fcabf1c989bef84464edc3ba93621ee491f3e749f3b36"), looks := true }, kinds := [], alts := [], laidByText := true, laidKinds := [.data, .data, .data, .data], laidTests := true, laidLooks := .later }
def RawAnyUptoCardSaid : Prop := Claim7.holds Tryz.pinned (.plain (OpenSpec.upto rawAnySpec)) rawAnyUptoCard

/-- THE SECOND FORM's CARD OF 'foliolaw19.ManifestAny'. -/
def manifestAnyUptoCard : Claim7 := { stood := { row := manifestAnyUptoRow, standIns := [], harness := (true, "c57ab09980f82c5b049fcabf1c989bef84464edc3ba93621ee491f3e749f3b36"), looks := true }, kinds := [], alts := [], laidByText := true, laidKinds := [.data], laidTests := true, laidLooks := .later }
def ManifestAnyUptoCardSaid : Prop := Claim7.holds Tryz.pinned (.plain (OpenSpec.upto manifestAnySpec)) manifestAnyUptoCard

/-- THE SECOND FORM's CARD OF 'foliolaw19.ManifestGrows'. -/
def manifestGrowsUptoCard : Claim7 := { stood := { row := manifestGrowsUptoRow, standIns := [], harness := (true, "c57ab09980f82c5b049fcabf1c989bef84464edc3ba93621ee491f3e749f3b36"), looks := true }, kinds := [], alts := [], laidByText := true, laidKinds := [.data, .data, .data, .data], laidTests := true, laidLooks := .later }
def ManifestGrowsUptoCardSaid : Prop := Claim7.holds Tryz.pinned (.plain (OpenSpec.upto manifestGrowsSpec)) manifestGrowsUptoCard

/-- THE SECOND FORM's CARD OF 'foliolaw19.ManifestOld'. -/
def manifestOldUptoCard : Claim7 := { stood := { row := manifestOldUptoRow, standIns := [], harness := (true, "c57ab09980f82c5b049fcabf1c989bef84464edc3ba93621ee491f3e749f3b36"), looks := true }, kinds := [], alts := [], laidByText := true, laidKinds := [.data, .data, .data, .data], laidTests := true, laidLooks := .later }
def ManifestOldUptoCardSaid : Prop := Claim7.holds Tryz.pinned (.plain (OpenSpec.upto manifestOldSpec)) manifestOldUptoCard

/-- THE SECOND FORM's CARD OF 'foliolaw19.ManifestNone'. -/
def manifestNoneUptoCard : Claim7 := { stood := { row := manifestNoneUptoRow, standIns := [], harness := (true, "c57ab09980f82c5b049fcabf1c989bef84464edc3ba93621ee491f3e749f3b36"), looks := true }, kinds := [], alts := [], laidByText := true, laidKinds := [.data, .data, .data, .data], laidTests := true, laidLooks := .later }
def ManifestNoneUptoCardSaid : Prop := Claim7.holds Tryz.pinned (.plain (OpenSpec.upto manifestNoneSpec)) manifestNoneUptoCard
end Rows
end Go.Proofs.YtdjkkohckfndkaaGreatDoor
