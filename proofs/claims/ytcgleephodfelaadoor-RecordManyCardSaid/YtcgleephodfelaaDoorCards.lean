/-
  DERIVED. GIVEN WITH THE SEED: THE CARDS: each row of YtcgleephodfelaaDoorRows.lean that lists a variable, with what it lists TIED to the program's text (the seventh form; the later family's looks); each row that meets fmt, with fmt's text TOLD by the authors' own Lean function (tested against real Go, not proved from fmt's source: count such statements apart). THE CARD IS WHAT COUNTS. Prove the row's statement (the work); the ties are given (YtcgleephodfelaaDoorTie.lean); close each card by the builder's one call (the guide's Derived/Test/ToyasCard.lean, 'card_holds'). Laid BY PROGRAM, IN A SANDBOX (cutbox-door.mjs). By AI agents, Wed Nov 11 2026. No macro, syntax, notation, axiom, sorry.
-/
import Derived.Test.YtcgleephodfelaaDoorRows
import GoSem.ClaimSeven
namespace Go.Proofs.YtcgleephodfelaaDoor
namespace Rows

/-- THE TIED CARD OF 'foliolaw14.RecordBytes'. -/
def recordBytesCard : Claim7 := { stood := { row := recordBytesRow, standIns := [], harness := (true, "b79a2f6d8c28658661d3d803ba3a247bceb125fd20d079f1626746ba76578f09"), looks := false }, kinds := [], alts := [], laidByText := true, laidKinds := [.data], laidTests := true, laidLooks := .later }
def RecordBytesCardSaid : Prop := Claim7.holds Tryd.pinned (.plain (OpenSpec.ofChange recordBytesSpec)) recordBytesCard

/-- THE TIED CARD OF 'foliolaw14.RecordScan'. -/
def recordScanCard : Claim7 := { stood := { row := recordScanRow, standIns := [], harness := (true, "b79a2f6d8c28658661d3d803ba3a247bceb125fd20d079f1626746ba76578f09"), looks := false }, kinds := [], alts := [], laidByText := true, laidKinds := [.data], laidTests := true, laidLooks := .later }
def RecordScanCardSaid : Prop := Claim7.holds Tryd.pinned (.plain (OpenSpec.ofChange recordScanSpec)) recordScanCard

/-- THE TIED CARD OF 'foliolaw14.RecordMany'. -/
def recordManyCard : Claim7 := { stood := { row := recordManyRow, standIns := [], harness := (true, "b79a2f6d8c28658661d3d803ba3a247bceb125fd20d079f1626746ba76578f09"), looks := false }, kinds := [], alts := [], laidByText := true, laidKinds := [.data], laidTests := true, laidLooks := .later }
def RecordManyCardSaid : Prop := Claim7.holds Tryd.pinned (.plain (OpenSpec.ofChange recordManySpec)) recordManyCard

/-- THE SECOND FORM's CARD OF 'foliolaw14.RecordBytes'. -/
def recordBytesUptoCard : Claim7 := { stood := { row := recordBytesUptoRow, standIns := [], harness := (true, "b79a2f6d8c28658661d3d803ba3a247bceb125fd20d079f1626746ba76578f09"), looks := false }, kinds := [], alts := [], laidByText := true, laidKinds := [.data], laidTests := true, laidLooks := .later }
def RecordBytesUptoCardSaid : Prop := Claim7.holds Tryd.pinned (.plain (OpenSpec.upto recordBytesSpec)) recordBytesUptoCard

/-- THE SECOND FORM's CARD OF 'foliolaw14.RecordScan'. -/
def recordScanUptoCard : Claim7 := { stood := { row := recordScanUptoRow, standIns := [], harness := (true, "b79a2f6d8c28658661d3d803ba3a247bceb125fd20d079f1626746ba76578f09"), looks := false }, kinds := [], alts := [], laidByText := true, laidKinds := [.data], laidTests := true, laidLooks := .later }
def RecordScanUptoCardSaid : Prop := Claim7.holds Tryd.pinned (.plain (OpenSpec.upto recordScanSpec)) recordScanUptoCard

/-- THE SECOND FORM's CARD OF 'foliolaw14.RecordMany'. -/
def recordManyUptoCard : Claim7 := { stood := { row := recordManyUptoRow, standIns := [], harness := (true, "b79a2f6d8c28658661d3d803ba3a247bceb125fd20d079f1626746ba76578f09"), looks := false }, kinds := [], alts := [], laidByText := true, laidKinds := [.data], laidTests := true, laidLooks := .later }
def RecordManyUptoCardSaid : Prop := Claim7.holds Tryd.pinned (.plain (OpenSpec.upto recordManySpec)) recordManyUptoCard
end Rows
end Go.Proofs.YtcgleephodfelaaDoor
