/- The three laws of records, told by what comes in. -/
import Derived.Test.YtcgleephodfelaaDoorRcN
set_option linter.unusedSimpArgs false
set_option linter.unusedVariables false
namespace Go.Proofs.YtcgleephodfelaaDoor.S14
open Go.RowKit S3
theorem recordBytes_law (z0 z1 : Int) (s2 s3 : ByteArray) (a1 : Int) (w : World) (hT : Tab w) (_ : (Lit.int .i64 z0).wf = true) (_ : (Lit.int .i64 z1).wf = true) (h2 : s2.size ≤ maxLen) (h3 : s3.size ≤ maxLen) (_ : (Lit.int .i64 a1).wf = true) :
    Calls Tryd.prog 3 #[.agg #[.int .i64 z0, .int .i64 z1, .string s2, .string s3], .int .i64 a1] w fun e w' => e = .returned (.bool true) ∧ Below w.heap.size w w' :=
  recordBytes_walk z0 z1 s2 s3 a1 w hT h2 h3
theorem recordScan_law (a : Option Addr) (len cap : Nat) (a1 a2 : Int) (ra : Option Addr) (rlen rcap : Nat) (rz : List Int) (a4 : Int) (w : World) (hT : Tab w) (h0 : IsRecs [.int .i64, .int .i64, .str, .str] w a len) (_ : (Lit.int .i64 a1).wf = true) (h2 : (Lit.int .u8 a2).wf = true) (hr : IsRow .u8 w ra rlen rcap rz) (_ : (Lit.int .i64 a4).wf = true) :
    Calls Tryd.prog 4 #[.slice a len cap, .int .i64 a1, .int .u8 a2, .slice ra rlen rcap, .int .i64 a4] w fun e w' => e = .returned (.bool true) ∧ Below w.heap.size w w' := by
  have hx := u8_wf h2
  obtain ⟨x, rfl⟩ : ∃ m : Nat, a2 = (m : Int) := ⟨a2.toNat, by omega⟩
  obtain ⟨hby, hbl⟩ := isBytes_row hr
  exact recordScan_walk a len cap a1 x ra rlen rcap _ a4 w hT h0 (by omega) hby
theorem recordMany_law (a : Option Addr) (len cap : Nat) (a1 : Int) (w : World) (hT : Tab w) (h0 : IsRecs [.int .i64, .int .i64, .str, .str] w a len) (_ : (Lit.int .i64 a1).wf = true) :
    Calls Tryd.prog 5 #[.slice a len cap, .int .i64 a1] w fun e w' => e = .returned (.bool true) ∧ Below w.heap.size w w' :=
  recordMany_walk a len cap a1 w hT h0
end Go.Proofs.YtcgleephodfelaaDoor.S14
