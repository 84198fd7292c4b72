/- folioref1.Four: a contract. -/
import Derived.Test.YtcgleephodfelaaDoorMade
namespace Go.Proofs.YtcgleephodfelaaDoor
open Go.RowKit Pl
theorem refFour_any (n : Int) (w : World) (hn : 0 ≤ n) : Calls Tryd.prog 32 #[.int .u32 n] w (MadePost (four n.toNat) w) := by
  go_enter Tryd.func32, Tryd.ntmps32
  go_wp2
  go_ret
  exact made_four (by omega) (by omega) (by omega) (by omega)
end Go.Proofs.YtcgleephodfelaaDoor
