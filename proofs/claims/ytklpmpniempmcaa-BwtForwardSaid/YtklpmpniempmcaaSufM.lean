/- A cut, by its number. -/
import Derived.Test.YtklpmpniempmcaaSufJ
namespace Go.Proofs.Ytklpmpniempmcaa.Pl
def cutAt (C : List Nat) (p : Nat) : Nat := C.getD p 0
end Go.Proofs.Ytklpmpniempmcaa.Pl
