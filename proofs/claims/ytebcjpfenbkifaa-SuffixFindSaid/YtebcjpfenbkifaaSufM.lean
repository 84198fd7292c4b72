/- A cut, by its number. -/
import Derived.Test.YtebcjpfenbkifaaSufJ
namespace Go.Proofs.Ytebcjpfenbkifaa.Pl
def cutAt (C : List Nat) (p : Nat) : Nat := C.getD p 0
end Go.Proofs.Ytebcjpfenbkifaa.Pl
