/- Texts put together: CutC. -/
import Derived.Test.YtdjkkohckfndkaaGreatDoorEg1
set_option linter.unusedSimpArgs false
set_option linter.unusedVariables false
set_option maxRecDepth 100000
namespace Go.Proofs.YtdjkkohckfndkaaGreatDoor
open Go.RowKit

end Go.Proofs.YtdjkkohckfndkaaGreatDoor
