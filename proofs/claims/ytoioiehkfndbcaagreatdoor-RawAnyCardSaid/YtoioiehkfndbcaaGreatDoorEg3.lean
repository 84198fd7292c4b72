/- Texts put together: CutC. -/
import Derived.Test.YtoioiehkfndbcaaGreatDoorEg1
set_option linter.unusedSimpArgs false
set_option linter.unusedVariables false
set_option maxRecDepth 100000
namespace Go.Proofs.YtoioiehkfndbcaaGreatDoor
open Go.RowKit

end Go.Proofs.YtoioiehkfndbcaaGreatDoor
