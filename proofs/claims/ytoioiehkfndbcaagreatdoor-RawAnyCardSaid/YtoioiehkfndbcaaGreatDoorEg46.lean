/- Texts put together: RawN. -/
import Derived.Test.YtoioiehkfndbcaaGreatDoorEg8
import Derived.Test.YtoioiehkfndbcaaGreatDoorEg36
set_option linter.unusedSimpArgs false
set_option linter.unusedVariables false
set_option maxRecDepth 100000
namespace Go.Proofs.YtoioiehkfndbcaaGreatDoor.S15
open Go.RowKit S3 S3.Pl _root_.Go.Proofs.YtoioiehkfndbcaaGreatDoor.Pl
attribute [local go_sem ↓] sliceU8_eq conv_eq
end Go.Proofs.YtoioiehkfndbcaaGreatDoor.S15
