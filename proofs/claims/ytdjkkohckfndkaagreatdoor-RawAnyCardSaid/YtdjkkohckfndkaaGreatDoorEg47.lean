/- Texts put together: RawN. -/
import Derived.Test.YtdjkkohckfndkaaGreatDoorEg8
import Derived.Test.YtdjkkohckfndkaaGreatDoorEg37
set_option linter.unusedSimpArgs false
set_option linter.unusedVariables false
set_option maxRecDepth 100000
namespace Go.Proofs.YtdjkkohckfndkaaGreatDoor.S15
open Go.RowKit S3 S3.Pl _root_.Go.Proofs.YtdjkkohckfndkaaGreatDoor.Pl
attribute [local go_sem ↓] sliceU8_eq conv_eq
end Go.Proofs.YtdjkkohckfndkaaGreatDoor.S15
