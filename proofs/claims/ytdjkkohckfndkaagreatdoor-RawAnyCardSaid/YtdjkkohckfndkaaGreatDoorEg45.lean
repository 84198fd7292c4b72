/- Texts put together: RawL. -/
import Derived.Test.YtdjkkohckfndkaaGreatDoorEg44
import Derived.Deep.OwnRows
set_option linter.unusedSimpArgs false
set_option linter.unusedVariables false
set_option maxRecDepth 100000
namespace Go.Proofs.YtdjkkohckfndkaaGreatDoor.S15
open Go.RowKit S13 S13.Dk S14 S3 S2.Pl S3.Pl
attribute [local go_sem ↓] loadR_eq storeR_eq buildR_eq sliceU8_eq conv_eq
attribute [local go_sem] run_buildR run_buildR4 run_buildR3'
end Go.Proofs.YtdjkkohckfndkaaGreatDoor.S15
