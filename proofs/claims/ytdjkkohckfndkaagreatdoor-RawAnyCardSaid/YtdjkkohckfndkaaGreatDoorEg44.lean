/- Texts put together: RawK. -/
import Derived.Test.YtdjkkohckfndkaaGreatDoorEg43
set_option linter.unusedSimpArgs false
set_option linter.unusedVariables false
set_option maxRecDepth 100000
namespace Go.Proofs.YtdjkkohckfndkaaGreatDoor.S15
open Go.RowKit S13 S13.Dk S14 S3 S2.Pl S3.Pl
theorem run_buildR3' (w : World) (k s : Int) (b : ByteArray) : (buildR #[(0, .int .i64 k), (1, .int .i64 s), (2, .string b)]).run Tryz.prog w = .ok (.agg #[.int .i64 k, .int .i64 s, .string b, .string ⟨#[]⟩]) w := by kernel_rfl
attribute [local go_sem ↓] loadR_eq storeR_eq buildR_eq sliceU8_eq
attribute [local go_sem] run_buildR run_buildR4 run_buildR3'
end Go.Proofs.YtdjkkohckfndkaaGreatDoor.S15
