/- Texts put together: CrcK, CrcM, CrcO. -/
import Derived.Test.YtdjkkohckfndkaaGreatDoorIg11
import Derived.Deep.RegionLaw
set_option linter.unusedSimpArgs false
set_option linter.unusedVariables false
set_option maxRecDepth 100000
namespace Go.Proofs.YtdjkkohckfndkaaGreatDoor.Pl
end Go.Proofs.YtdjkkohckfndkaaGreatDoor.Pl
namespace Go.Proofs.YtdjkkohckfndkaaGreatDoor.S3.Pl
end Go.Proofs.YtdjkkohckfndkaaGreatDoor.S3.Pl
namespace Go.Proofs.YtdjkkohckfndkaaGreatDoor.S3
open Go.RowKit _root_.Go.Proofs.YtdjkkohckfndkaaGreatDoor.Pl _root_.Go.Proofs.YtdjkkohckfndkaaGreatDoor.S3.Pl

namespace Pl
end Pl

attribute [local go_sem ↓] sliceU8_eq
end Go.Proofs.YtdjkkohckfndkaaGreatDoor.S3
namespace Go.Proofs.YtdjkkohckfndkaaGreatDoor.Pl
end Go.Proofs.YtdjkkohckfndkaaGreatDoor.Pl
namespace Go.Proofs.YtdjkkohckfndkaaGreatDoor.S3.Pl
end Go.Proofs.YtdjkkohckfndkaaGreatDoor.S3.Pl
namespace Go.Proofs.YtdjkkohckfndkaaGreatDoor.S3
open Go.RowKit _root_.Go.Proofs.YtdjkkohckfndkaaGreatDoor.Pl _root_.Go.Proofs.YtdjkkohckfndkaaGreatDoor.S3.Pl

namespace Pl
end Pl
end Go.Proofs.YtdjkkohckfndkaaGreatDoor.S3
namespace Go.Proofs.YtdjkkohckfndkaaGreatDoor.Pl
end Go.Proofs.YtdjkkohckfndkaaGreatDoor.Pl
namespace Go.Proofs.YtdjkkohckfndkaaGreatDoor.S3.Pl
end Go.Proofs.YtdjkkohckfndkaaGreatDoor.S3.Pl
namespace Go.Proofs.YtdjkkohckfndkaaGreatDoor.S3
open Go.RowKit _root_.Go.Proofs.YtdjkkohckfndkaaGreatDoor.Pl _root_.Go.Proofs.YtdjkkohckfndkaaGreatDoor.S3.Pl

namespace Pl
end Pl
end Go.Proofs.YtdjkkohckfndkaaGreatDoor.S3
