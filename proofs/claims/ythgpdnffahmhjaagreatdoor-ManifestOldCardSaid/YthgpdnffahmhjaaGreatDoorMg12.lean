/- Texts put together: CrcK, CrcM, CrcO. -/
import Derived.Test.YthgpdnffahmhjaaGreatDoorMg11
import Derived.Deep.RegionLaw
set_option linter.unusedSimpArgs false
set_option linter.unusedVariables false
set_option maxRecDepth 100000
namespace Go.Proofs.YthgpdnffahmhjaaGreatDoor.Pl
end Go.Proofs.YthgpdnffahmhjaaGreatDoor.Pl
namespace Go.Proofs.YthgpdnffahmhjaaGreatDoor.S3.Pl
end Go.Proofs.YthgpdnffahmhjaaGreatDoor.S3.Pl
namespace Go.Proofs.YthgpdnffahmhjaaGreatDoor.S3
open Go.RowKit _root_.Go.Proofs.YthgpdnffahmhjaaGreatDoor.Pl _root_.Go.Proofs.YthgpdnffahmhjaaGreatDoor.S3.Pl

namespace Pl
end Pl

attribute [local go_sem ↓] sliceU8_eq
end Go.Proofs.YthgpdnffahmhjaaGreatDoor.S3
namespace Go.Proofs.YthgpdnffahmhjaaGreatDoor.Pl
end Go.Proofs.YthgpdnffahmhjaaGreatDoor.Pl
namespace Go.Proofs.YthgpdnffahmhjaaGreatDoor.S3.Pl
end Go.Proofs.YthgpdnffahmhjaaGreatDoor.S3.Pl
namespace Go.Proofs.YthgpdnffahmhjaaGreatDoor.S3
open Go.RowKit _root_.Go.Proofs.YthgpdnffahmhjaaGreatDoor.Pl _root_.Go.Proofs.YthgpdnffahmhjaaGreatDoor.S3.Pl

namespace Pl
end Pl
end Go.Proofs.YthgpdnffahmhjaaGreatDoor.S3
namespace Go.Proofs.YthgpdnffahmhjaaGreatDoor.Pl
end Go.Proofs.YthgpdnffahmhjaaGreatDoor.Pl
namespace Go.Proofs.YthgpdnffahmhjaaGreatDoor.S3.Pl
end Go.Proofs.YthgpdnffahmhjaaGreatDoor.S3.Pl
namespace Go.Proofs.YthgpdnffahmhjaaGreatDoor.S3
open Go.RowKit _root_.Go.Proofs.YthgpdnffahmhjaaGreatDoor.Pl _root_.Go.Proofs.YthgpdnffahmhjaaGreatDoor.S3.Pl

namespace Pl
end Pl
end Go.Proofs.YthgpdnffahmhjaaGreatDoor.S3
