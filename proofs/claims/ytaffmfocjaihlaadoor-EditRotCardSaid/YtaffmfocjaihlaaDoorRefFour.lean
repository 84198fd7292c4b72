/- folioref1.Four: a contract. -/
import Derived.Test.YtaffmfocjaihlaaDoorMade
set_option linter.unusedSimpArgs false
set_option linter.unusedVariables false
namespace Go.Proofs.YtaffmfocjaihlaaDoor
open Go.RowKit Pl
end Go.Proofs.YtaffmfocjaihlaaDoor
