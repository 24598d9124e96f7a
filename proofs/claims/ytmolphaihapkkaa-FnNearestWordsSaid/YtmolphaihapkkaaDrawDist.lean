/- The drawing of the inputs of the distances' laws. -/
import Derived.Test.YtmolphaihapkkaaTwo
namespace Go.Proofs.Ytmolphaihapkkaa
open Go.RowKit
set_option maxHeartbeats 800000
set_option linter.unusedSimpArgs false
set_option linter.unusedVariables false

end Go.Proofs.Ytmolphaihapkkaa
