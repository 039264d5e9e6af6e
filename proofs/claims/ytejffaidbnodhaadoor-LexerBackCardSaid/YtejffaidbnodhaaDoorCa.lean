/- The law's awake. -/
import Derived.Test.YtejffaidbnodhaaDoorCw
import Derived.Test.YtejffaidbnodhaaDoorCd
namespace Go.Proofs.YtejffaidbnodhaaDoor
open Go.RowKit
set_option linter.unusedVariables false

theorem D_awake : D [195, 169, 1] = (233, 2) := by decide

end Go.Proofs.YtejffaidbnodhaaDoor
