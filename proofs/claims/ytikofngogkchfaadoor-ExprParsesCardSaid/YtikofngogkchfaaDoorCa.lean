/- The law's awake. -/
import Derived.Test.YtikofngogkchfaaDoorCw
import Derived.Test.YtikofngogkchfaaDoorCd
namespace Go.Proofs.YtikofngogkchfaaDoor
open Go.RowKit
set_option linter.unusedVariables false

theorem D_awake : D [195, 169, 1] = (233, 2) := by decide

end Go.Proofs.YtikofngogkchfaaDoor
