/- The law's awake. -/
import Derived.Test.YtncloiimbclklaaCw
import Derived.Test.YtncloiimbclklaaCd
namespace Go.Proofs.Ytncloiimbclklaa
open Go.RowKit
set_option linter.unusedVariables false

theorem D_awake : D [195, 169, 1] = (233, 2) := by decide

end Go.Proofs.Ytncloiimbclklaa
