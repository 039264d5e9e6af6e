/- The law's awake. -/
import Derived.Test.YthlphmldghppmaaGreatDoorCw
import Derived.Test.YthlphmldghppmaaGreatDoorCd
namespace Go.Proofs.YthlphmldghppmaaGreatDoor
open Go.RowKit
set_option linter.unusedVariables false

theorem D_awake : D [195, 169, 1] = (233, 2) := by decide

end Go.Proofs.YthlphmldghppmaaGreatDoor
