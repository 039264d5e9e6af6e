/- The law's awake. -/
import Derived.Test.YtpcajjbdlfookaaGreatDoorCw
import Derived.Test.YtpcajjbdlfookaaGreatDoorCd
namespace Go.Proofs.YtpcajjbdlfookaaGreatDoor
open Go.RowKit
set_option linter.unusedVariables false

theorem D_awake : D [195, 169, 1] = (233, 2) := by decide

end Go.Proofs.YtpcajjbdlfookaaGreatDoor
