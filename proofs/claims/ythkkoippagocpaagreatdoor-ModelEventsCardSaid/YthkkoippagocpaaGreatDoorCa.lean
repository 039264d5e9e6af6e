/- The law's awake. -/
import Derived.Test.YthkkoippagocpaaGreatDoorCw
import Derived.Test.YthkkoippagocpaaGreatDoorCd
namespace Go.Proofs.YthkkoippagocpaaGreatDoor
open Go.RowKit
set_option linter.unusedVariables false

theorem D_awake : D [195, 169, 1] = (233, 2) := by decide

end Go.Proofs.YthkkoippagocpaaGreatDoor
