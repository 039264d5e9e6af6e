/- The law's awake. -/
import Derived.Test.YtllhlmdhnmdihaaDoorCw
import Derived.Test.YtllhlmdhnmdihaaDoorCd
namespace Go.Proofs.YtllhlmdhnmdihaaDoor
open Go.RowKit
set_option linter.unusedVariables false

theorem D_awake : D [195, 169, 1] = (233, 2) := by decide

end Go.Proofs.YtllhlmdhnmdihaaDoor
