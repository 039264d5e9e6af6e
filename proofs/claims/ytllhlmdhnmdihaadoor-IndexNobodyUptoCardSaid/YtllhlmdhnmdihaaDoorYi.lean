/- Cases: the instance of a path (the program's). Written by tools/genyi.py. -/
import Derived.Test.YtllhlmdhnmdihaaDoorYh
namespace Go.Proofs.YtllhlmdhnmdihaaDoor
open Go Go.RowKit
set_option linter.unusedVariables false
set_option linter.unusedSimpArgs false

end Go.Proofs.YtllhlmdhnmdihaaDoor
