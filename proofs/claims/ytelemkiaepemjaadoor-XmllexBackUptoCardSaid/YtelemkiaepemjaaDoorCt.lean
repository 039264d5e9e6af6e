/- The reference's Decode, whole; the law's awake. -/
import Derived.Test.YtelemkiaepemjaaDoorCs
namespace Go.Proofs.YtelemkiaepemjaaDoor
open Go.RowKit
set_option linter.unusedVariables false

end Go.Proofs.YtelemkiaepemjaaDoor
