/- wire: signed, getInt. -/
import Derived.Test.YtopiocnpnamjmaaWi
namespace Go.Proofs.Ytopiocnpnamjmaa
open Go.RowKit
set_option linter.unusedVariables false

end Go.Proofs.Ytopiocnpnamjmaa
