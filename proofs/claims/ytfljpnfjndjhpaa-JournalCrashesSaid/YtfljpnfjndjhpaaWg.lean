/- wire: signed, getInt. -/
import Derived.Test.YtfljpnfjndjhpaaWi
namespace Go.Proofs.Ytfljpnfjndjhpaa
open Go.RowKit
set_option linter.unusedVariables false

end Go.Proofs.Ytfljpnfjndjhpaa
