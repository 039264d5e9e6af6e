/- wire: signed, getInt. -/
import Derived.Test.YtjablobdiglnpaaDoorWi
namespace Go.Proofs.YtjablobdiglnpaaDoor.W
open Go.RowKit
set_option linter.unusedVariables false

end Go.Proofs.YtjablobdiglnpaaDoor.W
