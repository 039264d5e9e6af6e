/- The reference's Number, whatever the text. -/
import Derived.Test.YtdnfoeoiommclaaDoorNp
namespace Go.Proofs.YtdnfoeoiommclaaDoor
open Go.RowKit
set_option linter.unusedVariables false


end Go.Proofs.YtdnfoeoiommclaaDoor
