/- wire: extend, putInt, Int, and the law's awake. -/
import Derived.Test.YtfljpnfjndjhpaaRows
import Derived.Test.YtfljpnfjndjhpaaBy
import Derived.Test.YtfljpnfjndjhpaaWm
import Derived.OpenShut
import Derived.Outline
import Derived.Deep.DeepFit
import Derived.Deep.DeepMust
import Derived.WalkLawsBesides
import Derived.WalkSpells
namespace Go.Proofs.Ytfljpnfjndjhpaa
open Go.RowKit
set_option linter.unusedVariables false

theorem info8 : (Try.prog.info? 5).map (fun i => (i.zero, i.size, i.bytes)) = some (some (.int .u8 0), 1, 1) := by kernel_rfl

theorem equal_c (w : World) (v1 v2 : Value) (xs ys : List UInt8) (h1 : Rd w v1 xs) (h2 : Rd w v2 ys) :
    Calls Try.prog 12 #[v1, v2] w fun e w' => e = .returned (.bool (xs == ys)) ∧ w = w' := by
  have c1 := h1.conv (P := Try.prog) 23 5 9 Try.underlying23 Try.underlying5 Try.underlying9
  have c2 := h2.conv (P := Try.prog) 23 5 9 Try.underlying23 Try.underlying5 Try.underlying9
  go_enter Try.func12, Try.ntmps12
  go_wp2
  go_ret
  exact ⟨rfl, rfl⟩

end Go.Proofs.Ytfljpnfjndjhpaa
