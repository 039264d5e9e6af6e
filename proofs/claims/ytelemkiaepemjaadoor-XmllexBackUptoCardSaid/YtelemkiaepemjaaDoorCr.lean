/- The reference's Encode and Decode. -/
import Derived.Test.YtelemkiaepemjaaDoorCw
import Derived.Test.YtelemkiaepemjaaDoorCd
import Derived.Deep.RegionWith
import Derived.RegionTactic
import Derived.BigRegion
namespace Go.Proofs.YtelemkiaepemjaaDoor
open Go.RowKit
set_option linter.unusedVariables false

theorem rd_lit (w : World) (cs : Array Value) (T : TypeId) (xs ys : List UInt8) (n : Nat) (hE : ys = xs) (h : cs.toList = bcells xs) (hn : xs.length = n) (hm : xs.length ≤ 10) :
    Rd (w.alloc (.cells cs T)) (.slice (some ⟨w.heap.size, 0, none⟩) n n) ys := by
  subst hE; subst hn
  exact rd_made w cs T ys h (by unfold maxLen; omega)

end Go.Proofs.YtelemkiaepemjaaDoor
