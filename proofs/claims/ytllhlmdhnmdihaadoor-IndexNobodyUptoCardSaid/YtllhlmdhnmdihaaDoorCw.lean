/- chars: Decode, Encode; the reference's Encode. -/
import Derived.Test.YtllhlmdhnmdihaaDoorRows
import Derived.Test.YtllhlmdhnmdihaaDoorBy
import Derived.Test.YtllhlmdhnmdihaaDoorCm
import Derived.Test.YtllhlmdhnmdihaaDoorShelf
import Derived.OpenShut
import Derived.Outline
import Derived.WalkLawsBesides
import Derived.WalkSpells
import Derived.Deep.QuietTactic
import Derived.BigQuiet
namespace Go.Proofs.YtllhlmdhnmdihaaDoor
open Go.RowKit
set_option linter.unusedVariables false

/-- The decoder's tables lie. -/
abbrev Tabs (w : World) : Prop := Lib.Utf8Tabs 1 2 w
theorem Tabs.below {w w' : World} (h : Tabs w) (hb : Below w.heap.size w w') : Tabs w' := Utf8Tabs_below h hb

theorem info8 : (Tryd.prog.info? 5).map (fun i => (i.zero, i.size, i.bytes)) = some (some (.int .u8 0), 1, 1) := by kernel_rfl

theorem Rd.of_ownF {w : World} {base : Nat} {e : TypeId} {v : Value} {n : Nat} {xs : List UInt8} (h : w.ownsRowF base e 1 v n (bcells xs)) : Rd w v xs := by
  have hl := h.1
  rw [bcells_length, Nat.mul_one] at hl
  subst hl
  rcases h.2 with ⟨rfl, h0⟩ | ⟨g, cap, cur, fz, rfl, hbg, hg, hfz, hnc, hcm, hcs, htake⟩
  · have : xs = [] := List.eq_nil_of_length_eq_zero h0
    subst this
    exact Rd.nil w
  · refine ⟨_, cap, rfl, hnc, hcm, by simp, fun hp => ⟨g, 0, rfl, fun i hi => ?_⟩⟩
    have hi' : i < cur.size := by omega
    have e1 : cur[i]? = (bcells xs)[i]? := by
      rw [← htake, List.getElem?_take_of_lt (by omega), Array.getElem?_toList]
    simp only [World.cell?, hg, Nat.zero_add]
    simp [e1, bcells, hi]

end Go.Proofs.YtllhlmdhnmdihaaDoor
