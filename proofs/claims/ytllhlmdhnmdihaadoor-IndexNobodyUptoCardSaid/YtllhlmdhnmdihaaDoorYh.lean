/- Cases: where an instance of a path is, the instance of a path (the program's). Written by tools/genyh.py. -/
import Derived.Test.YtllhlmdhnmdihaaDoorYg
import Derived.Shelf.Abstract
namespace Go.Proofs.YtllhlmdhnmdihaaDoor
open Go Go.RowKit Go.Shelf
set_option linter.unusedVariables false
set_option linter.unusedSimpArgs false

/-- An index of the first that has it. -/
def IdxIs (f : IV → Bool) (l : List IV) (z : Int) : Prop := (z = -1 ∧ l.find? f = none) ∨ ∃ (k : Nat) (h : k < l.length), z = (k : Int) ∧ l.find? f = some l[k]
theorem ffind_hit {f : IV → Bool} {l : List IV} {k : Nat} (h : k < l.length) (ht : (l.take k).find? f = none) (hb : f l[k] = true) : l.find? f = some l[k] := by
  conv => lhs; rw [← List.take_append_drop k l]
  rw [List.find?_append, ht, List.drop_eq_getElem_cons h, List.find?_cons_of_pos hb]
  rfl
theorem ffind_next {f : IV → Bool} {l : List IV} {k : Nat} (h : k < l.length) (ht : (l.take k).find? f = none) (hb : f l[k] = false) : (l.take (k + 1)).find? f = none := by
  rw [List.take_succ_eq_append_getElem h, List.find?_append, ht, List.find?_cons_of_neg (by rw [hb]; simp)]
  rfl

end Go.Proofs.YtllhlmdhnmdihaaDoor
