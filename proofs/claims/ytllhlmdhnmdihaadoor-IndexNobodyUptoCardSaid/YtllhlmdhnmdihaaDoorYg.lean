/- Cases: an instance of a path (the reference's). Written by tools/genyg.py. -/
import Derived.Test.YtllhlmdhnmdihaaDoorYf
import Derived.Test.YtllhlmdhnmdihaaDoorYc
namespace Go.Proofs.YtllhlmdhnmdihaaDoor
open Go Go.RowKit
set_option linter.unusedVariables false
set_option linter.unusedSimpArgs false

/-- What a search for an instance gives. -/
def FoundAs (w : World) (o : Option IV) (e : Ending) (w' : World) : Prop :=
  match o with
  | none => e = .returned (.tuple #[.agg #[.string ⟨#[]⟩, .string ⟨#[]⟩, .int .i64 0, .int .i64 0, .slice none 0 0, .int .i64 0], .bool false]) ∧ Below w.heap.size w w'
  | some x => ∃ v', e = .returned (.tuple #[.agg #[.string x.path, .string x.item, .int .i64 x.st, .int .i64 x.bf, v', .int .i64 x.due], .bool true]) ∧ OwnS w' w.heap.size 3 1 v' x.ls.length (icells x.ls) ∧ Below w.heap.size w w'
def hasP (p : ByteArray) (x : IV) : Bool := x.path.toList == p.toList
theorem find_hit {l : List IV} {p : ByteArray} {k : Nat} (h : k < l.length) (ht : (l.take k).find? (hasP p) = none) (hb : hasP p l[k] = true) : l.find? (hasP p) = some l[k] := by
  conv => lhs; rw [← List.take_append_drop k l]
  rw [List.find?_append, ht, List.drop_eq_getElem_cons h, List.find?_cons_of_pos hb]
  rfl
theorem find_next {l : List IV} {p : ByteArray} {k : Nat} (h : k < l.length) (ht : (l.take k).find? (hasP p) = none) (hb : hasP p l[k] = false) : (l.take (k + 1)).find? (hasP p) = none := by
  rw [List.take_succ_eq_append_getElem h, List.find?_append, ht, List.find?_cons_of_neg (by rw [hb]; simp)]
  rfl

end Go.Proofs.YtllhlmdhnmdihaaDoor
