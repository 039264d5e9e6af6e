/- lexer: number, sign. -/
import Derived.Test.YtdnfoeoiommclaaDoorLa
namespace Go.Proofs.YtdnfoeoiommclaaDoor.P
open Go.RowKit
set_option linter.unusedVariables false

def Wd.val (x : Wd) : Value := .agg #[.int .i64 x.k, .string ⟨x.t.toArray⟩, .int .i64 x.n]
/-- A word and its length, as they are handed back. -/
def pairV (p : Wd × Nat) : Value := .tuple #[p.1.val, .int .i64 p.2]
theorem box_below (w : World) (o : Obj) : Below w.heap.size w (w.alloc o) := (Below.refl _ _).alloc (Nat.le_refl _) _
theorem size_list (s : ByteArray) : s.data.toList.length = s.size := Array.length_toList

def numF (l : List UInt8) : Wd × Nat := if (num l).2 = 0 then (⟨2, [], (num l).1⟩, l.length) else (noW, 0)
theorem one_cut (s : ByteArray) (k : Nat) (h : k < s.size) : s.extract k (k + 1) = ⟨[s[k]].toArray⟩ := by
  apply ByteArray.ext
  rw [ByteArray.data_extract]
  apply Array.toList_inj.1
  have hl : k < s.data.toList.length := by rw [Array.length_toList]; exact h
  rw [Array.toList_extract, List.extract_eq_take_drop]
  have := List.drop_eq_getElem_cons hl
  rw [this]
  have e : k + 1 - k = 1 := by omega
  simp [e]
  rfl
theorem toList_data (s : ByteArray) : s.toList = s.data.toList := ByteArray.toList_eq s
end Go.Proofs.YtdnfoeoiommclaaDoor.P