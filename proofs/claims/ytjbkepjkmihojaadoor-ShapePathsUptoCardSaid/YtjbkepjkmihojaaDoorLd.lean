/- lexer: word. -/
import Derived.Test.YtjbkepjkmihojaaDoorLc
namespace Go.Proofs.YtjbkepjkmihojaaDoor
open Go.RowKit
set_option linter.unusedVariables false

theorem take_cut (s : ByteArray) (z : Nat) : s.extract 0 z = ⟨(s.data.toList.take z).toArray⟩ := by
  apply ByteArray.ext
  rw [ByteArray.data_extract]
  apply Array.toList_inj.1
  rw [Array.toList_extract, List.extract_eq_take_drop]
  simp
theorem runN_le_s (p : UInt8 → Bool) (s : ByteArray) : runN p s.data.toList ≤ s.size := by
  have := runN_le p s.data.toList
  rw [size_list] at this
  exact this

end Go.Proofs.YtjbkepjkmihojaaDoor
