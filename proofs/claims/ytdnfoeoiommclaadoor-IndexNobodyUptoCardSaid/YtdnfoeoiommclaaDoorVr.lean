/- tree: the reference's last, part, texts. -/
import Derived.Test.YtdnfoeoiommclaaDoorVc
namespace Go.Proofs.YtdnfoeoiommclaaDoor
open Go Go.RowKit Go.Shelf
set_option linter.unusedVariables false

theorem size_list (s : ByteArray) : s.data.toList.length = s.size := Array.length_toList
theorem drop_next (s : ByteArray) (k : Nat) (h : k < s.size) : s.data.toList.drop k = s[k] :: s.data.toList.drop (k + 1) := by
  rw [List.drop_eq_getElem_cons (by rw [size_list]; exact h)]
  rfl
theorem drop_all (s : ByteArray) : s.data.toList.drop s.size = [] := by rw [← size_list]; exact List.drop_length

end Go.Proofs.YtdnfoeoiommclaaDoor
