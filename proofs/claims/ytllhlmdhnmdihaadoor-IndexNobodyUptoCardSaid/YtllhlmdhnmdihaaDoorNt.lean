/- chars.Text. -/
import Derived.Test.YtllhlmdhnmdihaaDoorCa
import Derived.Test.YtllhlmdhnmdihaaDoorNm
namespace Go.Proofs.YtllhlmdhnmdihaaDoor
open Go.RowKit
set_option linter.unusedVariables false

theorem u64w (n : Int) : IntKind.u64.wrap n = n % 18446744073709551616 := by simp [IntKind.wrap, IntKind.signed, IntKind.bits]

theorem heap_modc {w : World} {b o : Nat} {cs : Array Value} {u : Value} {T : TypeId} (h : w.heap[b]? = some (.cells cs T (0, 0))) :
    (w.setCell ⟨b, o, none⟩ u).heap[b]? = some (.cells (cs.setIfInBounds o u) T (0, 0)) := by
  have hlt := lt_of_block h
  have h' : w.heap[b] = .cells cs T (0, 0) := by simpa [Array.getElem?_eq_getElem hlt] using h
  show (w.heap.modify b _)[b]? = _
  rw [Array.getElem?_eq_getElem (by simpa using hlt), Array.getElem_modify_self, h']
  rfl

/-- One digit more. -/
theorem dig_step {u N a : Nat} {dl : List UInt8} (hd : ds u ++ dl = ds N) (hu : u < 10 ^ (a - 1)) (ha : 1 ≤ a) (h20 : a ≤ 20) (h10 : ¬ u < 10) : ds (u / 10) ++ (UInt8.ofNat (48 + u % 10) :: dl) = ds N ∧ u / 10 < 10 ^ (a - 1 - 1) ∧ 2 ≤ a := by
  have h2 : 2 ≤ a := by
    rcases Nat.lt_or_ge a 2 with h | h
    · obtain rfl : a = 1 := by omega
      simp at hu
      omega
    · exact h
  obtain ⟨k, rfl⟩ : ∃ k, a = k + 2 := ⟨a - 2, by omega⟩
  have hk : (10 : Nat) ^ (k + 1) ≤ 10 ^ 19 := Nat.pow_le_pow_right (by omega) (by omega)
  have hu' : u < 10 ^ (k + 1) := hu
  refine ⟨?_, ?_, h2⟩
  · rw [← hd, ds_great u h10 (by omega), List.append_assoc]
    rfl
  · show u / 10 < 10 ^ k
    rw [Nat.pow_succ] at hu'
    omega

end Go.Proofs.YtllhlmdhnmdihaaDoor
