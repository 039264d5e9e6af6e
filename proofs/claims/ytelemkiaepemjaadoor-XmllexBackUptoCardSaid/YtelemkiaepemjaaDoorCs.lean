/- The reference's Decode. -/
import Derived.Test.YtelemkiaepemjaaDoorCr
namespace Go.Proofs.YtelemkiaepemjaaDoor
open Go.RowKit
set_option linter.unusedVariables false

theorem ret2_int {a b a' b' : Int} (h : a = a') (k : b = b') : Ending.returned (.tuple #[.int .i64 a, .int .i64 b]) = Ending.returned (.tuple #[.int .i64 a', .int .i64 b']) := by rw [h, k]

/-- What a walk of Decode ends in. -/
def Ends (xs : List UInt8) (w : World) (e : Ending) (w' : World) : Prop := e = .returned (.tuple #[.int .i64 (D xs).1, .int .i64 (D xs).2]) ∧ Below w.heap.size w w'

theorem take_at (xs : List UInt8) (n : Nat) (h : n ≤ xs.length) (hn : n ≤ 4) : ∃ x0 x1 x2 x3 : UInt8, x0.toNat = at8 xs 0 ∧ x1.toNat = at8 xs 1 ∧ x2.toNat = at8 xs 2 ∧ x3.toNat = at8 xs 3 ∧ xs.take n = [x0, x1, x2, x3].take n := by
  refine ⟨xs.getD 0 0, xs.getD 1 0, xs.getD 2 0, xs.getD 3 0, rfl, rfl, rfl, rfl, ?_⟩
  match xs, n, h, hn with
  | _, 0, _, _ => simp
  | a :: _, 1, _, _ => simp
  | a :: b :: _, 2, _, _ => simp
  | a :: b :: c :: _, 3, _, _ => simp
  | a :: b :: c :: d :: _, 4, _, _ => simp

section
variable {w : World} {xs : List UInt8} {b o c : Nat}

end
end Go.Proofs.YtelemkiaepemjaaDoor
