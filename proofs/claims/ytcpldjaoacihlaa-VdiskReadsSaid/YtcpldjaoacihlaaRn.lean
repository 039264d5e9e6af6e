/- the reference's disk: New. -/
import Derived.Test.YtcpldjaoacihlaaRa
import Derived.Test.YtcpldjaoacihlaaVs
namespace Go.Proofs.Ytcpldjaoacihlaa
open Go.RowKit
set_option linter.unusedVariables false

theorem new_r (w : World) (n : Int) :
    Calls Try.prog 9 #[.int .i64 n] w fun e w' => if possB n then ∃ m, e = .returned (.tuple #[.pointer (some ⟨w.heap.size, 0, none⟩), .int .i64 0]) ∧ RDisk w' (some ⟨w.heap.size, 0, none⟩) (newS n) m [] ∧ (∀ i ∈ m, w.heap.size ≤ i) ∧ Below w.heap.size w w'
      else e = .returned (.tuple #[.pointer none, .int .i64 1]) ∧ w = w' := by
  by_cases h0 : n < 0
  · have HP := Lib.hid (show possB n = false from by unfold possB; simp; omega)
    rw [HP.out]
    simp only [Bool.false_eq_true, if_false]
    go_enter Try.func9, Try.ntmps9
    go_wp2
    go_ret2
    exact ⟨rfl, rfl⟩
  · have h1 : 0 ≤ n := by omega
    by_cases h2 : n ≤ 4194304
    · have HP := Lib.hid (show possB n = true from by unfold possB; simp; omega)
      have t : decide ((4194304 : Int) < n) = false := by simp; omega
      have HN := Lib.hid (And.intro h1 h2)
      rw [HP.out]
      simp only [if_true]
      clear h0
      go_enter Try.func9, Try.ntmps9
      go_wp2
      go_ret2
      refine ⟨[w.heap.size], rfl, ⟨_, .slice none 0 0, [], rfl, ⟨heap_alloc_new w _, OwnS.nil _ _ _ _, rfl, by simp, DS.Ok.new HN.out.1 HN.out.2⟩, by simp [Value.ownBlock], by simp, rfl, by simp⟩, by simp, (Below.refl _ _).alloc (Nat.le_refl _) _⟩
    · have HP := Lib.hid (show possB n = false from by unfold possB; simp; omega)
      have t : decide ((4194304 : Int) < n) = true := by simp; omega
      have h3 : (4194304 : Int) < n := by omega
      rw [HP.out]
      simp only [Bool.false_eq_true, if_false]
      clear h0 h2
      go_enter Try.func9, Try.ntmps9
      go_wp2
      go_ret2
      exact ⟨rfl, rfl⟩
end Go.Proofs.Ytcpldjaoacihlaa
