/- journal: a header's size. -/
import Derived.Test.YtfljpnfjndjhpaaJq
import Derived.Laws.BitsAllLaws
namespace Go.Proofs.Ytfljpnfjndjhpaa
open Go Go.RowKit
set_option linter.unusedVariables false
set_option linter.unusedSimpArgs false

theorem eight {α : Type _} {l : List α} (h : l.length = 8) : ∃ a0 a1 a2 a3 a4 a5 a6 a7, l = [a0, a1, a2, a3, a4, a5, a6, a7] := by
  match l, h with
  | [a0, a1, a2, a3, a4, a5, a6, a7], _ => exact ⟨a0, a1, a2, a3, a4, a5, a6, a7, rfl⟩
theorem i64_or_nat (a b : Nat) (ha : a < 4611686018427387904) (hb : b < 4611686018427387904) : bits .or .i64 (a : Int) (b : Int) = ((a ||| b : Nat) : Int) := by
  have hx : a ||| b < 2 ^ 62 := Nat.or_lt_two_pow (by omega) (by omega)
  show IntKind.i64.wrap ((BitVec.ofInt 64 (a : Int) ||| BitVec.ofInt 64 (b : Int)).toNat : Int) = _
  rw [BitVec.toNat_or, ofInt_u64 a (by omega), ofInt_u64 b (by omega)]
  generalize a ||| b = r at hx
  have : IntKind.i64.wrap (r : Int) = (r : Int) := by
    simp [IntKind.wrap, IntKind.signed, IntKind.bits]
    omega
  exact this
theorem or_join (a b : Nat) (ha : a < 4294967296) (hb : b < 256) : bits BinOp.or IntKind.i64 ((a : Int) * 256) (b : Int) = ((a * 256 + b : Nat) : Int) := by
  rw [show (a : Int) * 256 = ((a * 256 : Nat) : Int) from by omega, i64_or_nat _ _ (by omega) (by omega), nat_join 8 _ _ (Nat.mul_mod_left _ _) hb]
theorem or_lo0 (b : Nat) (hb : b < 256) : bits BinOp.or IntKind.i64 0 (b : Int) = (b : Int) := by
  have := or_join 0 b (by omega) hb
  simpa using this
set_option maxRecDepth 100000 in
set_option maxHeartbeats 1000000 in
theorem size_c (w : World) (l : List UInt8) (hl : l.length = 8) : Calls Try.prog 50 #[.agg (bcells l).toArray] w fun e w' => e = .returned (.int .i64 (num4 l : Nat)) ∧ Below w.heap.size w w' := by
  obtain ⟨x0, x1, x2, x3, x4, x5, x6, x7, rfl⟩ := eight hl
  simp only [bcells, List.map_cons, List.map_nil]
  have hN : num4 [x0, x1, x2, x3, x4, x5, x6, x7] = ((x0.toNat * 256 + x1.toNat) * 256 + x2.toNat) * 256 + x3.toNat := rfl
  rw [hN]
  have b0 := x0.toNat_lt
  have b1 := x1.toNat_lt
  have b2 := x2.toNat_lt
  have b3 := x3.toNat_lt
  generalize x0.toNat = n0 at *
  generalize x1.toNat = n1 at *
  generalize x2.toNat = n2 at *
  generalize x3.toNat = n3 at *
  have g0 : bits BinOp.or IntKind.i64 0 (n0 : Int) = (n0 : Int) := or_lo0 n0 b0
  obtain ⟨m1, h1⟩ : ∃ m, m = n0 * 256 + n1 := ⟨_, rfl⟩
  obtain ⟨m2, h2⟩ : ∃ m, m = m1 * 256 + n2 := ⟨_, rfl⟩
  obtain ⟨m3, h3⟩ : ∃ m, m = m2 * 256 + n3 := ⟨_, rfl⟩
  rw [← h1, ← h2, ← h3]
  have l1 : m1 < 65536 := by omega
  have l2 : m2 < 16777216 := by omega
  have l3 : m3 < 4294967296 := by omega
  have g1 : bits BinOp.or IntKind.i64 ((n0 : Int) * 256) (n1 : Int) = (m1 : Int) := by rw [h1]; exact or_join _ _ (by omega) b1
  have g2 : bits BinOp.or IntKind.i64 ((m1 : Int) * 256) (n2 : Int) = (m2 : Int) := by rw [h2]; exact or_join _ _ (by omega) b2
  have g3 : bits BinOp.or IntKind.i64 ((m2 : Int) * 256) (n3 : Int) = (m3 : Int) := by rw [h3]; exact or_join _ _ (by omega) b3
  clear hN h1 h2 h3 hl
  go_enter Try.func50, Try.ntmps50
  go_wp2_with fail
  refine wp_loop_rounds 5 ?_
  rw [rounds_succ]
  go_wp2_with fail
  rw [rounds_succ]
  go_wp2_with fail
  rw [rounds_succ]
  go_wp2_with fail
  rw [rounds_succ]
  go_wp2_with fail
  rw [rounds_succ]
  go_wp2_with fail
  go_ret
  exact ⟨by rfl, (Below.refl _ _).alloc (Nat.le_refl _) _⟩
end Go.Proofs.Ytfljpnfjndjhpaa
