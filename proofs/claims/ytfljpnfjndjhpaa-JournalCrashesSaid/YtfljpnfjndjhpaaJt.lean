/- journal: two headers compared. -/
import Derived.Test.YtfljpnfjndjhpaaJs
import Derived.ChangeKeysEq
namespace Go.Proofs.Ytfljpnfjndjhpaa
open Go Go.RowKit
set_option linter.unusedVariables false
set_option linter.unusedSimpArgs false

theorem bcells_at (l : List UInt8) (k : Nat) (hk : k < l.length) : (bcells l).toArray[k]? = some (.int .u8 ((l[k].toNat : Nat) : Int)) := by simp [bcells, hk]
theorem run_eqItems_bytes {P : Program} (w : World) (d : Nat) (e : TypeId) (he : P.plainKey e = true) (hu : P.underlying e = some (.int .u8)) (a b : List UInt8) (hl : a.length = b.length) : ∀ (m s : Nat), s + m = a.length →
    (Op.eqItems (d + 1) e 1 (bcells a).toArray (bcells b).toArray (List.range' s m)).run P w = .ok (a.drop s == b.drop s) w
  | 0, s, h => by
    have h1 : a.drop s = [] := List.drop_eq_nil_of_le (by omega)
    have h2 : b.drop s = [] := List.drop_eq_nil_of_le (by omega)
    simp [Op.eqItems, h1, h2]
  | m + 1, s, h => by
    have p1 := run_part_plain w he (bcells_at a s (by omega))
    have p2 := run_part_plain w he (bcells_at b s (by omega))
    have p3 := run_equalIn_int (P := P) w d e .u8 .u8 ((a[s].toNat : Nat) : Int) ((b[s].toNat : Nat) : Int) hu
    have ih := run_eqItems_bytes w d e he hu a b hl m (s + 1) (by omega)
    rw [List.range'_succ]
    simp only [Op.eqItems, Sem.run_bind, Nat.mul_one, p1, p2, p3, Result.andThen_ok]
    rw [List.drop_eq_getElem_cons (show s < a.length by omega), List.drop_eq_getElem_cons (show s < b.length by omega), List.cons_beq_cons]
    by_cases hq : a[s] = b[s]
    · have e1 : (((a[s].toNat : Nat) : Int) == ((b[s].toNat : Nat) : Int)) = true := by rw [hq]; simp
      rw [e1]
      simp only [Bool.not_true, Bool.false_eq_true, if_false, ih]
      rw [hq, beq_self_eq_true, Bool.true_and]
    · have hn : a[s].toNat ≠ b[s].toNat := fun h => hq (UInt8.toNat_inj.1 h)
      have e1 : (((a[s].toNat : Nat) : Int) == ((b[s].toNat : Nat) : Int)) = false := beq_eq_false_iff_ne.2 (fun h => hn (Int.natCast_inj.1 h))
      rw [e1, beq_eq_false_iff_ne.2 hq]
      simp
theorem infoH8 : Try.prog.cellsOf 5 = 1 := by kernel_rfl
theorem plainH8 : Try.prog.plainKey 5 = true := by kernel_rfl
theorem run_neqH (w : World) (a b : List UInt8) (ha : a.length = 8) (hb : b.length = 8) : (binOp .neq 71 (.agg (bcells a).toArray) (.agg (bcells b).toArray)).run Try.prog w = .ok (.bool (!(a == b))) w := by
  obtain ⟨i, hi⟩ := info_of_underlying (P := Try.prog) Try.underlying5
  rw [run_neq_struct, run_equalIn_array w 9999 _ _ Try.underlying71 hi, infoH8, List.range_eq_range', run_eqItems_bytes w 9998 _ plainH8 Try.underlying5 a b (by omega) 8 0 (by omega)]
  simp
end Go.Proofs.Ytfljpnfjndjhpaa
