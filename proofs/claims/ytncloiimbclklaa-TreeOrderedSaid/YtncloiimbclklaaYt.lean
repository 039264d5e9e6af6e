/- Cases: whether two lists of documents are the same (the reference's). Written by tools/genyt.py. -/
import Derived.Test.YtncloiimbclklaaYs
import Derived.Laws.StructEq
namespace Go.Proofs.Ytncloiimbclklaa
open Go Go.RowKit Go.Shelf
set_option linter.unusedVariables false
set_option linter.unusedSimpArgs false

theorem fieldsV : (Try.prog.fieldsOf 46).toList.map (fun f => (f.name != "_", f.type, f.offset)) = [(true, 3, 0), (true, 3, 1), (true, 4, 2), (true, 9, 3)] := by kernel_rfl
theorem structV : Try.prog.underlying 46 = some (.struct (Try.prog.fieldsOf 46)) := by kernel_rfl
theorem heldV : Try.prog.stoodInHeld 46 = false := by kernel_rfl
def sameVal (k k2 n n2 : Int) (b b2 : Bool) (t t2 : ByteArray) : Bool := (k == k2) && ((n == n2) && ((b == b2) && (t.toList == t2.toList)))
theorem run_neqV (w : World) (k k2 n n2 : Int) (b b2 : Bool) (t t2 : ByteArray) : (binOp .neq 46 (.agg #[.int .i64 k, .int .i64 n, .bool b, .string t]) (.agg #[.int .i64 k2, .int .i64 n2, .bool b2, .string t2])).run Try.prog w = .ok (.bool (!sameVal k k2 n n2 b b2 t t2)) w := by
  rw [run_neq_struct, run_equalIn_agg _ _ _ _ _ structV heldV]
  have hf := fieldsV
  generalize (Try.prog.fieldsOf 46).toList = fs at hf
  unfold sameVal
  rcases fs with _ | ⟨f0, _ | ⟨f1, _ | ⟨f2, _ | ⟨f3, _ | ⟨f4, r⟩⟩⟩⟩⟩
  · simp at hf
  · simp at hf
  · simp at hf
  · simp at hf
  · simp only [List.map_cons, List.map_nil, List.cons.injEq, Prod.mk.injEq, and_true] at hf
    obtain ⟨⟨n0, t0, o0⟩, ⟨n1, t1, o1⟩, ⟨n2', t2', o2⟩, n3, t3, o3⟩ := hf
    simp only [Op.eqFields, t0, t1, t2', t3, o0, o1, o2, o3]
    simp only [bne_iff_ne] at n0 n1 n2' n3
    rw [if_pos n0, if_pos n1, if_pos n2', if_pos n3]
    obtain ⟨q1, h1⟩ : ∃ q, (k == k2) = q := ⟨_, rfl⟩
    obtain ⟨q2, h2⟩ : ∃ q, (n == n2) = q := ⟨_, rfl⟩
    obtain ⟨q3, h3⟩ : ∃ q, (b == b2) = q := ⟨_, rfl⟩
    obtain ⟨q4, h4⟩ : ∃ q, (t.toList == t2.toList) = q := ⟨_, rfl⟩
    cases q1 <;> cases q2 <;> cases q3 <;> cases q4 <;> simp [go_sem, part, h1, h2, h3, h4]
  · simp at hf
end Go.Proofs.Ytncloiimbclklaa
