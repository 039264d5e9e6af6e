/- lexer: the reference's Same, at equal lists. -/
import Derived.Test.YtikofngogkchfaaDoorLk
import Derived.Laws.StructEq
namespace Go.Proofs.YtikofngogkchfaaDoor
open Go.RowKit
set_option linter.unusedVariables false

theorem fieldsW : (Tryd.prog.fieldsOf 49).toList.map (fun f => (f.name != "_", f.type, f.offset)) = [(true, 3, 0), (true, 9, 1), (true, 3, 2)] := by kernel_rfl
theorem structW : Tryd.prog.underlying 49 = some (.struct (Tryd.prog.fieldsOf 49)) := by kernel_rfl
theorem heldW : Tryd.prog.stoodInHeld 49 = false := by kernel_rfl
theorem run_sameW (w : World) (k n : Int) (t : ByteArray) : (binOp .neq 49 (.agg #[.int .i64 k, .string t, .int .i64 n]) (.agg #[.int .i64 k, .string t, .int .i64 n])).run Tryd.prog w = .ok (.bool false) w := by
  rw [run_neq_struct, run_equalIn_agg _ _ _ _ _ structW heldW]
  have hf := fieldsW
  generalize (Tryd.prog.fieldsOf 49).toList = fs at hf
  rcases fs with _ | ⟨f0, _ | ⟨f1, _ | ⟨f2, _ | ⟨f3, r⟩⟩⟩⟩
  · simp at hf
  · simp at hf
  · simp at hf
  · simp only [List.map_cons, List.map_nil, List.cons.injEq, Prod.mk.injEq, and_true] at hf
    obtain ⟨⟨n0, t0, o0⟩, ⟨n1, t1, o1⟩, n2, t2, o2⟩ := hf
    simp only [Op.eqFields, t0, t1, t2, o0, o1, o2]
    simp only [bne_iff_ne] at n0 n1 n2
    rw [if_pos n0, if_pos n1, if_pos n2]
    simp [go_sem, part]
  · simp at hf
theorem wcells_get (L : List Wd) (k : Nat) (hk : k < L.length) (j : Nat) (hj : j < 3) : (wcells L)[k * 3 + j]? = (wcell L[k])[j]? := by
  induction L generalizing k with
  | nil => simp at hk
  | cons x r ih =>
    have e : wcells (x :: r) = wcell x ++ wcells r := rfl
    have hl : (wcell x).length = 3 := rfl
    rw [e]
    cases k with
    | zero => rw [List.getElem?_append_left (by rw [hl]; omega)]; simp
    | succ k =>
      rw [List.getElem?_append_right (by rw [hl]; omega), hl, show (k + 1) * 3 + j - 3 = k * 3 + j from by omega]
      exact ih k (by simpa using hk)
/-- Where the words lie. -/
theorem OwnS.word {w : World} {base : Nat} {v : Value} {L : List Wd} (h : OwnS w base 49 3 v L.length (wcells L)) {k : Nat} (hk : k < L.length) : ∃ g off c, v = .slice (some ⟨g, off, none⟩) L.length c ∧
    w.cell? ⟨g, off + k * 3, none⟩ = some (.int .i64 L[k].k) ∧ w.cell? ⟨g, off + k * 3 + 1, none⟩ = some (.string ⟨L[k].t.toArray⟩) ∧ w.cell? ⟨g, off + k * 3 + 2, none⟩ = some (.int .i64 L[k].n) := by
  rcases h.2 with ⟨rfl, h0⟩ | ⟨g, off, cap, cur, hv, _⟩
  · omega
  · refine ⟨g, off, cap, hv, ?_, ?_, ?_⟩
    · exact h.cell hv (k * 3) _ (by rw [show k * 3 = k * 3 + 0 from rfl, wcells_get L k hk 0 (by omega)]; rfl)
    · have := h.cell hv (k * 3 + 1) (.string ⟨L[k].t.toArray⟩) (by rw [wcells_get L k hk 1 (by omega)]; rfl)
      rwa [← Nat.add_assoc] at this
    · have := h.cell hv (k * 3 + 2) (.int .i64 L[k].n) (by rw [wcells_get L k hk 2 (by omega)]; rfl)
      rwa [← Nat.add_assoc] at this

end Go.Proofs.YtikofngogkchfaaDoor
