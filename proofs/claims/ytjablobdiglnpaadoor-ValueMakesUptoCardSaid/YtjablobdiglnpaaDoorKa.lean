/- Values as they lie; their makers; whether two are the same. -/
import Derived.Test.YtjablobdiglnpaaDoorKk
import Derived.Laws.StructEq
import Derived.IntWalk
namespace Go.Proofs.YtjablobdiglnpaaDoor
open Go.RowKit
set_option linter.unusedVariables false

/-- A value: kind, integer, truth, text. -/
structure Vl where
  k : Int
  n : Int
  y : Bool
  s : ByteArray
def Vl.val (v : Vl) : Value := .agg #[.int .i64 v.k, .int .i64 v.n, .bool v.y, .string v.s]
structure Vl.Ok (v : Vl) : Prop where
  k : -9223372036854775808 ≤ v.k ∧ v.k ≤ 9223372036854775807
  n : -9223372036854775808 ≤ v.n ∧ v.n ≤ 9223372036854775807
  s : v.s.size ≤ 9223372036854775807
def noV : Vl := ⟨0, 0, false, ByteArray.empty⟩
def intV (n : Int) : Vl := ⟨1, n, false, ByteArray.empty⟩
def boolV (y : Bool) : Vl := ⟨2, 0, y, ByteArray.empty⟩
def textV (s : ByteArray) : Vl := ⟨3, 0, false, s⟩

/-- Whether all four fields are the same. -/
def sameB (a b : Vl) : Bool := a.k == b.k && (a.n == b.n && (a.y == b.y && a.s.toList == b.s.toList))
theorem sameB_iff (a b : Vl) : sameB a b = true ↔ a = b := by
  obtain ⟨ak, an, ay, s⟩ := a
  obtain ⟨bk, bn, b3, t⟩ := b
  simp only [sameB, Bool.and_eq_true, beq_iff_eq, Vl.mk.injEq]
  refine and_congr Iff.rfl (and_congr Iff.rfl (and_congr Iff.rfl ?_))
  rw [ByteArray.toList_eq, ByteArray.toList_eq]
  obtain ⟨⟨x⟩⟩ := s
  obtain ⟨⟨y⟩⟩ := t
  simp


def vcells (v : Vl) : Array Value := #[.int .i64 v.k, .int .i64 v.n, .bool v.y, .string v.s]

theorem vint_c (w : World) (n : Int) : Calls Tryd.prog 7 #[.int .i64 n] w fun e w' => e = .returned (.agg #[.int .i64 1, .int .i64 n, .bool false, .string ⟨#[]⟩]) ∧ w' = w.alloc (.cells #[.int .i64 1, .int .i64 n, .bool false, .string ⟨#[]⟩] 23) := by
  go_enter Tryd.func7, Tryd.ntmps7
  go_wp2
  refine bodyPost_ret (v := (intV n).val) (by simp [results, Tryd.results7, go_sem, intV, Vl.val]; rfl) rfl ⟨rfl, rfl⟩
theorem vbool_c (w : World) (n : Bool) : Calls Tryd.prog 9 #[.bool n] w fun e w' => e = .returned (.agg #[.int .i64 2, .int .i64 0, .bool n, .string ⟨#[]⟩]) ∧ w' = w.alloc (.cells #[.int .i64 2, .int .i64 0, .bool n, .string ⟨#[]⟩] 23) := by
  go_enter Tryd.func9, Tryd.ntmps9
  go_wp2
  refine bodyPost_ret (v := (boolV n).val) (by simp [results, Tryd.results9, go_sem, boolV, Vl.val]; rfl) rfl ⟨rfl, rfl⟩
theorem vtext_c (w : World) (n : ByteArray) : Calls Tryd.prog 11 #[.string n] w fun e w' => e = .returned (.agg #[.int .i64 3, .int .i64 0, .bool false, .string n]) ∧ w' = w.alloc (.cells #[.int .i64 3, .int .i64 0, .bool false, .string n] 23) := by
  go_enter Tryd.func11, Tryd.ntmps11
  go_wp2
  refine bodyPost_ret (v := (textV n).val) (by simp [results, Tryd.results11, go_sem, textV, Vl.val]) rfl ⟨rfl, rfl⟩
theorem rvint_c (w : World) (n : Int) : Calls Tryd.prog 8 #[.int .i64 n] w fun e w' => e = .returned (.agg #[.int .i64 1, .int .i64 n, .bool false, .string ⟨#[]⟩]) ∧ w' = w.alloc (.cells #[.int .i64 1, .int .i64 n, .bool false, .string ⟨#[]⟩] 23) := by
  go_enter Tryd.func8, Tryd.ntmps8
  go_wp2
  refine bodyPost_ret (v := (intV n).val) (by simp [results, Tryd.results8, go_sem, intV, Vl.val]; rfl) rfl ⟨rfl, rfl⟩
theorem rvbool_c (w : World) (n : Bool) : Calls Tryd.prog 10 #[.bool n] w fun e w' => e = .returned (.agg #[.int .i64 2, .int .i64 0, .bool n, .string ⟨#[]⟩]) ∧ w' = w.alloc (.cells #[.int .i64 2, .int .i64 0, .bool n, .string ⟨#[]⟩] 23) := by
  go_enter Tryd.func10, Tryd.ntmps10
  go_wp2
  refine bodyPost_ret (v := (boolV n).val) (by simp [results, Tryd.results10, go_sem, boolV, Vl.val]; rfl) rfl ⟨rfl, rfl⟩
theorem rvtext_c (w : World) (n : ByteArray) : Calls Tryd.prog 12 #[.string n] w fun e w' => e = .returned (.agg #[.int .i64 3, .int .i64 0, .bool false, .string n]) ∧ w' = w.alloc (.cells #[.int .i64 3, .int .i64 0, .bool false, .string n] 23) := by
  go_enter Tryd.func12, Tryd.ntmps12
  go_wp2
  refine bodyPost_ret (v := (textV n).val) (by simp [results, Tryd.results12, go_sem, textV, Vl.val]) rfl ⟨rfl, rfl⟩

theorem fieldsV : (Tryd.prog.fieldsOf 23).toList.map (fun f => (f.name != "_", f.type, f.offset)) = [(true, 3, 0), (true, 3, 1), (true, 4, 2), (true, 9, 3)] := by kernel_rfl
theorem structV : Tryd.prog.underlying 23 = some (.struct (Tryd.prog.fieldsOf 23)) := by kernel_rfl
theorem heldV : Tryd.prog.stoodInHeld 23 = false := by kernel_rfl
theorem run_same (w : World) (a b : Vl) : (binOp .eql 23 a.val b.val).run Tryd.prog w = .ok (.bool (sameB a b)) w := by
  obtain ⟨ak, an, ay, sa⟩ := a
  obtain ⟨bk, bn, b3, sb⟩ := b
  unfold Vl.val sameB
  dsimp only
  rw [run_eql_struct, run_equalIn_agg _ _ _ _ _ structV heldV]
  have hf := fieldsV
  generalize (Tryd.prog.fieldsOf 23).toList = fs at hf
  rcases fs with _ | ⟨f0, _ | ⟨f1, _ | ⟨f2, _ | ⟨f3, _ | ⟨f4, r⟩⟩⟩⟩⟩
  · simp at hf
  · simp at hf
  · simp at hf
  · simp at hf
  · simp only [List.map_cons, List.map_nil, List.cons.injEq, Prod.mk.injEq, and_true] at hf
    obtain ⟨⟨n0, t0, o0⟩, ⟨n1, t1, o1⟩, ⟨n2, t2, o2⟩, n3, t3, o3⟩ := hf
    simp only [Op.eqFields, t0, t1, t2, t3, o0, o1, o2, o3]
    simp only [bne_iff_ne] at n0 n1 n2 n3
    rw [if_pos n0, if_pos n1, if_pos n2, if_pos n3]
    simp [go_sem, part]
    repeat' split
    all_goals simp [*]
  · simp at hf
theorem same_c (w : World) (a b : Vl) : Calls Tryd.prog 15 #[a.val, b.val] w fun e w' => e = .returned (.bool (sameB a b)) ∧ Below w.heap.size w w' := by
  obtain ⟨ak, an, ay, sa⟩ := a
  obtain ⟨bk, bn, b3, sb⟩ := b
  unfold Vl.val sameB
  dsimp only
  go_enter Tryd.func15, Tryd.ntmps15
  go_wp2
  all_goals
    go_ret
    exact ⟨by simp [*], ((Below.refl _ _).alloc (Nat.le_refl _) _).alloc (by simp) _⟩
end Go.Proofs.YtjablobdiglnpaaDoor
