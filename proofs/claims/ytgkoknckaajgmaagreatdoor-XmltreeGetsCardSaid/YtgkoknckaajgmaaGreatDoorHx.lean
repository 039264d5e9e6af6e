/- xmllex: scan: what it raises and catches. -/
import Derived.Test.YtgkoknckaajgmaaGreatDoorHw
import Derived.Recover
import Derived.Defers
namespace Go.Proofs.YtgkoknckaajgmaaGreatDoor
open Go.RowKit
set_option linter.unusedVariables false

theorem fault_is (f k : Int) (w : World) : (Instr.typeAssert (.iface 160 (.agg #[.int .i64 f, .int .i64 k])) 20 160 true).run Tryz.prog w = .ok (.tuple #[.agg #[.int .i64 f, .int .i64 k], .bool true]) w := by
  simp [Instr.typeAssert, go_sem]
theorem iface_nil (f k : Int) (w : World) : (binOp .eql 20 (.iface 160 (.agg #[.int .i64 f, .int .i64 k])) .nilIface).run Tryz.prog w = .ok (.bool false) w := by
  kernel_rfl
theorem nil_nil (w : World) : (binOp .eql 20 .nilIface .nilIface).run Tryz.prog w = .ok (.bool true) w := by
  kernel_rfl

set_option maxRecDepth 100000 in
set_option maxHeartbeats 2000000 in
theorem scatch_c (b c : Nat) (x y f k : Int) (older : List PanicEntry) (w : World) (hx : w.heap[b]? = some (.cells #[.int .i64 x] 3 (0, 0))) (hy : w.heap[c]? = some (.cells #[.int .i64 y] 28 (0, 0))) :
    CallsD Tryz.prog 114 #[.pointer (some ⟨b, 0, none⟩), .pointer (some ⟨c, 0, none⟩)] (.panicking ({ v := .iface 160 (.agg #[.int .i64 f, .int .i64 k]), recovered := false } :: older)) w fun e u' w' =>
      e = .returned (.tuple #[]) ∧ u' = .panicking ({ v := .iface 160 (.agg #[.int .i64 f, .int .i64 k]), recovered := true } :: older) ∧
      w'.heap[b]? = some (.cells #[.int .i64 f] 3 (0, 0)) ∧ w'.heap[c]? = some (.cells #[.int .i64 k] 28 (0, 0)) ∧ Chg [b, c] w w' := by
  have hbc : b ≠ c := by
    rintro rfl
    rw [hx] at hy
    simp at hy
  have hbl := (Array.getElem?_eq_some_iff.1 hx).1
  have hcl := (Array.getElem?_eq_some_iff.1 hy).1
  obtain ⟨x0, xz⟩ := cells1 hx
  obtain ⟨y0, yz⟩ := cells1 hy
  have HX := Lib.hid hx
  have HY := Lib.hid hy
  refine callsD_of_wpS Tryz.func114 rfl fun c₀ cs hu => ?_
  apply wpS_seq
  apply wpS_region
  simp [wpOpsS, go_sem, recoverD, hu, Tryz.ntmps114, Exit.thenS]
  refine wpS_of_wp ?_
  have hta := fault_is f k
  have hin := iface_nil f k
  clear hx hy
  have hT : #[Value.pointer (some ⟨b, 0, none⟩), Value.pointer (some ⟨c, 0, none⟩)] ++ (Array.replicate 13 undef).setIfInBounds 3 (Value.iface 160 (.agg #[.int .i64 f, .int .i64 k])) = #[Value.pointer (some ⟨b, 0, none⟩), Value.pointer (some ⟨c, 0, none⟩), undef, undef, undef, Value.iface 160 (.agg #[.int .i64 f, .int .i64 k]), undef, undef, undef, undef, undef, undef, undef, undef, undef] := rfl
  rw [hT]
  clear hT
  go_wp2_with fail
  go_region
  all_goals
    go_wp2_with fail
    have hc : Chg [b, c] w ((((w.setCell ⟨b, 0, none⟩ (.int .i64 f)).setCell ⟨c, 0, none⟩ (.int .i64 k)).alloc (.cells #[.int .i64 f, .int .i64 k] 160)).drew) := ((((Chg.refl [b, c] w).set' _ _ _ (.inl (by simp))).set' _ _ _ (.inl (by simp))).alloc' _).drew'
    have e1 : ((((w.setCell ⟨b, 0, none⟩ (.int .i64 f)).setCell ⟨c, 0, none⟩ (.int .i64 k)).alloc (.cells #[.int .i64 f, .int .i64 k] 160)).drew).heap[b]? = some (.cells #[.int .i64 f] 3 (0, 0)) := by
      rw [heap_drew, Below.heap_alloc _ _ _ (by simpa [World.size_setCell] using hbl), Below.heap_setCell _ _ _ _ hbc, block_set _ _ _ _ _ _ _ HX.out]
      rfl
    have e2 : ((((w.setCell ⟨b, 0, none⟩ (.int .i64 f)).setCell ⟨c, 0, none⟩ (.int .i64 k)).alloc (.cells #[.int .i64 f, .int .i64 k] 160)).drew).heap[c]? = some (.cells #[.int .i64 k] 28 (0, 0)) := by
      rw [heap_drew, Below.heap_alloc _ _ _ (by simpa [World.size_setCell] using hcl), block_set _ _ _ _ _ _ _ ((Below.heap_setCell _ _ _ _ (Ne.symm hbc)).trans HY.out)]
      rfl
    simp [bodyPostS, results, Tryz.results114, go_sem]
    exact ⟨e1, e2, hc⟩
set_option maxHeartbeats 2000000 in
theorem sidle_c (b c : Nat) (w : World) :
    CallsD Tryz.prog 114 #[.pointer (some ⟨b, 0, none⟩), .pointer (some ⟨c, 0, none⟩)] .returning w fun e u' w' => e = .returned (.tuple #[]) ∧ u' = .returning ∧ w' = w := by
  refine callsD_of_wpS Tryz.func114 rfl fun c₀ cs hu => ?_
  apply wpS_seq
  apply wpS_region
  simp [wpOpsS, go_sem, recoverD, hu, Tryz.ntmps114, Exit.thenS]
  refine wpS_of_wp ?_
  have hT : #[Value.pointer (some ⟨b, 0, none⟩), Value.pointer (some ⟨c, 0, none⟩)] ++ (Array.replicate 13 undef).setIfInBounds 3 Value.nilIface = #[Value.pointer (some ⟨b, 0, none⟩), Value.pointer (some ⟨c, 0, none⟩), undef, undef, undef, Value.nilIface, undef, undef, undef, undef, undef, undef, undef, undef, undef] := rfl
  rw [hT]
  clear hT
  have hin := nil_nil
  go_wp2_with fail
  cases c₀
  simp_all [bodyPostS, results, Tryz.results114, go_sem]
end Go.Proofs.YtgkoknckaajgmaaGreatDoor
