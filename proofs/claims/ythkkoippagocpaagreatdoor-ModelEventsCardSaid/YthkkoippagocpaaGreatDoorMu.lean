/- A model at constants: an item's form, roles, conditions. -/
import Derived.Test.YthkkoippagocpaaGreatDoorMt
import Derived.Deep.QuietTactic
import Derived.BigQuiet
import Derived.BigFrame
namespace Go.Proofs.YthkkoippagocpaaGreatDoor
open Go Go.RowKit Go.Shelf
set_option linter.unusedVariables false
set_option linter.unusedSimpArgs false

set_option maxRecDepth 100000 in
set_option maxHeartbeats 1000000 in

theorem formed_x (w : World) (id : ByteArray) : Calls Tryz.prog 32 #[.agg (itemM id)] w fun e w' => e = .returned (.bool true) ∧ Below w.heap.size w w' := by
  have HT := Lib.hid (fun W => (show Calls Tryz.prog 12 #[.int .i64 0] W fun e w' => e = .returned (.bool false) ∧ w' = W from (task_c W 0).mono fun _ _ h => And.intro h.1 h.2.symm))
  obtain ⟨w0, hw0⟩ : ∃ x, x = w.alloc (.cells (itemM id) 36) := ⟨_, rfl⟩
  have HBW := Lib.hid (show Below w.heap.size w w0 from by rw [hw0]; exact boxM w _)
  have hq : w0.heap[w.heap.size]? = some (.cells (itemM id) 36 (0, 0)) := by rw [hw0]; exact heap_alloc_new w _
  unfold itemM at hw0 hq
  have HW0 := Lib.hid hw0
  obtain ⟨p0, p1, p2, p3, p4, p5, p6, p7, p8, p9, p10, p11, p12, p13, pz⟩ := cells14m hq
  clear hw0 hq
  unfold itemM
  go_enter Tryz.func32, Tryz.ntmps32
  go_wp2_with fail
  rw [← HW0.out]
  have hq0 : ((0 : Int) == 0) = true := by decide
  go_quiet ((go_at_call 12; exact Calls.quiet_of_same (HT.out _)))
  go_wp2_with fail
  refine wp_region_quiet_lit (by kernel_rfl) (by kernel_rfl) ?_
  repeat (go_big_quiet_step (fail))
  refine wpQuiet_nil ?_
  intro _ hw'
  obtain ⟨nq2, hw''⟩ := hw'
  subst hw''
  go_upto_region 4 with (fail)

  simp only [List.append_eq, List.cons_append, List.nil_append]
  clear HT HW0 hq0

  go_wp2_with fail
  go_ret
  exact ⟨rfl, below_drewN HBW.out _⟩
end Go.Proofs.YthkkoippagocpaaGreatDoor
