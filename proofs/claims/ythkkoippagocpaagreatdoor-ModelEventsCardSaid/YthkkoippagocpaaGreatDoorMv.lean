/- A model at constants: the conditions' faults. -/
import Derived.Test.YthkkoippagocpaaGreatDoorMt
import Derived.Deep.QuietTactic
import Derived.BigQuiet
namespace Go.Proofs.YthkkoippagocpaaGreatDoor
open Go Go.RowKit Go.Shelf
set_option linter.unusedVariables false
set_option linter.unusedSimpArgs false

set_option maxRecDepth 100000 in
theorem truthFault_x (w : World) (K : Nat) (id pid : ByteArray) (vI vD : Value) (hk : w.heap[K]? = some (.cells (chkM id pid vI vD) 43 (0, 0))) : Calls Tryz.prog 35 #[.pointer (some ⟨K, 0, none⟩), .string ⟨#[]⟩] w fun e w' => e = .returned (.int .i64 0) ∧ ∃ n, w' = w.drewN n := by
  have HT := Lib.hid (fun W => (show Calls Tryz.prog 47 #[.string ⟨#[]⟩, .slice none 0 0, vD] W fun e w' => e = .returned (.int .i64 0) ∧ w' = W from (truth_nil W _ _).mono fun _ _ h => And.intro h.1 h.2.symm))
  have c3 : w.cell? ⟨K, 3, none⟩ = some (.slice none 0 0) := by simp [World.cell?, hk, chkM]
  have c19 : w.cell? ⟨K, 19, none⟩ = some vD := by simp [World.cell?, hk, chkM]
  clear hk
  go_enter Tryz.func35, Tryz.ntmps35
  go_wp2_with fail
  go_quiet ((go_at_call 47; exact Calls.quiet_of_same (HT.out _)))
  go_wp2_with fail
  go_ret
  exact ⟨rfl, _, rfl⟩

theorem drewN_heap (w : World) : ∀ n, (w.drewN n).heap = w.heap
  | 0 => rfl
  | n + 1 => by
    have := drewN_heap w n
    first | exact this | (simp [World.drewN]; exact this)
set_option maxRecDepth 100000 in
set_option maxHeartbeats 1000000 in
theorem condFault_x (w : World) (K : Nat) (id pid : ByteArray) (vI vD : Value) (hk : w.heap[K]? = some (.cells (chkM id pid vI vD) 43 (0, 0))) : Calls Tryz.prog 23 #[.pointer (some ⟨K, 0, none⟩), .agg (itemM pid)] w fun e w' => e = .returned (.int .i64 0) ∧ Below w.heap.size w w' := by
  have HT := Lib.hid (fun (W : World) (hb : Below w.heap.size w W) => truthFault_x W K id pid vI vD ((hb.block K (Array.getElem?_eq_some_iff.1 hk).1).trans hk))
  clear hk
  have i0 : ∀ W : World, (Instr.index 55 (.agg #[.slice none 0 0, .slice none 0 0]) (.int .i64 0)).run Tryz.prog W = .ok (.slice none 0 0) W := fun _ => by kernel_rfl
  have i1 : ∀ W : World, (Instr.index 55 (.agg #[.slice none 0 0, .slice none 0 0]) (.int .i64 1)).run Tryz.prog W = .ok (.slice none 0 0) W := fun _ => by kernel_rfl
  have j0 : ∀ W : World, (Instr.index 60 (.agg #[.string ⟨#[]⟩, .string ⟨#[]⟩, .string ⟨#[]⟩]) (.int .i64 0)).run Tryz.prog W = .ok (.string ⟨#[]⟩) W := fun _ => by kernel_rfl
  have j1 : ∀ W : World, (Instr.index 60 (.agg #[.string ⟨#[]⟩, .string ⟨#[]⟩, .string ⟨#[]⟩]) (.int .i64 1)).run Tryz.prog W = .ok (.string ⟨#[]⟩) W := fun _ => by kernel_rfl
  have j2 : ∀ W : World, (Instr.index 60 (.agg #[.string ⟨#[]⟩, .string ⟨#[]⟩, .string ⟨#[]⟩]) (.int .i64 2)).run Tryz.prog W = .ok (.string ⟨#[]⟩) W := fun _ => by kernel_rfl
  unfold itemM
  go_enter Tryz.func23, Tryz.ntmps23
  go_wp2_with fail
  refine wp_loop_rounds 3 ?_
  rw [rounds_succ]
  go_wp2_with fail
  refine wp_loop_rounds 1 ?_
  rw [rounds_succ]
  go_wp2_with fail
  rw [rounds_succ]
  go_wp2_with fail
  refine wp_loop_rounds 1 ?_
  rw [rounds_succ]
  go_wp2_with fail
  rw [rounds_succ]
  go_wp2_with fail
  refine wp_loop_rounds 4 ?_
  rw [rounds_succ]
  go_wp2_with fail
  refine (HT.out _ (boxM w _)).mono ?_
  rintro e w1 ⟨rfl, n1, hw1⟩
  subst hw1
  go_wp2_with fail
  rw [rounds_succ]
  go_wp2_with fail
  refine (HT.out _ (below_drewN (boxM w _) _)).mono ?_
  rintro e w1 ⟨rfl, n2, hw1⟩
  subst hw1
  go_wp2_with fail
  rw [rounds_succ]
  go_wp2_with fail
  refine (HT.out _ (by first | exact below_drewN (boxM w _) _ | exact below_drewN (below_drewN (boxM w _) _) _)).mono ?_
  rintro e w1 ⟨rfl, n3, hw1⟩
  subst hw1
  go_wp2_with fail
  rw [rounds_succ]
  go_wp2_with fail
  go_ret
  exact ⟨rfl, by first | exact below_drewN (boxM w _) _ | exact below_drewN (below_drewN (boxM w _) _) _ | exact below_drewN (below_drewN (below_drewN (boxM w _) _) _) _⟩
end Go.Proofs.YthkkoippagocpaaGreatDoor
