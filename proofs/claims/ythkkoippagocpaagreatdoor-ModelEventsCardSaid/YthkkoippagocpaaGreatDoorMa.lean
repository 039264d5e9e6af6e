/- A model at constants: the small parts of Check. -/
import Derived.Test.YthkkoippagocpaaGreatDoorQn
import Derived.Test.YthkkoippagocpaaGreatDoorByS
import Derived.OwnWalk
import Derived.WalkSpells
import Derived.WalkLawsBesides
import Derived.Lib.SlBytesConst
import Derived.Laws.IdiomStrings
import Derived.BigQuiet
import Derived.Deep.QuietTactic
import Derived.Shelf.Abstract
import Derived.Deep.RegionLaw
import Derived.Deep.DeepCutAuto
namespace Go.Proofs.YthkkoippagocpaaGreatDoor
open Go Go.RowKit Go.Shelf
set_option linter.unusedVariables false
set_option linter.unusedSimpArgs false

def itemM (id : ByteArray) : Array Value := #[.string id, .string ⟨#[]⟩, .int .i64 0, .slice none 0 0, .slice none 0 0, .string ⟨#[]⟩, .string ⟨#[]⟩, .string ⟨#[]⟩, .bool false, .bool false, .int .i64 0, .slice none 0 0, .slice none 0 0, .slice none 0 0]
def modelM (id pid : ByteArray) : Array Value := #[.string id, .string ⟨#[]⟩, .slice none 0 0, .slice none 0 0, .string pid, .string ⟨#[]⟩, .int .i64 0, .slice none 0 0, .slice none 0 0, .string ⟨#[]⟩, .string ⟨#[]⟩, .string ⟨#[]⟩, .bool false, .bool false, .int .i64 0, .slice none 0 0, .slice none 0 0, .slice none 0 0]
theorem nm_m : nameOk (⟨#[109]⟩ : ByteArray).data.toList = true := by decide +kernel
theorem nm_p : nameOk (⟨#[112]⟩ : ByteArray).data.toList = true := by decide +kernel
theorem nm_0 : nameOk (⟨#[]⟩ : ByteArray).data.toList = false := by decide +kernel

set_option maxRecDepth 100000 in
theorem wrong_nil (w : World) (a : Option Addr) (c : Nat) : Calls Tryz.prog 38 #[.slice a 0 c] w fun e w' => e = .returned (.int .i64 (-1)) ∧ w = w' := by
  go_enter Tryz.func38, Tryz.ntmps38
  go_wp2_with fail
  refine wp_loop_rounds 1 ?_
  rw [rounds_succ]
  go_wp2_with fail
  go_ret
  exact ⟨rfl, rfl⟩
set_option maxRecDepth 100000 in
theorem title_nil (w : World) : Calls Tryz.prog 25 #[.string ⟨#[]⟩] w fun e w' => e = .returned (.bool true) ∧ Below w.heap.size w w' := by
  have HW := Lib.hid wrong_nil
  have hcv := run_bytes_of_string (P := Tryz.prog) w 9 63 5 ⟨#[]⟩ (by kernel_rfl) (by kernel_rfl) (by kernel_rfl)
  obtain ⟨W, hW⟩ : ∃ W, W = w.drew.alloc (.cells (bytesRow ⟨#[]⟩ (grownCap w (⟨#[]⟩ : ByteArray).size 0 5)) 5 ((bytesRow ⟨#[]⟩ (grownCap w (⟨#[]⟩ : ByteArray).size 0 5)).size, (bytesRow ⟨#[]⟩ (grownCap w (⟨#[]⟩ : ByteArray).size 0 5)).size + 1)) := ⟨_, rfl⟩
  rw [← hW] at hcv
  have HB := Lib.hid (show Below w.heap.size w W from by rw [hW]; exact ((Below.refl _ _).drew).alloc (Nat.le_refl _) _)
  clear hW
  generalize grownCap w (⟨#[]⟩ : ByteArray).size 0 5 = g at hcv
  rw [show (⟨#[]⟩ : ByteArray).size = 0 from rfl] at hcv
  go_enter Tryz.func25, Tryz.ntmps25
  go_wp2_with (go_at_call 38; refine (HW.out _ _ _).mono ?_; rintro e w' ⟨rfl, rfl⟩)
  go_ret
  exact ⟨rfl, HB.out⟩
set_option maxRecDepth 100000 in
theorem twice_nil (w : World) : Calls Tryz.prog 26 #[.slice none 0 0] w fun e w' => e = .returned (.bool false) ∧ w = w' := by
  go_enter Tryz.func26, Tryz.ntmps26
  go_wp2_with fail
  refine wp_loop_rounds 1 ?_
  rw [rounds_succ]
  go_wp2_with fail
  go_ret
  exact ⟨rfl, rfl⟩
set_option maxRecDepth 100000 in
theorem rolesFault_nil (w : World) (c : Value) : Calls Tryz.prog 33 #[c, .slice none 0 0] w fun e w' => e = .returned (.int .i64 0) ∧ w = w' := by
  have HT := Lib.hid twice_nil
  go_enter Tryz.func33, Tryz.ntmps33
  go_wp2_with fail
  refine wp_loop_rounds 1 ?_
  rw [rounds_succ]
  go_wp2_with (go_at_call 26; refine (HT.out _).mono ?_; rintro e w' ⟨rfl, rfl⟩)
  go_ret
  exact ⟨rfl, rfl⟩
set_option maxRecDepth 100000 in
theorem swalk_nil (w : World) (p : Array Value) (f : Value) : Calls Tryz.prog 39 #[.slice none 0 0, .agg p, f] w fun e w' => e = .returned (.int .i64 0) ∧ Below w.heap.size w w' := by
  go_enter Tryz.func39, Tryz.ntmps39
  go_wp2_with fail
  refine wp_loop_rounds 1 ?_
  rw [rounds_succ]
  go_wp2_with fail
  go_ret
  exact ⟨rfl, (Below.refl _ _).alloc (Nat.le_refl _) _⟩
set_option maxRecDepth 100000 in
theorem truth_nil (w : World) (f i : Value) : Calls Tryz.prog 47 #[.string ⟨#[]⟩, f, i] w fun e w' => e = .returned (.int .i64 0) ∧ w = w' := by
  go_enter Tryz.func47, Tryz.ntmps47
  go_wp2_with fail
  go_ret
  exact ⟨rfl, rfl⟩
set_option maxRecDepth 100000 in
theorem planned_x (w : World) (id : ByteArray) : Calls Tryz.prog 28 #[.agg (itemM id)] w fun e w' => e = .returned (.bool true) ∧ Below w.heap.size w w' := by
  unfold itemM
  go_enter Tryz.func28, Tryz.ntmps28
  go_wp2_with fail
  go_ret
  exact ⟨rfl, (Below.refl _ _).alloc (Nat.le_refl _) _⟩
end Go.Proofs.YthkkoippagocpaaGreatDoor
