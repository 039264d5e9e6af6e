/- value: the law's awake. -/
import Derived.Test.YtjablobdiglnpaaDoorKe
namespace Go.Proofs.YtjablobdiglnpaaDoor
open Go.RowKit
set_option linter.unusedVariables false

theorem heap_at2a (w : World) (o1 o2 : Obj) : ((w.alloc o1).alloc o2).heap[w.heap.size]? = some o1 :=
  ((box_below (w.alloc o1) o2).block _ (by simp)).trans (heap_alloc_new w o1)
theorem heap_at2b (w : World) (o1 o2 : Obj) : ((w.alloc o1).alloc o2).heap[w.heap.size + 1]? = some o2 := by
  have := heap_alloc_new (w.alloc o1) o2
  simpa using this
theorem int_ok (n : Int) (h : -9223372036854775808 ≤ n ∧ n ≤ 9223372036854775807) : (intV n).Ok := ⟨by show (-9223372036854775808 : Int) ≤ 1 ∧ (1 : Int) ≤ 9223372036854775807; omega, h, Nat.zero_le _⟩
theorem doF_awake : doF 8 (intV (-7)) (intV 2) = (intV (-3), true) := by
  unfold doF
  rw [if_pos ⟨by decide, can_int _, can_int _⟩]
  rfl

theorem awake_c (w : World) (hT : Tabs w) : Calls Tryd.prog 21 #[] w fun e w' => e = .returned (.bool true) ∧ Below w.heap.size w w' := by
  have HQ := fun (w : World) (hT : Tabs w) => do_c w hT 8 (intV (-7)) (intV 2) (int_ok _ (by omega)) (int_ok _ (by omega))
  rw [doF_awake] at HQ
  simp only [intV, Vl.val] at HQ
  have HQ' := Lib.hid HQ
  have HT := Lib.hid hT
  clear HQ hT
  have HB := Lib.hid (fun (o1 o2 : Obj) => (box_below w o1).alloc (show w.heap.size ≤ (w.alloc o1).heap.size by simp) o2)
  go_enter Tryd.func21, Tryd.ntmps21
  go_wp2_with (go_at_call 7; refine (vint_c _ _).mono ?_; rintro e w' ⟨rfl, rfl⟩)
  refine (HQ'.out _ (HT.out.below (HB.out _ _))).mono ?_
  rintro e w3 ⟨rfl, hb⟩
  have HX := Lib.hid ((HB.out _ _).trans (hb.mono (by simp; omega)))
  clear hb
  go_wp2_with fail
  go_ret
  exact ⟨rfl, HX.out.alloc HX.out.size _⟩
end Go.Proofs.YtjablobdiglnpaaDoor
