/- shape: awake. -/
import Derived.Test.YtjbkepjkmihojaaDoorRp
namespace Go.Proofs.YtjbkepjkmihojaaDoor
open Go Go.RowKit
set_option linter.unusedVariables false

theorem base_const : baseV [97, 35, 50, 46, 98, 35, 49] = .tuple #[.string ⟨#[97, 46, 98]⟩, .bool true] := by
  rw [baseV_some _ [([97], 2), ([98], 1)] (by decide +kernel)]
  rfl
theorem order_const : orderF [97, 35, 50] [97, 35, 49, 48] = -1 := by decide +kernel

theorem awake_c (w : World) : Calls Tryd.prog 14 #[] w fun e w' => e = .returned (.bool true) ∧ Below w.heap.size w w' := by
  have HB := fun w => base_c w ⟨#[97, 35, 50, 46, 98, 35, 49]⟩ (by decide)
  rw [show (⟨#[97, 35, 50, 46, 98, 35, 49]⟩ : ByteArray).data.toList = [97, 35, 50, 46, 98, 35, 49] from rfl, base_const] at HB
  have HO := fun w => order_c w ⟨#[97, 35, 50]⟩ ⟨#[97, 35, 49, 48]⟩ (by decide) (by decide)
  rw [show (⟨#[97, 35, 50]⟩ : ByteArray).data.toList = [97, 35, 50] from rfl, show (⟨#[97, 35, 49, 48]⟩ : ByteArray).data.toList = [97, 35, 49, 48] from rfl, order_const] at HO
  have HBB := Lib.hid HB
  have HOO := Lib.hid HO
  clear HB HO
  go_enter Tryd.func14, Tryd.ntmps14
  go_wp2_with (first
    | (go_at_call 6; refine (HBB.out _).mono ?_; rintro e w1 ⟨rfl, hb1⟩; have H1 := Lib.hid hb1; clear hb1)
    | (go_at_call 15; refine (HOO.out _).mono ?_; rintro e w2 ⟨rfl, hb2⟩; have H2 := Lib.hid (H1.out.trans (hb2.mono H1.out.size)); clear hb2))
  go_ret
  exact ⟨rfl, H2.out⟩
end Go.Proofs.YtjbkepjkmihojaaDoor
