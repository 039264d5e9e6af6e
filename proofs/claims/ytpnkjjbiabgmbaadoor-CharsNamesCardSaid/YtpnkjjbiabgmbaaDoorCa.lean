/- The law's awake. -/
import Derived.Test.YtpnkjjbiabgmbaaDoorCw
import Derived.Test.YtpnkjjbiabgmbaaDoorCd
namespace Go.Proofs.YtpnkjjbiabgmbaaDoor
open Go.RowKit
set_option linter.unusedVariables false

theorem D_awake : D [195, 169, 1] = (233, 2) := by decide

theorem awake_c (w : World) (hT : Tabs w) : Calls Tryd.prog 14 #[] w fun e w' => e = .returned (.bool true) ∧ Below w.heap.size w w' := by
  go_enter Tryd.func14, Tryd.ntmps14
  go_wp2_with fail
  have hR : Rd (w.alloc (.cells #[.int .u8 195, .int .u8 169, .int .u8 1] 5)) (.slice (some ⟨w.heap.size, 0, none⟩) 3 3) [195, 169, 1] := rd_made w _ _ [195, 169, 1] rfl (by simp [maxLen])
  refine (decode_c _ (hT.below ((Below.refl _ _).alloc (Nat.le_refl _) _)) _ _ hR).mono ?_
  rintro e w1 ⟨rfl, hb⟩
  have HB := Lib.hid hb
  clear hb hR
  rw [D_awake]
  go_wp2
  go_ret
  exact ⟨rfl, ((Below.refl _ _).alloc (Nat.le_refl _) _).trans (HB.out.mono (by simp))⟩
end Go.Proofs.YtpnkjjbiabgmbaaDoor
