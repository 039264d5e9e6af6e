/- xmllex: the law's awake. -/
import Derived.Test.YthlphmldghppmaaGreatDoorIa
namespace Go.Proofs.YthlphmldghppmaaGreatDoor
open Go.RowKit
set_option linter.unusedVariables false

theorem nxt_awake : nxt insP opnP cloP [60, 97, 32, 98, 61, 39, 49, 39, 47, 62] 0 = (⟨1, [97], [([98], [49])], true, []⟩, 10, 0) := by kernel_rfl
set_option maxRecDepth 100000 in
theorem awake_c (w : World) (hw : BW w) : Calls Tryz.prog 13 #[] w fun e w' => e = .returned (.bool true) ∧ Below w.heap.size w w' := by
  have kc := fun (w : World) (C : Array Value) (n c : Nat) => Lib.run_convert_bytes_const (P := Tryz.prog) w 22 5 C n c Tryz.underlying22 Tryz.underlying5
  have b1 := bel_alloc w (.cells #[.int .u8 60, .int .u8 97, .int .u8 32, .int .u8 98, .int .u8 61, .int .u8 39, .int .u8 49, .int .u8 39, .int .u8 47, .int .u8 62] 5 (10, 11))
  have HQ := next_c (hw.below b1) (rd_new w [60, 97, 32, 98, 61, 39, 49, 39, 47, 62] #[.int .u8 60, .int .u8 97, .int .u8 32, .int .u8 98, .int .u8 61, .int .u8 39, .int .u8 49, .int .u8 39, .int .u8 47, .int .u8 62] 5 10 11 10 rfl rfl (by omega)) (by decide) 0
  rw [nxt_awake] at HQ
  have HQ' := Lib.hid HQ
  have HB1 := Lib.hid b1
  clear HQ hw b1
  go_enter Tryz.func13, Tryz.ntmps13
  go_wp2_with fail
  refine (HQ'.out).mono ?_
  rintro e w2 ⟨v, rfl, ⟨s, rfl, hat⟩, hb, _⟩
  obtain ⟨p, c, hs, _⟩ := hat
  have hs' : s = .slice p 1 c := hs
  subst hs'
  have HB := Lib.hid (HB1.out.trans (hb.mono HB1.out.size))
  clear hs hb
  go_wp2_with fail
  go_ret
  exact ⟨rfl, HB.out.alloc HB.out.size _⟩
end Go.Proofs.YthlphmldghppmaaGreatDoor
