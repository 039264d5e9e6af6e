/- Cases: SameInsts; a path's last part (the reference's Last). Written by tools/genyo.py. -/
import Derived.Test.YtncloiimbclklaaYn
namespace Go.Proofs.Ytncloiimbclklaa
open Go Go.RowKit Go.Shelf
set_option linter.unusedVariables false
set_option linter.unusedSimpArgs false

set_option maxRecDepth 100000 in
theorem sameInsts_c (w : World) (v1 v2 : Value) (l1 l2 : List IV) (h1 : InstsIs w v1 l1) (h2 : InstsIs w v2 l2) (hb : l1.map IV.bare = l2.map IV.bare) :
    Calls Try.prog 10 #[v1, v2] w fun e w' => e = .returned (.bool true) ∧ Below w.heap.size w w' := by
  have HC := Lib.hid (equalI_c w v1 v2 l1 l2 h1 h2 hb)
  clear h1 h2 hb
  go_enter Try.func10, Try.ntmps10
  go_wp2_with fail
  refine (HC.out).mono ?_
  rintro e w' ⟨rfl, hb⟩
  have HB := Lib.hid hb
  clear hb
  go_wp2_with fail
  go_ret
  exact ⟨rfl, HB.out⟩

/-- The item and the number of a path's last part. -/
def lastB (s : ByteArray) : PT := lastP (s.data.toList.drop (Lib.lastIndex s.data.toList [47] + 1).toNat)
theorem last47' (s : ByteArray) : ∃ j : Nat, Lib.lastIndex s.data.toList [47] + 1 = (j : Int) ∧ j ≤ s.size := by
  rcases lastIs_lib s.data.toList 47 with ⟨h, _⟩ | ⟨k, h, hk, _⟩
  · exact ⟨0, by rw [h]; rfl, by omega⟩
  · exact ⟨k + 1, by rw [h]; omega, by rw [size_list] at hk; omega⟩
set_option maxRecDepth 100000 in
theorem rlastT_c (w : World) (s : ByteArray) (hs : s.size ≤ 140737488355328) : Calls Try.prog 40 #[.string s] w fun e w' => e = .returned (pairV (lastB s)) ∧ Below w.heap.size w w' := by
  have HL := Lib.hid (fun w => rlast_c w s hs 47 _ (lastIs_lib s.data.toList 47))
  obtain ⟨j, hj, hjs⟩ := last47' s
  have HP := Lib.hid (fun W => rpart_c W (s.extract j s.size) (by rw [ByteArray.size_extract]; omega))
  have HLB := Lib.hid (show lastB s = lastP (s.extract j s.size).data.toList from by unfold lastB; rw [hj, cutFrom]; simp)
  obtain ⟨z, hz⟩ : ∃ z, Lib.lastIndex s.data.toList [47] = z := ⟨_, rfl⟩
  rw [hz] at HL hj
  obtain ⟨R, hR⟩ : ∃ R, lastP (s.extract j s.size).data.toList = R := ⟨_, rfl⟩
  rw [hR] at HP HLB
  have hz1 : -1 ≤ z := by omega
  have hz2 : z ≤ 140737488355328 := by omega
  obtain rfl : z = (j : Int) - 1 := by omega
  have hw : (j : Int) - 1 + 1 = (j : Int) := by omega
  clear hz hj hR hz1 hz2
  go_enter Try.func40, Try.ntmps40
  go_wp2_with (go_at_call 55; refine (HL.out _).mono ?_; rintro e w' ⟨rfl, rfl⟩)
  refine (HP.out _).mono ?_
  rintro e w' ⟨rfl, hb⟩
  have HB := Lib.hid hb
  clear hb
  unfold pairV
  obtain ⟨R1, R2⟩ := R
  dsimp only
  go_wp2_with fail
  go_ret2
  exact ⟨by rw [HLB.out]; rfl, HB.out⟩
end Go.Proofs.Ytncloiimbclklaa
