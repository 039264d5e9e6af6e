/- xmllex: the law XmllexBack. -/
import Derived.Test.YtelemkiaepemjaaDoorIe
import Derived.Test.YtelemkiaepemjaaDoorIg
namespace Go.Proofs.YtelemkiaepemjaaDoor
open Go.RowKit
set_option linter.unusedVariables false

theorem bytesW_rdX (w : World) (e : TypeId) (s : ByteArray) (hs : s.size ≤ 8388608) : Rd (Lib.bytesWorld w e s) (.slice (some ⟨w.heap.size, 0, none⟩) s.size (grownCap w s.size 0 e)) s.data.toList := by
  have hl : s.data.toList.length = s.size := by rw [Array.length_toList]; rfl
  refine ⟨_, _, by rw [hl], by rw [hl]; exact grownCap_ge _ _ _ _, grownCap_le_maxLen _ _ _ _ (by unfold maxLen; omega), by simp, fun _ => ⟨w.heap.size, 0, rfl, fun i hi => ?_⟩⟩
  rw [Nat.zero_add, Lib.bytesWorld_cell w e s i (by omega), show s.data.toList.getD i 0 = s.data.toList[i] from by simp only [List.getD, List.getElem?_eq_getElem hi, Option.getD_some]]
set_option maxRecDepth 100000 in
set_option maxHeartbeats 2000000 in
theorem back_w (s : ByteArray) (w : World) (hw : BW w) (s0 : s.size ≤ 1048576) : Calls Tryd.prog 3 #[.string s] w fun e w' => e = .returned (.bool true) ∧ Below w.heap.size w w' := by
  have HES := Lib.hid (escape_c w s s0)
  have HAW := Lib.hid (fun w' (hb : Below w.heap.size w w') => awake_c w' (hw.below hb))
  have hsl : s.data.toList.length = s.size := by rw [Array.length_toList]; rfl
  have hel := escF_len s.data.toList
  obtain ⟨S, hS⟩ : ∃ S, S = (⟨(escF s.data.toList).toArray⟩ : ByteArray) := ⟨_, rfl⟩
  have hSs : S.size ≤ 8388608 := by rw [hS]; show (escF s.data.toList).toArray.size ≤ _; simp; omega
  have hSd : S.data.toList = escF s.data.toList := by rw [hS]
  rw [← hS] at HES
  have hx : (⟨s.data.toList.toArray⟩ : ByteArray) = s := by cases s; simp
  have HU := Lib.hid (fun w' (hb : Below w.heap.size w w') => by
    have h := unescape_c (Lib.bytesWorld w' 5 S) ((hw.below hb).below (bytesW_below w' 5 S)) _ S.data.toList (bytesW_rdX w' 5 S hSs) (by rw [hSd]; omega)
    rw [hSd, rsT_esc] at h
    unfold UnAft at h
    dsimp only at h
    rw [hx] at h
    exact h)
  have hcv := fun (w : World) => Lib.run_convert_string_bytes (P := Tryd.prog) w 9 25 5 S (u := .string) Tryd.underlying9 Tryd.underlying25 Tryd.underlying5
  have tx : (s.toList == s.toList) = true := by simp
  clear hw s0 hsl hel hS hSd hSs hx
  go_enter Tryd.func3, Tryd.ntmps3
  go_wp2_with fail
  refine HES.out.mono ?_
  rintro e w1 ⟨rfl, hb1⟩
  have HB1 := Lib.hid hb1
  have hcv1 := hcv w1
  have HU1 := Lib.hid (HU.out w1 hb1)
  have HBW := Lib.hid (hb1.trans ((bytesW_below w1 5 S).mono hb1.size))
  obtain ⟨W, hW⟩ : ∃ W, W = Lib.bytesWorld w1 5 S := ⟨_, rfl⟩
  rw [← hW] at hcv1 HU1 HBW
  clear hb1 hcv hW
  go_wp2_with fail
  refine HU1.out.mono ?_
  rintro e w2 ⟨rfl, hb2⟩
  have HB2 := Lib.hid (HBW.out.trans (hb2.mono HBW.out.size))
  clear hb2
  go_wp2_with fail
  refine (HAW.out _ HB2.out).mono ?_
  rintro e w3 ⟨rfl, hb3⟩
  have HB3 := Lib.hid (HB2.out.trans (hb3.mono HB2.out.size))
  clear hb3
  go_wp2_with fail
  go_ret
  exact ⟨rfl, HB3.out⟩
end Go.Proofs.YtelemkiaepemjaaDoor
