/- chars.Name: the walk; the reference's NameAt. -/
import Derived.Test.YtpnkjjbiabgmbaaDoorNa
import Derived.Test.YtpnkjjbiabgmbaaDoorShelg
import Derived.Laws.RangeString
import Derived.Laws.RangeAny
namespace Go.Proofs.YtpnkjjbiabgmbaaDoor
open Go.RowKit Go.Lib
set_option linter.unusedVariables false

def nameB (xs : List UInt8) : Bool := !xs.isEmpty && nameP xs

set_option maxRecDepth 100000 in
set_option maxHeartbeats 1000000 in
theorem name_c (w : World) (hT : Tabs w) (s : ByteArray) (hl : s.size ≤ 140737488355328) : Calls Tryd.prog 21 #[.string s] w fun e w' => e = .returned (.bool (nameB s.data.toList)) ∧ Below w.heap.size w w' := by
  have HT := Lib.hid hT
  clear hT
  have HSZ := Lib.hid (show s.data.toList.length = s.size from Array.length_toList)
  by_cases he : s.toList.isEmpty = true
  · have HE := Lib.hid (show nameB s.data.toList = false from by
      have : s.data.toList.isEmpty = true := by rw [← ByteArray.toList_eq]; exact he
      unfold nameB; rw [this]; rfl)
    go_enter Tryd.func21, Tryd.ntmps21
    go_wp2_with fail
    go_ret
    exact ⟨by rw [HE.out]; rfl, Below.refl _ _⟩
  · have he' : s.toList.isEmpty = false := by simpa using he
    have HE := Lib.hid (show nameB s.data.toList = (validD s.data.toList && goP (s.data.toList.length + 1) s.data.toList 0) from by
      have : s.data.toList.isEmpty = false := by rw [← ByteArray.toList_eq]; exact he'
      unfold nameB; rw [this]; rfl)
    clear he
    go_enter Tryd.func21, Tryd.ntmps21
    go_wp2_with fail
    refine (Tryd.utf8_ValidString s _ (by omega) HT.out).mono ?_
    rintro e w1 ⟨rfl, hb⟩
    have H1 := Lib.hid hb
    clear hb
    by_cases hv : validD s.data.toList = true
    · rw [hv]
      have HE2 := Lib.hid (show nameB s.data.toList = goP (s.data.toList.length + 1) s.data.toList 0 from by rw [HE.out, hv]; rfl)
      clear hv
      go_wp2_with fail
      go_loopw [3] (fun i wr => ∃ k f : Nat, k ≤ s.data.toList.length ∧ wr = w1.iter s k ∧ s.data.toList.length - k < f ∧ goP f s.data.toList k = goP (s.data.toList.length + 1) s.data.toList 0) (fun _ wr => s.size - wr.iterPos w1.heap.size)
      case atStart => exact ⟨0, s.data.toList.length + 1, by omega, rfl, by omega, rfl⟩
      case round =>
        obtain ⟨k, f, hk, rfl, hf, hw⟩ := hrel
        have HW := Lib.hid hw
        have HF := Lib.hid hf
        clear hw hf
        by_cases hkl : k < s.size
        · have hkx : k < s.data.toList.length := by rw [HSZ.out]; exact hkl
          have HKX := Lib.hid hkx
          have hne : s.data.toList.drop k ≠ [] := by
            intro hh
            have := congrArg List.length hh
            simp only [List.length_drop, List.length_nil] at this
            omega
          have hwd := decodeL_width (s.data.toList.drop k)
          have hru := decodeL_rune (s.data.toList.drop k)
          have hwl := decodeL_le _ hne
          have hnx : ∀ ty, (Instr.next (.pointer (some ⟨w1.heap.size, 0, none⟩)) true ty).run Tryd.prog (w1.iter s k) = _ := fun ty => run_next_any w1 s k ty hkl
          have hdl := decodeL_drop s k
          rw [hdl] at hru hwl hwd
          rw [List.length_drop, HSZ.out] at hwl
          rcases hdk : Utf8.decode s k with ⟨r, n⟩
          rw [hdk] at hnx hwd hru hwl hdl
          simp only at hnx hwd hru hwl
          have HDL := Lib.hid hdl
          clear hdl hdk hne hk hkx
          by_cases hk0 : k < 1
          · have t0 : ((k : Int) == 0) = true := by rw [beq_iff_eq]; omega
            by_cases hf : firstB r = true
            · have hl' := first_later _ hf
              have HS := Lib.hid (goP_step HKX.out HF.out HDL.out (by rw [hf, hl']; simp) HW.out)
              go_wp2_with (first
                | (go_at_call 17; refine (first_c _ _).mono ?_; rintro e w' ⟨rfl, rfl⟩)
                | (go_at_call 19; refine (later_c _ _).mono ?_; rintro e w' ⟨rfl, rfl⟩))
              obtain ⟨g, hg1, hg2⟩ := HS.out
              go_roundw
              case rel => exact ⟨k + n, g, by rw [HSZ.out]; omega, rfl, hg1, hg2⟩
              case measure => simp; omega
            · have hf' : firstB r = false := by simpa using hf
              have HG := Lib.hid (goP_bad HKX.out HF.out HDL.out (.inl ⟨by omega, hf'⟩) HW.out)
              clear hf
              go_wp2_with (first
                | (go_at_call 17; refine (first_c _ _).mono ?_; rintro e w' ⟨rfl, rfl⟩)
                | (go_at_call 19; refine (later_c _ _).mono ?_; rintro e w' ⟨rfl, rfl⟩))
              go_ret
              exact ⟨by rw [HE2.out, HG.out]; rfl, H1.out.alloc H1.out.size _⟩
          · have t0 : ((k : Int) == 0) = false := by rw [beq_eq_false_iff_ne]; omega
            by_cases hf : laterB r = true
            · have HS := Lib.hid (goP_step HKX.out HF.out HDL.out (by rw [hf]; simp; omega) HW.out)
              go_wp2_with (go_at_call 19; refine (later_c _ _).mono ?_; rintro e w' ⟨rfl, rfl⟩)
              obtain ⟨g, hg1, hg2⟩ := HS.out
              go_roundw
              case rel => exact ⟨k + n, g, by rw [HSZ.out]; omega, rfl, hg1, hg2⟩
              case measure => simp; omega
            · have hf' : laterB r = false := by simpa using hf
              have HG := Lib.hid (goP_bad HKX.out HF.out HDL.out (.inr hf') HW.out)
              clear hf
              go_wp2_with (go_at_call 19; refine (later_c _ _).mono ?_; rintro e w' ⟨rfl, rfl⟩)
              go_ret
              exact ⟨by rw [HE2.out, HG.out]; rfl, H1.out.alloc H1.out.size _⟩
        · have HG := Lib.hid (goP_end (by rw [HSZ.out]; exact hkl) HW.out)
          have hnx : ∀ ty, (Instr.next (.pointer (some ⟨w1.heap.size, 0, none⟩)) true ty).run Tryd.prog (w1.iter s k) = _ := fun ty => run_next_end w1 s k ty hkl
          go_wp2_with fail
          go_ret
          exact ⟨by rw [HE2.out, HG.out]; rfl, H1.out.alloc H1.out.size _⟩
    · have hv' : validD s.data.toList = false := by simpa using hv
      rw [hv']
      have HE2 := Lib.hid (show nameB s.data.toList = false from by rw [HE.out, hv']; rfl)
      clear hv hv'
      go_wp2_with fail
      go_ret
      exact ⟨by rw [HE2.out]; rfl, H1.out⟩
end Go.Proofs.YtpnkjjbiabgmbaaDoor
