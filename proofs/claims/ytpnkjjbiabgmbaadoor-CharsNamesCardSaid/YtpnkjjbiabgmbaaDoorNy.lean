/- The reference's Name. -/
import Derived.Test.YtpnkjjbiabgmbaaDoorNw
import Derived.Test.YtpnkjjbiabgmbaaDoorNx
namespace Go.Proofs.YtpnkjjbiabgmbaaDoor
open Go.RowKit Go.Lib
set_option linter.unusedVariables false

/-- What '[]byte(s)' hands back. -/
theorem rd_bytes (w : World) (s : ByteArray) (T : TypeId) (g : Nat) (z : Nat × Nat) (h1 : s.size ≤ g) (h2 : g ≤ maxLen) :
    Rd (w.alloc (.cells (bytesRow s g) T z)) (.slice (some ⟨w.heap.size, 0, none⟩) s.size g) s.data.toList := by
  have hl : s.data.toList.length = s.size := Array.length_toList
  refine ⟨_, g, by rw [hl], by omega, h2, by simp, fun hp => ⟨w.heap.size, 0, rfl, fun i hi => ?_⟩⟩
  have hj : i < s.data.size := by rw [hl] at hi; exact hi
  have hc := bytesRow_at s g i hj
  simp only [World.cell?, heap_alloc_new, Nat.zero_add]
  simp [hc]

set_option maxRecDepth 100000 in
set_option maxHeartbeats 1000000 in
theorem rname_c (w : World) (s : ByteArray) (hl : s.size ≤ 140737488355328) : Calls Tryd.prog 22 #[.string s] w fun e w' => e = .returned (.bool (nameB s.data.toList)) ∧ Below w.heap.size w w' := by
  have hsz : s.data.toList.length = s.size := Array.length_toList
  have HSZ := Lib.hid hsz
  clear hsz
  by_cases h0 : s.size < 1
  · have HE := Lib.hid (show nameB s.data.toList = false from by
      have : s.data.toList = [] := List.eq_nil_of_length_eq_zero (by rw [HSZ.out]; omega)
      unfold nameB; rw [this]; rfl)
    go_enter Tryd.func22, Tryd.ntmps22
    go_wp2_with fail
    go_ret
    exact ⟨by rw [HE.out]; rfl, Below.refl _ _⟩
  · have hne : s.data.toList ≠ [] := by
      intro hh
      have := congrArg List.length hh
      rw [HSZ.out] at this
      simp only [List.length_nil] at this
      omega
    have HE := Lib.hid (show nameB s.data.toList = decide (nameAt s.data.toList = s.size) from by
      have h1 := nameAt_eq _ hne
      rw [HSZ.out] at h1
      rw [h1]
      unfold nameB
      rw [show s.data.toList.isEmpty = false from by rw [← Bool.not_eq_true, List.isEmpty_iff]; exact hne]
      rfl)
    clear hne
    have hcv := run_bytes_of_string (P := Tryd.prog) w 9 22 5 s (by kernel_rfl) (by kernel_rfl) (by kernel_rfl)
    have hg1 := grownCap_ge w s.size 0 5
    have hg2 := grownCap_le_maxLen w s.size 0 5 (by unfold maxLen; omega)
    generalize grownCap w s.size 0 5 = g at hcv hg1 hg2
    have HRD := Lib.hid (rd_bytes w.drew s 5 g ((bytesRow s g).size, (bytesRow s g).size + 1) hg1 hg2)
    have HB := Lib.hid (show Below w.heap.size w (w.drew.alloc (.cells (bytesRow s g) 5 ((bytesRow s g).size, (bytesRow s g).size + 1))) from ((Below.refl _ _).drew).alloc (Nat.le_refl _) _)
    clear hg1 hg2
    by_cases hq : nameAt s.data.toList = s.size
    · have HQ := Lib.hid (show nameB s.data.toList = true from by rw [HE.out]; simp [hq])
      have tq : ((nameAt s.data.toList : Int) == (s.size : Int)) = true := by rw [beq_iff_eq]; omega
      clear hq
      go_enter Tryd.func22, Tryd.ntmps22
      go_wp2_with fail
      refine (nameAt_c _ _ _ HRD.out (by rw [HSZ.out]; exact hl)).mono ?_
      rintro e w1 ⟨rfl, hb1⟩
      have H1 := Lib.hid (HB.out.trans (hb1.mono HB.out.size))
      clear hb1
      go_wp2_with fail
      go_ret
      exact ⟨by rw [HQ.out]; rfl, H1.out⟩
    · have HQ := Lib.hid (show nameB s.data.toList = false from by rw [HE.out]; simp [hq])
      have tq : ((nameAt s.data.toList : Int) == (s.size : Int)) = false := by rw [beq_eq_false_iff_ne]; omega
      clear hq
      go_enter Tryd.func22, Tryd.ntmps22
      go_wp2_with fail
      refine (nameAt_c _ _ _ HRD.out (by rw [HSZ.out]; exact hl)).mono ?_
      rintro e w1 ⟨rfl, hb1⟩
      have H1 := Lib.hid (HB.out.trans (hb1.mono HB.out.size))
      clear hb1
      go_wp2_with fail
      go_ret
      exact ⟨by rw [HQ.out]; rfl, H1.out⟩
end Go.Proofs.YtpnkjjbiabgmbaaDoor
