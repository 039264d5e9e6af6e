/- chars.Wrong, and the reference's. -/
import Derived.Test.YtpcajjbdlfookaaGreatDoorCc
import Derived.Test.YtpcajjbdlfookaaGreatDoorCt
namespace Go.Proofs.YtpcajjbdlfookaaGreatDoor
open Go.RowKit
set_option linter.unusedVariables false

theorem D_le (xs : List UInt8) : (D xs).1 ≤ 1114111 ∧ (D xs).2 ≤ 4 ∧ (D xs).2 ≤ xs.length := by
  have := G_le xs
  unfold D
  split
  · simp
  · exact this

theorem wrong_bad {f : Nat} {xs : List UInt8} {k : Nat} {T : Int} {r n : Nat} (hk : k < xs.length) (hf : xs.length - k < f) (hd : D (xs.drop k) = (r, n)) (h : n = 0 ∨ xmlB r = false) (hw : wrong f xs k = T) : T = k := by
  obtain ⟨g, rfl⟩ : ∃ g, f = g + 1 := ⟨f - 1, by omega⟩
  rw [← hw, wrong, if_pos hk, hd, if_pos h]
theorem wrong_step {f : Nat} {xs : List UInt8} {k : Nat} {T : Int} {r n : Nat} (hk : k < xs.length) (hf : xs.length - k < f) (hd : D (xs.drop k) = (r, n)) (h1 : n ≠ 0) (h2 : xmlB r = true) (hw : wrong f xs k = T) :
    ∃ g, xs.length - (k + n) < g ∧ wrong g xs (k + n) = T := by
  obtain ⟨g, rfl⟩ : ∃ g, f = g + 1 := ⟨f - 1, by omega⟩
  refine ⟨g, by omega, ?_⟩
  rw [← hw, wrong, if_pos hk, hd, if_neg (by simp [h1, h2])]
theorem wrong_end {f : Nat} {xs : List UInt8} {k : Nat} {T : Int} (hk : ¬ k < xs.length) (hw : wrong f xs k = T) : T = -1 := by
  cases f with
  | zero => exact hw.symm
  | succ g => rw [← hw, wrong, if_neg hk]

set_option maxRecDepth 100000 in
set_option maxHeartbeats 1000000 in
theorem wrong_c (w : World) (hT : Tabs w) (v : Value) (xs : List UInt8) (h : Rd w v xs) (hl : xs.length ≤ 140737488355328) : Calls Tryz.prog 16 #[v] w fun e w' => e = .returned (.int .i64 (wrong (xs.length + 1) xs 0)) ∧ Below w.heap.size w w' := by
  have HR := Lib.hid h
  have HT := Lib.hid hT
  clear hT
  obtain ⟨p, c, rfl, h1, h2, h3, h4⟩ := h
  clear h3 h4
  unfold maxLen at h2
  go_enter Tryz.func16, Tryz.ntmps16
  go_wp2_with fail
  go_loopw [3] (fun i wr => ∃ k f : Nat, k ≤ xs.length ∧ i = .int .i64 k ∧ xs.length - k < f ∧ wrong f xs k = wrong (xs.length + 1) xs 0 ∧ Below w.heap.size w wr) (fun i _ => xs.length - (intOf i).toNat)
  case atStart => exact ⟨0, xs.length + 1, by omega, rfl, by omega, rfl, Below.refl _ _⟩
  case round =>
    obtain ⟨k, f, hk, rfl, hf, hw, hb⟩ := hrel
    have HW := Lib.hid hw
    have HBr := Lib.hid hb
    have HF := Lib.hid hf
    clear hw hb hf
    by_cases hkl : k < xs.length
    · have hd := (HR.out.below (HBr.out.mono (Nat.le_refl _))).from k hk
      rw [if_neg (by omega)] at hd
      simp only [Nat.mul_one] at hd
      have HD := Lib.hid hd
      clear hd
      have hle := D_le (xs.drop k)
      rcases hdk : D (xs.drop k) with ⟨r, n⟩
      rw [hdk] at hle
      simp only [List.length_drop] at hle
      obtain ⟨hr, hn4, hnl⟩ := hle
      have HDK := Lib.hid hdk
      clear hdk
      go_wp2_with fail
      have HC := (decode_c _ ((HT.out.below HBr.out)) _ _ HD.out)
      rw [HDK.out] at HC
      simp only at HC
      refine HC.mono ?_
      rintro e w1 ⟨rfl, hb1⟩
      have H1 := Lib.hid (HBr.out.trans (hb1.mono HBr.out.size))
      clear HC hb1
      by_cases hn0 : n = 0
      · have HT2 := Lib.hid (wrong_bad hkl HF.out HDK.out (.inl hn0) HW.out)
        have t0 : ((n : Int) == 0) = true := by simp; omega
        clear hn0
        go_wp2_with fail
        go_ret
        exact ⟨by rw [HT2.out]; rfl, H1.out⟩
      · have t0 : ((n : Int) == 0) = false := by rw [beq_eq_false_iff_ne]; omega
        by_cases hx : xmlB r = true
        · have HS := Lib.hid (wrong_step hkl HF.out HDK.out hn0 hx HW.out)
          have hn1 : 1 ≤ n := by omega
          clear hn0
          go_wp2_with (go_at_call 29; refine (inXML_c _ _).mono ?_; rintro e w' ⟨rfl, rfl⟩)
          obtain ⟨g, hg1, hg2⟩ := HS.out
          go_roundw
          case rel => exact ⟨k + n, g, by omega, by go_num, hg1, hg2, H1.out⟩
          case measure => simp [intOf]; omega
        · have hx' : xmlB r = false := by simpa using hx
          have HT2 := Lib.hid (wrong_bad hkl HF.out HDK.out (.inr hx') HW.out)
          clear hx hn0
          go_wp2_with (go_at_call 29; refine (inXML_c _ _).mono ?_; rintro e w' ⟨rfl, rfl⟩)
          go_ret
          exact ⟨by rw [HT2.out]; rfl, H1.out⟩
    · have HT2 := Lib.hid (wrong_end hkl HW.out)
      go_wp2_with fail
      go_ret
      exact ⟨by rw [HT2.out]; rfl, HBr.out⟩

set_option maxRecDepth 100000 in
set_option maxHeartbeats 1000000 in
theorem rwrong_c (w : World) (v : Value) (xs : List UInt8) (h : Rd w v xs) (hl : xs.length ≤ 140737488355328) : Calls Tryz.prog 19 #[v] w fun e w' => e = .returned (.int .i64 (wrong (xs.length + 1) xs 0)) ∧ Below w.heap.size w w' := by
  have HR := Lib.hid h
  obtain ⟨p, c, rfl, h1, h2, h3, h4⟩ := h
  clear h3 h4
  unfold maxLen at h2
  go_enter Tryz.func19, Tryz.ntmps19
  go_wp2_with fail
  go_loopw [3] (fun i wr => ∃ k f : Nat, k ≤ xs.length ∧ i = .int .i64 k ∧ xs.length - k < f ∧ wrong f xs k = wrong (xs.length + 1) xs 0 ∧ Below w.heap.size w wr) (fun i _ => xs.length - (intOf i).toNat)
  case atStart => exact ⟨0, xs.length + 1, by omega, rfl, by omega, rfl, Below.refl _ _⟩
  case round =>
    obtain ⟨k, f, hk, rfl, hf, hw, hb⟩ := hrel
    have HW := Lib.hid hw
    have HBr := Lib.hid hb
    have HF := Lib.hid hf
    clear hw hb hf
    by_cases hkl : k < xs.length
    · have hd := (HR.out.below (HBr.out.mono (Nat.le_refl _))).from k hk
      rw [if_neg (by omega)] at hd
      simp only [Nat.mul_one] at hd
      have HD := Lib.hid hd
      clear hd
      have hle := D_le (xs.drop k)
      rcases hdk : D (xs.drop k) with ⟨r, n⟩
      rw [hdk] at hle
      simp only [List.length_drop] at hle
      obtain ⟨hr, hn4, hnl⟩ := hle
      have HDK := Lib.hid hdk
      clear hdk
      go_wp2_with fail
      have HC := (rdecode_c _ _ _ HD.out)
      rw [HDK.out] at HC
      simp only at HC
      refine HC.mono ?_
      rintro e w1 ⟨rfl, hb1⟩
      have H1 := Lib.hid (HBr.out.trans (hb1.mono HBr.out.size))
      clear HC hb1
      by_cases hn0 : n = 0
      · have HT2 := Lib.hid (wrong_bad hkl HF.out HDK.out (.inl hn0) HW.out)
        have t0 : ((n : Int) == 0) = true := by simp; omega
        clear hn0
        go_wp2_with fail
        go_ret
        exact ⟨by rw [HT2.out]; rfl, H1.out⟩
      · have t0 : ((n : Int) == 0) = false := by rw [beq_eq_false_iff_ne]; omega
        by_cases hx : xmlB r = true
        · have HS := Lib.hid (wrong_step hkl HF.out HDK.out hn0 hx HW.out)
          have hn1 : 1 ≤ n := by omega
          clear hn0
          go_wp2_with (go_at_call 35; refine (ofXML_c _ _).mono ?_; rintro e w' ⟨rfl, hb⟩; have HX := Lib.hid (H1.out.trans (hb.mono H1.out.size)); clear hb)
          obtain ⟨g, hg1, hg2⟩ := HS.out
          go_roundw
          case rel => exact ⟨k + n, g, by omega, by go_num, hg1, hg2, HX.out⟩
          case measure => simp [intOf]; omega
        · have hx' : xmlB r = false := by simpa using hx
          have HT2 := Lib.hid (wrong_bad hkl HF.out HDK.out (.inr hx') HW.out)
          clear hx hn0
          go_wp2_with (go_at_call 35; refine (ofXML_c _ _).mono ?_; rintro e w' ⟨rfl, hb⟩; have HX := Lib.hid (H1.out.trans (hb.mono H1.out.size)); clear hb)
          go_ret
          exact ⟨by rw [HT2.out]; rfl, HX.out⟩
    · have HT2 := Lib.hid (wrong_end hkl HW.out)
      go_wp2_with fail
      go_ret
      exact ⟨by rw [HT2.out]; rfl, HBr.out⟩

end Go.Proofs.YtpcajjbdlfookaaGreatDoor
