/- The reference's NameAt. -/
import Derived.Test.YthlphmldghppmaaGreatDoorNa
namespace Go.Proofs.YthlphmldghppmaaGreatDoor
open Go.RowKit Go.Lib
set_option linter.unusedVariables false

set_option maxRecDepth 100000 in
set_option maxHeartbeats 1000000 in
theorem nameAt_c (w : World) (v : Value) (xs : List UInt8) (h : Rd w v xs) (hl : xs.length ≤ 140737488355328) : Calls Tryz.prog 26 #[v] w fun e w' => e = .returned (.int .i64 (nameAt xs)) ∧ Below w.heap.size w w' := by
  have HR := Lib.hid h
  have hle := D_le xs
  rcases hd : D xs with ⟨r, n⟩
  rw [hd] at hle
  simp only at hle
  obtain ⟨hr, hn4, hnl⟩ := hle
  have HD := Lib.hid hd
  clear hd
  have HC := rdecode_c w v xs h
  rw [HD.out] at HC
  simp only at HC
  have HCC := Lib.hid HC
  clear HC
  obtain ⟨p, c, rfl, h1, h2, h3, h4⟩ := h
  clear h3 h4
  unfold maxLen at h2
  go_enter Tryz.func26, Tryz.ntmps26
  go_wp2_with fail
  refine HCC.out.mono ?_
  rintro e w1 ⟨rfl, hb1⟩
  have H1 := Lib.hid hb1
  clear hb1 HCC
  by_cases hn0 : n = 0
  · have HN := Lib.hid (show nameAt xs = 0 from by unfold nameAt; rw [HD.out, if_pos (.inl hn0)])
    have t0 : ((n : Int) == 0) = true := by simp; omega
    clear hn0
    go_wp2_with fail
    go_ret
    exact ⟨by rw [HN.out]; rfl, H1.out⟩
  · have t0 : ((n : Int) == 0) = false := by rw [beq_eq_false_iff_ne]; omega
    by_cases hf : firstB r = true
    · have HN := Lib.hid (show nameAt xs = later (xs.length + 1) xs n from by unfold nameAt; rw [HD.out, if_neg (by simp [hn0, hf])])
      clear hn0
      go_wp2_with (go_at_call 50; refine (rfirst_c _ _).mono ?_; rintro e w' ⟨rfl, hb⟩; have HX := Lib.hid (H1.out.trans (hb.mono H1.out.size)); clear hb; rw [hf])
      have HNN := Lib.hid hnl
      clear hf t0 hnl
      go_loopw [4] (fun i wr => ∃ k f : Nat, k ≤ xs.length ∧ i = .int .i64 k ∧ xs.length - k < f ∧ later f xs k = later (xs.length + 1) xs n ∧ Below w.heap.size w wr) (fun i _ => xs.length - (RowKit.intOf i).toNat)
      case atStart => exact ⟨n, xs.length + 1, HNN.out, rfl, by omega, rfl, HX.out⟩
      case round =>
        obtain ⟨k, f, hk, rfl, hf, hw, hb⟩ := hrel
        have HW := Lib.hid hw
        have HBr := Lib.hid hb
        have HF := Lib.hid hf
        clear hw hb hf
        have hd := (HR.out.below (HBr.out.mono (Nat.le_refl _))).from k hk
        simp only [Nat.mul_one] at hd
        have hle := D_le (xs.drop k)
        rcases hdk : D (xs.drop k) with ⟨r', n'⟩
        rw [hdk] at hle
        simp only [List.length_drop] at hle
        obtain ⟨hr', hn4', hnl'⟩ := hle
        have HDK := Lib.hid hdk
        clear hdk
        by_cases hck : c ≤ k
        · rw [if_pos (by omega), show c - k = 0 from by omega] at hd
          have hn0' : n' = 0 := by omega
          have HDs := Lib.hid hd
          clear hd
          go_wp2_with fail
          have HC := (rdecode_c _ _ _ HDs.out)
          rw [HDK.out] at HC
          simp only at HC
          refine HC.mono ?_
          rintro e w2 ⟨rfl, hb1⟩
          have H2 := Lib.hid (HBr.out.trans (hb1.mono HBr.out.size))
          clear HC hb1
          have HT2 := Lib.hid (later_stop HF.out HDK.out (.inl hn0') HW.out)
          have t0 : ((n' : Int) == 0) = true := by rw [beq_iff_eq]; omega
          clear hn0'
          go_wp2_with fail
          go_ret
          exact ⟨by rw [HN.out, HT2.out]; rfl, H2.out⟩
        · rw [if_neg (by omega)] at hd
          have HDs := Lib.hid hd
          clear hd
          go_wp2_with fail
          have HC := (rdecode_c _ _ _ HDs.out)
          rw [HDK.out] at HC
          simp only at HC
          refine HC.mono ?_
          rintro e w2 ⟨rfl, hb1⟩
          have H2 := Lib.hid (HBr.out.trans (hb1.mono HBr.out.size))
          clear HC hb1
          by_cases hn0' : n' = 0
          · skip
            have HT2 := Lib.hid (later_stop HF.out HDK.out (.inl hn0') HW.out)
            have t0 : ((n' : Int) == 0) = true := by rw [beq_iff_eq]; omega
            clear hn0'
            go_wp2_with fail
            go_ret
            exact ⟨by rw [HN.out, HT2.out]; rfl, H2.out⟩
          · have t0 : ((n' : Int) == 0) = false := by rw [beq_eq_false_iff_ne]; omega
            by_cases hx : laterB r' = true
            · have HS := Lib.hid (later_step hk HF.out HDK.out hn0' hx HW.out)
              have hn1 : 1 ≤ n' := by omega
              clear hn0'
              go_wp2_with (go_at_call 51; refine (rlater_c _ _).mono ?_; rintro e w' ⟨rfl, hb⟩; have HX3 := Lib.hid (H2.out.trans (hb.mono H2.out.size)); clear hb)
              obtain ⟨hkn, g, hg1, hg2⟩ := HS.out
              go_roundw
              case rel => exact ⟨k + n', g, hkn, by go_num, hg1, hg2, HX3.out⟩
              case measure => simp [RowKit.intOf]; omega
            · have hx' : laterB r' = false := by simpa using hx
              have HT2 := Lib.hid (later_stop HF.out HDK.out (.inr hx') HW.out)
              clear hx hn0'
              go_wp2_with (go_at_call 51; refine (rlater_c _ _).mono ?_; rintro e w' ⟨rfl, hb⟩; have HX3 := Lib.hid (H2.out.trans (hb.mono H2.out.size)); clear hb)
              go_ret
              exact ⟨by rw [HN.out, HT2.out]; rfl, HX3.out⟩
    · have hf' : firstB r = false := by simpa using hf
      have HN := Lib.hid (show nameAt xs = 0 from by unfold nameAt; rw [HD.out, if_pos (.inr hf')])
      clear hf hn0
      go_wp2_with (go_at_call 50; refine (rfirst_c _ _).mono ?_; rintro e w' ⟨rfl, hb⟩; have HX := Lib.hid (H1.out.trans (hb.mono H1.out.size)); clear hb; rw [hf'])
      go_ret
      exact ⟨by rw [HN.out]; rfl, HX.out⟩
end Go.Proofs.YthlphmldghppmaaGreatDoor
