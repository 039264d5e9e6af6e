/- lexer: word. -/
import Derived.Test.YtikofngogkchfaaDoorLc
namespace Go.Proofs.YtikofngogkchfaaDoor
open Go.RowKit
set_option linter.unusedVariables false

theorem take_cut (s : ByteArray) (z : Nat) : s.extract 0 z = ⟨(s.data.toList.take z).toArray⟩ := by
  apply ByteArray.ext
  rw [ByteArray.data_extract]
  apply Array.toList_inj.1
  rw [Array.toList_extract, List.extract_eq_take_drop]
  simp
theorem runN_le_s (p : UInt8 → Bool) (s : ByteArray) : runN p s.data.toList ≤ s.size := by
  have := runN_le p s.data.toList
  rw [size_list] at this
  exact this

set_option maxRecDepth 100000 in
set_option maxHeartbeats 4000000 in
theorem word_c (w : World) (hT : Tabs w) (s : ByteArray) (hs : s.size ≤ 400) (hp : 0 < s.size) : Calls Tryd.prog 24 #[.string s] w fun e w' => e = .returned (pairV (wordF s.data.toList)) ∧ Below w.heap.size w w' := by
  have hd := drop_next s 0 hp
  simp only [List.drop_zero] at hd
  have HD := Lib.hid hd
  have HB := Lib.hid (fun o => box_below w o)
  have h8 := (s[0]).toNat_lt
  have hs2 : s.size ≤ 9223372036854775807 := by omega
  have HL := fun w => letter_c w s[0]
  have HG := fun w => digit_c w s[0]
  have HT := Lib.hid hT
  have hnum : ∀ z, (s.data.toList.take z).length ≤ 400 := fun z => by rw [List.length_take, size_list]; omega
  have HNUM := Lib.hid hnum
  clear hd hT hnum
  by_cases hl : letB s[0] = true
  · obtain ⟨z, hz⟩ : ∃ z, z = runN nameB s.data.toList := ⟨_, rfl⟩
    have HR := fun w => run_name w s hs2
    rw [← hz] at HR
    have hzl : z ≤ s.size := by rw [hz]; exact runN_le_s _ s
    have HE := Lib.hid (show wordF s.data.toList = (⟨1, s.data.toList.take z, 0⟩, z) from by rw [hz, HD.out]; simp only [wordF]; rw [if_pos hl])
    rw [hl] at HL
    have HL' := Lib.hid HL
    have HR' := Lib.hid HR
    have HC := Lib.hid (take_cut s z)
    clear HL HG HR hz hl
    go_enter Tryd.func24, Tryd.ntmps24
    go_wp2_with (first
      | (go_at_call 33; refine (HL'.out _).mono ?_; rintro e w' ⟨rfl, rfl⟩)
      | (go_at_call 22; refine (HR'.out _).mono ?_; rintro e w' ⟨rfl, rfl⟩))
    refine bodyPost_ret (v := pairV (⟨1, s.data.toList.take z, 0⟩, z)) (by simp [results, Tryd.results24, go_sem, pairV, Wd.val]; first | exact HC.out | rfl) rfl ⟨by rw [HE.out], HB.out _⟩
  · rw [Bool.not_eq_true] at hl
    rw [hl] at HL
    have HL' := Lib.hid HL
    by_cases hg : isDig s[0] = true
    · obtain ⟨z, hz⟩ : ∃ z, z = runN isDig s.data.toList := ⟨_, rfl⟩
      have HR := fun w => run_digit w s hs2
      rw [← hz] at HR
      have hzl : z ≤ s.size := by rw [hz]; exact runN_le_s _ s
      have hE : wordF s.data.toList = numF (s.data.toList.take z) := by
        have hlen : (s.data.toList.take z).length = z := by rw [List.length_take, size_list]; omega
        unfold numF
        rw [hlen, hz, HD.out]
        simp only [wordF]
        rw [if_neg (by simp [hl]), if_pos hg]
      have HNW := fun w => number_w w (s.extract 0 z) (by rw [ByteArray.size_extract]; omega)
      have hcut : (s.extract 0 z).data.toList = s.data.toList.take z := by rw [take_cut]
      rw [hcut] at HNW
      obtain ⟨⟨⟨rk, rt, rn⟩, rz⟩, hR⟩ : ∃ R, R = numF (s.data.toList.take z) := ⟨_, rfl⟩
      rw [← hR] at HNW hE
      have HE := Lib.hid hE
      simp only [pairV, Wd.val] at HNW
      have HNW' := Lib.hid HNW
      rw [hg] at HG
      have HG' := Lib.hid HG
      have HR' := Lib.hid HR
      clear HL HG HR hz hl hg hE HNW hcut hR
      go_enter Tryd.func24, Tryd.ntmps24
      go_wp2_with (first
        | (go_at_call 33; refine (HL'.out _).mono ?_; rintro e w' ⟨rfl, rfl⟩)
        | (go_at_call 35; refine (HG'.out _).mono ?_; rintro e w' ⟨rfl, rfl⟩)
        | (go_at_call 22; refine (HR'.out _).mono ?_; rintro e w' ⟨rfl, rfl⟩))
      refine (HNW'.out _).mono ?_
      rintro e w2 ⟨rfl, hb⟩
      have hk2 := keepB hb (heap_alloc_new w _)
      have HX := Lib.hid ((HB.out _).trans (hb.mono (by simp)))
      obtain ⟨⟨b0, b1, b2⟩, f0, f1, f2⟩ := box3_cells hk2
      have hlt := ltB hk2
      clear hb hk2
      go_wp2_with fail
      refine bodyPost_ret (v := pairV (⟨rk, rt, rn⟩, rz)) (by simp [results, Tryd.results24, go_sem, pairV, Wd.val, b0, b1, b2]) rfl ⟨by rw [HE.out], ?_⟩
      exact below3 HX.out (by omega) _ _ _
    · rw [Bool.not_eq_true] at hg
      rw [hg] at HG
      have HG' := Lib.hid HG
      by_cases hq : s[0].toNat = 34
      · have hE : wordF s.data.toList = litF (s.data.toList.drop 1) := by
          rw [HD.out]
          simp only [wordF, List.drop_succ_cons, List.drop_zero]
          rw [if_neg (by simp [hl]), if_neg (by simp [hg]), if_pos hq]
        have HNW := fun (w : World) (hT : Tabs w) => literal_c w hT s hs hp
        obtain ⟨⟨⟨rk, rt, rn⟩, rz⟩, hR⟩ : ∃ R, R = litF (s.data.toList.drop 1) := ⟨_, rfl⟩
        rw [← hR] at HNW hE
        have HE := Lib.hid hE
        simp only [pairV, Wd.val] at HNW
        have HNW' := Lib.hid HNW
        have t1 : ((s[0].toNat : Int) == 34) = true := by rw [hq]; rfl
        clear HL HG hl hg hE HNW hR hq
        go_enter Tryd.func24, Tryd.ntmps24
        go_wp2_with (first
          | (go_at_call 33; refine (HL'.out _).mono ?_; rintro e w' ⟨rfl, rfl⟩)
          | (go_at_call 35; refine (HG'.out _).mono ?_; rintro e w' ⟨rfl, rfl⟩))
        refine (HNW'.out _ (HT.out.below (HB.out _))).mono ?_
        rintro e w2 ⟨rfl, hb⟩
        have hk2 := keepB hb (heap_alloc_new w _)
        have HX := Lib.hid ((HB.out _).trans (hb.mono (by simp)))
        obtain ⟨⟨b0, b1, b2⟩, f0, f1, f2⟩ := box3_cells hk2
        have hlt := ltB hk2
        clear hb hk2
        go_wp2_with fail
        refine bodyPost_ret (v := pairV (⟨rk, rt, rn⟩, rz)) (by simp [results, Tryd.results24, go_sem, pairV, Wd.val, b0, b1, b2]) rfl ⟨by rw [HE.out], ?_⟩
        exact below3 HX.out (by omega) _ _ _
      · obtain ⟨z, hz⟩ : ∃ z, z = signN s.data.toList := ⟨_, rfl⟩
        have HR := fun w => sign_c w s hs2 hp
        rw [← hz] at HR
        have hzl : z ≤ s.size := by rw [hz]; have := signN_le s.data.toList; rw [size_list] at this; exact this
        have hE : wordF s.data.toList = if z = 0 then (noW, 0) else (⟨4, s.data.toList.take z, 0⟩, z) := by
          rw [hz, HD.out]
          simp only [wordF]
          rw [if_neg (by simp [hl]), if_neg (by simp [hg]), if_neg hq]
        have t1 : ((s[0].toNat : Int) == 34) = false := by simp; omega
        have HR' := Lib.hid HR
        have HC := Lib.hid (take_cut s z)
        by_cases h0 : z = 0
        · have HE := Lib.hid (show wordF s.data.toList = (noW, 0) from by rw [hE, if_pos h0])
          have tz : ((z : Int) == 0) = true := by simp; omega
          clear HL HG HR hz hl hg hE hq h0
          go_enter Tryd.func24, Tryd.ntmps24
          go_wp2_with (first
            | (go_at_call 33; refine (HL'.out _).mono ?_; rintro e w' ⟨rfl, rfl⟩)
            | (go_at_call 35; refine (HG'.out _).mono ?_; rintro e w' ⟨rfl, rfl⟩)
            | (go_at_call 38; refine (HR'.out _).mono ?_; rintro e w' ⟨rfl, rfl⟩))
          refine bodyPost_ret (v := pairV (noW, 0)) (by simp [results, Tryd.results24, go_sem, pairV, noW, Wd.val]) rfl ⟨by rw [HE.out], HB.out _⟩
        · have HE := Lib.hid (show wordF s.data.toList = (⟨4, s.data.toList.take z, 0⟩, z) from by rw [hE, if_neg h0])
          have tz : ((z : Int) == 0) = false := by simp; omega
          clear HL HG HR hz hl hg hE hq h0
          go_enter Tryd.func24, Tryd.ntmps24
          go_wp2_with (first
            | (go_at_call 33; refine (HL'.out _).mono ?_; rintro e w' ⟨rfl, rfl⟩)
            | (go_at_call 35; refine (HG'.out _).mono ?_; rintro e w' ⟨rfl, rfl⟩)
            | (go_at_call 38; refine (HR'.out _).mono ?_; rintro e w' ⟨rfl, rfl⟩))
          refine bodyPost_ret (v := pairV (⟨4, s.data.toList.take z, 0⟩, z)) (by simp [results, Tryd.results24, go_sem, pairV, Wd.val]; first | exact HC.out | rfl) rfl ⟨by rw [HE.out], HB.out _⟩
end Go.Proofs.YtikofngogkchfaaDoor
