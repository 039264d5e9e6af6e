/- lexer: the reference's word. -/
import Derived.Test.YtikofngogkchfaaDoorLi
namespace Go.Proofs.YtikofngogkchfaaDoor
open Go.RowKit
set_option linter.unusedVariables false

theorem dig_let {c : UInt8} (h : isDig c = true) : letB c = false := by
  unfold isDig at h
  unfold letB
  simp at h ⊢
  omega
theorem q_dig {c : UInt8} (h : c.toNat = 34) : isDig c = false ∧ letB c = false := by
  unfold isDig letB
  simp [h]

set_option maxRecDepth 100000 in
set_option maxHeartbeats 4000000 in
theorem rword_c (w : World) (s : ByteArray) (hs : s.size ≤ 400) (hp : 0 < s.size) : Calls Tryd.prog 28 #[.string s] w fun e w' => WordAs (wordF s.data.toList) e ∧ Below w.heap.size w w' := by
  have hd := drop_next s 0 hp
  simp only [List.drop_zero] at hd
  have HD := Lib.hid hd
  have HB := Lib.hid (fun o => box_below w o)
  have h8 := (s[0]).toNat_lt
  have HL := fun w => rletter_c w s[0]
  have HG := fun w => rdigit8_c w s[0]
  clear hd
  by_cases hg : isDig s[0] = true
  · have hE : wordF s.data.toList = (if (num (s.data.toList.take (runN isDig s.data.toList))).2 = 0 then (⟨2, [], (num (s.data.toList.take (runN isDig s.data.toList))).1⟩, runN isDig s.data.toList) else (noW, 0)) := by
      rw [HD.out]
      simp only [wordF]
      rw [if_neg (by rw [dig_let hg]; simp), if_pos hg]
    have hz0 : runN isDig s.data.toList ≠ 0 := by rw [HD.out, runN_yes hg]; omega
    have HIN := fun w => rinteger_c w s hs
    obtain ⟨z, hz⟩ : ∃ z, z = runN isDig s.data.toList := ⟨_, rfl⟩
    rw [← hz] at hE hz0 HIN
    obtain ⟨⟨x, q⟩, hq⟩ : ∃ p, p = num (s.data.toList.take z) := ⟨_, rfl⟩
    rw [← hq] at hE HIN
    have HW := Lib.hid (show WordAs (wordF s.data.toList) (.returned (tripV ⟨2, [], x⟩ z (decide (q = 0)))) from by
      rw [hE]
      by_cases h : q = 0
      · rw [if_pos h, decide_eq_true h]; exact wa_yes rfl hz0
      · rw [if_neg h, decide_eq_false h]; exact wa_no rfl _ _)
    generalize decide (q = 0) = ok at HW HIN
    simp only [tripV, Wd.val] at HIN
    rw [hg] at HG
    have HG' := Lib.hid HG
    have HIN' := Lib.hid HIN
    clear hE hz0 HIN hz hq HG HL hg
    go_enter Tryd.func28, Tryd.ntmps28
    go_wp2_with (go_at_call 41; refine (HG'.out _).mono ?_; rintro e w' ⟨rfl, rfl⟩)
    refine (HIN'.out _).mono ?_
    rintro e w2 ⟨rfl, hb⟩
    have hk2 := keepB hb (heap_alloc_new w _)
    have HX := Lib.hid ((HB.out _).trans (hb.mono (by simp)))
    obtain ⟨⟨b0, b1, b2⟩, f0, f1, f2⟩ := box3_cells hk2
    have hlt := ltB hk2
    clear hb hk2
    go_wp2_with fail
    refine bodyPost_ret (v := tripV ⟨2, [], x⟩ z ok) (by simp [results, Tryd.results28, go_sem, tripV, Wd.val, b0, b1, b2]) rfl ⟨HW.out, ?_⟩
    exact below3 HX.out (by omega) _ _ _
  · rw [Bool.not_eq_true] at hg
    rw [hg] at HG
    have HG' := Lib.hid HG
    by_cases hq : s[0].toNat = 34
    · have hE : wordF s.data.toList = litF (s.data.toList.drop 1) := by
        rw [HD.out]
        simp only [wordF, List.drop_succ_cons, List.drop_zero]
        rw [if_neg (by rw [(q_dig hq).2]; simp), if_neg (by simp [hg]), if_pos hq]
      have HLI := fun w => rlit_c w s hs hp
      rw [← hE] at HLI
      have HLI' := Lib.hid HLI
      have t1 : ((s[0].toNat : Int) == 34) = true := by rw [hq]; rfl
      clear HL HG hg hq hE HLI
      go_enter Tryd.func28, Tryd.ntmps28
      go_wp2_with (go_at_call 41; refine (HG'.out _).mono ?_; rintro e w' ⟨rfl, rfl⟩)
      refine (HLI'.out _).mono ?_
      rintro e w2 ⟨hw, hb⟩
      have hk2 := keepB hb (heap_alloc_new w _)
      have HX := Lib.hid ((HB.out _).trans (hb.mono (by simp)))
      obtain ⟨⟨b0, b1, b2⟩, f0, f1, f2⟩ := box3_cells hk2
      have hlt := ltB hk2
      clear hb hk2
      have hw2 : ∃ X n ok, e = .returned (tripV X n ok) ∧ WordAs (wordF s.data.toList) (.returned (tripV X n ok)) := by
        rcases hw with ⟨h0, X, n, rfl⟩ | ⟨h0, rfl⟩
        · exact ⟨X, n, false, rfl, wa_no h0 X n⟩
        · exact ⟨_, _, true, rfl, wa_yes rfl h0⟩
      clear hw
      obtain ⟨⟨rk, rt, rn⟩, n, ok, rfl, hW⟩ := hw2
      have HW := Lib.hid hW
      clear hW
      simp only [tripV, Wd.val]
      go_wp2_with fail
      refine bodyPost_ret (v := tripV ⟨rk, rt, rn⟩ n ok) (by simp [results, Tryd.results28, go_sem, tripV, Wd.val, b0, b1, b2]) rfl ⟨HW.out, ?_⟩
      exact below3 HX.out (by omega) _ _ _
    · have t1 : ((s[0].toNat : Int) == 34) = false := by simp; omega
      by_cases hl : letB s[0] = true
      · rw [hl] at HL
        have HL' := Lib.hid HL
        have HSTART := Lib.hid (show runN nameB s.data.toList = 1 + runN nameB (s.data.toList.drop 1) from by
          rw [HD.out, runN_yes (by unfold nameB; rw [hl]; rfl)]
          simp only [List.drop_succ_cons, List.drop_zero]
          omega)
        have HEN := Lib.hid (fun z (hz : runN nameB s.data.toList = z) => (show wordF s.data.toList = (⟨1, s.data.toList.take z, 0⟩, z) from by rw [← hz, HD.out]; simp only [wordF]; rw [if_pos hl]))
        have HLL := Lib.hid (fun w c => rletter_c w c)
        have HGG := Lib.hid (fun w c => rdigit8_c w c)
        clear HL HG hg hq hl
        go_enter Tryd.func28, Tryd.ntmps28
        go_wp2_with (first
          | (go_at_call 41; refine (HG'.out _).mono ?_; rintro e w' ⟨rfl, rfl⟩)
          | (go_at_call 44; refine (HL'.out _).mono ?_; rintro e w' ⟨rfl, rfl⟩))
        go_loop [5] (fun i => ∃ k : Nat, 1 ≤ k ∧ k ≤ s.size ∧ i = .int .i64 k ∧ runN nameB s.data.toList = k + runN nameB (s.data.toList.drop k)) (fun i => s.size - (intOf i).toNat)
        case atStart => exact ⟨1, by omega, by omega, rfl, HSTART.out⟩
        case round =>
          obtain ⟨k, hk1, hk, rfl, hr⟩ := hrel
          have HR := Lib.hid hr
          clear hr
          have HC := Lib.hid (take_cut s k)
          by_cases hlt : k < s.size
          · have HD2 := Lib.hid (drop_next s k hlt)
            have hb8 := (s[k]).toNat_lt
            have HLk := fun w => HLL.out w s[k]
            have HGk := fun w => HGG.out w s[k]
            by_cases hn : nameB s[k] = true
            · have HN := Lib.hid (show runN nameB s.data.toList = (k + 1) + runN nameB (s.data.toList.drop (k + 1)) from by rw [HR.out, HD2.out, runN_yes hn]; omega)
              have hn2 : letB s[k] = true ∨ (letB s[k] = false ∧ isDig s[k] = true) := by
                unfold nameB at hn
                cases h : letB s[k]
                · right; rw [h] at hn; exact ⟨rfl, hn⟩
                · left; rfl
              clear hn
              rcases hn2 with a1 | ⟨a1, a2⟩
              · rw [a1] at HLk
                have HLk' := Lib.hid HLk
                clear HLk HGk a1
                go_wp2_with (go_at_call 44; refine (HLk'.out _).mono ?_; rintro e w' ⟨rfl, rfl⟩)
                exact ⟨⟨k + 1, by omega, by omega, by go_num, HN.out⟩, by simp [intOf]; omega⟩
              · rw [a1] at HLk
                rw [a2] at HGk
                have HLk' := Lib.hid HLk
                have HGk' := Lib.hid HGk
                clear HLk HGk a1 a2
                go_wp2_with (first
                  | (go_at_call 44; refine (HLk'.out _).mono ?_; rintro e w' ⟨rfl, rfl⟩)
                  | (go_at_call 41; refine (HGk'.out _).mono ?_; rintro e w' ⟨rfl, rfl⟩))
                exact ⟨⟨k + 1, by omega, by omega, by go_num, HN.out⟩, by simp [intOf]; omega⟩
            · have HE := Lib.hid (HEN.out k (by rw [HR.out, HD2.out, runN_no hn]; rfl))
              have hn2 : letB s[k] = false ∧ isDig s[k] = false := by
                unfold nameB at hn
                simpa using hn
              rw [hn2.1] at HLk
              rw [hn2.2] at HGk
              have HLk' := Lib.hid HLk
              have HGk' := Lib.hid HGk
              clear HLk HGk hn hn2
              go_wp2_with (first
                | (go_at_call 44; refine (HLk'.out _).mono ?_; rintro e w' ⟨rfl, rfl⟩)
                | (go_at_call 41; refine (HGk'.out _).mono ?_; rintro e w' ⟨rfl, rfl⟩))
              refine bodyPost_ret (v := tripV ⟨1, s.data.toList.take k, 0⟩ k true) (by simp [results, Tryd.results28, go_sem, tripV, Wd.val]; first | exact HC.out | rfl) rfl ⟨wa_yes HE.out (by omega), HB.out _⟩
          · have hge : s.size ≤ k := by omega
            have HE := Lib.hid (HEN.out k (by rw [HR.out, List.drop_eq_nil_of_le (by rw [size_list]; exact hge)]; rfl))
            clear hlt
            go_wp2_with fail
            refine bodyPost_ret (v := tripV ⟨1, s.data.toList.take k, 0⟩ k true) (by simp [results, Tryd.results28, go_sem, tripV, Wd.val]; first | exact HC.out | rfl) rfl ⟨wa_yes HE.out (by omega), HB.out _⟩
      · rw [Bool.not_eq_true] at hl
        rw [hl] at HL
        have HL' := Lib.hid HL
        have hE : wordF s.data.toList = if signN s.data.toList = 0 then (noW, 0) else (⟨4, s.data.toList.take (signN s.data.toList), 0⟩, signN s.data.toList) := by
          rw [HD.out]
          simp only [wordF]
          rw [if_neg (by simp [hl]), if_neg (by simp [hg]), if_neg hq]
        have hw2 : ∃ X n ok, rsignV s.data.toList = tripV X n ok ∧ WordAs (wordF s.data.toList) (.returned (tripV X n ok)) := by
          unfold rsignV
          by_cases h : signN s.data.toList = 0
          · rw [if_pos h]
            exact ⟨_, _, _, rfl, wa_no (by rw [hE, if_pos h]) _ _⟩
          · rw [if_neg h]
            exact ⟨_, _, _, rfl, wa_yes (by rw [hE, if_neg h]) h⟩
        obtain ⟨⟨rk, rt, rn⟩, n, ok, hv, hW⟩ := hw2
        have HW := Lib.hid hW
        have HSG := fun w => rsign_c w s hs hp
        rw [hv] at HSG
        simp only [tripV, Wd.val] at HSG
        have HSG' := Lib.hid HSG
        clear HL HG hg hq hl hE hv hW HSG
        go_enter Tryd.func28, Tryd.ntmps28
        go_wp2_with (first
          | (go_at_call 41; refine (HG'.out _).mono ?_; rintro e w' ⟨rfl, rfl⟩)
          | (go_at_call 44; refine (HL'.out _).mono ?_; rintro e w' ⟨rfl, rfl⟩))
        refine (HSG'.out _).mono ?_
        rintro e w2 ⟨rfl, hb⟩
        have hk2 := keepB hb (heap_alloc_new w _)
        have HX := Lib.hid ((HB.out _).trans (hb.mono (by simp)))
        obtain ⟨⟨b0, b1, b2⟩, f0, f1, f2⟩ := box3_cells hk2
        have hlt := ltB hk2
        clear hb hk2
        go_wp2_with fail
        refine bodyPost_ret (v := tripV ⟨rk, rt, rn⟩ n ok) (by simp [results, Tryd.results28, go_sem, tripV, Wd.val, b0, b1, b2]) rfl ⟨HW.out, ?_⟩
        exact below3 HX.out (by omega) _ _ _
end Go.Proofs.YtikofngogkchfaaDoor
