/- lexer: the reference's letter, digit, integer. -/
import Derived.Test.YtikofngogkchfaaDoorLd
import Derived.Test.YtikofngogkchfaaDoorNr
namespace Go.Proofs.YtikofngogkchfaaDoor
open Go.RowKit
set_option linter.unusedVariables false

theorem rletter_c (w : World) (c : UInt8) : Calls Tryd.prog 44 #[.int .u8 (c.toNat : Int)] w fun e w' => e = .returned (.bool (letB c)) ∧ w = w' := by
  have h := c.toNat_lt
  rcases (by omega : c.toNat < 65 ∨ (65 ≤ c.toNat ∧ c.toNat ≤ 90) ∨ (91 ≤ c.toNat ∧ c.toNat ≤ 94) ∨ c.toNat = 95 ∨ c.toNat = 96 ∨ (97 ≤ c.toNat ∧ c.toNat ≤ 122) ∨ 122 < c.toNat) with g | g | g | g | g | g | g
  · have HE := Lib.hid (show letB c = false from by unfold letB; simp; omega)
    have t95 : ((c.toNat : Int) == 95) = false := by simp; omega
    go_enter Tryd.func44, Tryd.ntmps44
    go_wp2
    go_ret
    exact ⟨by rw [HE.out]; first | rfl | (simp; omega), rfl⟩
  · have HE := Lib.hid (show letB c = true from by unfold letB; simp; omega)
    have t95 : ((c.toNat : Int) == 95) = false := by simp; omega
    obtain ⟨g1, g2⟩ := g
    go_enter Tryd.func44, Tryd.ntmps44
    go_wp2
    go_ret
    exact ⟨by rw [HE.out]; first | rfl | (simp; omega), rfl⟩
  · have HE := Lib.hid (show letB c = false from by unfold letB; simp; omega)
    have t95 : ((c.toNat : Int) == 95) = false := by simp; omega
    obtain ⟨g1, g2⟩ := g
    go_enter Tryd.func44, Tryd.ntmps44
    go_wp2
    go_ret
    exact ⟨by rw [HE.out]; first | rfl | (simp; omega), rfl⟩
  · have HE := Lib.hid (show letB c = true from by unfold letB; simp; omega)
    have t95 : ((c.toNat : Int) == 95) = true := by simp; omega
    go_enter Tryd.func44, Tryd.ntmps44
    go_wp2
    go_ret
    exact ⟨by rw [HE.out]; first | rfl | (simp; omega), rfl⟩
  · have HE := Lib.hid (show letB c = false from by unfold letB; simp; omega)
    have t95 : ((c.toNat : Int) == 95) = false := by simp; omega
    go_enter Tryd.func44, Tryd.ntmps44
    go_wp2
    go_ret
    exact ⟨by rw [HE.out]; first | rfl | (simp; omega), rfl⟩
  · have HE := Lib.hid (show letB c = true from by unfold letB; simp; omega)
    have t95 : ((c.toNat : Int) == 95) = false := by simp; omega
    obtain ⟨g1, g2⟩ := g
    go_enter Tryd.func44, Tryd.ntmps44
    go_wp2
    go_ret
    exact ⟨by rw [HE.out]; first | rfl | (simp; omega), rfl⟩
  · have HE := Lib.hid (show letB c = false from by unfold letB; simp; omega)
    have t95 : ((c.toNat : Int) == 95) = false := by simp; omega
    go_enter Tryd.func44, Tryd.ntmps44
    go_wp2
    go_ret
    exact ⟨by rw [HE.out]; first | rfl | (simp; omega), rfl⟩
theorem rdigit8_c (w : World) (c : UInt8) : Calls Tryd.prog 41 #[.int .u8 (c.toNat : Int)] w fun e w' => e = .returned (.bool (isDig c)) ∧ w = w' := by
  have h := c.toNat_lt
  rcases (by omega : c.toNat < 48 ∨ (48 ≤ c.toNat ∧ c.toNat ≤ 57) ∨ 57 < c.toNat) with g | g | g
  · have HE := Lib.hid (show isDig c = false from by unfold isDig; simp; omega)
    go_enter Tryd.func41, Tryd.ntmps41
    go_wp2
    go_ret
    exact ⟨by rw [HE.out]; first | rfl | (simp; omega), rfl⟩
  · have HE := Lib.hid (show isDig c = true from by unfold isDig; simp; omega)
    obtain ⟨g1, g2⟩ := g
    go_enter Tryd.func41, Tryd.ntmps41
    go_wp2
    go_ret
    exact ⟨by rw [HE.out]; first | rfl | (simp; omega), rfl⟩
  · have HE := Lib.hid (show isDig c = false from by unfold isDig; simp; omega)
    go_enter Tryd.func41, Tryd.ntmps41
    go_wp2
    go_ret
    exact ⟨by rw [HE.out]; first | rfl | (simp; omega), rfl⟩

def tripV (x : Wd) (n : Nat) (ok : Bool) : Value := .tuple #[x.val, .int .i64 n, .bool ok]
theorem tb_take (s : ByteArray) (k : Nat) : tb (s.extract 0 k) = s.data.toList.take k := by unfold tb; rw [take_cut]

set_option maxRecDepth 100000 in
set_option maxHeartbeats 1000000 in
theorem rinteger_c (w : World) (s : ByteArray) (hs : s.size ≤ 400) : Calls Tryd.prog 42 #[.string s] w fun e w' =>
    e = .returned (tripV ⟨2, [], (num (s.data.toList.take (runN isDig s.data.toList))).1⟩ (runN isDig s.data.toList) (decide ((num (s.data.toList.take (runN isDig s.data.toList))).2 = 0))) ∧ Below w.heap.size w w' := by
  have HG := Lib.hid (fun w c => rdigit8_c w c)
  have HB := Lib.hid (fun o => box_below w o)
  have HNB := Lib.hid (fun (w : World) (k : Nat) => rnumber_c w (s.extract 0 k) (by rw [ByteArray.size_extract]; omega))
  have HTK := Lib.hid (tb_take s)
  go_enter Tryd.func42, Tryd.ntmps42
  go_wp2_with fail
  go_loop [5] (fun i => ∃ k : Nat, k ≤ s.size ∧ i = .int .i64 k ∧ runN isDig s.data.toList = k + runN isDig (s.data.toList.drop k)) (fun i => s.size - (intOf i).toNat)
  case atStart => exact ⟨0, by omega, rfl, by simp⟩
  case round =>
    obtain ⟨k, hk, rfl, hr⟩ := hrel
    have HR := Lib.hid hr
    clear hr
    by_cases hlt : k < s.size ∧ isDig (s.data.toList.getD k 0) = true
    · obtain ⟨hlt, hp⟩ := hlt
      have HD := Lib.hid (drop_next s k hlt)
      have hb := (s[k]).toNat_lt
      have hp' : isDig s[k] = true := by
        have : s.data.toList.getD k 0 = s[k] := by simp [List.getD, hlt]; rfl
        rw [← this]; exact hp
      have HC := fun w => HG.out w s[k]
      have HN := Lib.hid (show runN isDig s.data.toList = (k + 1) + runN isDig (s.data.toList.drop (k + 1)) from by rw [HR.out, HD.out, runN_yes hp']; omega)
      rw [hp'] at HC
      have HC' := Lib.hid HC
      clear HC hp hp'
      go_wp2_with fail
      refine (HC'.out _).mono ?_
      rintro e w' ⟨rfl, rfl⟩
      go_wp2_with fail
      exact ⟨⟨k + 1, by omega, by go_num, HN.out⟩, by simp [intOf]; omega⟩
    · have HN := Lib.hid (show runN isDig s.data.toList = k from by
        rw [HR.out]
        by_cases h : k < s.size
        · have hp' : ¬ isDig s[k] = true := by
            intro h2
            apply hlt
            refine ⟨h, ?_⟩
            have : s.data.toList.getD k 0 = s[k] := by simp [List.getD, h]; rfl
            rw [this]; exact h2
          rw [drop_next s k h, runN_no hp']
          rfl
        · obtain rfl : k = s.size := by omega
          rw [drop_all]; rfl)
      have HX := fun w => HNB.out w k
      rw [HTK.out] at HX
      obtain ⟨⟨x, e⟩, hq⟩ : ∃ q, q = num (s.data.toList.take k) := ⟨_, rfl⟩
      have HF := Lib.hid (show tripV ⟨2, [], (num (s.data.toList.take (runN isDig s.data.toList))).1⟩ (runN isDig s.data.toList) (decide ((num (s.data.toList.take (runN isDig s.data.toList))).2 = 0)) = tripV ⟨2, [], x⟩ k (decide (e = 0)) from by rw [HN.out, ← hq])
      rw [← hq] at HX
      simp only at HX
      have HX' := Lib.hid HX
      clear HX hq HR HN
      have hcase : (k < s.size ∧ ∃ h : k < s.size, isDig s[k] = false) ∨ s.size ≤ k := by
        by_cases h : k < s.size
        · left
          refine ⟨h, h, ?_⟩
          by_cases h2 : isDig s[k] = true
          · exfalso
            apply hlt
            refine ⟨h, ?_⟩
            have : s.data.toList.getD k 0 = s[k] := by simp [List.getD, h]; rfl
            rw [this]; exact h2
          · simpa using h2
        · right; omega
      clear hlt
      by_cases he : e = 0
      all_goals
        rcases hcase with ⟨hlt, _, hp⟩ | hend
      · have hb := (s[k]).toNat_lt
        have HC := fun w => HG.out w s[k]
        rw [hp] at HC
        have HC' := Lib.hid HC
        subst he
        clear HC hp
        go_wp2_with fail
        refine (HC'.out _).mono ?_
        rintro e w' ⟨rfl, rfl⟩
        go_wp2_with fail
        refine (HX'.out _).mono ?_
        rintro e w' ⟨rfl, rfl⟩
        go_wp2_with fail
        refine bodyPost_ret (v := tripV ⟨2, [], x⟩ k true) (by simp [results, Tryd.results42, go_sem, tripV, Wd.val]) rfl ⟨by rw [HF.out]; rfl, HB.out _⟩
      · subst he
        go_wp2_with fail
        refine (HX'.out _).mono ?_
        rintro e w' ⟨rfl, rfl⟩
        go_wp2_with fail
        refine bodyPost_ret (v := tripV ⟨2, [], x⟩ k true) (by simp [results, Tryd.results42, go_sem, tripV, Wd.val]) rfl ⟨by rw [HF.out]; rfl, HB.out _⟩
      · have hb := (s[k]).toNat_lt
        have HC := fun w => HG.out w s[k]
        rw [hp] at HC
        have HC' := Lib.hid HC
        have te : (e == 0) = false := by simpa using he
        have HE := Lib.hid (show decide (e = 0) = false from by simpa using he)
        clear HC hp he
        go_wp2_with fail
        refine (HC'.out _).mono ?_
        rintro e w' ⟨rfl, rfl⟩
        go_wp2_with fail
        refine (HX'.out _).mono ?_
        rintro e w' ⟨rfl, rfl⟩
        go_wp2_with fail
        refine bodyPost_ret (v := tripV ⟨2, [], x⟩ k false) (by simp [results, Tryd.results42, go_sem, tripV, Wd.val]) rfl ⟨by rw [HF.out, HE.out], HB.out _⟩
      · have te : (e == 0) = false := by simpa using he
        have HE := Lib.hid (show decide (e = 0) = false from by simpa using he)
        clear he
        go_wp2_with fail
        refine (HX'.out _).mono ?_
        rintro e w' ⟨rfl, rfl⟩
        go_wp2_with fail
        refine bodyPost_ret (v := tripV ⟨2, [], x⟩ k false) (by simp [results, Tryd.results42, go_sem, tripV, Wd.val]) rfl ⟨by rw [HF.out, HE.out], HB.out _⟩
end Go.Proofs.YtikofngogkchfaaDoor
