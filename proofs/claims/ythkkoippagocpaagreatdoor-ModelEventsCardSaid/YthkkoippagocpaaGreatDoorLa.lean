/- lexer: letter, digit, blank, run. -/
import Derived.Test.YthkkoippagocpaaGreatDoorLm
namespace Go.Proofs.YthkkoippagocpaaGreatDoor
open Go.RowKit
set_option linter.unusedVariables false

theorem letter_c (w : World) (c : UInt8) : Calls Tryz.prog 48 #[.int .u8 (c.toNat : Int)] w fun e w' => e = .returned (.bool (letB c)) ∧ w = w' := by
  have h := c.toNat_lt
  rcases (by omega : c.toNat < 65 ∨ (65 ≤ c.toNat ∧ c.toNat ≤ 90) ∨ (91 ≤ c.toNat ∧ c.toNat ≤ 94) ∨ c.toNat = 95 ∨ c.toNat = 96 ∨ (97 ≤ c.toNat ∧ c.toNat ≤ 122) ∨ 122 < c.toNat) with g | g | g | g | g | g | g
  · have HE := Lib.hid (show letB c = false from by unfold letB; simp; omega)
    have t95 : ((c.toNat : Int) == 95) = false := by simp; omega
    go_enter Tryz.func48, Tryz.ntmps48
    go_wp2
    go_ret
    exact ⟨by rw [HE.out]; first | rfl | (simp; omega), rfl⟩
  · have HE := Lib.hid (show letB c = true from by unfold letB; simp; omega)
    have t95 : ((c.toNat : Int) == 95) = false := by simp; omega
    obtain ⟨g1, g2⟩ := g
    go_enter Tryz.func48, Tryz.ntmps48
    go_wp2
    go_ret
    exact ⟨by rw [HE.out]; first | rfl | (simp; omega), rfl⟩
  · have HE := Lib.hid (show letB c = false from by unfold letB; simp; omega)
    have t95 : ((c.toNat : Int) == 95) = false := by simp; omega
    obtain ⟨g1, g2⟩ := g
    go_enter Tryz.func48, Tryz.ntmps48
    go_wp2
    go_ret
    exact ⟨by rw [HE.out]; first | rfl | (simp; omega), rfl⟩
  · have HE := Lib.hid (show letB c = true from by unfold letB; simp; omega)
    have t95 : ((c.toNat : Int) == 95) = true := by simp; omega
    go_enter Tryz.func48, Tryz.ntmps48
    go_wp2
    go_ret
    exact ⟨by rw [HE.out]; first | rfl | (simp; omega), rfl⟩
  · have HE := Lib.hid (show letB c = false from by unfold letB; simp; omega)
    have t95 : ((c.toNat : Int) == 95) = false := by simp; omega
    go_enter Tryz.func48, Tryz.ntmps48
    go_wp2
    go_ret
    exact ⟨by rw [HE.out]; first | rfl | (simp; omega), rfl⟩
  · have HE := Lib.hid (show letB c = true from by unfold letB; simp; omega)
    have t95 : ((c.toNat : Int) == 95) = false := by simp; omega
    obtain ⟨g1, g2⟩ := g
    go_enter Tryz.func48, Tryz.ntmps48
    go_wp2
    go_ret
    exact ⟨by rw [HE.out]; first | rfl | (simp; omega), rfl⟩
  · have HE := Lib.hid (show letB c = false from by unfold letB; simp; omega)
    have t95 : ((c.toNat : Int) == 95) = false := by simp; omega
    go_enter Tryz.func48, Tryz.ntmps48
    go_wp2
    go_ret
    exact ⟨by rw [HE.out]; first | rfl | (simp; omega), rfl⟩
theorem digit_c (w : World) (c : UInt8) : Calls Tryz.prog 58 #[.int .u8 (c.toNat : Int)] w fun e w' => e = .returned (.bool (isDig c)) ∧ w = w' := by
  have h := c.toNat_lt
  rcases (by omega : c.toNat < 48 ∨ (48 ≤ c.toNat ∧ c.toNat ≤ 57) ∨ 57 < c.toNat) with g | g | g
  · have HE := Lib.hid (show isDig c = false from by unfold isDig; simp; omega)
    go_enter Tryz.func58, Tryz.ntmps58
    go_wp2
    go_ret
    exact ⟨by rw [HE.out]; first | rfl | (simp; omega), rfl⟩
  · have HE := Lib.hid (show isDig c = true from by unfold isDig; simp; omega)
    obtain ⟨g1, g2⟩ := g
    go_enter Tryz.func58, Tryz.ntmps58
    go_wp2
    go_ret
    exact ⟨by rw [HE.out]; first | rfl | (simp; omega), rfl⟩
  · have HE := Lib.hid (show isDig c = false from by unfold isDig; simp; omega)
    go_enter Tryz.func58, Tryz.ntmps58
    go_wp2
    go_ret
    exact ⟨by rw [HE.out]; first | rfl | (simp; omega), rfl⟩
theorem space_u (w : World) (c : UInt8) : Calls Tryz.prog 75 #[.int .u8 (c.toNat : Int)] w fun e w' => e = .returned (.bool (blB c)) ∧ w = w' := by
  have h := c.toNat_lt
  have HC := Lib.hid (fun w => space_c w (c.toNat : Int))
  have HB := Lib.hid (show blB c = spaceB (c.toNat : Int) from rfl)
  go_enter Tryz.func75, Tryz.ntmps75
  go_wp2_with (go_at_call 60; refine (HC.out _).mono ?_; rintro e w' ⟨rfl, rfl⟩)
  go_ret
  exact ⟨by rw [HB.out]; rfl, rfl⟩
theorem name_c (w : World) (c : UInt8) : Calls Tryz.prog 50 #[.int .u8 (c.toNat : Int)] w fun e w' => e = .returned (.bool (nameB c)) ∧ w = w' := by
  have h := c.toNat_lt
  have HL := fun w => letter_c w c
  have HD := fun w => digit_c w c
  have HN := Lib.hid (show nameB c = (letB c || isDig c) from rfl)
  obtain ⟨x, hx⟩ : ∃ x, x = letB c := ⟨_, rfl⟩
  obtain ⟨y, hy⟩ : ∃ y, y = isDig c := ⟨_, rfl⟩
  rw [← hx, ← hy] at HN
  rw [← hx] at HL
  rw [← hy] at HD
  have HL' := Lib.hid HL
  have HD' := Lib.hid HD
  clear hx hy HL HD
  cases x
  all_goals
    go_enter Tryz.func50, Tryz.ntmps50
    go_wp2_with (first
      | (go_at_call 48; refine (HL'.out _).mono ?_; rintro e w' ⟨rfl, rfl⟩)
      | (go_at_call 58; refine (HD'.out _).mono ?_; rintro e w' ⟨rfl, rfl⟩))
    go_ret
    exact ⟨by rw [HN.out]; rfl, rfl⟩

theorem runN_yes {p : UInt8 → Bool} {c : UInt8} {r : List UInt8} (h : p c = true) : runN p (c :: r) = runN p r + 1 := by rw [runN, if_pos h]
theorem runN_no {p : UInt8 → Bool} {c : UInt8} {r : List UInt8} (h : ¬ p c = true) : runN p (c :: r) = 0 := by rw [runN, if_neg h]
theorem drop_next (s : ByteArray) (k : Nat) (h : k < s.size) : s.data.toList.drop k = s[k] :: s.data.toList.drop (k + 1) := by
  have hl : k < s.data.toList.length := by rw [Array.length_toList]; exact h
  exact List.drop_eq_getElem_cons hl
theorem drop_all (s : ByteArray) : s.data.toList.drop s.size = [] := by
  apply List.drop_eq_nil_of_le
  rw [Array.length_toList]
  exact Nat.le_refl _

set_option maxRecDepth 100000 in
theorem run_c (w : World) (s : ByteArray) (hs : s.size ≤ 9223372036854775807) (F : FuncId) (p : UInt8 → Bool) (hE : ∀ args w, (callFunc F args).run Tryz.prog w = .ok (.enter F args) w) (hF : ∀ (w : World) (c : UInt8), Calls Tryz.prog F #[.int .u8 (c.toNat : Int)] w fun e w' => e = .returned (.bool (p c)) ∧ w = w') :
    Calls Tryz.prog 49 #[.string s, .func (.func F) #[] #[]] w fun e w' => e = .returned (.int .i64 (runN p s.data.toList)) ∧ w = w' := by
  have HF := Lib.hid hF
  have hle : s.size ≤ 9223372036854775807 := hs
  clear hF
  go_enter Tryz.func49, Tryz.ntmps49
  go_wp2_with fail
  go_loop [5] (fun i => ∃ k : Nat, k ≤ s.size ∧ i = .int .i64 k ∧ runN p s.data.toList = k + runN p (s.data.toList.drop k)) (fun i => s.size - (intOf i).toNat)
  case atStart => exact ⟨0, by omega, rfl, by simp⟩
  case round =>
    obtain ⟨k, hk, rfl, hr⟩ := hrel
    have HR := Lib.hid hr
    clear hr
    by_cases hlt : k < s.size
    · have HD := Lib.hid (drop_next s k hlt)
      have hb := (s[k]).toNat_lt
      have HC := fun w => HF.out w s[k]
      by_cases hp : p s[k] = true
      · have HN := Lib.hid (show runN p s.data.toList = (k + 1) + runN p (s.data.toList.drop (k + 1)) from by rw [HR.out, HD.out, runN_yes hp]; omega)
        rw [hp] at HC
        have HC' := Lib.hid HC
        clear HC hp
        go_wp2_with fail
        refine (HC'.out _).mono ?_
        rintro e w' ⟨rfl, rfl⟩
        go_wp2_with fail
        exact ⟨⟨k + 1, by omega, by go_num, HN.out⟩, by simp [intOf]; omega⟩
      · have HN := Lib.hid (show runN p s.data.toList = k from by rw [HR.out, HD.out, runN_no hp]; rfl)
        rw [Bool.not_eq_true] at hp
        rw [hp] at HC
        have HC' := Lib.hid HC
        clear HC hp
        go_wp2_with fail
        refine (HC'.out _).mono ?_
        rintro e w' ⟨rfl, rfl⟩
        go_wp2_with fail
        go_ret
        exact ⟨by rw [HN.out]; rfl, rfl⟩
    · obtain rfl : k = s.size := by omega
      have HN := Lib.hid (show runN p s.data.toList = s.size from by rw [HR.out, drop_all]; rfl)
      go_wp2_with fail
      go_ret
      exact ⟨by rw [HN.out]; rfl, rfl⟩
section
variable (w : World) (s : ByteArray) (hs : s.size ≤ 9223372036854775807)
include hs
theorem run_blank : Calls Tryz.prog 49 #[.string s, .func (.func 75) #[] #[]] w fun e w' => e = .returned (.int .i64 (runN blB s.data.toList)) ∧ w = w' :=
  run_c w s hs 75 blB (enters_of Tryz.func75 (by kernel_rfl) rfl) space_u
theorem run_name : Calls Tryz.prog 49 #[.string s, .func (.func 50) #[] #[]] w fun e w' => e = .returned (.int .i64 (runN nameB s.data.toList)) ∧ w = w' :=
  run_c w s hs 50 nameB (enters_of Tryz.func50 (by kernel_rfl) rfl) name_c
theorem run_digit : Calls Tryz.prog 49 #[.string s, .func (.func 58) #[] #[]] w fun e w' => e = .returned (.int .i64 (runN isDig s.data.toList)) ∧ w = w' :=
  run_c w s hs 58 isDig (enters_of Tryz.func58 (by kernel_rfl) rfl) digit_c
end
end Go.Proofs.YthkkoippagocpaaGreatDoor
