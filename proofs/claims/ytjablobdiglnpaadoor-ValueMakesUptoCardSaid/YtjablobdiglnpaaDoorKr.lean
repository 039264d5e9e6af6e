/- The reference's Kind. -/
import Derived.Test.YtjablobdiglnpaaDoorKk
namespace Go.Proofs.YtjablobdiglnpaaDoor
open Go.RowKit
set_option linter.unusedVariables false
section
variable (w : World) (op a b : Int)

theorem rkind_5 : Calls Tryd.prog 25 #[.int .i64 5, .int .i64 a, .int .i64 b] w fun e w' => e = .returned (.tuple #[.int .i64 (kindC 1 a b).1, .bool (kindC 1 a b).2]) ∧ w = w' := by
  by_cases h1 : a = 2
  · have t1 : ((a : Int) == 2) = true := by simp; omega
    by_cases h2 : b = 0
    · have t2 : ((b : Int) == 0) = true := by simp; omega
      have HK := Lib.hid (show kindC 1 a b = (2, true) from by unfold kindC; simp [h1, h2])
      clear h1 h2
      go_enter Tryd.func25, Tryd.ntmps25
      go_wp2
      go_ret2
      exact ⟨ret_kind HK.out, rfl⟩
    · have t2 : ((b : Int) == 0) = false := by simp; omega
      have HK := Lib.hid (show kindC 1 a b = (0, false) from by unfold kindC; simp [h1, h2])
      clear h1 h2
      go_enter Tryd.func25, Tryd.ntmps25
      go_wp2
      go_ret2
      exact ⟨ret_kind HK.out, rfl⟩
  · have t1 : ((a : Int) == 2) = false := by simp; omega
    have HK := Lib.hid (show kindC 1 a b = (0, false) from by unfold kindC; simp [h1])
    clear h1
    go_enter Tryd.func25, Tryd.ntmps25
    go_wp2
    go_ret2
    exact ⟨ret_kind HK.out, rfl⟩

theorem rkind_6 : Calls Tryd.prog 25 #[.int .i64 6, .int .i64 a, .int .i64 b] w fun e w' => e = .returned (.tuple #[.int .i64 (kindC 2 a b).1, .bool (kindC 2 a b).2]) ∧ w = w' := by
  by_cases h1 : a = 1
  · have t1 : ((a : Int) == 1) = true := by simp; omega
    by_cases h2 : b = 0
    · have t2 : ((b : Int) == 0) = true := by simp; omega
      have HK := Lib.hid (show kindC 2 a b = (1, true) from by unfold kindC; simp [h1, h2])
      clear h1 h2
      go_enter Tryd.func25, Tryd.ntmps25
      go_wp2
      go_ret2
      exact ⟨ret_kind HK.out, rfl⟩
    · have t2 : ((b : Int) == 0) = false := by simp; omega
      have HK := Lib.hid (show kindC 2 a b = (0, false) from by unfold kindC; simp [h1, h2])
      clear h1 h2
      go_enter Tryd.func25, Tryd.ntmps25
      go_wp2
      go_ret2
      exact ⟨ret_kind HK.out, rfl⟩
  · have t1 : ((a : Int) == 1) = false := by simp; omega
    have HK := Lib.hid (show kindC 2 a b = (0, false) from by unfold kindC; simp [h1])
    clear h1
    go_enter Tryd.func25, Tryd.ntmps25
    go_wp2
    go_ret2
    exact ⟨ret_kind HK.out, rfl⟩

theorem rkind_7 : Calls Tryd.prog 25 #[.int .i64 7, .int .i64 a, .int .i64 b] w fun e w' => e = .returned (.tuple #[.int .i64 (kindC 3 a b).1, .bool (kindC 3 a b).2]) ∧ w = w' := by
  by_cases h1 : a = 1
  · have t1 : ((a : Int) == 1) = true := by simp; omega
    by_cases h2 : b = 1
    · have t2 : ((b : Int) == 1) = true := by simp; omega
      have HK := Lib.hid (show kindC 3 a b = (1, true) from by unfold kindC; simp [h1, h2])
      clear h1 h2
      go_enter Tryd.func25, Tryd.ntmps25
      go_wp2
      go_ret2
      exact ⟨ret_kind HK.out, rfl⟩
    · have t2 : ((b : Int) == 1) = false := by simp; omega
      have HK := Lib.hid (show kindC 3 a b = (0, false) from by unfold kindC; simp [h1, h2])
      clear h1 h2
      go_enter Tryd.func25, Tryd.ntmps25
      go_wp2
      go_ret2
      exact ⟨ret_kind HK.out, rfl⟩
  · have t1 : ((a : Int) == 1) = false := by simp; omega
    have HK := Lib.hid (show kindC 3 a b = (0, false) from by unfold kindC; simp [h1])
    clear h1
    go_enter Tryd.func25, Tryd.ntmps25
    go_wp2
    go_ret2
    exact ⟨ret_kind HK.out, rfl⟩

theorem rkind_8 : Calls Tryd.prog 25 #[.int .i64 8, .int .i64 a, .int .i64 b] w fun e w' => e = .returned (.tuple #[.int .i64 (kindC 3 a b).1, .bool (kindC 3 a b).2]) ∧ w = w' := by
  by_cases h1 : a = 1
  · have t1 : ((a : Int) == 1) = true := by simp; omega
    by_cases h2 : b = 1
    · have t2 : ((b : Int) == 1) = true := by simp; omega
      have HK := Lib.hid (show kindC 3 a b = (1, true) from by unfold kindC; simp [h1, h2])
      clear h1 h2
      go_enter Tryd.func25, Tryd.ntmps25
      go_wp2
      go_ret2
      exact ⟨ret_kind HK.out, rfl⟩
    · have t2 : ((b : Int) == 1) = false := by simp; omega
      have HK := Lib.hid (show kindC 3 a b = (0, false) from by unfold kindC; simp [h1, h2])
      clear h1 h2
      go_enter Tryd.func25, Tryd.ntmps25
      go_wp2
      go_ret2
      exact ⟨ret_kind HK.out, rfl⟩
  · have t1 : ((a : Int) == 1) = false := by simp; omega
    have HK := Lib.hid (show kindC 3 a b = (0, false) from by unfold kindC; simp [h1])
    clear h1
    go_enter Tryd.func25, Tryd.ntmps25
    go_wp2
    go_ret2
    exact ⟨ret_kind HK.out, rfl⟩

theorem rkind_9 : Calls Tryd.prog 25 #[.int .i64 9, .int .i64 a, .int .i64 b] w fun e w' => e = .returned (.tuple #[.int .i64 (kindC 3 a b).1, .bool (kindC 3 a b).2]) ∧ w = w' := by
  by_cases h1 : a = 1
  · have t1 : ((a : Int) == 1) = true := by simp; omega
    by_cases h2 : b = 1
    · have t2 : ((b : Int) == 1) = true := by simp; omega
      have HK := Lib.hid (show kindC 3 a b = (1, true) from by unfold kindC; simp [h1, h2])
      clear h1 h2
      go_enter Tryd.func25, Tryd.ntmps25
      go_wp2
      go_ret2
      exact ⟨ret_kind HK.out, rfl⟩
    · have t2 : ((b : Int) == 1) = false := by simp; omega
      have HK := Lib.hid (show kindC 3 a b = (0, false) from by unfold kindC; simp [h1, h2])
      clear h1 h2
      go_enter Tryd.func25, Tryd.ntmps25
      go_wp2
      go_ret2
      exact ⟨ret_kind HK.out, rfl⟩
  · have t1 : ((a : Int) == 1) = false := by simp; omega
    have HK := Lib.hid (show kindC 3 a b = (0, false) from by unfold kindC; simp [h1])
    clear h1
    go_enter Tryd.func25, Tryd.ntmps25
    go_wp2
    go_ret2
    exact ⟨ret_kind HK.out, rfl⟩

theorem rkind_10 : Calls Tryd.prog 25 #[.int .i64 10, .int .i64 a, .int .i64 b] w fun e w' => e = .returned (.tuple #[.int .i64 (kindC 3 a b).1, .bool (kindC 3 a b).2]) ∧ w = w' := by
  by_cases h1 : a = 1
  · have t1 : ((a : Int) == 1) = true := by simp; omega
    by_cases h2 : b = 1
    · have t2 : ((b : Int) == 1) = true := by simp; omega
      have HK := Lib.hid (show kindC 3 a b = (1, true) from by unfold kindC; simp [h1, h2])
      clear h1 h2
      go_enter Tryd.func25, Tryd.ntmps25
      go_wp2
      go_ret2
      exact ⟨ret_kind HK.out, rfl⟩
    · have t2 : ((b : Int) == 1) = false := by simp; omega
      have HK := Lib.hid (show kindC 3 a b = (0, false) from by unfold kindC; simp [h1, h2])
      clear h1 h2
      go_enter Tryd.func25, Tryd.ntmps25
      go_wp2
      go_ret2
      exact ⟨ret_kind HK.out, rfl⟩
  · have t1 : ((a : Int) == 1) = false := by simp; omega
    have HK := Lib.hid (show kindC 3 a b = (0, false) from by unfold kindC; simp [h1])
    clear h1
    go_enter Tryd.func25, Tryd.ntmps25
    go_wp2
    go_ret2
    exact ⟨ret_kind HK.out, rfl⟩

theorem rkind_11 : Calls Tryd.prog 25 #[.int .i64 11, .int .i64 a, .int .i64 b] w fun e w' => e = .returned (.tuple #[.int .i64 (kindC 3 a b).1, .bool (kindC 3 a b).2]) ∧ w = w' := by
  by_cases h1 : a = 1
  · have t1 : ((a : Int) == 1) = true := by simp; omega
    by_cases h2 : b = 1
    · have t2 : ((b : Int) == 1) = true := by simp; omega
      have HK := Lib.hid (show kindC 3 a b = (1, true) from by unfold kindC; simp [h1, h2])
      clear h1 h2
      go_enter Tryd.func25, Tryd.ntmps25
      go_wp2
      go_ret2
      exact ⟨ret_kind HK.out, rfl⟩
    · have t2 : ((b : Int) == 1) = false := by simp; omega
      have HK := Lib.hid (show kindC 3 a b = (0, false) from by unfold kindC; simp [h1, h2])
      clear h1 h2
      go_enter Tryd.func25, Tryd.ntmps25
      go_wp2
      go_ret2
      exact ⟨ret_kind HK.out, rfl⟩
  · have t1 : ((a : Int) == 1) = false := by simp; omega
    have HK := Lib.hid (show kindC 3 a b = (0, false) from by unfold kindC; simp [h1])
    clear h1
    go_enter Tryd.func25, Tryd.ntmps25
    go_wp2
    go_ret2
    exact ⟨ret_kind HK.out, rfl⟩

theorem rkind_12 : Calls Tryd.prog 25 #[.int .i64 12, .int .i64 a, .int .i64 b] w fun e w' => e = .returned (.tuple #[.int .i64 (kindC 4 a b).1, .bool (kindC 4 a b).2]) ∧ w = w' := by
  by_cases h1 : a = b
  · have t1 : ((a : Int) == b) = true := by simp; omega
    subst h1
    rcases (by omega : a = 1 ∨ a = 3 ∨ (a ≠ 1 ∧ a ≠ 3)) with rfl | rfl | h2
    · have HK := Lib.hid (show kindC 4 1 1 = (2, true) from by decide)
      go_enter Tryd.func25, Tryd.ntmps25
      go_wp2
      go_ret2
      exact ⟨ret_kind HK.out, rfl⟩
    · have HK := Lib.hid (show kindC 4 3 3 = (2, true) from by decide)
      go_enter Tryd.func25, Tryd.ntmps25
      go_wp2
      go_ret2
      exact ⟨ret_kind HK.out, rfl⟩
    · have HK := Lib.hid (show kindC 4 a a = (0, false) from by unfold kindC; simp [h2])
      have u1 : ((a : Int) == 1) = false := by simp; omega
      have u3 : ((a : Int) == 3) = false := by simp; omega
      clear h2
      go_enter Tryd.func25, Tryd.ntmps25
      go_wp2
      go_ret2
      exact ⟨ret_kind HK.out, rfl⟩
  · have t1 : ((a : Int) == b) = false := by simp; omega
    have HK := Lib.hid (show kindC 4 a b = (0, false) from by unfold kindC; simp [h1])
    clear h1
    go_enter Tryd.func25, Tryd.ntmps25
    go_wp2
    go_ret2
    exact ⟨ret_kind HK.out, rfl⟩

theorem rkind_13 : Calls Tryd.prog 25 #[.int .i64 13, .int .i64 a, .int .i64 b] w fun e w' => e = .returned (.tuple #[.int .i64 (kindC 4 a b).1, .bool (kindC 4 a b).2]) ∧ w = w' := by
  by_cases h1 : a = b
  · have t1 : ((a : Int) == b) = true := by simp; omega
    subst h1
    rcases (by omega : a = 1 ∨ a = 3 ∨ (a ≠ 1 ∧ a ≠ 3)) with rfl | rfl | h2
    · have HK := Lib.hid (show kindC 4 1 1 = (2, true) from by decide)
      go_enter Tryd.func25, Tryd.ntmps25
      go_wp2
      go_ret2
      exact ⟨ret_kind HK.out, rfl⟩
    · have HK := Lib.hid (show kindC 4 3 3 = (2, true) from by decide)
      go_enter Tryd.func25, Tryd.ntmps25
      go_wp2
      go_ret2
      exact ⟨ret_kind HK.out, rfl⟩
    · have HK := Lib.hid (show kindC 4 a a = (0, false) from by unfold kindC; simp [h2])
      have u1 : ((a : Int) == 1) = false := by simp; omega
      have u3 : ((a : Int) == 3) = false := by simp; omega
      clear h2
      go_enter Tryd.func25, Tryd.ntmps25
      go_wp2
      go_ret2
      exact ⟨ret_kind HK.out, rfl⟩
  · have t1 : ((a : Int) == b) = false := by simp; omega
    have HK := Lib.hid (show kindC 4 a b = (0, false) from by unfold kindC; simp [h1])
    clear h1
    go_enter Tryd.func25, Tryd.ntmps25
    go_wp2
    go_ret2
    exact ⟨ret_kind HK.out, rfl⟩

theorem rkind_14 : Calls Tryd.prog 25 #[.int .i64 14, .int .i64 a, .int .i64 b] w fun e w' => e = .returned (.tuple #[.int .i64 (kindC 4 a b).1, .bool (kindC 4 a b).2]) ∧ w = w' := by
  by_cases h1 : a = b
  · have t1 : ((a : Int) == b) = true := by simp; omega
    subst h1
    rcases (by omega : a = 1 ∨ a = 3 ∨ (a ≠ 1 ∧ a ≠ 3)) with rfl | rfl | h2
    · have HK := Lib.hid (show kindC 4 1 1 = (2, true) from by decide)
      go_enter Tryd.func25, Tryd.ntmps25
      go_wp2
      go_ret2
      exact ⟨ret_kind HK.out, rfl⟩
    · have HK := Lib.hid (show kindC 4 3 3 = (2, true) from by decide)
      go_enter Tryd.func25, Tryd.ntmps25
      go_wp2
      go_ret2
      exact ⟨ret_kind HK.out, rfl⟩
    · have HK := Lib.hid (show kindC 4 a a = (0, false) from by unfold kindC; simp [h2])
      have u1 : ((a : Int) == 1) = false := by simp; omega
      have u3 : ((a : Int) == 3) = false := by simp; omega
      clear h2
      go_enter Tryd.func25, Tryd.ntmps25
      go_wp2
      go_ret2
      exact ⟨ret_kind HK.out, rfl⟩
  · have t1 : ((a : Int) == b) = false := by simp; omega
    have HK := Lib.hid (show kindC 4 a b = (0, false) from by unfold kindC; simp [h1])
    clear h1
    go_enter Tryd.func25, Tryd.ntmps25
    go_wp2
    go_ret2
    exact ⟨ret_kind HK.out, rfl⟩

theorem rkind_15 : Calls Tryd.prog 25 #[.int .i64 15, .int .i64 a, .int .i64 b] w fun e w' => e = .returned (.tuple #[.int .i64 (kindC 4 a b).1, .bool (kindC 4 a b).2]) ∧ w = w' := by
  by_cases h1 : a = b
  · have t1 : ((a : Int) == b) = true := by simp; omega
    subst h1
    rcases (by omega : a = 1 ∨ a = 3 ∨ (a ≠ 1 ∧ a ≠ 3)) with rfl | rfl | h2
    · have HK := Lib.hid (show kindC 4 1 1 = (2, true) from by decide)
      go_enter Tryd.func25, Tryd.ntmps25
      go_wp2
      go_ret2
      exact ⟨ret_kind HK.out, rfl⟩
    · have HK := Lib.hid (show kindC 4 3 3 = (2, true) from by decide)
      go_enter Tryd.func25, Tryd.ntmps25
      go_wp2
      go_ret2
      exact ⟨ret_kind HK.out, rfl⟩
    · have HK := Lib.hid (show kindC 4 a a = (0, false) from by unfold kindC; simp [h2])
      have u1 : ((a : Int) == 1) = false := by simp; omega
      have u3 : ((a : Int) == 3) = false := by simp; omega
      clear h2
      go_enter Tryd.func25, Tryd.ntmps25
      go_wp2
      go_ret2
      exact ⟨ret_kind HK.out, rfl⟩
  · have t1 : ((a : Int) == b) = false := by simp; omega
    have HK := Lib.hid (show kindC 4 a b = (0, false) from by unfold kindC; simp [h1])
    clear h1
    go_enter Tryd.func25, Tryd.ntmps25
    go_wp2
    go_ret2
    exact ⟨ret_kind HK.out, rfl⟩

theorem rkind_16 : Calls Tryd.prog 25 #[.int .i64 16, .int .i64 a, .int .i64 b] w fun e w' => e = .returned (.tuple #[.int .i64 (kindC 5 a b).1, .bool (kindC 5 a b).2]) ∧ w = w' := by
  by_cases h1 : a = b
  · have t1 : ((a : Int) == b) = true := by simp; omega
    subst h1
    rcases (by omega : a = 1 ∨ a = 2 ∨ a = 3 ∨ a < 1 ∨ 3 < a) with rfl | rfl | rfl | h2 | h2
    · have HK := Lib.hid (show kindC 5 1 1 = (2, true) from by decide)
      go_enter Tryd.func25, Tryd.ntmps25
      go_wp2
      go_ret2
      exact ⟨ret_kind HK.out, rfl⟩
    · have HK := Lib.hid (show kindC 5 2 2 = (2, true) from by decide)
      go_enter Tryd.func25, Tryd.ntmps25
      go_wp2
      go_ret2
      exact ⟨ret_kind HK.out, rfl⟩
    · have HK := Lib.hid (show kindC 5 3 3 = (2, true) from by decide)
      go_enter Tryd.func25, Tryd.ntmps25
      go_wp2
      go_ret2
      exact ⟨ret_kind HK.out, rfl⟩
    · have HK := Lib.hid (show kindC 5 a a = (0, false) from by unfold kindC; rw [if_neg (by omega), if_neg (by omega), if_neg (by omega), if_neg (by omega), if_pos rfl, if_neg (by omega)])
      go_enter Tryd.func25, Tryd.ntmps25
      go_wp2
      go_ret2
      exact ⟨ret_kind HK.out, rfl⟩
    · have HK := Lib.hid (show kindC 5 a a = (0, false) from by unfold kindC; rw [if_neg (by omega), if_neg (by omega), if_neg (by omega), if_neg (by omega), if_pos rfl, if_neg (by omega)])
      go_enter Tryd.func25, Tryd.ntmps25
      go_wp2
      go_ret2
      exact ⟨ret_kind HK.out, rfl⟩
  · have t1 : ((a : Int) == b) = false := by simp; omega
    have HK := Lib.hid (show kindC 5 a b = (0, false) from by unfold kindC; simp [h1])
    clear h1
    go_enter Tryd.func25, Tryd.ntmps25
    go_wp2
    go_ret2
    exact ⟨ret_kind HK.out, rfl⟩

theorem rkind_17 : Calls Tryd.prog 25 #[.int .i64 17, .int .i64 a, .int .i64 b] w fun e w' => e = .returned (.tuple #[.int .i64 (kindC 5 a b).1, .bool (kindC 5 a b).2]) ∧ w = w' := by
  by_cases h1 : a = b
  · have t1 : ((a : Int) == b) = true := by simp; omega
    subst h1
    rcases (by omega : a = 1 ∨ a = 2 ∨ a = 3 ∨ a < 1 ∨ 3 < a) with rfl | rfl | rfl | h2 | h2
    · have HK := Lib.hid (show kindC 5 1 1 = (2, true) from by decide)
      go_enter Tryd.func25, Tryd.ntmps25
      go_wp2
      go_ret2
      exact ⟨ret_kind HK.out, rfl⟩
    · have HK := Lib.hid (show kindC 5 2 2 = (2, true) from by decide)
      go_enter Tryd.func25, Tryd.ntmps25
      go_wp2
      go_ret2
      exact ⟨ret_kind HK.out, rfl⟩
    · have HK := Lib.hid (show kindC 5 3 3 = (2, true) from by decide)
      go_enter Tryd.func25, Tryd.ntmps25
      go_wp2
      go_ret2
      exact ⟨ret_kind HK.out, rfl⟩
    · have HK := Lib.hid (show kindC 5 a a = (0, false) from by unfold kindC; rw [if_neg (by omega), if_neg (by omega), if_neg (by omega), if_neg (by omega), if_pos rfl, if_neg (by omega)])
      go_enter Tryd.func25, Tryd.ntmps25
      go_wp2
      go_ret2
      exact ⟨ret_kind HK.out, rfl⟩
    · have HK := Lib.hid (show kindC 5 a a = (0, false) from by unfold kindC; rw [if_neg (by omega), if_neg (by omega), if_neg (by omega), if_neg (by omega), if_pos rfl, if_neg (by omega)])
      go_enter Tryd.func25, Tryd.ntmps25
      go_wp2
      go_ret2
      exact ⟨ret_kind HK.out, rfl⟩
  · have t1 : ((a : Int) == b) = false := by simp; omega
    have HK := Lib.hid (show kindC 5 a b = (0, false) from by unfold kindC; simp [h1])
    clear h1
    go_enter Tryd.func25, Tryd.ntmps25
    go_wp2
    go_ret2
    exact ⟨ret_kind HK.out, rfl⟩

theorem rkind_18 : Calls Tryd.prog 25 #[.int .i64 18, .int .i64 a, .int .i64 b] w fun e w' => e = .returned (.tuple #[.int .i64 (kindC 6 a b).1, .bool (kindC 6 a b).2]) ∧ w = w' := by
  by_cases h1 : a = 2
  · have t1 : ((a : Int) == 2) = true := by simp; omega
    by_cases h2 : b = 2
    · have t2 : ((b : Int) == 2) = true := by simp; omega
      have HK := Lib.hid (show kindC 6 a b = (2, true) from by unfold kindC; simp [h1, h2])
      clear h1 h2
      go_enter Tryd.func25, Tryd.ntmps25
      go_wp2
      go_ret2
      exact ⟨ret_kind HK.out, rfl⟩
    · have t2 : ((b : Int) == 2) = false := by simp; omega
      have HK := Lib.hid (show kindC 6 a b = (0, false) from by unfold kindC; simp [h1, h2])
      clear h1 h2
      go_enter Tryd.func25, Tryd.ntmps25
      go_wp2
      go_ret2
      exact ⟨ret_kind HK.out, rfl⟩
  · have t1 : ((a : Int) == 2) = false := by simp; omega
    have HK := Lib.hid (show kindC 6 a b = (0, false) from by unfold kindC; simp [h1])
    clear h1
    go_enter Tryd.func25, Tryd.ntmps25
    go_wp2
    go_ret2
    exact ⟨ret_kind HK.out, rfl⟩

theorem rkind_19 : Calls Tryd.prog 25 #[.int .i64 19, .int .i64 a, .int .i64 b] w fun e w' => e = .returned (.tuple #[.int .i64 (kindC 6 a b).1, .bool (kindC 6 a b).2]) ∧ w = w' := by
  by_cases h1 : a = 2
  · have t1 : ((a : Int) == 2) = true := by simp; omega
    by_cases h2 : b = 2
    · have t2 : ((b : Int) == 2) = true := by simp; omega
      have HK := Lib.hid (show kindC 6 a b = (2, true) from by unfold kindC; simp [h1, h2])
      clear h1 h2
      go_enter Tryd.func25, Tryd.ntmps25
      go_wp2
      go_ret2
      exact ⟨ret_kind HK.out, rfl⟩
    · have t2 : ((b : Int) == 2) = false := by simp; omega
      have HK := Lib.hid (show kindC 6 a b = (0, false) from by unfold kindC; simp [h1, h2])
      clear h1 h2
      go_enter Tryd.func25, Tryd.ntmps25
      go_wp2
      go_ret2
      exact ⟨ret_kind HK.out, rfl⟩
  · have t1 : ((a : Int) == 2) = false := by simp; omega
    have HK := Lib.hid (show kindC 6 a b = (0, false) from by unfold kindC; simp [h1])
    clear h1
    go_enter Tryd.func25, Tryd.ntmps25
    go_wp2
    go_ret2
    exact ⟨ret_kind HK.out, rfl⟩

theorem rkind_c : Calls Tryd.prog 25 #[.int .i64 op, .int .i64 a, .int .i64 b] w fun e w' => e = .returned (.tuple #[.int .i64 (kindF op a b).1, .bool (kindF op a b).2]) ∧ w = w' := by
  rcases op_cases op with rfl | rfl | rfl | rfl | rfl | rfl | rfl | rfl | rfl | rfl | rfl | rfl | rfl | rfl | rfl | h
  · exact rkind_5 w a b
  · exact rkind_6 w a b
  · exact rkind_7 w a b
  · exact rkind_8 w a b
  · exact rkind_9 w a b
  · exact rkind_10 w a b
  · exact rkind_11 w a b
  · exact rkind_12 w a b
  · exact rkind_13 w a b
  · exact rkind_14 w a b
  · exact rkind_15 w a b
  · exact rkind_16 w a b
  · exact rkind_17 w a b
  · exact rkind_18 w a b
  · exact rkind_19 w a b
  · have HK := Lib.hid (show kindF op a b = (0, false) from by unfold kindF; rw [class_other op h]; simp [kindC])
    have t5 : ((op : Int) == 5) = false := by simp; omega
    have t6 : ((op : Int) == 6) = false := by simp; omega
    have t7 : ((op : Int) == 7) = false := by simp; omega
    have t8 : ((op : Int) == 8) = false := by simp; omega
    have t9 : ((op : Int) == 9) = false := by simp; omega
    have t10 : ((op : Int) == 10) = false := by simp; omega
    have t11 : ((op : Int) == 11) = false := by simp; omega
    have t12 : ((op : Int) == 12) = false := by simp; omega
    have t13 : ((op : Int) == 13) = false := by simp; omega
    have t14 : ((op : Int) == 14) = false := by simp; omega
    have t15 : ((op : Int) == 15) = false := by simp; omega
    have t16 : ((op : Int) == 16) = false := by simp; omega
    have t17 : ((op : Int) == 17) = false := by simp; omega
    have t18 : ((op : Int) == 18) = false := by simp; omega
    have t19 : ((op : Int) == 19) = false := by simp; omega
    clear h
    go_enter Tryd.func25, Tryd.ntmps25
    go_wp2
    go_ret2
    exact ⟨ret_kind HK.out, rfl⟩
end
end Go.Proofs.YtjablobdiglnpaaDoor