/- value: class, Kind; the reference's Kind. -/
import Derived.Test.YtjablobdiglnpaaDoorRows
import Derived.OpenShut
import Derived.Outline
import Derived.Lib.Hide
import Derived.WalkLawsBesides
import Derived.WalkSpells
namespace Go.Proofs.YtjablobdiglnpaaDoor
open Go.RowKit
set_option linter.unusedVariables false

/-- The class of an operator. -/
def classF (op : Int) : Int :=
  if op = 5 then 1 else if op = 6 then 2 else if 7 ≤ op ∧ op ≤ 11 then 3 else if 12 ≤ op ∧ op ≤ 15 then 4 else if op = 16 ∨ op = 17 then 5 else if op = 18 ∨ op = 19 then 6 else 0
/-- An operator's kind, of kinds. -/
def kindC (c a b : Int) : Int × Bool :=
  if c = 1 then (if a = 2 ∧ b = 0 then (2, true) else (0, false))
  else if c = 2 then (if a = 1 ∧ b = 0 then (1, true) else (0, false))
  else if c = 3 then (if a = 1 ∧ b = 1 then (1, true) else (0, false))
  else if c = 4 then (if a = b ∧ (a = 1 ∨ a = 3) then (2, true) else (0, false))
  else if c = 5 then (if a = b ∧ (a = 1 ∨ a = 2 ∨ a = 3) then (2, true) else (0, false))
  else if c = 6 then (if a = 2 ∧ b = 2 then (2, true) else (0, false))
  else (0, false)
def kindF (op a b : Int) : Int × Bool := kindC (classF op) a b

theorem class_other (op : Int) (h : op < 5 ∨ 19 < op) : classF op = 0 := by unfold classF; rw [if_neg (by omega), if_neg (by omega), if_neg (by omega), if_neg (by omega), if_neg (by omega), if_neg (by omega)]
theorem class_in (op : Int) : classF op = 0 ∨ classF op = 1 ∨ classF op = 2 ∨ classF op = 3 ∨ classF op = 4 ∨ classF op = 5 ∨ classF op = 6 := by 
  unfold classF
  repeat' split
  all_goals simp
theorem op_cases (op : Int) : op = 5 ∨ op = 6 ∨ op = 7 ∨ op = 8 ∨ op = 9 ∨ op = 10 ∨ op = 11 ∨ op = 12 ∨ op = 13 ∨ op = 14 ∨ op = 15 ∨ op = 16 ∨ op = 17 ∨ op = 18 ∨ op = 19 ∨ (op < 5 ∨ 19 < op) := by omega

theorem class_c (w : World) (op : Int) : Calls Tryd.prog 38 #[.int .i64 op] w fun e w' => e = .returned (.int .i64 (classF op)) ∧ w = w' := by
  rcases op_cases op with rfl | rfl | rfl | rfl | rfl | rfl | rfl | rfl | rfl | rfl | rfl | rfl | rfl | rfl | rfl | h
  iterate 15
    · go_enter Tryd.func38, Tryd.ntmps38
      go_wp2
      go_ret
      exact ⟨rfl, rfl⟩
  · have HC := Lib.hid (class_other op h)
    have t5 : ((op : Int) == 5) = false := by simp; omega
    have t6 : ((op : Int) == 6) = false := by simp; omega
    have t7 : ((op : Int) == 7) = false := by simp; omega
    have t8 : ((op : Int) == 8) = false := by simp; omega
    have t9 : ((op : Int) == 9) = false := by simp; omega
    have t10 : ((op : Int) == 10) = false := by simp; omega
    have t11 : ((op : Int) == 11) = false := by simp; omega
    have t12 : ((op : Int) == 12) = false := by simp; omega
    have t13 : ((op : Int) == 13) = false := by simp; omega
    have t14 : ((op : Int) == 14) = false := by simp; omega
    have t15 : ((op : Int) == 15) = false := by simp; omega
    have t16 : ((op : Int) == 16) = false := by simp; omega
    have t17 : ((op : Int) == 17) = false := by simp; omega
    have t18 : ((op : Int) == 18) = false := by simp; omega
    have t19 : ((op : Int) == 19) = false := by simp; omega
    clear h
    go_enter Tryd.func38, Tryd.ntmps38
    go_wp2
    go_ret
    exact ⟨by rw [HC.out]; rfl, rfl⟩

theorem ret_kind {x : Int} {y : Bool} {p : Int × Bool} (h : p = (x, y)) : Ending.returned (.tuple #[.int .i64 x, .bool y]) = Ending.returned (.tuple #[.int .i64 p.1, .bool p.2]) := by rw [h]

section
variable (w : World) (op a b : Int)

theorem kind_0 (hc : classF op = 0) : Calls Tryd.prog 24 #[.int .i64 op, .int .i64 a, .int .i64 b] w fun e w' => e = .returned (.tuple #[.int .i64 (kindC 0 a b).1, .bool (kindC 0 a b).2]) ∧ w = w' := by
  have HC := Lib.hid (class_c w op)
  rw [hc] at HC
  clear hc
  have HK := Lib.hid (show kindC 0 a b = (0, false) from by simp [kindC])
  go_enter Tryd.func24, Tryd.ntmps24
  go_wp2_with (go_at_call 38; refine HC.out.mono ?_; rintro e w' ⟨rfl, rfl⟩)
  go_ret2
  exact ⟨ret_kind HK.out, rfl⟩

theorem kind_1 (hc : classF op = 1) : Calls Tryd.prog 24 #[.int .i64 op, .int .i64 a, .int .i64 b] w fun e w' => e = .returned (.tuple #[.int .i64 (kindC 1 a b).1, .bool (kindC 1 a b).2]) ∧ w = w' := by
  have HC := Lib.hid (class_c w op)
  rw [hc] at HC
  clear hc
  by_cases h1 : a = 2
  · have t1 : ((a : Int) == 2) = true := by simp; omega
    by_cases h2 : b = 0
    · have t2 : ((b : Int) == 0) = true := by simp; omega
      have HK := Lib.hid (show kindC 1 a b = (2, true) from by unfold kindC; simp [h1, h2])
      clear h1 h2
      go_enter Tryd.func24, Tryd.ntmps24
      go_wp2_with (go_at_call 38; refine HC.out.mono ?_; rintro e w' ⟨rfl, rfl⟩)
      go_ret2
      exact ⟨ret_kind HK.out, rfl⟩
    · have t2 : ((b : Int) == 0) = false := by simp; omega
      have HK := Lib.hid (show kindC 1 a b = (0, false) from by unfold kindC; simp [h1, h2])
      clear h1 h2
      go_enter Tryd.func24, Tryd.ntmps24
      go_wp2_with (go_at_call 38; refine HC.out.mono ?_; rintro e w' ⟨rfl, rfl⟩)
      go_ret2
      exact ⟨ret_kind HK.out, rfl⟩
  · have t1 : ((a : Int) == 2) = false := by simp; omega
    have HK := Lib.hid (show kindC 1 a b = (0, false) from by unfold kindC; simp [h1])
    clear h1
    go_enter Tryd.func24, Tryd.ntmps24
    go_wp2_with (go_at_call 38; refine HC.out.mono ?_; rintro e w' ⟨rfl, rfl⟩)
    go_ret2
    exact ⟨ret_kind HK.out, rfl⟩

theorem kind_2 (hc : classF op = 2) : Calls Tryd.prog 24 #[.int .i64 op, .int .i64 a, .int .i64 b] w fun e w' => e = .returned (.tuple #[.int .i64 (kindC 2 a b).1, .bool (kindC 2 a b).2]) ∧ w = w' := by
  have HC := Lib.hid (class_c w op)
  rw [hc] at HC
  clear hc
  by_cases h1 : a = 1
  · have t1 : ((a : Int) == 1) = true := by simp; omega
    by_cases h2 : b = 0
    · have t2 : ((b : Int) == 0) = true := by simp; omega
      have HK := Lib.hid (show kindC 2 a b = (1, true) from by unfold kindC; simp [h1, h2])
      clear h1 h2
      go_enter Tryd.func24, Tryd.ntmps24
      go_wp2_with (go_at_call 38; refine HC.out.mono ?_; rintro e w' ⟨rfl, rfl⟩)
      go_ret2
      exact ⟨ret_kind HK.out, rfl⟩
    · have t2 : ((b : Int) == 0) = false := by simp; omega
      have HK := Lib.hid (show kindC 2 a b = (0, false) from by unfold kindC; simp [h1, h2])
      clear h1 h2
      go_enter Tryd.func24, Tryd.ntmps24
      go_wp2_with (go_at_call 38; refine HC.out.mono ?_; rintro e w' ⟨rfl, rfl⟩)
      go_ret2
      exact ⟨ret_kind HK.out, rfl⟩
  · have t1 : ((a : Int) == 1) = false := by simp; omega
    have HK := Lib.hid (show kindC 2 a b = (0, false) from by unfold kindC; simp [h1])
    clear h1
    go_enter Tryd.func24, Tryd.ntmps24
    go_wp2_with (go_at_call 38; refine HC.out.mono ?_; rintro e w' ⟨rfl, rfl⟩)
    go_ret2
    exact ⟨ret_kind HK.out, rfl⟩

theorem kind_3 (hc : classF op = 3) : Calls Tryd.prog 24 #[.int .i64 op, .int .i64 a, .int .i64 b] w fun e w' => e = .returned (.tuple #[.int .i64 (kindC 3 a b).1, .bool (kindC 3 a b).2]) ∧ w = w' := by
  have HC := Lib.hid (class_c w op)
  rw [hc] at HC
  clear hc
  by_cases h1 : a = 1
  · have t1 : ((a : Int) == 1) = true := by simp; omega
    by_cases h2 : b = 1
    · have t2 : ((b : Int) == 1) = true := by simp; omega
      have HK := Lib.hid (show kindC 3 a b = (1, true) from by unfold kindC; simp [h1, h2])
      clear h1 h2
      go_enter Tryd.func24, Tryd.ntmps24
      go_wp2_with (go_at_call 38; refine HC.out.mono ?_; rintro e w' ⟨rfl, rfl⟩)
      go_ret2
      exact ⟨ret_kind HK.out, rfl⟩
    · have t2 : ((b : Int) == 1) = false := by simp; omega
      have HK := Lib.hid (show kindC 3 a b = (0, false) from by unfold kindC; simp [h1, h2])
      clear h1 h2
      go_enter Tryd.func24, Tryd.ntmps24
      go_wp2_with (go_at_call 38; refine HC.out.mono ?_; rintro e w' ⟨rfl, rfl⟩)
      go_ret2
      exact ⟨ret_kind HK.out, rfl⟩
  · have t1 : ((a : Int) == 1) = false := by simp; omega
    have HK := Lib.hid (show kindC 3 a b = (0, false) from by unfold kindC; simp [h1])
    clear h1
    go_enter Tryd.func24, Tryd.ntmps24
    go_wp2_with (go_at_call 38; refine HC.out.mono ?_; rintro e w' ⟨rfl, rfl⟩)
    go_ret2
    exact ⟨ret_kind HK.out, rfl⟩

theorem kind_4 (hc : classF op = 4) : Calls Tryd.prog 24 #[.int .i64 op, .int .i64 a, .int .i64 b] w fun e w' => e = .returned (.tuple #[.int .i64 (kindC 4 a b).1, .bool (kindC 4 a b).2]) ∧ w = w' := by
  have HC := Lib.hid (class_c w op)
  rw [hc] at HC
  clear hc
  by_cases h1 : a = b
  · have t1 : ((a : Int) == b) = true := by simp; omega
    subst h1
    rcases (by omega : a = 1 ∨ a = 3 ∨ (a ≠ 1 ∧ a ≠ 3)) with rfl | rfl | h2
    · have HK := Lib.hid (show kindC 4 1 1 = (2, true) from by decide)
      go_enter Tryd.func24, Tryd.ntmps24
      go_wp2_with (go_at_call 38; refine HC.out.mono ?_; rintro e w' ⟨rfl, rfl⟩)
      go_ret2
      exact ⟨ret_kind HK.out, rfl⟩
    · have HK := Lib.hid (show kindC 4 3 3 = (2, true) from by decide)
      go_enter Tryd.func24, Tryd.ntmps24
      go_wp2_with (go_at_call 38; refine HC.out.mono ?_; rintro e w' ⟨rfl, rfl⟩)
      go_ret2
      exact ⟨ret_kind HK.out, rfl⟩
    · have HK := Lib.hid (show kindC 4 a a = (0, false) from by unfold kindC; simp [h2])
      have u1 : ((a : Int) == 1) = false := by simp; omega
      have u3 : ((a : Int) == 3) = false := by simp; omega
      clear h2
      go_enter Tryd.func24, Tryd.ntmps24
      go_wp2_with (go_at_call 38; refine HC.out.mono ?_; rintro e w' ⟨rfl, rfl⟩)
      go_ret2
      exact ⟨ret_kind HK.out, rfl⟩
  · have t1 : ((a : Int) == b) = false := by simp; omega
    have HK := Lib.hid (show kindC 4 a b = (0, false) from by unfold kindC; simp [h1])
    clear h1
    go_enter Tryd.func24, Tryd.ntmps24
    go_wp2_with (go_at_call 38; refine HC.out.mono ?_; rintro e w' ⟨rfl, rfl⟩)
    go_ret2
    exact ⟨ret_kind HK.out, rfl⟩

theorem kind_5 (hc : classF op = 5) : Calls Tryd.prog 24 #[.int .i64 op, .int .i64 a, .int .i64 b] w fun e w' => e = .returned (.tuple #[.int .i64 (kindC 5 a b).1, .bool (kindC 5 a b).2]) ∧ w = w' := by
  have HC := Lib.hid (class_c w op)
  rw [hc] at HC
  clear hc
  by_cases h1 : a = b
  · have t1 : ((a : Int) == b) = true := by simp; omega
    subst h1
    rcases (by omega : a = 1 ∨ a = 2 ∨ a = 3 ∨ (a ≠ 1 ∧ a ≠ 2 ∧ a ≠ 3)) with rfl | rfl | rfl | h2
    · have HK := Lib.hid (show kindC 5 1 1 = (2, true) from by decide)
      go_enter Tryd.func24, Tryd.ntmps24
      go_wp2_with (go_at_call 38; refine HC.out.mono ?_; rintro e w' ⟨rfl, rfl⟩)
      go_ret2
      exact ⟨ret_kind HK.out, rfl⟩
    · have HK := Lib.hid (show kindC 5 2 2 = (2, true) from by decide)
      go_enter Tryd.func24, Tryd.ntmps24
      go_wp2_with (go_at_call 38; refine HC.out.mono ?_; rintro e w' ⟨rfl, rfl⟩)
      go_ret2
      exact ⟨ret_kind HK.out, rfl⟩
    · have HK := Lib.hid (show kindC 5 3 3 = (2, true) from by decide)
      go_enter Tryd.func24, Tryd.ntmps24
      go_wp2_with (go_at_call 38; refine HC.out.mono ?_; rintro e w' ⟨rfl, rfl⟩)
      go_ret2
      exact ⟨ret_kind HK.out, rfl⟩
    · have HK := Lib.hid (show kindC 5 a a = (0, false) from by unfold kindC; simp [h2])
      have u1 : ((a : Int) == 1) = false := by simp; omega
      have u2 : ((a : Int) == 2) = false := by simp; omega
      have u3 : ((a : Int) == 3) = false := by simp; omega
      clear h2
      go_enter Tryd.func24, Tryd.ntmps24
      go_wp2_with (go_at_call 38; refine HC.out.mono ?_; rintro e w' ⟨rfl, rfl⟩)
      go_ret2
      exact ⟨ret_kind HK.out, rfl⟩
  · have t1 : ((a : Int) == b) = false := by simp; omega
    have HK := Lib.hid (show kindC 5 a b = (0, false) from by unfold kindC; simp [h1])
    clear h1
    go_enter Tryd.func24, Tryd.ntmps24
    go_wp2_with (go_at_call 38; refine HC.out.mono ?_; rintro e w' ⟨rfl, rfl⟩)
    go_ret2
    exact ⟨ret_kind HK.out, rfl⟩

theorem kind_6 (hc : classF op = 6) : Calls Tryd.prog 24 #[.int .i64 op, .int .i64 a, .int .i64 b] w fun e w' => e = .returned (.tuple #[.int .i64 (kindC 6 a b).1, .bool (kindC 6 a b).2]) ∧ w = w' := by
  have HC := Lib.hid (class_c w op)
  rw [hc] at HC
  clear hc
  by_cases h1 : a = 2
  · have t1 : ((a : Int) == 2) = true := by simp; omega
    by_cases h2 : b = 2
    · have t2 : ((b : Int) == 2) = true := by simp; omega
      have HK := Lib.hid (show kindC 6 a b = (2, true) from by unfold kindC; simp [h1, h2])
      clear h1 h2
      go_enter Tryd.func24, Tryd.ntmps24
      go_wp2_with (go_at_call 38; refine HC.out.mono ?_; rintro e w' ⟨rfl, rfl⟩)
      go_ret2
      exact ⟨ret_kind HK.out, rfl⟩
    · have t2 : ((b : Int) == 2) = false := by simp; omega
      have HK := Lib.hid (show kindC 6 a b = (0, false) from by unfold kindC; simp [h1, h2])
      clear h1 h2
      go_enter Tryd.func24, Tryd.ntmps24
      go_wp2_with (go_at_call 38; refine HC.out.mono ?_; rintro e w' ⟨rfl, rfl⟩)
      go_ret2
      exact ⟨ret_kind HK.out, rfl⟩
  · have t1 : ((a : Int) == 2) = false := by simp; omega
    have HK := Lib.hid (show kindC 6 a b = (0, false) from by unfold kindC; simp [h1])
    clear h1
    go_enter Tryd.func24, Tryd.ntmps24
    go_wp2_with (go_at_call 38; refine HC.out.mono ?_; rintro e w' ⟨rfl, rfl⟩)
    go_ret2
    exact ⟨ret_kind HK.out, rfl⟩

theorem kind_c : Calls Tryd.prog 24 #[.int .i64 op, .int .i64 a, .int .i64 b] w fun e w' => e = .returned (.tuple #[.int .i64 (kindF op a b).1, .bool (kindF op a b).2]) ∧ w = w' := by
  unfold kindF
  rcases class_in op with h | h | h | h | h | h | h
  all_goals rw [h]
  · exact kind_0 w op a b h
  · exact kind_1 w op a b h
  · exact kind_2 w op a b h
  · exact kind_3 w op a b h
  · exact kind_4 w op a b h
  · exact kind_5 w op a b h
  · exact kind_6 w op a b h
end

end Go.Proofs.YtjablobdiglnpaaDoor