/- Names that are no keywords: lexer.Name, expr.Keyword, shape.Name, and the reference's. -/
import Derived.Test.YthkkoippagocpaaGreatDoorSp
import Derived.Test.YthkkoippagocpaaGreatDoorLb

namespace Go.Proofs.YthkkoippagocpaaGreatDoor
open Go.RowKit
set_option linter.unusedVariables false

theorem runN_all (p : UInt8 → Bool) (l : List UInt8) : (runN p l = l.length ↔ l.all p = true) := by
  induction l with
  | nil => simp [runN]
  | cons c r ih =>
    rw [List.all_cons]
    by_cases h : p c = true
    · rw [runN_yes h, h, Bool.true_and, ← ih]; simp
    · rw [runN_no h]; simp at h; rw [h]; simp
theorem eq_nat (a b : Nat) : ((a : Int) == (b : Int)) = decide (a = b) := by
  by_cases h : a = b
  · simp [h]
  · simp only [h, decide_false, beq_eq_false_iff_ne, ne_eq]; omega
theorem plainB_all (c : UInt8) (r : List UInt8) (h : letB c = true) : plainB (c :: r) = decide (runN nameB (c :: r) = (c :: r).length) := by
  have hn : nameB c = true := by unfold nameB; rw [h]; rfl
  have := runN_all nameB (c :: r)
  show (letB c && r.all nameB) = _
  rw [h, Bool.true_and, Bool.eq_iff_iff, decide_eq_true_iff, this, List.all_cons, hn, Bool.true_and]

set_option maxRecDepth 100000 in
theorem lname_c (w : World) (s : ByteArray) (hs : s.size ≤ 9223372036854775807) : Calls Tryz.prog 36 #[.string s] w fun e w' => e = .returned (.bool (plainB s.data.toList)) ∧ w = w' := by
  by_cases h0 : s.size = 0
  · have hl : s.data.toList = [] := List.eq_nil_of_length_eq_zero (by rw [size_list]; exact h0)
    have HE := Lib.hid (show plainB s.data.toList = false from by rw [hl]; rfl)
    have he : s.toList.isEmpty = true := by rw [toList_data, hl]; rfl
    have he' : s.toList = [] := by rw [toList_data, hl]
    clear hl h0
    go_enter Tryz.func36, Tryz.ntmps36
    go_wp2_with fail
    go_ret
    exact ⟨by rw [HE.out]; rfl, rfl⟩
  · have hp : 0 < s.size := by omega
    have hd := drop_next s 0 hp
    simp only [List.drop_zero] at hd
    have hne : s.toList.isEmpty = false := by rw [toList_data, hd]; rfl
    have HD := Lib.hid hd
    have HL := fun w => letter_c w s[0]
    have HR := Lib.hid (fun w => run_name w s hs)
    by_cases hb : letB s[0] = true
    · rw [hb] at HL
      have HLL := Lib.hid HL
      have HP := Lib.hid (show plainB s.data.toList = decide (runN nameB s.data.toList = s.size) from by
        rw [HD.out, plainB_all _ _ hb, ← HD.out, size_list])
      have hq := eq_nat (runN nameB s.data.toList) s.size
      clear hd HL hb h0
      by_cases hr : runN nameB s.data.toList = s.size
      all_goals
        rw [show decide (runN nameB s.data.toList = s.size) = _ from by first | exact decide_eq_true hr | exact decide_eq_false hr] at hq
        have HRR := Lib.hid hr
        clear hr
        go_enter Tryz.func36, Tryz.ntmps36
        go_wp2_with (first
          | (go_at_call 48; refine (HLL.out _).mono ?_; rintro e w' ⟨rfl, rfl⟩)
          | (go_at_call 49; refine (HR.out _).mono ?_; rintro e w' ⟨rfl, rfl⟩))
        go_ret
        exact ⟨by rw [HP.out]; simp [HRR.out], rfl⟩
    · rw [Bool.not_eq_true] at hb
      rw [hb] at HL
      have HLL := Lib.hid HL
      have HP := Lib.hid (show plainB s.data.toList = false from by rw [HD.out]; show (letB s[0] && _) = _; rw [hb]; rfl)
      clear hd HL hb h0
      go_enter Tryz.func36, Tryz.ntmps36
      go_wp2_with (first
          | (go_at_call 48; refine (HLL.out _).mono ?_; rintro e w' ⟨rfl, rfl⟩)
          | (go_at_call 49; refine (HR.out _).mono ?_; rintro e w' ⟨rfl, rfl⟩))
      go_ret
      exact ⟨by rw [HP.out]; rfl, rfl⟩

def kwL : List (List UInt8) := [[97, 110, 100], [111, 114], [110, 111, 116], [116, 114, 117, 101], [102, 97, 108, 115, 101], [99, 111, 117, 110, 116], [110, 117, 109, 98, 101, 114]]
theorem keyB_any (l : List UInt8) : keyB l = kwL.any (fun x => l == x) := by simp [keyB, kwL, Bool.or_assoc]
set_option maxRecDepth 100000 in
theorem key_c (w : World) (s : ByteArray) : Calls Tryz.prog 37 #[.string s] w fun e w' => e = .returned (.bool (keyB s.data.toList)) ∧ w = w' := by
  obtain ⟨b0, h0⟩ : ∃ b, (s.toList == [97, 110, 100]) = b := ⟨_, rfl⟩
  obtain ⟨b1, h1⟩ : ∃ b, (s.toList == [111, 114]) = b := ⟨_, rfl⟩
  obtain ⟨b2, h2⟩ : ∃ b, (s.toList == [110, 111, 116]) = b := ⟨_, rfl⟩
  obtain ⟨b3, h3⟩ : ∃ b, (s.toList == [116, 114, 117, 101]) = b := ⟨_, rfl⟩
  obtain ⟨b4, h4⟩ : ∃ b, (s.toList == [102, 97, 108, 115, 101]) = b := ⟨_, rfl⟩
  obtain ⟨b5, h5⟩ : ∃ b, (s.toList == [99, 111, 117, 110, 116]) = b := ⟨_, rfl⟩
  obtain ⟨b6, h6⟩ : ∃ b, (s.toList == [110, 117, 109, 98, 101, 114]) = b := ⟨_, rfl⟩
  have HK := Lib.hid (show keyB s.data.toList = (b0 || b1 || b2 || b3 || b4 || b5 || b6) from by rw [← toList_data, ← h0, ← h1, ← h2, ← h3, ← h4, ← h5, ← h6]; rfl)
  cases b0 with
  | true =>
    clear h1 h2 h3 h4 h5 h6
    go_enter Tryz.func37, Tryz.ntmps37
    go_wp2_with fail
    go_ret
    exact ⟨by rw [HK.out]; simp, rfl⟩
  | false =>
    cases b1 with
    | true =>
      clear h2 h3 h4 h5 h6
      go_enter Tryz.func37, Tryz.ntmps37
      go_wp2_with fail
      go_ret
      exact ⟨by rw [HK.out]; simp, rfl⟩
    | false =>
      cases b2 with
      | true =>
        clear h3 h4 h5 h6
        go_enter Tryz.func37, Tryz.ntmps37
        go_wp2_with fail
        go_ret
        exact ⟨by rw [HK.out]; simp, rfl⟩
      | false =>
        cases b3 with
        | true =>
          clear h4 h5 h6
          go_enter Tryz.func37, Tryz.ntmps37
          go_wp2_with fail
          go_ret
          exact ⟨by rw [HK.out]; simp, rfl⟩
        | false =>
          cases b4 with
          | true =>
            clear h5 h6
            go_enter Tryz.func37, Tryz.ntmps37
            go_wp2_with fail
            go_ret
            exact ⟨by rw [HK.out]; simp, rfl⟩
          | false =>
            cases b5 with
            | true =>
              clear h6
              go_enter Tryz.func37, Tryz.ntmps37
              go_wp2_with fail
              go_ret
              exact ⟨by rw [HK.out]; simp, rfl⟩
            | false =>
              cases b6 with
              | true =>
                go_enter Tryz.func37, Tryz.ntmps37
                go_wp2_with fail
                go_ret
                exact ⟨by rw [HK.out]; simp, rfl⟩
              | false =>
                go_enter Tryz.func37, Tryz.ntmps37
                go_wp2_with fail
                go_ret
                exact ⟨by rw [HK.out]; rfl, rfl⟩

set_option maxRecDepth 100000 in
theorem sname_c (w : World) (s : ByteArray) (hs : s.size ≤ 9223372036854775807) : Calls Tryz.prog 24 #[.string s] w fun e w' => e = .returned (.bool (nameOk s.data.toList)) ∧ w = w' := by
  have HN := fun w => lname_c w s hs
  have HK := fun w => key_c w s
  obtain ⟨p, hp⟩ : ∃ p, plainB s.data.toList = p := ⟨_, rfl⟩
  obtain ⟨q, hq⟩ : ∃ q, keyB s.data.toList = q := ⟨_, rfl⟩
  have HO := Lib.hid (show nameOk s.data.toList = (decide (s.size ≤ 64) && (p && !q)) from by unfold nameOk; rw [hp, hq, size_list])
  rw [hp] at HN
  rw [hq] at HK
  have HN' := Lib.hid HN
  have HK' := Lib.hid HK
  clear hp hq HN HK
  by_cases h : s.size ≤ 64
  · have hd : decide ((s.size : Int) ≤ 64) = true := by simp; omega
    cases p <;> cases q
    all_goals
      go_enter Tryz.func24, Tryz.ntmps24
      go_wp2_with (first
        | (go_at_call 36; refine (HN'.out _).mono ?_; rintro e w' ⟨rfl, rfl⟩)
        | (go_at_call 37; refine (HK'.out _).mono ?_; rintro e w' ⟨rfl, rfl⟩))
      go_ret
      exact ⟨by rw [HO.out]; simp; try omega, rfl⟩
  · have hd : decide ((s.size : Int) ≤ 64) = false := by simp; omega
    go_enter Tryz.func24, Tryz.ntmps24
    go_wp2_with (first
      | (go_at_call 36; refine (HN'.out _).mono ?_; rintro e w' ⟨rfl, rfl⟩)
      | (go_at_call 37; refine (HK'.out _).mono ?_; rintro e w' ⟨rfl, rfl⟩))
    go_ret
    exact ⟨by rw [HO.out]; simp; try omega, rfl⟩
end Go.Proofs.YthkkoippagocpaaGreatDoor
