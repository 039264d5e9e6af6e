/- model: which events a kind has, both sides. -/
import Derived.Test.YthkkoippagocpaaGreatDoorMo
namespace Go.Proofs.YthkkoippagocpaaGreatDoor
open Go Go.RowKit Go.Shelf
set_option linter.unusedVariables false
set_option linter.unusedSimpArgs false

def occB (n : Int) : Bool := decide (n = 1 ∨ n = 10 ∨ n = 11 ∨ n = 12 ∨ n = 14 ∨ n = 15 ∨ n = 16 ∨ n = 17)
def taskB (k : Int) : Bool := decide (1 ≤ k) && decide (k ≤ 4)
def evOk (k n : Int) : Bool := if k = 0 ∨ taskB k = true then decide (1 ≤ n) && decide (n ≤ 16) else if 5 ≤ k ∧ k ≤ 7 then occB n else false
def fileB (n : Int) : Bool := decide (n = 1) || (decide (21 ≤ n) && decide (n ≤ 27))
theorem ret_bool {a b : Bool} (h : a = b) : Ending.returned (.bool a) = .returned (.bool b) := by rw [h]
theorem occB_cases (n : Int) : (occB n = true ∧ (n = 1 ∨ n = 10 ∨ n = 11 ∨ n = 12 ∨ n = 14 ∨ n = 15 ∨ n = 16 ∨ n = 17)) ∨ (occB n = false ∧ (n == 1) = false ∧ (n == 10) = false ∧ (n == 11) = false ∧ (n == 12) = false ∧ (n == 14) = false ∧ (n == 15) = false ∧ (n == 16) = false ∧ (n == 17) = false) := by
  by_cases h : n = 1 ∨ n = 10 ∨ n = 11 ∨ n = 12 ∨ n = 14 ∨ n = 15 ∨ n = 16 ∨ n = 17
  · exact .inl ⟨decide_eq_true h, h⟩
  · refine .inr ⟨decide_eq_false h, ?_, ?_, ?_, ?_, ?_, ?_, ?_, ?_⟩ <;> rw [beq_eq_false_iff_ne] <;> omega

set_option maxRecDepth 100000 in
theorem occ_c (w : World) (n : Int) : Calls Tryz.prog 17 #[.int .i64 n] w fun e w' => e = .returned (.bool (occB n)) ∧ w = w' := by
  rcases occB_cases n with ⟨h, hn⟩ | ⟨h, h1, h2, h3, h4, h5, h6, h7, h8⟩
  · rcases hn with rfl | rfl | rfl | rfl | rfl | rfl | rfl | rfl
    all_goals
      clear h
      go_enter Tryz.func17, Tryz.ntmps17
      go_wp2_with fail
      go_ret
      exact ⟨by rfl, rfl⟩
  · have H := Lib.hid h
    clear h
    go_enter Tryz.func17, Tryz.ntmps17
    go_wp2_with fail
    go_ret
    exact ⟨by rw [H.out]; rfl, rfl⟩
theorem task_c (w : World) (k : Int) : Calls Tryz.prog 12 #[.int .i64 k] w fun e w' => e = .returned (.bool (taskB k)) ∧ w = w' := by
  have HB := Lib.hid (betweenM_c w 1 k 4)
  obtain ⟨q, hq⟩ : ∃ q, taskB k = q := ⟨_, rfl⟩
  rw [show (decide ((1 : Int) ≤ k) && decide (k ≤ 4)) = q from hq] at HB
  rw [hq]
  clear hq
  go_enter Tryz.func12, Tryz.ntmps12
  go_wp2_with (go_at_call 16; refine HB.out.mono ?_; rintro e w' ⟨rfl, rfl⟩)
  go_ret
  exact ⟨rfl, rfl⟩
theorem rtask_c (w : World) (k : Int) : Calls Tryz.prog 13 #[.int .i64 k] w fun e w' => e = .returned (.bool (taskB k)) ∧ w = w' := by
  by_cases h : 1 ≤ k
  · have h1 : decide (1 ≤ k) = true := decide_eq_true h
    have HE := Lib.hid (show taskB k = decide (k ≤ 4) from by unfold taskB; rw [h1]; rfl)
    go_enter Tryz.func13, Tryz.ntmps13
    go_wp2_with fail
    go_ret
    exact ⟨by rw [HE.out]; rfl, rfl⟩
  · have h1 : decide (1 ≤ k) = false := decide_eq_false h
    have HE := Lib.hid (show taskB k = false from by unfold taskB; rw [h1]; rfl)
    go_enter Tryz.func13, Tryz.ntmps13
    go_wp2_with fail
    go_ret
    exact ⟨by rw [HE.out]; rfl, rfl⟩
theorem fileEvent_c (w : World) (n : Int) : Calls Tryz.prog 10 #[.int .i64 n] w fun e w' => e = .returned (.bool (fileB n)) ∧ w = w' := by
  by_cases h : n = 1
  · subst h
    go_enter Tryz.func10, Tryz.ntmps10
    go_wp2_with fail
    go_ret
    exact ⟨by rfl, rfl⟩
  · have h1 : (n == 1) = false := by rw [beq_eq_false_iff_ne]; exact h
    have HB := Lib.hid (betweenM_c w 21 n 27)
    have HE := Lib.hid (show fileB n = (decide ((21 : Int) ≤ n) && decide (n ≤ 27)) from by unfold fileB; rw [decide_eq_false h]; rfl)
    rw [← HE.out] at HB
    obtain ⟨q, hq⟩ : ∃ q, fileB n = q := ⟨_, rfl⟩
    rw [hq] at HB ⊢
    clear h hq HE
    go_enter Tryz.func10, Tryz.ntmps10
    go_wp2_with (go_at_call 16; refine HB.out.mono ?_; rintro e w' ⟨rfl, rfl⟩)
    go_ret
    exact ⟨rfl, rfl⟩
theorem rfileEvent_c (w : World) (n : Int) : Calls Tryz.prog 11 #[.int .i64 n] w fun e w' => e = .returned (.bool (fileB n)) ∧ w = w' := by
  by_cases h : n = 1
  · subst h
    go_enter Tryz.func11, Tryz.ntmps11
    go_wp2_with fail
    go_ret
    exact ⟨by rfl, rfl⟩
  · have h1 : (n == 1) = false := by rw [beq_eq_false_iff_ne]; exact h
    by_cases h2 : 21 ≤ n
    · have h3 : decide (21 ≤ n) = true := decide_eq_true h2
      have HE := Lib.hid (show fileB n = decide (n ≤ 27) from by unfold fileB; rw [decide_eq_false h, h3]; rfl)
      clear h
      go_enter Tryz.func11, Tryz.ntmps11
      go_wp2_with fail
      go_ret
      exact ⟨by rw [HE.out]; rfl, rfl⟩
    · have h3 : decide (21 ≤ n) = false := decide_eq_false h2
      have HE := Lib.hid (show fileB n = false from by unfold fileB; rw [decide_eq_false h, h3]; rfl)
      clear h
      go_enter Tryz.func11, Tryz.ntmps11
      go_wp2_with fail
      go_ret
      exact ⟨by rw [HE.out]; rfl, rfl⟩
/-- A kind's place. -/
theorem kind_cases (k : Int) : k = 0 ∨ ((k == 0) = false ∧ taskB k = true ∧ k ≠ 0) ∨ ((k == 0) = false ∧ taskB k = false ∧ k ≠ 0 ∧ 5 ≤ k ∧ k ≤ 7) ∨ ((k == 0) = false ∧ taskB k = false ∧ k ≠ 0 ∧ ¬ (5 ≤ k ∧ k ≤ 7)) := by
  by_cases h0 : k = 0
  · exact .inl h0
  · have e : (k == 0) = false := by rw [beq_eq_false_iff_ne]; exact h0
    cases ht : taskB k
    · by_cases h5 : 5 ≤ k ∧ k ≤ 7
      · exact .inr (.inr (.inl ⟨e, rfl, h0, h5⟩))
      · exact .inr (.inr (.inr ⟨e, rfl, h0, h5⟩))
    · exact .inr (.inl ⟨e, rfl, h0⟩)
set_option maxRecDepth 100000 in
theorem events_c (w : World) (k n : Int) : Calls Tryz.prog 8 #[.int .i64 k, .int .i64 n] w fun e w' => e = .returned (.bool (evOk k n)) ∧ w = w' := by
  have HT := Lib.hid (task_c w k)
  have HB := Lib.hid (betweenM_c w 1 n 16)
  have HB5 := Lib.hid (betweenM_c w 5 k 7)
  have HO := Lib.hid (occ_c w n)
  rcases kind_cases k with rfl | ⟨h0, ht, hk⟩ | ⟨h0, ht, hk, h5⟩ | ⟨h0, ht, hk, h5⟩
  · have HE := Lib.hid (show evOk 0 n = (decide ((1 : Int) ≤ n) && decide (n ≤ 16)) from by unfold evOk; rw [if_pos (.inl rfl)])
    rw [HE.out]
    obtain ⟨q, hq⟩ : ∃ q, (decide ((1 : Int) ≤ n) && decide (n ≤ 16)) = q := ⟨_, rfl⟩
    rw [hq] at HB ⊢
    clear hq HE HT HB5 HO
    go_enter Tryz.func8, Tryz.ntmps8
    go_wp2_with (go_at_call 16; refine HB.out.mono ?_; rintro e w' ⟨rfl, rfl⟩)
    go_ret
    exact ⟨rfl, rfl⟩
  · have HE := Lib.hid (show evOk k n = (decide ((1 : Int) ≤ n) && decide (n ≤ 16)) from by unfold evOk; rw [if_pos (.inr ht)])
    rw [HE.out]
    obtain ⟨q, hq⟩ : ∃ q, (decide ((1 : Int) ≤ n) && decide (n ≤ 16)) = q := ⟨_, rfl⟩
    rw [hq] at HB ⊢
    rw [ht] at HT
    clear hq HE HB5 HO ht hk
    go_enter Tryz.func8, Tryz.ntmps8
    go_wp2_with (first
      | (go_at_call 12; refine HT.out.mono ?_; rintro e w' ⟨rfl, rfl⟩)
      | (go_at_call 16; refine HB.out.mono ?_; rintro e w' ⟨rfl, rfl⟩))
    go_ret
    exact ⟨rfl, rfl⟩
  · have HE := Lib.hid (show evOk k n = occB n from by unfold evOk; rw [if_neg (by rw [ht]; simp [hk]), if_pos h5])
    rw [HE.out]
    obtain ⟨q, hq⟩ : ∃ q, occB n = q := ⟨_, rfl⟩
    rw [hq] at HO ⊢
    rw [ht] at HT
    rw [show (decide ((5 : Int) ≤ k) && decide (k ≤ 7)) = true from by simp [h5.1, h5.2]] at HB5
    clear hq HE HB ht hk h5
    go_enter Tryz.func8, Tryz.ntmps8
    go_wp2_with (first
      | (go_at_call 12; refine HT.out.mono ?_; rintro e w' ⟨rfl, rfl⟩)
      | (go_at_call 16; refine HB5.out.mono ?_; rintro e w' ⟨rfl, rfl⟩)
      | (go_at_call 17; refine HO.out.mono ?_; rintro e w' ⟨rfl, rfl⟩))
    go_ret
    exact ⟨rfl, rfl⟩
  · have HE := Lib.hid (show evOk k n = false from by unfold evOk; rw [if_neg (by rw [ht]; simp [hk]), if_neg h5])
    rw [HE.out]
    rw [ht] at HT
    rw [show (decide ((5 : Int) ≤ k) && decide (k ≤ 7)) = false from by simp; omega] at HB5
    clear HE HB ht hk h5 HO
    go_enter Tryz.func8, Tryz.ntmps8
    go_wp2_with (first
      | (go_at_call 12; refine HT.out.mono ?_; rintro e w' ⟨rfl, rfl⟩)
      | (go_at_call 16; refine HB5.out.mono ?_; rintro e w' ⟨rfl, rfl⟩))
    go_ret
    exact ⟨rfl, rfl⟩
theorem works_c (w : World) (k : Int) : Calls Tryz.prog 18 #[.int .i64 k] w fun e w' => e = .returned (.bool (decide (k = 0) || taskB k)) ∧ w = w' := by
  by_cases h : k = 0
  · subst h
    go_enter Tryz.func18, Tryz.ntmps18
    go_wp2_with fail
    go_ret
    exact ⟨by rfl, rfl⟩
  · have h1 : (k == 0) = false := by rw [beq_eq_false_iff_ne]; exact h
    have HT := Lib.hid (rtask_c w k)
    rw [show (decide (k = 0) || taskB k) = taskB k from by rw [decide_eq_false h]; rfl]
    obtain ⟨q, hq⟩ : ∃ q, taskB k = q := ⟨_, rfl⟩
    rw [hq] at HT ⊢
    clear h hq
    go_enter Tryz.func18, Tryz.ntmps18
    go_wp2_with (go_at_call 13; refine HT.out.mono ?_; rintro e w' ⟨rfl, rfl⟩)
    go_ret
    exact ⟨rfl, rfl⟩
set_option maxRecDepth 100000 in
set_option maxHeartbeats 1000000 in
theorem revents_c (w : World) (k n : Int) : Calls Tryz.prog 9 #[.int .i64 k, .int .i64 n] w fun e w' => e = .returned (.bool (evOk k n)) ∧ w = w' := by
  have HW := Lib.hid (works_c w k)
  by_cases hw : k = 0 ∨ taskB k = true
  · rw [show (decide (k = 0) || taskB k) = true from by rcases hw with h | h <;> simp [h]] at HW
    by_cases h : 1 ≤ n
    · have h1 : decide (1 ≤ n) = true := decide_eq_true h
      have HE := Lib.hid (show evOk k n = decide (n ≤ 16) from by unfold evOk; rw [if_pos hw, h1]; rfl)
      clear hw
      go_enter Tryz.func9, Tryz.ntmps9
      go_wp2_with (go_at_call 18; refine HW.out.mono ?_; rintro e w' ⟨rfl, rfl⟩)
      go_ret
      exact ⟨by rw [HE.out]; rfl, rfl⟩
    · have h1 : decide (1 ≤ n) = false := decide_eq_false h
      have HE := Lib.hid (show evOk k n = false from by unfold evOk; rw [if_pos hw, h1]; rfl)
      clear hw
      go_enter Tryz.func9, Tryz.ntmps9
      go_wp2_with (go_at_call 18; refine HW.out.mono ?_; rintro e w' ⟨rfl, rfl⟩)
      go_ret
      exact ⟨by rw [HE.out]; rfl, rfl⟩
  · have hk0 : k ≠ 0 := fun e => hw (.inl e)
    have ht : taskB k = false := by cases h : taskB k with | true => exact absurd (.inr h) hw | false => rfl
    rw [show (decide (k = 0) || taskB k) = false from by simp [hk0, ht]] at HW
    by_cases h5 : k < 5
    · have HE := Lib.hid (show evOk k n = false from by unfold evOk; rw [if_neg hw, if_neg (by omega)])
      have hd : decide (k < 5) = true := decide_eq_true h5
      clear hw hk0 ht
      go_enter Tryz.func9, Tryz.ntmps9
      go_wp2_with (go_at_call 18; refine HW.out.mono ?_; rintro e w' ⟨rfl, rfl⟩)
      go_ret
      exact ⟨by rw [HE.out]; rfl, rfl⟩
    · have hd : decide (k < 5) = false := decide_eq_false h5
      by_cases h7 : 7 < k
      · have HE := Lib.hid (show evOk k n = false from by unfold evOk; rw [if_neg hw, if_neg (by omega)])
        have hd7 : decide (7 < k) = true := decide_eq_true h7
        clear hw hk0 ht
        go_enter Tryz.func9, Tryz.ntmps9
        go_wp2_with (go_at_call 18; refine HW.out.mono ?_; rintro e w' ⟨rfl, rfl⟩)
        go_ret
        exact ⟨by rw [HE.out]; rfl, rfl⟩
      · have hd7 : decide (7 < k) = false := decide_eq_false h7
        have HE := Lib.hid (show evOk k n = occB n from by unfold evOk; rw [if_neg hw, if_pos (by omega)])
        rw [HE.out]
        clear HE hw hk0 ht
        rcases occB_cases n with ⟨h, hn⟩ | ⟨h, h1, h2, h3, h4, h5, h6, h7, h8⟩
        · rcases hn with rfl | rfl | rfl | rfl | rfl | rfl | rfl | rfl
          all_goals
            clear h
            go_enter Tryz.func9, Tryz.ntmps9
            go_wp2_with (go_at_call 18; refine HW.out.mono ?_; rintro e w' ⟨rfl, rfl⟩)
            go_ret
            exact ⟨by rfl, rfl⟩
        · have H := Lib.hid h
          clear h
          go_enter Tryz.func9, Tryz.ntmps9
          go_wp2_with (go_at_call 18; refine HW.out.mono ?_; rintro e w' ⟨rfl, rfl⟩)
          go_ret
          exact ⟨by rw [H.out]; rfl, rfl⟩
end Go.Proofs.YthkkoippagocpaaGreatDoor
