/- The reference's truth, times, whole. -/
import Derived.Test.YtjablobdiglnpaaDoorKg
namespace Go.Proofs.YtjablobdiglnpaaDoor
open Go.RowKit
set_option linter.unusedVariables false

def truthF (op : Int) (a b : Vl) : Bool :=
  if op = 5 then !a.y
  else if op = 12 then decide (orderF a b < 0)
  else if op = 13 then decide (orderF a b ≤ 0)
  else if op = 14 then decide (0 < orderF a b)
  else if op = 15 then decide (0 ≤ orderF a b)
  else if op = 16 then sameB a b
  else if op = 17 then !sameB a b
  else if op = 18 then a.y && b.y
  else a.y || b.y

section
variable (w : World) (ak an : Int) (ay : Bool) (sa : ByteArray) (bk bn : Int) (b3 : Bool) (sb : ByteArray)

set_option maxRecDepth 100000 in
theorem truth_5 : Calls Tryd.prog 42 #[.int .i64 5, .agg #[.int .i64 ak, .int .i64 an, .bool ay, .string sa], .agg #[.int .i64 bk, .int .i64 bn, .bool b3, .string sb]] w fun e w' => e = .returned (.bool (truthF 5 ⟨ak, an, ay, sa⟩ ⟨bk, bn, b3, sb⟩)) ∧ Below w.heap.size w w' := by
  have HB := Lib.hid (show Below w.heap.size w ((w.alloc (.cells #[.int .i64 ak, .int .i64 an, .bool ay, .string sa] 23)).alloc (.cells #[.int .i64 bk, .int .i64 bn, .bool b3, .string sb] 23)) from (box_below _ _).alloc (by simp) _)
  go_enter Tryd.func42, Tryd.ntmps42
  go_wp2_with fail
  go_ret
  exact ⟨rfl, HB.out⟩

set_option maxRecDepth 100000 in
theorem truth_12 : Calls Tryd.prog 42 #[.int .i64 12, .agg #[.int .i64 ak, .int .i64 an, .bool ay, .string sa], .agg #[.int .i64 bk, .int .i64 bn, .bool b3, .string sb]] w fun e w' => e = .returned (.bool (truthF 12 ⟨ak, an, ay, sa⟩ ⟨bk, bn, b3, sb⟩)) ∧ Below w.heap.size w w' := by
  have HB := Lib.hid (show Below w.heap.size w ((w.alloc (.cells #[.int .i64 ak, .int .i64 an, .bool ay, .string sa] 23)).alloc (.cells #[.int .i64 bk, .int .i64 bn, .bool b3, .string sb] 23)) from (box_below _ _).alloc (by simp) _)
  have HO := Lib.hid (fun w => rorder_a w ak an ay sa bk bn b3 sb)
  go_enter Tryd.func42, Tryd.ntmps42
  go_wp2_with fail
  refine (HO.out _).mono ?_
  rintro e w3 ⟨rfl, hb⟩
  have HX := Lib.hid (HB.out.trans (hb.mono (by simp; omega)))
  clear hb
  go_wp2_with fail
  go_ret
  exact ⟨rfl, HX.out⟩

set_option maxRecDepth 100000 in
theorem truth_13 : Calls Tryd.prog 42 #[.int .i64 13, .agg #[.int .i64 ak, .int .i64 an, .bool ay, .string sa], .agg #[.int .i64 bk, .int .i64 bn, .bool b3, .string sb]] w fun e w' => e = .returned (.bool (truthF 13 ⟨ak, an, ay, sa⟩ ⟨bk, bn, b3, sb⟩)) ∧ Below w.heap.size w w' := by
  have HB := Lib.hid (show Below w.heap.size w ((w.alloc (.cells #[.int .i64 ak, .int .i64 an, .bool ay, .string sa] 23)).alloc (.cells #[.int .i64 bk, .int .i64 bn, .bool b3, .string sb] 23)) from (box_below _ _).alloc (by simp) _)
  have HO := Lib.hid (fun w => rorder_a w ak an ay sa bk bn b3 sb)
  go_enter Tryd.func42, Tryd.ntmps42
  go_wp2_with fail
  refine (HO.out _).mono ?_
  rintro e w3 ⟨rfl, hb⟩
  have HX := Lib.hid (HB.out.trans (hb.mono (by simp; omega)))
  clear hb
  go_wp2_with fail
  go_ret
  exact ⟨rfl, HX.out⟩

set_option maxRecDepth 100000 in
theorem truth_14 : Calls Tryd.prog 42 #[.int .i64 14, .agg #[.int .i64 ak, .int .i64 an, .bool ay, .string sa], .agg #[.int .i64 bk, .int .i64 bn, .bool b3, .string sb]] w fun e w' => e = .returned (.bool (truthF 14 ⟨ak, an, ay, sa⟩ ⟨bk, bn, b3, sb⟩)) ∧ Below w.heap.size w w' := by
  have HB := Lib.hid (show Below w.heap.size w ((w.alloc (.cells #[.int .i64 ak, .int .i64 an, .bool ay, .string sa] 23)).alloc (.cells #[.int .i64 bk, .int .i64 bn, .bool b3, .string sb] 23)) from (box_below _ _).alloc (by simp) _)
  have HO := Lib.hid (fun w => rorder_a w ak an ay sa bk bn b3 sb)
  go_enter Tryd.func42, Tryd.ntmps42
  go_wp2_with fail
  refine (HO.out _).mono ?_
  rintro e w3 ⟨rfl, hb⟩
  have HX := Lib.hid (HB.out.trans (hb.mono (by simp; omega)))
  clear hb
  go_wp2_with fail
  go_ret
  exact ⟨rfl, HX.out⟩

set_option maxRecDepth 100000 in
theorem truth_15 : Calls Tryd.prog 42 #[.int .i64 15, .agg #[.int .i64 ak, .int .i64 an, .bool ay, .string sa], .agg #[.int .i64 bk, .int .i64 bn, .bool b3, .string sb]] w fun e w' => e = .returned (.bool (truthF 15 ⟨ak, an, ay, sa⟩ ⟨bk, bn, b3, sb⟩)) ∧ Below w.heap.size w w' := by
  have HB := Lib.hid (show Below w.heap.size w ((w.alloc (.cells #[.int .i64 ak, .int .i64 an, .bool ay, .string sa] 23)).alloc (.cells #[.int .i64 bk, .int .i64 bn, .bool b3, .string sb] 23)) from (box_below _ _).alloc (by simp) _)
  have HO := Lib.hid (fun w => rorder_a w ak an ay sa bk bn b3 sb)
  go_enter Tryd.func42, Tryd.ntmps42
  go_wp2_with fail
  refine (HO.out _).mono ?_
  rintro e w3 ⟨rfl, hb⟩
  have HX := Lib.hid (HB.out.trans (hb.mono (by simp; omega)))
  clear hb
  go_wp2_with fail
  go_ret
  exact ⟨rfl, HX.out⟩

set_option maxRecDepth 100000 in
theorem truth_16 : Calls Tryd.prog 42 #[.int .i64 16, .agg #[.int .i64 ak, .int .i64 an, .bool ay, .string sa], .agg #[.int .i64 bk, .int .i64 bn, .bool b3, .string sb]] w fun e w' => e = .returned (.bool (truthF 16 ⟨ak, an, ay, sa⟩ ⟨bk, bn, b3, sb⟩)) ∧ Below w.heap.size w w' := by
  have HB := Lib.hid (fun (o1 o2 : Obj) => (box_below w o1).alloc (show w.heap.size ≤ (w.alloc o1).heap.size by simp) o2)
  have HS := Lib.hid (show truthF 16 ⟨ak, an, ay, sa⟩ ⟨bk, bn, b3, sb⟩ = (ak == bk && (an == bn && (ay == b3 && sa.toList == sb.toList))) from rfl)
  rw [HS.out]
  go_enter Tryd.func42, Tryd.ntmps42
  go_wp2_with fail
  all_goals
    go_ret
    exact ⟨by simp [*], HB.out _ _⟩

set_option maxRecDepth 100000 in
theorem truth_17 : Calls Tryd.prog 42 #[.int .i64 17, .agg #[.int .i64 ak, .int .i64 an, .bool ay, .string sa], .agg #[.int .i64 bk, .int .i64 bn, .bool b3, .string sb]] w fun e w' => e = .returned (.bool (truthF 17 ⟨ak, an, ay, sa⟩ ⟨bk, bn, b3, sb⟩)) ∧ Below w.heap.size w w' := by
  have HB := Lib.hid (fun (o1 o2 : Obj) => (box_below w o1).alloc (show w.heap.size ≤ (w.alloc o1).heap.size by simp) o2)
  have HS := Lib.hid (show truthF 17 ⟨ak, an, ay, sa⟩ ⟨bk, bn, b3, sb⟩ = !(ak == bk && (an == bn && (ay == b3 && sa.toList == sb.toList))) from rfl)
  rw [HS.out]
  go_enter Tryd.func42, Tryd.ntmps42
  go_wp2_with fail
  all_goals
    go_ret
    exact ⟨by simp [*], HB.out _ _⟩

set_option maxRecDepth 100000 in
theorem truth_18 : Calls Tryd.prog 42 #[.int .i64 18, .agg #[.int .i64 ak, .int .i64 an, .bool ay, .string sa], .agg #[.int .i64 bk, .int .i64 bn, .bool b3, .string sb]] w fun e w' => e = .returned (.bool (truthF 18 ⟨ak, an, ay, sa⟩ ⟨bk, bn, b3, sb⟩)) ∧ Below w.heap.size w w' := by
  have HB := Lib.hid (show Below w.heap.size w ((w.alloc (.cells #[.int .i64 ak, .int .i64 an, .bool ay, .string sa] 23)).alloc (.cells #[.int .i64 bk, .int .i64 bn, .bool b3, .string sb] 23)) from (box_below _ _).alloc (by simp) _)
  cases ay
  all_goals
    go_enter Tryd.func42, Tryd.ntmps42
    go_wp2_with fail
    go_ret
    exact ⟨rfl, HB.out⟩

set_option maxRecDepth 100000 in
theorem truth_19 : Calls Tryd.prog 42 #[.int .i64 19, .agg #[.int .i64 ak, .int .i64 an, .bool ay, .string sa], .agg #[.int .i64 bk, .int .i64 bn, .bool b3, .string sb]] w fun e w' => e = .returned (.bool (truthF 19 ⟨ak, an, ay, sa⟩ ⟨bk, bn, b3, sb⟩)) ∧ Below w.heap.size w w' := by
  have HB := Lib.hid (show Below w.heap.size w ((w.alloc (.cells #[.int .i64 ak, .int .i64 an, .bool ay, .string sa] 23)).alloc (.cells #[.int .i64 bk, .int .i64 bn, .bool b3, .string sb] 23)) from (box_below _ _).alloc (by simp) _)
  cases ay
  all_goals
    go_enter Tryd.func42, Tryd.ntmps42
    go_wp2_with fail
    go_ret
    exact ⟨rfl, HB.out⟩

end

/-! ### Integers -/
def WholeIs (q : Int × Bool) (w : World) (e : Ending) (w' : World) : Prop := ∃ n, e = .returned (.tuple #[.int .i64 n, .bool q.2]) ∧ (q.2 = true → n = q.1) ∧ w = w'
/-- The same, the world drawn on. -/
def WholeAs (q : Int × Bool) (w : World) (e : Ending) (w' : World) : Prop := ∃ n, e = .returned (.tuple #[.int .i64 n, .bool q.2]) ∧ (q.2 = true → n = q.1) ∧ Below w.heap.size w w'
section
variable (w : World) (a b : Int) (ha : -9223372036854775808 ≤ a ∧ a ≤ 9223372036854775807) (hb : -9223372036854775808 ≤ b ∧ b ≤ 9223372036854775807)
include ha hb

theorem times_c : Calls Tryd.prog 56 #[.int .i64 a, .int .i64 b] w (WholeAs (fits (a * b)) w) := by
  by_cases h0 : a = 0
  · subst h0
    have HF := Lib.hid (show fits (0 * b) = (0, true) from by rw [Int.zero_mul]; rfl)
    rw [HF.out]
    have HP := Lib.hid (fun (n : Int) (h : n = 0) => (show WholeAs (0, true) w (.returned (.tuple #[.int .i64 n, .bool true])) w from ⟨n, rfl, fun _ => h, Below.refl _ _⟩))
    go_enter Tryd.func56, Tryd.ntmps56
    go_wp2_with fail
    go_ret2
    exact HP.out _ rfl
  have a0 : (a == 0) = false := by simp; omega
  by_cases h1 : b = 0
  · subst h1
    have HF := Lib.hid (show fits (a * 0) = (0, true) from by rw [Int.mul_zero]; rfl)
    rw [HF.out]
    have HP := Lib.hid (fun (n : Int) (h : n = 0) => (show WholeAs (0, true) w (.returned (.tuple #[.int .i64 n, .bool true])) w from ⟨n, rfl, fun _ => h, Below.refl _ _⟩))
    go_enter Tryd.func56, Tryd.ntmps56
    go_wp2_with fail
    go_ret2
    exact HP.out _ rfl
  have b0 : (b == 0) = false := by simp; omega
  by_cases h2 : a = -1 ∧ b = -9223372036854775808
  · obtain ⟨rfl, rfl⟩ := h2
    have HF := Lib.hid (show fits (-1 * -9223372036854775808) = (0, false) from by rfl)
    rw [HF.out]
    have HP := Lib.hid (fun (n : Int) => (show WholeAs (0, false) w (.returned (.tuple #[.int .i64 n, .bool false])) w from ⟨n, rfl, fun h => (by cases h), Below.refl _ _⟩))
    clear ha hb h0 h1
    go_enter Tryd.func56, Tryd.ntmps56
    go_wp2_with fail
    go_ret2
    exact HP.out _
  by_cases h3 : b = -1 ∧ a = -9223372036854775808
  · obtain ⟨rfl, rfl⟩ := h3
    have HF := Lib.hid (show fits (-9223372036854775808 * -1) = (0, false) from by rfl)
    rw [HF.out]
    have HP := Lib.hid (fun (n : Int) => (show WholeAs (0, false) w (.returned (.tuple #[.int .i64 n, .bool false])) w from ⟨n, rfl, fun h => (by cases h), Below.refl _ _⟩))
    clear ha hb h0 h1 h2
    go_enter Tryd.func56, Tryd.ntmps56
    go_wp2_with fail
    go_ret2
    exact HP.out _
  have HT : ∃ c1 c2 : Bool, (a == -1) = c1 ∧ (b == -1) = c2 ∧ (c1 = true → (b == -9223372036854775808) = false) ∧ (c2 = true → (a == -9223372036854775808) = false) := ⟨_, _, rfl, rfl, by simp; omega, by simp; omega⟩
  obtain ⟨c1, c2, t1, t2, t3, t4⟩ := HT
  have hne : b ≠ 0 := h1
  have hne' : ¬ b = 0 := h1
  by_cases h : -9223372036854775808 ≤ a * b ∧ a * b ≤ 9223372036854775807
  · have hw := w64_in _ h
    have hq : wrap64 ((a * b).tdiv b) = a := by rw [Int.mul_tdiv_cancel _ h1]; exact w64_in _ ha
    have hq2 : (wrap64 ((wrap64 (a * b)).tdiv b) == a) = true := by rw [hw, hq]; simp
    have HF := Lib.hid (fits_yes _ h)
    rw [HF.out]
    have HP := Lib.hid (fun (w' : World) (hbb : Below w.heap.size w w') => (show WholeAs (a * b, true) w (.returned (.tuple #[.int .i64 (wrap64 (a * b)), .bool true])) w' from ⟨_, rfl, fun _ => hw, hbb⟩))
    clear h h2 h3 hq hw HF
    cases c1 <;> cases c2
    all_goals
      have t5 := t3
      have t6 := t4
      simp only [Bool.false_eq_true, false_implies, true_implies] at t5 t6
      clear t3 t4
      go_enter Tryd.func56, Tryd.ntmps56
      go_wp2_with fail
      go_quiet (fail)
      go_wp2_with fail
      go_ret2
      exact HP.out _ (below_drewN (Below.refl _ _) _)
  · have hb1 : b ≠ -1 := by
      rintro rfl
      apply h
      rw [Int.mul_neg, Int.mul_one]
      omega
    have hq2 : (wrap64 ((wrap64 (a * b)).tdiv b) == a) = false := by
      have := prod_bad b a hb ha h1 hb1 (by rw [Int.mul_comm]; exact h)
      rw [Int.mul_comm] at this
      simpa using this
    have HF := Lib.hid (fits_no _ h)
    rw [HF.out]
    have HP := Lib.hid (fun (w' : World) (n : Int) (hbb : Below w.heap.size w w') => (show WholeAs (0, false) w (.returned (.tuple #[.int .i64 n, .bool false])) w' from ⟨_, rfl, fun h => (by cases h), hbb⟩))
    have t7 : (b == -1) = false := by simpa using hb1
    rw [t7] at t2
    subst t2
    clear h h2 h3 HF hb1
    cases c1
    all_goals
      have t5 := t3
      simp only [Bool.false_eq_true, false_implies, true_implies] at t5
      clear t3 t4
      go_enter Tryd.func56, Tryd.ntmps56
      go_wp2_with fail
      go_quiet (fail)
      go_wp2_with fail
      go_ret2
      exact HP.out _ _ (below_drewN (Below.refl _ _) _)
omit hb in
theorem whole_6 : Calls Tryd.prog 43 #[.int .i64 6, .int .i64 a, .int .i64 b] w (WholeAs (intF 11 0 a) w) := by
  have hw := w64v (-a)
  by_cases h : a = -9223372036854775808
  · subst h
    have HF := Lib.hid (show intF 11 0 (-9223372036854775808) = (0, false) from rfl)
    rw [HF.out]
    have HP := Lib.hid (show WholeAs (0, false) w (.returned (.tuple #[.int .i64 (wrap64 9223372036854775808), .bool false])) w from ⟨_, rfl, fun h => (by cases h), Below.refl _ _⟩)
    clear ha hw
    go_enter Tryd.func43, Tryd.ntmps43
    go_wp2_with fail
    go_ret2
    exact HP.out
  · have t0 : (a == -9223372036854775808) = false := by simp; omega
    have t1 : (a != -9223372036854775808) = true := by simp; omega
    have hq := w64_in (-a) (by omega)
    have HF := Lib.hid (show intF 11 0 a = (-a, true) from by unfold intF; rw [if_neg (by omega), if_neg (by omega), if_neg (by omega), if_neg (by omega), if_pos rfl, fits_yes _ (by omega), show (0 : Int) - a = -a from by omega])
    rw [HF.out]
    have HP := Lib.hid (show WholeAs (-a, true) w (.returned (.tuple #[.int .i64 (wrap64 (-a)), .bool true])) w from ⟨_, rfl, fun h => hq, Below.refl _ _⟩)
    clear hq h hw ha
    go_enter Tryd.func43, Tryd.ntmps43
    go_wp2_with fail
    go_ret2
    exact HP.out
theorem whole_7 : Calls Tryd.prog 43 #[.int .i64 7, .int .i64 a, .int .i64 b] w (WholeAs (intF 7 a b) w) := by
  have HF := Lib.hid (show intF 7 a b = fits (a * b) from by unfold intF; rw [if_pos rfl])
  rw [HF.out]
  have HC := Lib.hid (times_c w a b ha hb)
  obtain ⟨q, hq⟩ : ∃ q, q = fits (a * b) := ⟨_, rfl⟩
  rw [← hq] at HC ⊢
  clear hq HF
  have HP := Lib.hid (fun (n : Int) (w' : World) (h : q.2 = true → n = q.1) (hb : Below w.heap.size w w') => (show WholeAs q w (.returned (.tuple #[.int .i64 n, .bool q.2])) w' from ⟨n, rfl, h, hb⟩))
  go_enter Tryd.func43, Tryd.ntmps43
  go_wp2_with fail
  refine HC.out.mono ?_
  rintro e w1 ⟨n, rfl, hn, hb1⟩
  have HN := Lib.hid (And.intro hn hb1)
  clear hn hb1
  go_wp2_with fail
  go_ret2
  exact HP.out _ _ HN.out.1 HN.out.2
theorem whole_8 : Calls Tryd.prog 43 #[.int .i64 8, .int .i64 a, .int .i64 b] w (WholeAs (intF 8 a b) w) := by
  by_cases h : b = 0
  · subst h
    have HF := Lib.hid (show intF 8 a 0 = (0, false) from by unfold intF; rw [if_neg (by omega), if_pos rfl, if_pos (.inl rfl)])
    rw [HF.out]
    have HP := Lib.hid (show WholeAs (0, false) w (.returned (.tuple #[.int .i64 (0), .bool false])) w from ⟨_, rfl, fun h => (by cases h), Below.refl _ _⟩)
    clear ha hb
    go_enter Tryd.func43, Tryd.ntmps43
    go_wp2_with fail
    go_ret2
    exact HP.out
  have t0 : (b == 0) = false := by simp; omega
  have hne : b ≠ 0 := h
  have hne2 : ¬ b = 0 := h
  by_cases h2 : a = -9223372036854775808 ∧ b = -1
  · obtain ⟨rfl, rfl⟩ := h2
    have HF := Lib.hid (show intF 8 (-9223372036854775808) (-1) = (0, false) from rfl)
    rw [HF.out]
    have HP := Lib.hid (show WholeAs (0, false) w (.returned (.tuple #[.int .i64 (0), .bool false])) w from ⟨_, rfl, fun h => (by cases h), Below.refl _ _⟩)
    clear ha hb h t0 hne hne2
    go_enter Tryd.func43, Tryd.ntmps43
    go_wp2_with fail
    go_ret2
    exact HP.out
  have hd := w64_in _ (tdiv_in a b ha h h2)
  rcases (by omega : a ≠ -9223372036854775808 ∨ (a = -9223372036854775808 ∧ b ≠ -1)) with h3 | ⟨rfl, h3⟩
  · have t1 : (a == -9223372036854775808) = false := by simp; omega
    have HF := Lib.hid (show intF 8 a b = (a.tdiv b, true) from by unfold intF; rw [if_neg (by omega), if_pos rfl, if_neg (by omega)])
    rw [HF.out]
    have HP := Lib.hid (show WholeAs (a.tdiv b, true) w (.returned (.tuple #[.int .i64 (wrap64 (a.tdiv b)), .bool true])) w from ⟨_, rfl, fun h => hd, Below.refl _ _⟩)
    clear hd h2 h3 ha hb
    go_enter Tryd.func43, Tryd.ntmps43
    go_wp2_with fail
    go_ret2
    exact HP.out
  · have t1 : (b == -1) = false := by simp; omega
    have HF := Lib.hid (show intF 8 (-9223372036854775808) b = ((-9223372036854775808 : Int).tdiv b, true) from by unfold intF; rw [if_neg (by omega), if_pos rfl, if_neg (by omega)])
    rw [HF.out]
    have HP := Lib.hid (show WholeAs ((-9223372036854775808 : Int).tdiv b, true) w (.returned (.tuple #[.int .i64 (wrap64 (-Int.tdiv 9223372036854775808 b)), .bool true])) w from ⟨_, rfl, fun h => (by rw [← Int.neg_tdiv]; exact hd), Below.refl _ _⟩)
    clear hd h2 h3 ha hb
    go_enter Tryd.func43, Tryd.ntmps43
    go_wp2_with fail
    go_ret2
    exact HP.out
theorem whole_9 : Calls Tryd.prog 43 #[.int .i64 9, .int .i64 a, .int .i64 b] w (WholeAs (intF 9 a b) w) := by
  by_cases h : b = 0
  · subst h
    have HF := Lib.hid (show intF 9 a 0 = (0, false) from by unfold intF; rw [if_neg (by omega), if_neg (by omega), if_pos rfl, if_pos rfl])
    rw [HF.out]
    have HP := Lib.hid (show WholeAs (0, false) w (.returned (.tuple #[.int .i64 (0), .bool false])) w from ⟨_, rfl, fun h => (by cases h), Below.refl _ _⟩)
    clear ha hb
    go_enter Tryd.func43, Tryd.ntmps43
    go_wp2_with fail
    go_ret2
    exact HP.out
  have t0 : (b == 0) = false := by simp; omega
  have hne : b ≠ 0 := h
  have hne2 : ¬ b = 0 := h
  by_cases h2 : b = -1
  · subst h2
    have HF := Lib.hid (show intF 9 a (-1) = (0, true) from by unfold intF; rw [if_neg (by omega), if_neg (by omega), if_pos rfl, if_neg (by omega), Int.tmod_neg, Int.tmod_one])
    rw [HF.out]
    have HP := Lib.hid (show WholeAs (0, true) w (.returned (.tuple #[.int .i64 (0), .bool true])) w from ⟨_, rfl, fun h => rfl, Below.refl _ _⟩)
    clear ha hb h t0 hne hne2
    go_enter Tryd.func43, Tryd.ntmps43
    go_wp2_with fail
    go_ret2
    exact HP.out
  have t1 : (b == -1) = false := by simp; omega
  have hd := w64_in _ (tmod_in a b ha)
  have HF := Lib.hid (show intF 9 a b = (a.tmod b, true) from by unfold intF; rw [if_neg (by omega), if_neg (by omega), if_pos rfl, if_neg (by omega)])
  rw [HF.out]
  have HP := Lib.hid (show WholeAs (a.tmod b, true) w (.returned (.tuple #[.int .i64 (a.tmod b), .bool true])) w from ⟨_, rfl, fun h => rfl, Below.refl _ _⟩)
  clear h2 ha hb
  go_enter Tryd.func43, Tryd.ntmps43
  go_wp2_with fail
  go_ret2
  exact HP.out
theorem whole_10 : Calls Tryd.prog 43 #[.int .i64 10, .int .i64 a, .int .i64 b] w (WholeAs (intF 10 a b) w) := by
  have hw := w64v (a + b)
  by_cases h : -9223372036854775808 ≤ a + b ∧ a + b ≤ 9223372036854775807
  · have hd : (decide (a < wrap64 (a + b)) == decide (0 < b)) = true := by simp; omega
    have hq := w64_in _ h
    have HF := Lib.hid (show intF 10 a b = (a + b, true) from by unfold intF; rw [if_neg (by omega), if_neg (by omega), if_neg (by omega), if_pos rfl, fits_yes _ (by assumption)])
    rw [HF.out]
    have HP := Lib.hid (show WholeAs (a + b, true) w (.returned (.tuple #[.int .i64 (wrap64 (a + b)), .bool true])) w from ⟨_, rfl, fun h => hq, Below.refl _ _⟩)
    clear hq h hw ha hb
    go_enter Tryd.func43, Tryd.ntmps43
    go_wp2_with fail
    go_ret2
    exact HP.out
  · have hd : (decide (a < wrap64 (a + b)) == decide (0 < b)) = false := by simp; omega
    have HF := Lib.hid (show intF 10 a b = (0, false) from by unfold intF; rw [if_neg (by omega), if_neg (by omega), if_neg (by omega), if_pos rfl, fits_no _ (by assumption)])
    rw [HF.out]
    have HP := Lib.hid (show WholeAs (0, false) w (.returned (.tuple #[.int .i64 (wrap64 (a + b)), .bool false])) w from ⟨_, rfl, fun h => (by cases h), Below.refl _ _⟩)
    clear h hw ha hb
    go_enter Tryd.func43, Tryd.ntmps43
    go_wp2_with fail
    go_ret2
    exact HP.out
theorem whole_11 : Calls Tryd.prog 43 #[.int .i64 11, .int .i64 a, .int .i64 b] w (WholeAs (intF 11 a b) w) := by
  have hw := w64v (a - b)
  by_cases h : -9223372036854775808 ≤ a - b ∧ a - b ≤ 9223372036854775807
  · have hd : (decide (wrap64 (a - b) < a) == decide (0 < b)) = true := by simp; omega
    have hq := w64_in _ h
    have HF := Lib.hid (show intF 11 a b = (a - b, true) from by unfold intF; rw [if_neg (by omega), if_neg (by omega), if_neg (by omega), if_neg (by omega), if_pos rfl, fits_yes _ (by assumption)])
    rw [HF.out]
    have HP := Lib.hid (show WholeAs (a - b, true) w (.returned (.tuple #[.int .i64 (wrap64 (a - b)), .bool true])) w from ⟨_, rfl, fun h => hq, Below.refl _ _⟩)
    clear hq h hw ha hb
    go_enter Tryd.func43, Tryd.ntmps43
    go_wp2_with fail
    go_ret2
    exact HP.out
  · have hd : (decide (wrap64 (a - b) < a) == decide (0 < b)) = false := by simp; omega
    have HF := Lib.hid (show intF 11 a b = (0, false) from by unfold intF; rw [if_neg (by omega), if_neg (by omega), if_neg (by omega), if_neg (by omega), if_pos rfl, fits_no _ (by assumption)])
    rw [HF.out]
    have HP := Lib.hid (show WholeAs (0, false) w (.returned (.tuple #[.int .i64 (wrap64 (a - b)), .bool false])) w from ⟨_, rfl, fun h => (by cases h), Below.refl _ _⟩)
    clear h hw ha hb
    go_enter Tryd.func43, Tryd.ntmps43
    go_wp2_with fail
    go_ret2
    exact HP.out
end
end Go.Proofs.YtjablobdiglnpaaDoor
