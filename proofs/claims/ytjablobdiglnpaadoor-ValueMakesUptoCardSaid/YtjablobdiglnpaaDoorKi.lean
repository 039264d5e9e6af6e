/- value: product, calculate. -/
import Derived.Test.YtjablobdiglnpaaDoorKa
namespace Go.Proofs.YtjablobdiglnpaaDoor
open Go.RowKit
set_option linter.unusedVariables false

def fits (z : Int) : Int × Bool := if -9223372036854775808 ≤ z ∧ z ≤ 9223372036854775807 then (z, true) else (0, false)
theorem fits_yes (z : Int) (h : -9223372036854775808 ≤ z ∧ z ≤ 9223372036854775807) : fits z = (z, true) := if_pos h
theorem fits_no (z : Int) (h : ¬ (-9223372036854775808 ≤ z ∧ z ≤ 9223372036854775807)) : fits z = (0, false) := if_neg h
/-- The integer that an operator makes. -/
def intF (op a b : Int) : Int × Bool :=
  if op = 7 then fits (a * b)
  else if op = 8 then (if b = 0 ∨ (a = -9223372036854775808 ∧ b = -1) then (0, false) else (a.tdiv b, true))
  else if op = 9 then (if b = 0 then (0, false) else (a.tmod b, true))
  else if op = 10 then fits (a + b)
  else if op = 11 then fits (a - b)
  else (0, false)
def calcV (p : Int × Bool) : Vl × Bool := if p.2 = true then (intV p.1, true) else (noV, false)

theorem w64v (z : Int) : wrap64 z = (z + 9223372036854775808) % 18446744073709551616 - 9223372036854775808 := by unfold wrap64; omega
theorem w64_in (z : Int) (h : -9223372036854775808 ≤ z ∧ z ≤ 9223372036854775807) : wrap64 z = z := by rw [w64v]; omega

theorem tdiv_back (a b : Int) (h : a ≠ 0) : (a * b).tdiv a = b := Int.mul_tdiv_cancel_left b h
theorem prod_bad (a b : Int) (ha : -9223372036854775808 ≤ a ∧ a ≤ 9223372036854775807) (hb : -9223372036854775808 ≤ b ∧ b ≤ 9223372036854775807) (h0 : a ≠ 0) (h1 : a ≠ -1)
    (h : ¬ (-9223372036854775808 ≤ a * b ∧ a * b ≤ 9223372036854775807)) : wrap64 ((wrap64 (a * b)).tdiv a) ≠ b := by
  intro hE
  obtain ⟨n, hn⟩ : ∃ n, n = wrap64 (a * b) := ⟨_, rfl⟩
  obtain ⟨q, hq⟩ : ∃ q, n = a * b + q * 18446744073709551616 ∧ q ≠ 0 := by
    refine ⟨-((a * b + 9223372036854775808) / 18446744073709551616), ?_, ?_⟩
    · rw [hn, w64v]; omega
    · omega
  rw [← hn] at hE
  have hr : -9223372036854775808 ≤ n ∧ n ≤ 9223372036854775807 := by rw [hn, w64v]; omega
  have hd := Int.mul_tdiv_add_tmod n a
  have hl : (n.tmod a).natAbs < a.natAbs := by
    rw [Int.natAbs_tmod]
    exact Nat.mod_lt _ (by omega)
  have hle : (n.tdiv a).natAbs ≤ n.natAbs := by rw [Int.natAbs_tdiv]; exact Nat.div_le_self _ _
  have hE2 : n.tdiv a = b := by
    rw [w64v] at hE
    by_cases hm : n.tdiv a = 9223372036854775808
    · exfalso
      have h2 : (n.tdiv a).natAbs * a.natAbs ≤ n.natAbs := by rw [Int.natAbs_tdiv]; exact Nat.div_mul_le_self _ _
      rw [hm] at h2 hle
      have : n = -9223372036854775808 := by omega
      have h3 : a.natAbs ≤ 1 := by
        have : n.natAbs = 9223372036854775808 := by omega
        rw [this] at h2
        have h4 : (9223372036854775808 : Int).natAbs = 9223372036854775808 := rfl
        rw [h4] at h2
        omega
      have h1' : a = 1 := by omega
      subst h1'
      rw [Int.tdiv_one] at hm
      omega
    · omega
  rw [hE2] at hd
  omega

theorem tdiv_in (a b : Int) (ha : -9223372036854775808 ≤ a ∧ a ≤ 9223372036854775807) (h0 : b ≠ 0) (h : ¬ (a = -9223372036854775808 ∧ b = -1)) : -9223372036854775808 ≤ a.tdiv b ∧ a.tdiv b ≤ 9223372036854775807 := by
  have h2 : (a.tdiv b).natAbs * b.natAbs ≤ a.natAbs := by rw [Int.natAbs_tdiv]; exact Nat.div_mul_le_self _ _
  have hle : (a.tdiv b).natAbs ≤ a.natAbs := by rw [Int.natAbs_tdiv]; exact Nat.div_le_self _ _
  by_cases h1 : b = 1
  · subst h1; rw [Int.tdiv_one]; exact ha
  · by_cases h3 : b = -1
    · subst h3
      rw [Int.tdiv_neg, Int.tdiv_one]
      omega
    · have : 2 ≤ b.natAbs := by omega
      have := Nat.mul_le_mul_left (a.tdiv b).natAbs this
      omega
theorem tmod_in (a b : Int) (ha : -9223372036854775808 ≤ a ∧ a ≤ 9223372036854775807) : -9223372036854775808 ≤ a.tmod b ∧ a.tmod b ≤ 9223372036854775807 := by
  have hle : (a.tmod b).natAbs ≤ a.natAbs := by rw [Int.natAbs_tmod]; exact Nat.mod_le _ _
  have hs : 0 ≤ a → 0 ≤ a.tmod b := fun h => Int.tmod_nonneg b h
  have hn : a ≤ 0 → a.tmod b ≤ 0 := fun h => by
    have := Int.tmod_nonneg b (show 0 ≤ -a by omega)
    rw [Int.neg_tmod] at this
    omega
  omega

theorem ret_b {x : Int} {y : Bool} : Ending.returned (.tuple #[.int .i64 x, .bool y]) = Ending.returned (.tuple #[.int .i64 x, .bool y]) := rfl

section
variable (w : World) (a b : Int) (ha : -9223372036854775808 ≤ a ∧ a ≤ 9223372036854775807) (hb : -9223372036854775808 ≤ b ∧ b ≤ 9223372036854775807)
include ha hb
theorem prod_yes (h : -9223372036854775808 ≤ a * b ∧ a * b ≤ 9223372036854775807) : Calls Tryd.prog 52 #[.int .i64 a, .int .i64 b] w fun e w' => e = .returned (.tuple #[.int .i64 (a * b), .bool true]) ∧ w = w' := by
  by_cases h0 : a = 0
  · subst h0
    go_enter Tryd.func52, Tryd.ntmps52
    go_wp2
    go_ret2
    exact ⟨by simp, rfl⟩
  · have t0 : (a == 0) = false := by simp; omega
    have t0' : (a != 0) = true := by simp; omega
    have hw := w64_in _ h
    have hq : wrap64 ((a * b).tdiv a) = b := by rw [tdiv_back a b h0]; exact w64_in _ hb
    by_cases h1 : a = -1
    · subst h1
      have t2 : (b == -9223372036854775808) = false := by simp; omega
      have e1 : (-1 : Int) * b = -b := by omega
      have hw' : wrap64 (-b) = -b := w64_in _ (by omega)
      have hq' : wrap64 ((-b).tdiv (-1)) = b := by rw [Int.tdiv_neg, Int.tdiv_one, Int.neg_neg]; exact w64_in _ hb
      rw [e1]
      clear hw hq h0 h e1
      go_enter Tryd.func52, Tryd.ntmps52
      go_wp2
      go_ret2
      exact ⟨by rw [hw']; rfl, rfl⟩
    · have t1 : (a == -1) = false := by simp; omega
      clear h h1
      go_enter Tryd.func52, Tryd.ntmps52
      go_wp2
      go_ret2
      exact ⟨by rw [hw]; rfl, rfl⟩

theorem prod_no (h : ¬ (-9223372036854775808 ≤ a * b ∧ a * b ≤ 9223372036854775807)) : Calls Tryd.prog 52 #[.int .i64 a, .int .i64 b] w fun e w' => (∃ n, e = .returned (.tuple #[.int .i64 n, .bool false])) ∧ w = w' := by
  have h0 : a ≠ 0 := by rintro rfl; simp at h
  by_cases h1 : a = -1
  · subst h1
    obtain rfl : b = -9223372036854775808 := by omega
    have k1 : wrap64 9223372036854775808 = -9223372036854775808 := by rw [w64v]; decide
    clear ha hb h h0
    go_enter Tryd.func52, Tryd.ntmps52
    go_wp2
    go_ret2
    exact ⟨⟨_, rfl⟩, rfl⟩
  · have hq := prod_bad a b ha hb h0 h1 h
    have t0 : (a == 0) = false := by simp; omega
    have t0' : (a != 0) = true := by simp; omega
    have t1 : (wrap64 ((wrap64 (a * b)).tdiv a) == b) = false := by simp [hq]
    have t1' : (wrap64 ((wrap64 (a * b)).tdiv a) != b) = true := by simp [hq]
    clear h h1
    go_enter Tryd.func52, Tryd.ntmps52
    go_wp2
    go_ret2
    exact ⟨⟨_, rfl⟩, rfl⟩

theorem calc_7 : Calls Tryd.prog 39 #[.int .i64 7, .int .i64 a, .int .i64 b] w fun e w' => e = .returned (.tuple #[(calcV (intF 7 a b)).1.val, .bool (calcV (intF 7 a b)).2]) ∧ Below w.heap.size w w' := by
  by_cases h : -9223372036854775808 ≤ a * b ∧ a * b ≤ 9223372036854775807
  · have HC := Lib.hid (fun w => prod_yes w a b ha hb h)
    have HR := Lib.hid (show calcV (intF 7 a b) = (intV (a * b), true) from by rw [show intF 7 a b = (a * b, true) from by unfold intF; rw [if_pos rfl, fits_yes _ h]]; rfl)
    clear h ha hb
    go_enter Tryd.func39, Tryd.ntmps39
    go_wp2_with (first | (go_at_call 52; refine (HC.out _).mono ?_; rintro e w' ⟨rfl, rfl⟩) | (go_at_call 7; refine (vint_c _ _).mono ?_; rintro e w' ⟨rfl, rfl⟩))
    refine bodyPost_ret (v := .tuple #[(intV (a * b)).val, .bool true]) (by simp [results, Tryd.results39, go_sem, intV, Vl.val]; rfl) rfl ⟨by rw [HR.out], ?_⟩
    exact ((Below.refl _ _).alloc (Nat.le_refl _) _).alloc (by simp) _
  · have HC := Lib.hid (fun w => prod_no w a b ha hb h)
    have HR := Lib.hid (show calcV (intF 7 a b) = (noV, false) from by rw [show intF 7 a b = (0, false) from by unfold intF; rw [if_pos rfl, fits_no _ h]]; rfl)
    clear h ha hb
    go_enter Tryd.func39, Tryd.ntmps39
    go_wp2_with (go_at_call 52; refine (HC.out _).mono ?_; rintro e w' ⟨⟨n, rfl⟩, rfl⟩)
    refine bodyPost_ret (v := .tuple #[noV.val, .bool false]) (by simp [results, Tryd.results39, go_sem, noV, Vl.val]; rfl) rfl ⟨by rw [HR.out], ?_⟩
    exact (Below.refl _ _).alloc (Nat.le_refl _) _
theorem calc_8 : Calls Tryd.prog 39 #[.int .i64 8, .int .i64 a, .int .i64 b] w fun e w' => e = .returned (.tuple #[(calcV (intF 8 a b)).1.val, .bool (calcV (intF 8 a b)).2]) ∧ Below w.heap.size w w' := by
  by_cases h : b = 0
  · subst h
    have HR := Lib.hid (show calcV (intF 8 a 0) = (noV, false) from by unfold intF calcV; simp)
    clear ha hb
    go_enter Tryd.func39, Tryd.ntmps39
    go_wp2_with fail
    refine bodyPost_ret (v := .tuple #[noV.val, .bool false]) (by simp [results, Tryd.results39, go_sem, noV, Vl.val]; rfl) rfl ⟨by rw [HR.out], ?_⟩
    exact (Below.refl _ _).alloc (Nat.le_refl _) _
  · have t0 : (b == 0) = false := by simp; omega
    have t0' : (b != 0) = true := by simp; omega
    by_cases h2 : a = -9223372036854775808 ∧ b = -1
    · obtain ⟨rfl, rfl⟩ := h2
      have HR := Lib.hid (show calcV (intF 8 (-9223372036854775808) (-1)) = (noV, false) from by unfold intF calcV; simp)
      clear ha hb t0 t0' h
      go_enter Tryd.func39, Tryd.ntmps39
      go_wp2_with fail
      refine bodyPost_ret (v := .tuple #[noV.val, .bool false]) (by simp [results, Tryd.results39, go_sem, noV, Vl.val]; rfl) rfl ⟨by rw [HR.out], ?_⟩
      exact (Below.refl _ _).alloc (Nat.le_refl _) _
    · have hd := w64_in _ (tdiv_in a b ha h h2)
      have HR := Lib.hid (show calcV (intF 8 a b) = (intV (a.tdiv b), true) from by rw [show intF 8 a b = (a.tdiv b, true) from by unfold intF; rw [if_neg (by omega), if_pos rfl, if_neg (by omega)]]; rfl)
      rcases (by omega : a ≠ -9223372036854775808 ∨ (a = -9223372036854775808 ∧ b ≠ -1)) with h3 | ⟨rfl, h3⟩
      · have t1 : (a == -9223372036854775808) = false := by simp; omega
        have t1' : (a != -9223372036854775808) = true := by simp; omega
        clear h2 h3 ha hb
        go_enter Tryd.func39, Tryd.ntmps39
        go_wp2_with (go_at_call 7; refine (vint_c _ _).mono ?_; rintro e w' ⟨rfl, rfl⟩)
        refine bodyPost_ret (v := .tuple #[(intV (a.tdiv b)).val, .bool true]) (by simp [results, Tryd.results39, go_sem, intV, Vl.val]; rfl) rfl ⟨by rw [HR.out], ?_⟩
        exact ((Below.refl _ _).alloc (Nat.le_refl _) _).alloc (by simp) _
      · have t1 : (b == -1) = false := by simp; omega
        have t1' : (b != -1) = true := by simp; omega
        clear h2 h3 ha hb
        go_enter Tryd.func39, Tryd.ntmps39
        go_wp2_with (go_at_call 7; refine (vint_c _ _).mono ?_; rintro e w' ⟨rfl, rfl⟩)
        refine bodyPost_ret (v := .tuple #[(intV (wrap64 (-Int.tdiv 9223372036854775808 b))).val, .bool true]) (by simp [results, Tryd.results39, go_sem, intV, Vl.val]; rfl) rfl ⟨by rw [HR.out, show wrap64 (-Int.tdiv 9223372036854775808 b) = (-9223372036854775808 : Int).tdiv b from by rw [← Int.neg_tdiv]; exact hd], ?_⟩
        exact ((Below.refl _ _).alloc (Nat.le_refl _) _).alloc (by simp) _
theorem calc_9 : Calls Tryd.prog 39 #[.int .i64 9, .int .i64 a, .int .i64 b] w fun e w' => e = .returned (.tuple #[(calcV (intF 9 a b)).1.val, .bool (calcV (intF 9 a b)).2]) ∧ Below w.heap.size w w' := by
  by_cases h : b = 0
  · subst h
    have HR := Lib.hid (show calcV (intF 9 a 0) = (noV, false) from by unfold intF calcV; simp)
    clear ha hb
    go_enter Tryd.func39, Tryd.ntmps39
    go_wp2_with fail
    refine bodyPost_ret (v := .tuple #[noV.val, .bool false]) (by simp [results, Tryd.results39, go_sem, noV, Vl.val]; rfl) rfl ⟨by rw [HR.out], ?_⟩
    exact (Below.refl _ _).alloc (Nat.le_refl _) _
  · have t0 : (b == 0) = false := by simp; omega
    have t0' : (b != 0) = true := by simp; omega
    have hd := w64_in _ (tmod_in a b ha)
    have HR := Lib.hid (show calcV (intF 9 a b) = (intV (a.tmod b), true) from by rw [show intF 9 a b = (a.tmod b, true) from by unfold intF; rw [if_neg (by omega), if_neg (by omega), if_pos rfl, if_neg (by omega)]]; rfl)
    clear ha hb
    go_enter Tryd.func39, Tryd.ntmps39
    go_wp2_with (go_at_call 7; refine (vint_c _ _).mono ?_; rintro e w' ⟨rfl, rfl⟩)
    refine bodyPost_ret (v := .tuple #[(intV (a.tmod b)).val, .bool true]) (by simp [results, Tryd.results39, go_sem, intV, Vl.val]; rfl) rfl ⟨by rw [HR.out], ?_⟩
    exact ((Below.refl _ _).alloc (Nat.le_refl _) _).alloc (by simp) _
theorem calc_10 : Calls Tryd.prog 39 #[.int .i64 10, .int .i64 a, .int .i64 b] w fun e w' => e = .returned (.tuple #[(calcV (intF 10 a b)).1.val, .bool (calcV (intF 10 a b)).2]) ∧ Below w.heap.size w w' := by
  have hw := w64v (a + b)
  by_cases h : -9223372036854775808 ≤ a + b ∧ a + b ≤ 9223372036854775807
  · have HR := Lib.hid (show calcV (intF 10 a b) = (intV (a + b), true) from by rw [show intF 10 a b = (a + b, true) from by unfold intF; rw [if_neg (by omega), if_neg (by omega), if_neg (by omega), if_pos rfl, fits_yes _ h]]; rfl)
    have hd : (decide (a < wrap64 (a + b)) == decide (0 < b)) = true := by simp; omega
    have HW := Lib.hid (w64_in _ h)
    clear h ha hb hw
    go_enter Tryd.func39, Tryd.ntmps39
    go_wp2_with (go_at_call 7; refine (vint_c _ _).mono ?_; rintro e w' ⟨rfl, rfl⟩)
    refine bodyPost_ret (v := .tuple #[(intV (wrap64 (a + b))).val, .bool true]) (by simp [results, Tryd.results39, go_sem, intV, Vl.val]; rfl) rfl ⟨by rw [HR.out, HW.out], ?_⟩
    exact ((Below.refl _ _).alloc (Nat.le_refl _) _).alloc (by simp) _
  · have HR := Lib.hid (show calcV (intF 10 a b) = (noV, false) from by rw [show intF 10 a b = (0, false) from by unfold intF; rw [if_neg (by omega), if_neg (by omega), if_neg (by omega), if_pos rfl, fits_no _ h]]; rfl)
    have hd : (decide (a < wrap64 (a + b)) == decide (0 < b)) = false := by simp; omega
    clear h ha hb hw
    go_enter Tryd.func39, Tryd.ntmps39
    go_wp2_with (go_at_call 7; refine (vint_c _ _).mono ?_; rintro e w' ⟨rfl, rfl⟩)
    refine bodyPost_ret (v := .tuple #[noV.val, .bool false]) (by simp [results, Tryd.results39, go_sem, noV, Vl.val]; rfl) rfl ⟨by rw [HR.out], ?_⟩
    exact (Below.refl _ _).alloc (Nat.le_refl _) _
theorem calc_11 : Calls Tryd.prog 39 #[.int .i64 11, .int .i64 a, .int .i64 b] w fun e w' => e = .returned (.tuple #[(calcV (intF 11 a b)).1.val, .bool (calcV (intF 11 a b)).2]) ∧ Below w.heap.size w w' := by
  have hw := w64v (a - b)
  by_cases h : -9223372036854775808 ≤ a - b ∧ a - b ≤ 9223372036854775807
  · have HR := Lib.hid (show calcV (intF 11 a b) = (intV (a - b), true) from by rw [show intF 11 a b = (a - b, true) from by unfold intF; rw [if_neg (by omega), if_neg (by omega), if_neg (by omega), if_neg (by omega), if_pos rfl, fits_yes _ h]]; rfl)
    have hd : (decide (wrap64 (a - b) < a) == decide (0 < b)) = true := by simp; omega
    have HW := Lib.hid (w64_in _ h)
    clear h ha hb hw
    go_enter Tryd.func39, Tryd.ntmps39
    go_wp2_with (go_at_call 7; refine (vint_c _ _).mono ?_; rintro e w' ⟨rfl, rfl⟩)
    refine bodyPost_ret (v := .tuple #[(intV (wrap64 (a - b))).val, .bool true]) (by simp [results, Tryd.results39, go_sem, intV, Vl.val]; rfl) rfl ⟨by rw [HR.out, HW.out], ?_⟩
    exact ((Below.refl _ _).alloc (Nat.le_refl _) _).alloc (by simp) _
  · have HR := Lib.hid (show calcV (intF 11 a b) = (noV, false) from by rw [show intF 11 a b = (0, false) from by unfold intF; rw [if_neg (by omega), if_neg (by omega), if_neg (by omega), if_neg (by omega), if_pos rfl, fits_no _ h]]; rfl)
    have hd : (decide (wrap64 (a - b) < a) == decide (0 < b)) = false := by simp; omega
    clear h ha hb hw
    go_enter Tryd.func39, Tryd.ntmps39
    go_wp2_with (go_at_call 7; refine (vint_c _ _).mono ?_; rintro e w' ⟨rfl, rfl⟩)
    refine bodyPost_ret (v := .tuple #[noV.val, .bool false]) (by simp [results, Tryd.results39, go_sem, noV, Vl.val]; rfl) rfl ⟨by rw [HR.out], ?_⟩
    exact (Below.refl _ _).alloc (Nat.le_refl _) _
theorem calc_c (op : Int) (ho : 7 ≤ op ∧ op ≤ 11) : Calls Tryd.prog 39 #[.int .i64 op, .int .i64 a, .int .i64 b] w fun e w' => e = .returned (.tuple #[(calcV (intF op a b)).1.val, .bool (calcV (intF op a b)).2]) ∧ Below w.heap.size w w' := by
  rcases (by omega : op = 7 ∨ op = 8 ∨ op = 9 ∨ op = 10 ∨ op = 11) with rfl | rfl | rfl | rfl | rfl
  · exact calc_7 w a b ha hb
  · exact calc_8 w a b ha hb
  · exact calc_9 w a b ha hb
  · exact calc_10 w a b ha hb
  · exact calc_11 w a b ha hb
end
end Go.Proofs.YtjablobdiglnpaaDoor
