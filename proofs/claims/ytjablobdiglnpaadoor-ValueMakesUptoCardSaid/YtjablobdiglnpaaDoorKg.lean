/- The reference's Can whatever the value; its order, truth, times, whole. -/
import Derived.Test.YtjablobdiglnpaaDoorKf
import Derived.Deep.QuietTactic
import Derived.BigQuiet
namespace Go.Proofs.YtjablobdiglnpaaDoor
open Go.RowKit
set_option linter.unusedVariables false

theorem toList_nil (s : ByteArray) (h : s.toList = []) : s = ⟨#[]⟩ := by
  rw [ByteArray.toList_eq] at h
  obtain ⟨⟨l⟩⟩ := s
  simp at h
  subst h
  rfl
theorem sameB_ne (a b : Vl) (h : a ≠ b) : sameB a b = false := by
  rw [← Bool.not_eq_true, sameB_iff]; exact h
set_option maxRecDepth 100000 in
theorem rcan_0 (w : World) (n : Int) (y : Bool) (s : ByteArray) : Calls Tryd.prog 14 #[.agg #[.int .i64 0, .int .i64 n, .bool y, .string s]] w fun e w' => e = .returned (.bool (sameB ⟨0, n, y, s⟩ noV)) ∧ Below w.heap.size w w' := by
  have HS := Lib.hid (show sameB ⟨0, n, y, s⟩ noV = (n == 0 && (y == false && s.toList == [])) from by simp [sameB, noV])
  rw [HS.out]
  go_enter Tryd.func14, Tryd.ntmps14
  go_wp2_with fail
  all_goals
    go_ret
    exact ⟨by simp [*], box_below _ _⟩
set_option maxRecDepth 100000 in
theorem rcan_other (w : World) (k n : Int) (y : Bool) (s : ByteArray) (h : k ≠ 0 ∧ k ≠ 1 ∧ k ≠ 2 ∧ k ≠ 3) : Calls Tryd.prog 14 #[.agg #[.int .i64 k, .int .i64 n, .bool y, .string s]] w fun e w' => e = .returned (.bool false) ∧ Below w.heap.size w w' := by
  have t0 : (k == 0) = false := by simp; omega
  have t1 : (k == 1) = false := by simp; omega
  have t2 : (k == 2) = false := by simp; omega
  have t3 : (k == 3) = false := by simp; omega
  clear h
  go_enter Tryd.func14, Tryd.ntmps14
  go_wp2_with fail
  go_ret
  exact ⟨rfl, box_below _ _⟩
theorem rcan_c (w : World) (v : Vl) : Calls Tryd.prog 14 #[v.val] w fun e w' => e = .returned (.bool (canB v)) ∧ Below w.heap.size w w' := by
  obtain ⟨k, n, y, s⟩ := v
  unfold canB
  dsimp only
  by_cases h0 : k = 0
  · subst h0
    rw [if_pos rfl]
    exact rcan_0 w n y s
  rw [if_neg h0]
  by_cases h1 : k = 1
  · subst h1
    rw [if_pos rfl]
    cases y
    · by_cases hs : s.toList = []
      · obtain rfl := toList_nil s hs
        rw [show sameB ⟨1, n, false, ⟨#[]⟩⟩ (intV n) = true from (sameB_iff _ _).2 rfl]
        exact rcan_1e w n
      · rw [sameB_ne ⟨1, n, false, s⟩ (intV n) (by intro h; simp only [intV, Vl.mk.injEq] at h; apply hs; rw [h.2.2.2, ByteArray.toList_eq]; rfl)]
        exact rcan_1s w n s hs
    · rw [sameB_ne ⟨1, n, true, s⟩ (intV n) (by intro h; simp [intV] at h)]
      exact rcan_1y w n s
  rw [if_neg h1]
  by_cases h2 : k = 2
  · subst h2
    rw [if_pos rfl]
    by_cases hn : n = 0
    · subst hn
      by_cases hs : s.toList = []
      · obtain rfl := toList_nil s hs
        rw [show sameB ⟨2, 0, y, ⟨#[]⟩⟩ (boolV y) = true from (sameB_iff _ _).2 rfl]
        exact rcan_2e w y
      · rw [sameB_ne ⟨2, 0, y, s⟩ (boolV y) (by intro h; simp only [boolV, Vl.mk.injEq] at h; apply hs; rw [h.2.2.2, ByteArray.toList_eq]; rfl)]
        exact rcan_2s w y s hs
    · rw [sameB_ne ⟨2, n, y, s⟩ (boolV y) (by intro h; simp only [boolV, Vl.mk.injEq] at h; exact hn h.2.1)]
      exact rcan_2n w n y s hn
  rw [if_neg h2]
  by_cases h3 : k = 3
  · subst h3
    rw [if_pos rfl]
    unfold textB
    by_cases hn : n = 0
    · subst hn
      cases y
      · rw [show sameB ⟨3, 0, false, s⟩ (textV s) = true from (sameB_iff _ _).2 rfl, Bool.true_and]
        by_cases hl : s.size ≤ 256
        · rw [show decide (s.size ≤ 256) = true from by simpa using hl, Bool.true_and]
          exact rcan_3w w s hl
        · rw [show decide (s.size ≤ 256) = false from by simpa using hl, Bool.false_and]
          exact rcan_3l w s (by omega)
      · rw [sameB_ne ⟨3, 0, true, s⟩ (textV s) (by intro h; simp [textV] at h), Bool.false_and]
        exact rcan_3y w s
    · rw [sameB_ne ⟨3, n, y, s⟩ (textV s) (by intro h; simp only [textV, Vl.mk.injEq] at h; exact hn h.2.1), Bool.false_and]
      exact rcan_3n w n y s hn
  · rw [if_neg h3]
    exact rcan_other w k n y s ⟨h0, h1, h2, h3⟩

/-! ### Order -/
def lessB (a b : Vl) : Bool := decide (a.n < b.n) || Op.bytesLess a.s.toList b.s.toList
def moreB (a b : Vl) : Bool := decide (b.n < a.n) || !(Op.bytesLess a.s.toList b.s.toList || a.s.toList == b.s.toList)
def orderF (a b : Vl) : Int := if lessB a b = true then -1 else if moreB a b = true then 1 else 0

section
variable (w : World) (ak an : Int) (ay : Bool) (sa : ByteArray) (bk bn : Int) (b3 : Bool) (sb : ByteArray)
theorem rorder_a : Calls Tryd.prog 55 #[.agg #[.int .i64 ak, .int .i64 an, .bool ay, .string sa], .agg #[.int .i64 bk, .int .i64 bn, .bool b3, .string sb]] w fun e w' => e = .returned (.int .i64 (orderF ⟨ak, an, ay, sa⟩ ⟨bk, bn, b3, sb⟩)) ∧ Below w.heap.size w w' := by
  have HB := Lib.hid (fun (o1 o2 : Obj) => (box_below w o1).alloc (show w.heap.size ≤ (w.alloc o1).heap.size by simp) o2)
  have HE := Lib.hid (show orderF ⟨ak, an, ay, sa⟩ ⟨bk, bn, b3, sb⟩ = if (decide (an < bn) || Op.bytesLess sa.toList sb.toList) = true then -1 else if (decide (bn < an) || !(Op.bytesLess sa.toList sb.toList || sa.toList == sb.toList)) = true then 1 else 0 from rfl)
  obtain ⟨x, hx⟩ : ∃ x, x = Op.bytesLess sa.toList sb.toList := ⟨_, rfl⟩
  obtain ⟨y, hy⟩ : ∃ y, y = (sa.toList == sb.toList) := ⟨_, rfl⟩
  rw [← hx, ← hy] at HE
  have tx := hx.symm
  have ty := hy.symm
  clear hx hy
  rcases (by omega : an < bn ∨ bn < an ∨ an = bn) with h | h | rfl
  all_goals
    cases x <;> cases y

  all_goals
    have HE2 := Lib.hid HE.out
    clear HE
    go_enter Tryd.func55, Tryd.ntmps55
    go_wp2_with fail
    go_ret
    refine ⟨?_, HB.out _ _⟩
    rw [HE2.out]
    first
      | (simp [h]; done)
      | (simp [h]; omega)
      | (simp; done)
      | (simp; omega)
end
end Go.Proofs.YtjablobdiglnpaaDoor
