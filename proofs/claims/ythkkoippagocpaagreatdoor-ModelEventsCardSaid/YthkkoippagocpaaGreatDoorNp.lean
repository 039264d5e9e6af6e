/- The reference's Number. -/
import Derived.Test.YthkkoippagocpaaGreatDoorNo
import Derived.Test.YthkkoippagocpaaGreatDoorNu
namespace Go.Proofs.YthkkoippagocpaaGreatDoor
open Go.RowKit
set_option linter.unusedVariables false

theorem numD_bad (m : Bool) (d : List UInt8) (h : d.all isDig = false) : numD m d = (0, 5) :=
  numD_form m d (.inl (by unfold numeral; rw [h]; rfl))
theorem numD_nil (m : Bool) : numD m [] = (0, 5) := numD_form m [] (.inl rfl)
theorem numD_zero (m : Bool) (r : List UInt8) (h : m = true ∨ r ≠ []) : numD m (48 :: r) = (0, 5) := by
  by_cases hr : r = []
  · subst hr
    exact numD_form m [48] (.inr ⟨by simpa using h, rfl⟩)
  · refine numD_form m _ (.inl ?_)
    unfold numeral
    rw [show ((48 :: r : List UInt8) == [48]) = false from by simpa using hr]
    simp
theorem numeral_of (d : List UInt8) (x : UInt8) (r : List UInt8) (hd : d = x :: r) (ha : d.all isDig = true) (h : x ≠ 48 ∨ r = []) : numeral d = true := by
  unfold numeral
  rw [ha]
  by_cases hx : x = 48
  · subst hx
    have : r = [] := by rcases h with h | h; exact absurd rfl h; exact h
    rw [hd, this]; rfl
  · rw [hd]; simp [hx]
theorem notZ_of (m : Bool) (d : List UInt8) (x : UInt8) (r : List UInt8) (hd : d = x :: r) (h : m = false ∨ x ≠ 48) : NotZ m d := by
  intro ⟨h1, h2⟩
  rw [hd] at h2
  rcases h with h | h
  · rw [h1] at h; cases h
  · exact h (List.cons.inj h2).1

theorem w64 (z : Int) : wrap64 z = (z + 9223372036854775808) % 18446744073709551616 - 9223372036854775808 := by unfold wrap64; omega
theorem w64_step (V D : Int) : wrap64 (wrap64 (10 * wrap64 (-V)) - D) = wrap64 (-(10 * V + D)) := by
  rw [w64, w64, w64, w64]; omega
theorem ds_ne (u : Nat) (h : u < 100000000000000000000) (r : List UInt8) : ds u ≠ 45 :: r := by
  intro e
  have := dg_all 20 u
  unfold ds at e
  rw [e] at this
  simp [isDig] at this
theorem val_19 (d : List UInt8) (h : d.all isDig = true) (hl : d.length ≤ 19) : val 0 d < 10000000000000000000 := by
  have := val_lt d h 0
  rw [Nat.zero_add, Nat.one_mul] at this
  have hp : 10 ^ d.length ≤ 10 ^ 19 := Nat.pow_le_pow_right (by omega) hl
  omega
theorem key20 (n : Nat) : ∀ (ys : List UInt8), ys.length = n → 20 ≤ n → ys.all isDig = true → ∀ x r, ys = x :: r → x ≠ 48 → 10000000000000000000 ≤ val 0 ys := by
  intro ys hy hn ha x r hd hx
  subst hd
  have hxd : isDig x = true := by simp only [List.all_cons, Bool.and_eq_true] at ha; exact ha.1
  have h1 : 48 ≤ x.toNat ∧ x.toNat ≤ 57 := by simpa [isDig] using hxd
  have h48 : x.toNat ≠ 48 := fun e => hx (UInt8.toNat_inj.1 e)
  have hr : ∀ (l : List UInt8) (a : Nat), a * 10 ^ l.length ≤ val a l := by
    intro l
    induction l with
    | nil => intro a; show a * 10 ^ 0 ≤ a; omega
    | cons y t ih =>
      intro a
      have := ih (10 * a + (y.toNat - 48))
      have e : a * 10 ^ (y :: t).length = (10 * a) * 10 ^ t.length := by rw [List.length_cons, Nat.pow_succ, Nat.mul_comm (10 ^ t.length) 10, ← Nat.mul_assoc, Nat.mul_comm a 10]
      rw [e]
      exact Nat.le_trans (Nat.mul_le_mul_right _ (by omega)) this
  have h2 := hr r (10 * 0 + (x.toNat - 48))
  have hp : 10 ^ 19 ≤ 10 ^ r.length := Nat.pow_le_pow_right (by omega) (by simp at hy; omega)
  have h3 : 1 * 10 ^ 19 ≤ (10 * 0 + (x.toNat - 48)) * 10 ^ r.length := Nat.mul_le_mul (by omega) hp
  exact Nat.le_trans (by omega) h2

theorem txt_of_plus (d : List UInt8) (h : numeral d = true) (hl : d.length ≤ 20) : txt ((val 0 d : Nat) : Int) = d := by
  unfold txt
  rw [if_neg (by omega)]
  simpa using numeral_ds d h hl
theorem val_pos_of (d : List UInt8) (h : numeral d = true) (h0 : NotZ true d) : 1 ≤ val 0 d := by
  unfold numeral at h
  rw [Bool.and_eq_true, Bool.or_eq_true] at h
  cases d with
  | nil => simp at h
  | cons x r =>
    have hx : x ≠ 48 := by
      intro e
      subst e
      rcases h.2 with h2 | h2
      · exact h0 ⟨rfl, by simpa using h2⟩
      · simp at h2
    exact val_pos x r (by have := h.1; simp only [List.all_cons, Bool.and_eq_true] at this; exact this.1) hx
theorem txt_of_minus (d : List UInt8) (h : numeral d = true) (h0 : NotZ true d) (hl : d.length ≤ 20) : txt (-((val 0 d : Nat) : Int)) = 45 :: d := by
  have hp := val_pos_of d h h0
  unfold txt
  rw [if_pos (by omega), show (- -((val 0 d : Nat) : Int)).toNat = val 0 d from by omega, numeral_ds d h hl]

end Go.Proofs.YthkkoippagocpaaGreatDoor
