/- The plain side of decimal numbers. -/
import Derived.Laws.BitsAllLaws
namespace Go.Proofs.YtllhlmdhnmdihaaDoor

/-- The digits of a number, by fuel. -/
def dg : Nat → Nat → List UInt8
  | 0, u => [UInt8.ofNat (48 + u % 10)]
  | f + 1, u => if u < 10 then [UInt8.ofNat (48 + u)] else dg f (u / 10) ++ [UInt8.ofNat (48 + u % 10)]

theorem dg_small (f u : Nat) (h : u < 10) : dg f u = [UInt8.ofNat (48 + u)] := by
  cases f with
  | zero => simp [dg, Nat.mod_eq_of_lt h]
  | succ f => simp [dg, h]
theorem dg_great (f u : Nat) (h : ¬ u < 10) : dg (f + 1) u = dg f (u / 10) ++ [UInt8.ofNat (48 + u % 10)] := by simp [dg, h]
theorem dg_fuel (f : Nat) : ∀ (g u : Nat), u < 10 ^ (f + 1) → f ≤ g → dg f u = dg g u := by
  induction f with
  | zero => intro g u h _; rw [dg_small 0 u (by omega), dg_small g u (by omega)]
  | succ f ih =>
    intro g u h hg
    by_cases hu : u < 10
    · rw [dg_small _ _ hu, dg_small _ _ hu]
    · obtain ⟨k, rfl⟩ : ∃ k, g = k + 1 := ⟨g - 1, by omega⟩
      rw [dg_great _ _ hu, dg_great _ _ hu, ih k (u / 10) (by rw [Nat.pow_succ] at h; omega) (by omega)]

/-- The digits. -/
def ds (u : Nat) : List UInt8 := dg 20 u
theorem ds_small (u : Nat) (h : u < 10) : ds u = [UInt8.ofNat (48 + u)] := dg_small _ _ h
theorem ds_great (u : Nat) (h : ¬ u < 10) (hu : u < 100000000000000000000) : ds u = ds (u / 10) ++ [UInt8.ofNat (48 + u % 10)] := by
  unfold ds
  rw [dg_great 19 u h, dg_fuel 19 20 (u / 10) (by omega) (by omega)]

/-- The text of a number. -/
def txt (n : Int) : List UInt8 := if n < 0 then 45 :: ds (-n).toNat else ds n.toNat

theorem txt_pos (n : Int) (h : 10 ≤ n) (hn : n ≤ 9223372036854775807) : txt n = txt (n / 10) ++ txt (n % 10) := by
  unfold txt
  rw [if_neg (by omega), if_neg (by omega), if_neg (by omega), ds_great _ (by omega) (by omega), ds_small ((n % 10).toNat) (by omega)]
  rw [show (n / 10).toNat = n.toNat / 10 from by omega, show (n % 10).toNat = n.toNat % 10 from by omega]
theorem txt_neg (n : Int) (h : n ≤ -10) (hn : -9223372036854775808 ≤ n) : txt n = txt (n.tdiv 10) ++ txt (-(n.tmod 10)) := by
  have e1 : n.tdiv 10 = -((-n) / 10) := by
    rw [← Int.neg_neg n, Int.neg_tdiv, Int.neg_neg, Int.tdiv_eq_ediv_of_nonneg (by omega)]
  have e2 : n.tmod 10 = -((-n) % 10) := by
    rw [← Int.neg_neg n, Int.neg_tmod, Int.neg_neg, Int.tmod_eq_emod_of_nonneg (by omega)]
  rw [e1, e2]
  unfold txt
  rw [if_pos (by omega), if_pos (by omega), if_neg (by omega), ds_great _ (by omega) (by omega), ds_small _ (by omega : (- -(-n % 10)).toNat < 10)]
  rw [show (- -(-n / 10)).toNat = (-n).toNat / 10 from by omega, show (- -(-n % 10)).toNat = (-n).toNat % 10 from by omega]
  rfl
theorem txt_minus (n : Int) (h : n < 0) (h' : -10 < n) : txt n = 45 :: txt (-n) := by
  unfold txt
  rw [if_pos h, if_neg (by omega)]
theorem txt_digit (n : Int) (h : 0 ≤ n) (h' : n < 10) : txt n = [UInt8.ofNat (48 + n.toNat)] := by
  unfold txt
  rw [if_neg (by omega), ds_small _ (by omega)]

/-- The value of digits. -/
def val : Nat → List UInt8 → Nat
  | a, [] => a
  | a, x :: r => val (10 * a + (x.toNat - 48)) r

theorem val_append (a : Nat) (xs ys : List UInt8) : val a (xs ++ ys) = val (val a xs) ys := by
  induction xs generalizing a with
  | nil => rfl
  | cons x r ih => exact ih _

def isDig (x : UInt8) : Bool := decide (48 ≤ x.toNat) && decide (x.toNat ≤ 57)
/-- One or more digits, no zero in front. -/
def numeral (xs : List UInt8) : Bool := xs.all isDig && (xs == [48] || (!(xs.head? == some 48) && !xs.isEmpty))

theorem val_ge (a : Nat) (xs : List UInt8) : a ≤ val a xs := by
  induction xs generalizing a with
  | nil => exact Nat.le_refl _
  | cons x r ih =>
    have h1 : a ≤ 10 * a + (x.toNat - 48) := by omega
    exact Nat.le_trans h1 (ih (10 * a + (x.toNat - 48)))

theorem dg_all (f u : Nat) : (dg f u).all isDig = true := by
  induction f generalizing u with
  | zero => simp [dg, isDig]; omega
  | succ f ih =>
    unfold dg
    split
    · simp [isDig]; omega
    · simp [ih, isDig]; omega

theorem val_snoc (a k : Nat) (xs : List UInt8) (hk : k < 10) : val a (xs ++ [UInt8.ofNat (48 + k)]) = 10 * val a xs + k := by
  rw [val_append]
  have e : (UInt8.ofNat (48 + k)).toNat - 48 = k := by simp; omega
  show 10 * val a xs + ((UInt8.ofNat (48 + k)).toNat - 48) = _
  rw [e]
theorem val_one (k : Nat) (hk : k < 10) : val 0 [UInt8.ofNat (48 + k)] = k := by
  have := val_snoc 0 k [] hk
  rw [List.nil_append] at this
  rw [this]
  show 10 * 0 + k = k
  omega

theorem dg_val (f : Nat) : ∀ (u : Nat), u < 10 ^ (f + 1) → val 0 (dg f u) = u := by
  induction f with
  | zero =>
    intro u h
    rw [dg_small _ _ (by omega)]
    exact val_one u (by omega)
  | succ f ih =>
    intro u h
    by_cases hu : u < 10
    · rw [dg_small _ _ hu]
      exact val_one u hu
    · have h1 := ih (u / 10) (by rw [Nat.pow_succ] at h; omega)
      rw [dg_great _ _ hu, val_snoc _ _ _ (by omega), h1]
      omega

theorem dg_head (f u : Nat) (hu : 0 < u) (h : u < 10 ^ (f + 1)) : ∃ x r, dg f u = x :: r ∧ x ≠ 48 := by
  induction f generalizing u with
  | zero =>
    rw [dg_small _ _ (by omega)]
    refine ⟨_, _, rfl, fun e => ?_⟩
    have := congrArg UInt8.toNat e
    simp at this
    omega
  | succ f ih =>
    by_cases h10 : u < 10
    · rw [dg_small _ _ h10]
      refine ⟨_, _, rfl, fun e => ?_⟩
      have := congrArg UInt8.toNat e
      simp at this
      omega
    · obtain ⟨x, r, e, hx⟩ := ih (u / 10) (by omega) (by rw [Nat.pow_succ] at h; omega)
      rw [dg_great _ _ h10, e]
      exact ⟨x, _, rfl, hx⟩

theorem ds_numeral (u : Nat) (h : u < 100000000000000000000) : numeral (ds u) = true := by
  unfold numeral
  rw [show (ds u).all isDig = true from dg_all 20 u]
  rcases Nat.eq_zero_or_pos u with h0 | h0
  · subst h0; rfl
  · obtain ⟨x, r, e, hx⟩ := dg_head 20 u h0 (by omega)
    unfold ds
    rw [e]
    simp [hx]

theorem ds_val (u : Nat) (h : u < 100000000000000000000) : val 0 (ds u) = u := by
  have h' : u < 10 ^ (20 + 1) := by omega
  exact dg_val 20 u h'

/-- So many digits, so great. -/
theorem val_lt (xs : List UInt8) (h : xs.all isDig = true) : ∀ a, val a xs < (a + 1) * 10 ^ xs.length := by
  induction xs with
  | nil => intro a; show a < (a + 1) * 10 ^ 0; omega
  | cons x r ih =>
    intro a
    simp only [List.all_cons, Bool.and_eq_true] at h
    have hx : 48 ≤ x.toNat ∧ x.toNat ≤ 57 := by simpa [isDig] using h.1
    have h1 := ih h.2 (10 * a + (x.toNat - 48))
    have h2 : (10 * a + (x.toNat - 48) + 1) * 10 ^ r.length ≤ (10 * (a + 1)) * 10 ^ r.length := Nat.mul_le_mul_right _ (by omega)
    have e : (a + 1) * 10 ^ (x :: r).length = (10 * (a + 1)) * 10 ^ r.length := by
      rw [List.length_cons, Nat.pow_succ, Nat.mul_comm (10 ^ r.length) 10, ← Nat.mul_assoc, Nat.mul_comm (a + 1) 10]
    rw [e]
    exact Nat.lt_of_lt_of_le h1 h2

/-- A text of digits without a zero in front is its value's text: one digit more. -/
theorem dg_snoc (ys : List UInt8) (z : UInt8) (v : Nat) (hz : 48 ≤ z.toNat ∧ z.toNat ≤ 57) (hv : val 0 ys = v) (h1 : 1 ≤ v) (h2 : v < 10 ^ 19) (hd : dg 20 v = ys) : dg 20 (val 0 (ys ++ [z])) = ys ++ [z] := by
  have ez : UInt8.ofNat (48 + (z.toNat - 48)) = z := by
    rw [show 48 + (z.toNat - 48) = z.toNat from by omega]; simp
  have e0 : val 0 (ys ++ [z]) = 10 * v + (z.toNat - 48) := by
    rw [val_append, hv]
    rfl
  have hnot : ¬ 10 * v + (z.toNat - 48) < 10 := by omega
  have h3 : v < 10 ^ (19 + 1) := by omega
  rw [e0, dg_great 19 _ hnot, show (10 * v + (z.toNat - 48)) / 10 = v from by omega, show (10 * v + (z.toNat - 48)) % 10 = z.toNat - 48 from by omega, ez, dg_fuel 19 20 v h3 (by omega), hd]

theorem val_pos (x : UInt8) (r : List UInt8) (h : isDig x = true) (hx : x ≠ 48) : 1 ≤ val 0 (x :: r) := by
  have hxd : 48 ≤ x.toNat ∧ x.toNat ≤ 57 := by simpa [isDig] using h
  have h48 : x.toNat ≠ 48 := fun e => hx (UInt8.toNat_inj.1 e)
  have := val_ge (10 * 0 + (x.toNat - 48)) r
  have e : val 0 (x :: r) = val (10 * 0 + (x.toNat - 48)) r := rfl
  omega

theorem key (n : Nat) : ∀ (ys : List UInt8), ys.length = n → ys.all isDig = true → (ys = [48] ∨ ∃ x r, ys = x :: r ∧ x ≠ 48) → n ≤ 20 → dg 20 (val 0 ys) = ys := by
  induction n with
  | zero =>
    intro ys hy _ hs _
    rcases hs with rfl | ⟨x, r, rfl, _⟩ <;> simp at hy
  | succ n ih =>
    intro ys hy ha hs hn
    rcases List.eq_nil_or_concat ys with rfl | ⟨zs, z, rfl⟩
    · simp at hy
    · simp only [List.concat_eq_append] at *
      rw [List.all_append, Bool.and_eq_true] at ha
      have hz : 48 ≤ z.toNat ∧ z.toNat ≤ 57 := by simpa [isDig] using ha.2
      cases zs with
      | nil =>
        have ez : UInt8.ofNat (48 + (z.toNat - 48)) = z := by
          rw [show 48 + (z.toNat - 48) = z.toNat from by omega]; simp
        have e := val_one (z.toNat - 48) (by omega)
        rw [ez] at e
        rw [List.nil_append, e, dg_small _ _ (by omega), ez]
      | cons x r =>
        have hx : x ≠ 48 := by
          rcases hs with h | ⟨x', r', e, hx⟩
          · simp at h
          · simp at e; rw [e.1]; exact hx
        have hlen : (x :: r).length = n := by simpa using hy
        have hxd : isDig x = true := by have := ha.1; simp only [List.all_cons, Bool.and_eq_true] at this; exact this.1
        have hv := val_lt (x :: r) ha.1 0
        rw [hlen, Nat.zero_add, Nat.one_mul] at hv
        have hp : 10 ^ n ≤ 10 ^ 19 := Nat.pow_le_pow_right (by omega) (by omega)
        exact dg_snoc (x :: r) z _ hz rfl (val_pos x r hxd hx) (Nat.lt_of_lt_of_le hv hp) (ih (x :: r) hlen ha.1 (.inr ⟨x, r, rfl, hx⟩) (by omega))

theorem numeral_ds (xs : List UInt8) (h : numeral xs = true) (hl : xs.length ≤ 20) : ds (val 0 xs) = xs := by
  unfold numeral at h
  rw [Bool.and_eq_true, Bool.or_eq_true] at h
  refine key xs.length xs rfl h.1 ?_ hl
  rcases h.2 with h | h
  · exact .inl (by simpa using h)
  · cases xs with
    | nil => simp at h
    | cons x r => exact .inr ⟨x, r, rfl, by simpa using h⟩
end Go.Proofs.YtllhlmdhnmdihaaDoor
