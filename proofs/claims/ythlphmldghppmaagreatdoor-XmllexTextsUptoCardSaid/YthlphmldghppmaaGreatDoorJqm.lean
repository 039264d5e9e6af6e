/- The plain side of decimal numbers. -/
import Derived.Laws.BitsAllLaws
import Derived.Test.YthlphmldghppmaaGreatDoorCa
import Derived.Test.YthlphmldghppmaaGreatDoorHm
import Derived.Test.YthlphmldghppmaaGreatDoorJz
import Derived.Test.YthlphmldghppmaaGreatDoorIc
namespace Go.Proofs.YthlphmldghppmaaGreatDoor

/-- The digits of a number, by fuel. -/
def dg : Nat → Nat → List UInt8
  | 0, u => [UInt8.ofNat (48 + u % 10)]
  | f + 1, u => if u < 10 then [UInt8.ofNat (48 + u)] else dg f (u / 10) ++ [UInt8.ofNat (48 + u % 10)]

theorem dg_small (f u : Nat) (h : u < 10) : dg f u = [UInt8.ofNat (48 + u)] := by
  cases f with
  | zero => simp [dg, Nat.mod_eq_of_lt h]
  | succ f => simp [dg, h]
theorem dg_great (f u : Nat) (h : ¬ u < 10) : dg (f + 1) u = dg f (u / 10) ++ [UInt8.ofNat (48 + u % 10)] := by simp [dg, h]
theorem dg_fuel (f : Nat) : ∀ (g u : Nat), u < 10 ^ (f + 1) → f ≤ g → dg f u = dg g u := by
  induction f with
  | zero => intro g u h _; rw [dg_small 0 u (by omega), dg_small g u (by omega)]
  | succ f ih =>
    intro g u h hg
    by_cases hu : u < 10
    · rw [dg_small _ _ hu, dg_small _ _ hu]
    · obtain ⟨k, rfl⟩ : ∃ k, g = k + 1 := ⟨g - 1, by omega⟩
      rw [dg_great _ _ hu, dg_great _ _ hu, ih k (u / 10) (by rw [Nat.pow_succ] at h; omega) (by omega)]

/-- The digits. -/
def ds (u : Nat) : List UInt8 := dg 20 u
theorem ds_small (u : Nat) (h : u < 10) : ds u = [UInt8.ofNat (48 + u)] := dg_small _ _ h
theorem ds_great (u : Nat) (h : ¬ u < 10) (hu : u < 100000000000000000000) : ds u = ds (u / 10) ++ [UInt8.ofNat (48 + u % 10)] := by
  unfold ds
  rw [dg_great 19 u h, dg_fuel 19 20 (u / 10) (by omega) (by omega)]

/-- The text of a number. -/
def txt (n : Int) : List UInt8 := if n < 0 then 45 :: ds (-n).toNat else ds n.toNat

theorem txt_pos (n : Int) (h : 10 ≤ n) (hn : n ≤ 9223372036854775807) : txt n = txt (n / 10) ++ txt (n % 10) := by
  unfold txt
  rw [if_neg (by omega), if_neg (by omega), if_neg (by omega), ds_great _ (by omega) (by omega), ds_small ((n % 10).toNat) (by omega)]
  rw [show (n / 10).toNat = n.toNat / 10 from by omega, show (n % 10).toNat = n.toNat % 10 from by omega]
theorem txt_neg (n : Int) (h : n ≤ -10) (hn : -9223372036854775808 ≤ n) : txt n = txt (n.tdiv 10) ++ txt (-(n.tmod 10)) := by
  have e1 : n.tdiv 10 = -((-n) / 10) := by
    rw [← Int.neg_neg n, Int.neg_tdiv, Int.neg_neg, Int.tdiv_eq_ediv_of_nonneg (by omega)]
  have e2 : n.tmod 10 = -((-n) % 10) := by
    rw [← Int.neg_neg n, Int.neg_tmod, Int.neg_neg, Int.tmod_eq_emod_of_nonneg (by omega)]
  rw [e1, e2]
  unfold txt
  rw [if_pos (by omega), if_pos (by omega), if_neg (by omega), ds_great _ (by omega) (by omega), ds_small _ (by omega : (- -(-n % 10)).toNat < 10)]
  rw [show (- -(-n / 10)).toNat = (-n).toNat / 10 from by omega, show (- -(-n % 10)).toNat = (-n).toNat % 10 from by omega]
  rfl
theorem txt_minus (n : Int) (h : n < 0) (h' : -10 < n) : txt n = 45 :: txt (-n) := by
  unfold txt
  rw [if_pos h, if_neg (by omega)]
theorem txt_digit (n : Int) (h : 0 ≤ n) (h' : n < 10) : txt n = [UInt8.ofNat (48 + n.toNat)] := by
  unfold txt
  rw [if_neg (by omega), ds_small _ (by omega)]

/-- The value of digits. -/
def val : Nat → List UInt8 → Nat
  | a, [] => a
  | a, x :: r => val (10 * a + (x.toNat - 48)) r

theorem val_append (a : Nat) (xs ys : List UInt8) : val a (xs ++ ys) = val (val a xs) ys := by
  induction xs generalizing a with
  | nil => rfl
  | cons x r ih => exact ih _

def isDig (x : UInt8) : Bool := decide (48 ≤ x.toNat) && decide (x.toNat ≤ 57)
/-- One or more digits, no zero in front. -/
def numeral (xs : List UInt8) : Bool := xs.all isDig && (xs == [48] || (!(xs.head? == some 48) && !xs.isEmpty))

theorem val_ge (a : Nat) (xs : List UInt8) : a ≤ val a xs := by
  induction xs generalizing a with
  | nil => exact Nat.le_refl _
  | cons x r ih =>
    have h1 : a ≤ 10 * a + (x.toNat - 48) := by omega
    exact Nat.le_trans h1 (ih (10 * a + (x.toNat - 48)))

theorem dg_all (f u : Nat) : (dg f u).all isDig = true := by
  induction f generalizing u with
  | zero => simp [dg, isDig]; omega
  | succ f ih =>
    unfold dg
    split
    · simp [isDig]; omega
    · simp [ih, isDig]; omega

theorem val_snoc (a k : Nat) (xs : List UInt8) (hk : k < 10) : val a (xs ++ [UInt8.ofNat (48 + k)]) = 10 * val a xs + k := by
  rw [val_append]
  have e : (UInt8.ofNat (48 + k)).toNat - 48 = k := by simp; omega
  show 10 * val a xs + ((UInt8.ofNat (48 + k)).toNat - 48) = _
  rw [e]
theorem val_one (k : Nat) (hk : k < 10) : val 0 [UInt8.ofNat (48 + k)] = k := by
  have := val_snoc 0 k [] hk
  rw [List.nil_append] at this
  rw [this]
  show 10 * 0 + k = k
  omega

theorem dg_val (f : Nat) : ∀ (u : Nat), u < 10 ^ (f + 1) → val 0 (dg f u) = u := by
  induction f with
  | zero =>
    intro u h
    rw [dg_small _ _ (by omega)]
    exact val_one u (by omega)
  | succ f ih =>
    intro u h
    by_cases hu : u < 10
    · rw [dg_small _ _ hu]
      exact val_one u hu
    · have h1 := ih (u / 10) (by rw [Nat.pow_succ] at h; omega)
      rw [dg_great _ _ hu, val_snoc _ _ _ (by omega), h1]
      omega

theorem dg_head (f u : Nat) (hu : 0 < u) (h : u < 10 ^ (f + 1)) : ∃ x r, dg f u = x :: r ∧ x ≠ 48 := by
  induction f generalizing u with
  | zero =>
    rw [dg_small _ _ (by omega)]
    refine ⟨_, _, rfl, fun e => ?_⟩
    have := congrArg UInt8.toNat e
    simp at this
    omega
  | succ f ih =>
    by_cases h10 : u < 10
    · rw [dg_small _ _ h10]
      refine ⟨_, _, rfl, fun e => ?_⟩
      have := congrArg UInt8.toNat e
      simp at this
      omega
    · obtain ⟨x, r, e, hx⟩ := ih (u / 10) (by omega) (by rw [Nat.pow_succ] at h; omega)
      rw [dg_great _ _ h10, e]
      exact ⟨x, _, rfl, hx⟩

theorem ds_numeral (u : Nat) (h : u < 100000000000000000000) : numeral (ds u) = true := by
  unfold numeral
  rw [show (ds u).all isDig = true from dg_all 20 u]
  rcases Nat.eq_zero_or_pos u with h0 | h0
  · subst h0; rfl
  · obtain ⟨x, r, e, hx⟩ := dg_head 20 u h0 (by omega)
    unfold ds
    rw [e]
    simp [hx]

theorem ds_val (u : Nat) (h : u < 100000000000000000000) : val 0 (ds u) = u := by
  have h' : u < 10 ^ (20 + 1) := by omega
  exact dg_val 20 u h'

/-- So many digits, so great. -/
theorem val_lt (xs : List UInt8) (h : xs.all isDig = true) : ∀ a, val a xs < (a + 1) * 10 ^ xs.length := by
  induction xs with
  | nil => intro a; show a < (a + 1) * 10 ^ 0; omega
  | cons x r ih =>
    intro a
    simp only [List.all_cons, Bool.and_eq_true] at h
    have hx : 48 ≤ x.toNat ∧ x.toNat ≤ 57 := by simpa [isDig] using h.1
    have h1 := ih h.2 (10 * a + (x.toNat - 48))
    have h2 : (10 * a + (x.toNat - 48) + 1) * 10 ^ r.length ≤ (10 * (a + 1)) * 10 ^ r.length := Nat.mul_le_mul_right _ (by omega)
    have e : (a + 1) * 10 ^ (x :: r).length = (10 * (a + 1)) * 10 ^ r.length := by
      rw [List.length_cons, Nat.pow_succ, Nat.mul_comm (10 ^ r.length) 10, ← Nat.mul_assoc, Nat.mul_comm (a + 1) 10]
    rw [e]
    exact Nat.lt_of_lt_of_le h1 h2

/-- A text of digits without a zero in front is its value's text: one digit more. -/
theorem dg_snoc (ys : List UInt8) (z : UInt8) (v : Nat) (hz : 48 ≤ z.toNat ∧ z.toNat ≤ 57) (hv : val 0 ys = v) (h1 : 1 ≤ v) (h2 : v < 10 ^ 19) (hd : dg 20 v = ys) : dg 20 (val 0 (ys ++ [z])) = ys ++ [z] := by
  have ez : UInt8.ofNat (48 + (z.toNat - 48)) = z := by
    rw [show 48 + (z.toNat - 48) = z.toNat from by omega]; simp
  have e0 : val 0 (ys ++ [z]) = 10 * v + (z.toNat - 48) := by
    rw [val_append, hv]
    rfl
  have hnot : ¬ 10 * v + (z.toNat - 48) < 10 := by omega
  have h3 : v < 10 ^ (19 + 1) := by omega
  rw [e0, dg_great 19 _ hnot, show (10 * v + (z.toNat - 48)) / 10 = v from by omega, show (10 * v + (z.toNat - 48)) % 10 = z.toNat - 48 from by omega, ez, dg_fuel 19 20 v h3 (by omega), hd]

theorem val_pos (x : UInt8) (r : List UInt8) (h : isDig x = true) (hx : x ≠ 48) : 1 ≤ val 0 (x :: r) := by
  have hxd : 48 ≤ x.toNat ∧ x.toNat ≤ 57 := by simpa [isDig] using h
  have h48 : x.toNat ≠ 48 := fun e => hx (UInt8.toNat_inj.1 e)
  have := val_ge (10 * 0 + (x.toNat - 48)) r
  have e : val 0 (x :: r) = val (10 * 0 + (x.toNat - 48)) r := rfl
  omega

theorem key (n : Nat) : ∀ (ys : List UInt8), ys.length = n → ys.all isDig = true → (ys = [48] ∨ ∃ x r, ys = x :: r ∧ x ≠ 48) → n ≤ 20 → dg 20 (val 0 ys) = ys := by
  induction n with
  | zero =>
    intro ys hy _ hs _
    rcases hs with rfl | ⟨x, r, rfl, _⟩ <;> simp at hy
  | succ n ih =>
    intro ys hy ha hs hn
    rcases List.eq_nil_or_concat ys with rfl | ⟨zs, z, rfl⟩
    · simp at hy
    · simp only [List.concat_eq_append] at *
      rw [List.all_append, Bool.and_eq_true] at ha
      have hz : 48 ≤ z.toNat ∧ z.toNat ≤ 57 := by simpa [isDig] using ha.2
      cases zs with
      | nil =>
        have ez : UInt8.ofNat (48 + (z.toNat - 48)) = z := by
          rw [show 48 + (z.toNat - 48) = z.toNat from by omega]; simp
        have e := val_one (z.toNat - 48) (by omega)
        rw [ez] at e
        rw [List.nil_append, e, dg_small _ _ (by omega), ez]
      | cons x r =>
        have hx : x ≠ 48 := by
          rcases hs with h | ⟨x', r', e, hx⟩
          · simp at h
          · simp at e; rw [e.1]; exact hx
        have hlen : (x :: r).length = n := by simpa using hy
        have hxd : isDig x = true := by have := ha.1; simp only [List.all_cons, Bool.and_eq_true] at this; exact this.1
        have hv := val_lt (x :: r) ha.1 0
        rw [hlen, Nat.zero_add, Nat.one_mul] at hv
        have hp : 10 ^ n ≤ 10 ^ 19 := Nat.pow_le_pow_right (by omega) (by omega)
        exact dg_snoc (x :: r) z _ hz rfl (val_pos x r hxd hx) (Nat.lt_of_lt_of_le hv hp) (ih (x :: r) hlen ha.1 (.inr ⟨x, r, rfl, hx⟩) (by omega))

theorem numeral_ds (xs : List UInt8) (h : numeral xs = true) (hl : xs.length ≤ 20) : ds (val 0 xs) = xs := by
  unfold numeral at h
  rw [Bool.and_eq_true, Bool.or_eq_true] at h
  refine key xs.length xs rfl h.1 ?_ hl
  rcases h.2 with h | h
  · exact .inl (by simpa using h)
  · cases xs with
    | nil => simp at h
    | cons x r => exact .inr ⟨x, r, rfl, by simpa using h⟩
end Go.Proofs.YthlphmldghppmaaGreatDoor

/- chars.Text. -/
namespace Go.Proofs.YthlphmldghppmaaGreatDoor
open Go.RowKit
set_option linter.unusedVariables false

theorem u64w (n : Int) : IntKind.u64.wrap n = n % 18446744073709551616 := by simp [IntKind.wrap, IntKind.signed, IntKind.bits]

theorem heap_modc {w : World} {b o : Nat} {cs : Array Value} {u : Value} {T : TypeId} (h : w.heap[b]? = some (.cells cs T (0, 0))) :
    (w.setCell ⟨b, o, none⟩ u).heap[b]? = some (.cells (cs.setIfInBounds o u) T (0, 0)) := by
  have hlt := lt_of_block h
  have h' : w.heap[b] = .cells cs T (0, 0) := by simpa [Array.getElem?_eq_getElem hlt] using h
  show (w.heap.modify b _)[b]? = _
  rw [Array.getElem?_eq_getElem (by simpa using hlt), Array.getElem_modify_self, h']
  rfl

/-- One digit more. -/
theorem dig_step {u N a : Nat} {dl : List UInt8} (hd : ds u ++ dl = ds N) (hu : u < 10 ^ (a - 1)) (ha : 1 ≤ a) (h20 : a ≤ 20) (h10 : ¬ u < 10) : ds (u / 10) ++ (UInt8.ofNat (48 + u % 10) :: dl) = ds N ∧ u / 10 < 10 ^ (a - 1 - 1) ∧ 2 ≤ a := by
  have h2 : 2 ≤ a := by
    rcases Nat.lt_or_ge a 2 with h | h
    · obtain rfl : a = 1 := by omega
      simp at hu
      omega
    · exact h
  obtain ⟨k, rfl⟩ : ∃ k, a = k + 2 := ⟨a - 2, by omega⟩
  have hk : (10 : Nat) ^ (k + 1) ≤ 10 ^ 19 := Nat.pow_le_pow_right (by omega) (by omega)
  have hu' : u < 10 ^ (k + 1) := hu
  refine ⟨?_, ?_, h2⟩
  · rw [← hd, ds_great u h10 (by omega), List.append_assoc]
    rfl
  · show u / 10 < 10 ^ k
    rw [Nat.pow_succ] at hu'
    omega

end Go.Proofs.YthlphmldghppmaaGreatDoor

/- The reference's Text: it calls itself. -/
namespace Go.Proofs.YthlphmldghppmaaGreatDoor
open Go.RowKit
set_option linter.unusedVariables false

theorem txt_size (k : Nat) : ∀ (n : Int), -9223372036854775808 ≤ n → n ≤ 9223372036854775807 → (txt n).length ≤ 25 := by
  intro n h1 h2
  have hd : ∀ f u, (dg f u).length ≤ f + 1 := by
    intro f
    induction f with
    | zero => intro u; simp [dg]
    | succ f ih => intro u; unfold dg; split; · simp
                   · have := ih (u / 10); simp; omega
  unfold txt
  split
  · have := hd 20 (-n).toNat
    unfold ds
    simp only [List.length_cons]
    omega
  · have := hd 20 n.toNat
    unfold ds
    omega

theorem cat (a b : List UInt8) : ((⟨a.toArray⟩ : ByteArray) ++ ⟨b.toArray⟩) = ⟨(a ++ b).toArray⟩ := by
  apply ByteArray.ext
  simp [ByteArray.data_append]

theorem digit_cut : ∀ m : Fin 10, ((⟨#[48, 49, 50, 51, 52, 53, 54, 55, 56, 57]⟩ : ByteArray).extract m.val (m.val + 1)) = ⟨[UInt8.ofNat (48 + m.val)].toArray⟩ := by decide +kernel

set_option maxRecDepth 100000 in
theorem rdigit_c (n : Int) (w : World) (h0 : 0 ≤ n) (h10 : n < 10) :
    Calls Tryz.prog 36 #[.int .i64 n] w fun e w' => e = .returned (.string ⟨(txt n).toArray⟩) ∧ w = w' := by
  have HT := Lib.hid (txt_digit n h0 h10)
  have HC := Lib.hid (digit_cut ⟨n.toNat, by omega⟩)
  go_enter Tryz.func36, Tryz.ntmps36
  go_wp2_with fail
  go_ret
  refine ⟨?_, rfl⟩
  rw [HT.out, ← HC.out]
  rw [show (n + 1).toNat = n.toNat + 1 from by omega]
  rfl

set_option maxRecDepth 100000 in
set_option maxHeartbeats 1000000 in
theorem rtext_c (k : Nat) : ∀ (n : Int) (w : World), n.natAbs < 10 ^ (k + 1) → -9223372036854775808 ≤ n → n ≤ 9223372036854775807 →
    Calls Tryz.prog 36 #[.int .i64 n] w fun e w' => e = .returned (.string ⟨(txt n).toArray⟩) ∧ w = w' := by
  induction k with
  | zero =>
    intro n w hk hlo hhi
    by_cases hneg : n < 0
    · have HT := Lib.hid (txt_minus n hneg (by omega))
      have hk' : -10 < n := by omega
      have L1 := txt_size 0 (-n) (by omega) (by omega)
      clear hk
      generalize ha : txt (-n) = a at *
      have HA := Lib.hid ha
      clear ha
      go_enter Tryz.func36, Tryz.ntmps36
      go_wp2_with fail
      refine (rdigit_c (-n) _ (by omega) (by omega)).mono ?_
      rintro e w' ⟨rfl, rfl⟩
      rw [HA.out]
      go_wp2_with fail
      go_ret
      exact ⟨by rw [HT.out, show (45 :: a) = [45] ++ a from rfl, ← cat]; rfl, rfl⟩
    · exact rdigit_c n w (by omega) (by omega)
  | succ k ih =>
    intro n w hk hlo hhi
    by_cases h1 : 0 ≤ n
    · by_cases h2 : n < 10
      · exact rdigit_c n w h1 h2
      · have HT := Lib.hid (txt_pos n (by omega) hhi)
        have HI := Lib.hid (ih (n / 10) w (by rw [Nat.pow_succ] at hk; omega) (by omega) (by omega))
        have h2' : 10 ≤ n := by omega
        have L1 := txt_size 0 (n / 10) (by omega) (by omega)
        have L2 := txt_size 0 (n % 10) (by omega) (by omega)
        clear hk h2 ih
        generalize ha : txt (n / 10) = a at *
        generalize hb : txt (n % 10) = b at *
        have HB := Lib.hid hb
        clear ha hb
        go_enter Tryz.func36, Tryz.ntmps36
        go_wp2_with fail
        refine HI.out.mono ?_
        rintro e w' ⟨rfl, rfl⟩
        go_wp2_with fail
        refine (rdigit_c (n % 10) _ (by omega) (by omega)).mono ?_
        rintro e w' ⟨rfl, rfl⟩
        rw [HB.out]
        go_wp2_with fail
        go_ret
        exact ⟨by rw [HT.out, ← cat]; rfl, rfl⟩
    · by_cases h2 : -10 < n
      · have HT := Lib.hid (txt_minus n (by omega) h2)
        have L1 := txt_size 0 (-n) (by omega) (by omega)
        clear hk
        generalize ha : txt (-n) = a at *
        have HA := Lib.hid ha
        clear ha
        have h1' : n < 0 := by omega
        clear h1 ih
        go_enter Tryz.func36, Tryz.ntmps36
        go_wp2_with fail
        refine (rdigit_c (-n) _ (by omega) (by omega)).mono ?_
        rintro e w' ⟨rfl, rfl⟩
        rw [HA.out]
        go_wp2_with fail
        go_ret
        exact ⟨by rw [HT.out, show (45 :: a) = [45] ++ a from rfl, ← cat]; rfl, rfl⟩
      · have HT := Lib.hid (txt_neg n (by omega) hlo)
        have e1 : n.tdiv 10 = -((-n) / 10) := by
          rw [← Int.neg_neg n, Int.neg_tdiv, Int.neg_neg, Int.tdiv_eq_ediv_of_nonneg (by omega)]
        have e2 : n.tmod 10 = -((-n) % 10) := by
          rw [← Int.neg_neg n, Int.neg_tmod, Int.neg_neg, Int.tmod_eq_emod_of_nonneg (by omega)]
        have hd1 : (n.tdiv 10).natAbs < 10 ^ (k + 1) := by rw [e1]; rw [Nat.pow_succ] at hk; omega
        have hd2 : -9223372036854775808 ≤ n.tdiv 10 ∧ n.tdiv 10 ≤ 0 := by omega
        have hm : 0 ≤ -(n.tmod 10) ∧ -(n.tmod 10) < 10 := by omega
        have HI := Lib.hid (ih (n.tdiv 10) w hd1 hd2.1 (by omega))
        have L1 := txt_size 0 (n.tdiv 10) hd2.1 (by omega)
        have L2 := txt_size 0 (-(n.tmod 10)) (by omega) (by omega)
        have HM := Lib.hid hm
        have h1' : n ≤ -10 := by omega
        have hq1 := hd2.1
        have hq2 := hd2.2
        have hm1 := hm.1
        have hm2 := hm.2
        clear hk h2 ih h1 e1 e2 hd1 hd2 hm
        generalize ha : txt (n.tdiv 10) = a at *
        generalize hb : txt (-(n.tmod 10)) = b at *
        have HB := Lib.hid hb
        clear ha hb
        go_enter Tryz.func36, Tryz.ntmps36
        go_wp2_with fail
        refine HI.out.mono ?_
        rintro e w' ⟨rfl, rfl⟩
        go_wp2_with fail
        refine (rdigit_c _ _ HM.out.1 HM.out.2).mono ?_
        rintro e w' ⟨rfl, rfl⟩
        rw [HB.out]
        go_wp2_with fail
        go_ret
        exact ⟨by rw [HT.out, ← cat]; rfl, rfl⟩
end Go.Proofs.YthlphmldghppmaaGreatDoor

/- xmllex: Escape. -/
namespace Go.Proofs.YthlphmldghppmaaGreatDoor
open Go.RowKit
set_option linter.unusedVariables false

def escB (x : UInt8) : List UInt8 :=
  if x.toNat = 38 then [38, 97, 109, 112, 59] else if x.toNat = 60 then [38, 108, 116, 59] else if x.toNat = 62 then [38, 103, 116, 59] else if x.toNat = 34 then [38, 113, 117, 111, 116, 59]
  else if x.toNat = 9 then [38, 35, 57, 59] else if x.toNat = 10 then [38, 35, 49, 48, 59] else if x.toNat = 13 then [38, 35, 49, 51, 59] else [x]
def escF (l : List UInt8) : List UInt8 := l.flatMap escB
theorem escB_len (x : UInt8) : (escB x).length ≤ 6 := by
  unfold escB
  repeat' split
  all_goals simp
theorem escF_len (l : List UInt8) : (escF l).length ≤ 6 * l.length := by
  induction l with
  | nil => simp [escF]
  | cons x l ih =>
    have := escB_len x
    unfold escF at ih ⊢
    rw [List.flatMap_cons, List.length_append, List.length_cons]
    omega
theorem escF_take {l : List UInt8} {k : Nat} (h : k < l.length) : escF (l.take (k + 1)) = escF (l.take k) ++ escB l[k] := by
  unfold escF
  rw [List.take_add_one, List.flatMap_append]
  simp [h]

def EscI (w : World) (l : List UInt8) (k : Nat) (wr : World) : Prop := BI w.heap.size w.heap.size (escF (l.take k)) wr ∧ Below w.heap.size w wr
set_option maxRecDepth 100000 in
set_option maxHeartbeats 4000000 in
theorem escape_c (w : World) (s : ByteArray) (hs : s.size ≤ 1048576) : Calls Tryz.prog 16 #[.string s] w fun e w' => e = .returned (.string ⟨(escF s.data.toList).toArray⟩) ∧ Below w.heap.size w w' := by
  obtain ⟨l, hl⟩ : ∃ l, l = s.data.toList := ⟨_, rfl⟩
  have hln : l.length = s.size := by rw [hl, Array.length_toList]; rfl
  have HI0 := Lib.hid (show EscI w l 0 (w.alloc (.cells #[.pointer none, .slice none 0 0] 52)) from ⟨Lib.fresh_isBuilder 52 5 w, bel_alloc w _⟩)
  rw [← hl]
  have HL := Lib.hid hl
  clear hl
  go_enter Tryz.func16, Tryz.ntmps16
  go_wp2_with fail
  go_loopw [7] (fun s7 wr => ∃ k : Nat, s7 = .int .i64 k ∧ k ≤ s.size ∧ EscI w l k wr) (fun s7 _ => s.size - (intOf s7).toNat)
  case atStart => exact ⟨0, rfl, by omega, HI0.out⟩
  case round =>
    obtain ⟨k, rfl, hk, hi⟩ := hrel
    by_cases hkn : k < s.size
    · obtain ⟨x, hx⟩ : ∃ x, s[k]'hkn = x := ⟨_, rfl⟩
      have hxl : l[k]'(by omega) = x := by
        rw [← hx]
        have hl' := HL.out
        subst hl'
        simp
        rfl
      have hT := escF_take (l := l) (k := k) (by omega)
      rw [hxl] at hT
      have hob : (escF (l.take k)).length ≤ 8388608 := by have := escF_len (l.take k); rw [List.length_take] at this; omega
      have HSZ := Lib.hid hi.2.size
      have HNX := Lib.hid (fun (t : List UInt8) (ht : escB x = t) (wx : World) (hb : BA w.heap.size w.heap.size (escF (l.take k) ++ t) wx) (hx : Below w.heap.size wr wx) => show EscI w l (k + 1) wx from by
        refine ⟨?_, hi.2.trans hx⟩
        rw [hT, ht]
        exact .inr hb)
      have HWS := Lib.hid (fun (t : List UInt8) (ht : t.length ≤ 8388608) => wstring wr _ _ (escF (l.take k)) t hi.1 (by omega) (by omega) hi.2.size)
      have HWB := Lib.hid (wbyte wr _ _ (escF (l.take k)) x hi.1 (by omega) hi.2.size)
      clear hT hob hxl hi
      by_cases h38 : x.toNat = 38
      · have HE := Lib.hid (show escB x = [38, 97, 109, 112, 59] from by unfold escB; rw [if_pos h38])
        have t38 : ((x.toNat : Int) == 38) = true := by simp; omega
        clear h38
        go_wp2_with fail
        refine (HWS.out [38, 97, 109, 112, 59] (by decide)).mono ?_
        rintro e w2 ⟨⟨n, rfl⟩, hba, hb⟩
        have HN2 := Lib.hid (HNX.out _ HE.out w2 hba hb)
        clear hba hb
        go_wp2_with fail
        go_roundw
        case rel => exact ⟨k + 1, by go_num, by omega, HN2.out⟩
        case measure => simp [intOf]; omega
      by_cases h60 : x.toNat = 60
      · have HE := Lib.hid (show escB x = [38, 108, 116, 59] from by unfold escB; rw [if_neg h38, if_pos h60])
        have t38 : ((x.toNat : Int) == 38) = false := by simp; omega
        have t60 : ((x.toNat : Int) == 60) = true := by simp; omega
        clear h38 h60
        go_wp2_with fail
        refine (HWS.out [38, 108, 116, 59] (by decide)).mono ?_
        rintro e w2 ⟨⟨n, rfl⟩, hba, hb⟩
        have HN2 := Lib.hid (HNX.out _ HE.out w2 hba hb)
        clear hba hb
        go_wp2_with fail
        go_roundw
        case rel => exact ⟨k + 1, by go_num, by omega, HN2.out⟩
        case measure => simp [intOf]; omega
      by_cases h62 : x.toNat = 62
      · have HE := Lib.hid (show escB x = [38, 103, 116, 59] from by unfold escB; rw [if_neg h38, if_neg h60, if_pos h62])
        have t38 : ((x.toNat : Int) == 38) = false := by simp; omega
        have t60 : ((x.toNat : Int) == 60) = false := by simp; omega
        have t62 : ((x.toNat : Int) == 62) = true := by simp; omega
        clear h38 h60 h62
        go_wp2_with fail
        refine (HWS.out [38, 103, 116, 59] (by decide)).mono ?_
        rintro e w2 ⟨⟨n, rfl⟩, hba, hb⟩
        have HN2 := Lib.hid (HNX.out _ HE.out w2 hba hb)
        clear hba hb
        go_wp2_with fail
        go_roundw
        case rel => exact ⟨k + 1, by go_num, by omega, HN2.out⟩
        case measure => simp [intOf]; omega
      by_cases h34 : x.toNat = 34
      · have HE := Lib.hid (show escB x = [38, 113, 117, 111, 116, 59] from by unfold escB; rw [if_neg h38, if_neg h60, if_neg h62, if_pos h34])
        have t38 : ((x.toNat : Int) == 38) = false := by simp; omega
        have t60 : ((x.toNat : Int) == 60) = false := by simp; omega
        have t62 : ((x.toNat : Int) == 62) = false := by simp; omega
        have t34 : ((x.toNat : Int) == 34) = true := by simp; omega
        clear h38 h60 h62 h34
        go_wp2_with fail
        refine (HWS.out [38, 113, 117, 111, 116, 59] (by decide)).mono ?_
        rintro e w2 ⟨⟨n, rfl⟩, hba, hb⟩
        have HN2 := Lib.hid (HNX.out _ HE.out w2 hba hb)
        clear hba hb
        go_wp2_with fail
        go_roundw
        case rel => exact ⟨k + 1, by go_num, by omega, HN2.out⟩
        case measure => simp [intOf]; omega
      by_cases h9 : x.toNat = 9
      · have HE := Lib.hid (show escB x = [38, 35, 57, 59] from by unfold escB; rw [if_neg h38, if_neg h60, if_neg h62, if_neg h34, if_pos h9])
        have t38 : ((x.toNat : Int) == 38) = false := by simp; omega
        have t60 : ((x.toNat : Int) == 60) = false := by simp; omega
        have t62 : ((x.toNat : Int) == 62) = false := by simp; omega
        have t34 : ((x.toNat : Int) == 34) = false := by simp; omega
        have t9 : ((x.toNat : Int) == 9) = true := by simp; omega
        clear h38 h60 h62 h34 h9
        go_wp2_with fail
        refine (HWS.out [38, 35, 57, 59] (by decide)).mono ?_
        rintro e w2 ⟨⟨n, rfl⟩, hba, hb⟩
        have HN2 := Lib.hid (HNX.out _ HE.out w2 hba hb)
        clear hba hb
        go_wp2_with fail
        go_roundw
        case rel => exact ⟨k + 1, by go_num, by omega, HN2.out⟩
        case measure => simp [intOf]; omega
      by_cases h10 : x.toNat = 10
      · have HE := Lib.hid (show escB x = [38, 35, 49, 48, 59] from by unfold escB; rw [if_neg h38, if_neg h60, if_neg h62, if_neg h34, if_neg h9, if_pos h10])
        have t38 : ((x.toNat : Int) == 38) = false := by simp; omega
        have t60 : ((x.toNat : Int) == 60) = false := by simp; omega
        have t62 : ((x.toNat : Int) == 62) = false := by simp; omega
        have t34 : ((x.toNat : Int) == 34) = false := by simp; omega
        have t9 : ((x.toNat : Int) == 9) = false := by simp; omega
        have t10 : ((x.toNat : Int) == 10) = true := by simp; omega
        clear h38 h60 h62 h34 h9 h10
        go_wp2_with fail
        refine (HWS.out [38, 35, 49, 48, 59] (by decide)).mono ?_
        rintro e w2 ⟨⟨n, rfl⟩, hba, hb⟩
        have HN2 := Lib.hid (HNX.out _ HE.out w2 hba hb)
        clear hba hb
        go_wp2_with fail
        go_roundw
        case rel => exact ⟨k + 1, by go_num, by omega, HN2.out⟩
        case measure => simp [intOf]; omega
      by_cases h13 : x.toNat = 13
      · have HE := Lib.hid (show escB x = [38, 35, 49, 51, 59] from by unfold escB; rw [if_neg h38, if_neg h60, if_neg h62, if_neg h34, if_neg h9, if_neg h10, if_pos h13])
        have t38 : ((x.toNat : Int) == 38) = false := by simp; omega
        have t60 : ((x.toNat : Int) == 60) = false := by simp; omega
        have t62 : ((x.toNat : Int) == 62) = false := by simp; omega
        have t34 : ((x.toNat : Int) == 34) = false := by simp; omega
        have t9 : ((x.toNat : Int) == 9) = false := by simp; omega
        have t10 : ((x.toNat : Int) == 10) = false := by simp; omega
        have t13 : ((x.toNat : Int) == 13) = true := by simp; omega
        clear h38 h60 h62 h34 h9 h10 h13
        go_wp2_with fail
        refine (HWS.out [38, 35, 49, 51, 59] (by decide)).mono ?_
        rintro e w2 ⟨⟨n, rfl⟩, hba, hb⟩
        have HN2 := Lib.hid (HNX.out _ HE.out w2 hba hb)
        clear hba hb
        go_wp2_with fail
        go_roundw
        case rel => exact ⟨k + 1, by go_num, by omega, HN2.out⟩
        case measure => simp [intOf]; omega
      have HE := Lib.hid (show escB x = [x] from by unfold escB; rw [if_neg h38, if_neg h60, if_neg h62, if_neg h34, if_neg h9, if_neg h10, if_neg h13])
      have t38 : ((x.toNat : Int) == 38) = false := by simp; omega
      have t60 : ((x.toNat : Int) == 60) = false := by simp; omega
      have t62 : ((x.toNat : Int) == 62) = false := by simp; omega
      have t34 : ((x.toNat : Int) == 34) = false := by simp; omega
      have t9 : ((x.toNat : Int) == 9) = false := by simp; omega
      have t10 : ((x.toNat : Int) == 10) = false := by simp; omega
      have t13 : ((x.toNat : Int) == 13) = false := by simp; omega
      clear h38 h60 h62 h34 h9 h10 h13
      go_wp2_with fail
      refine HWB.out.mono ?_
      rintro e w2 ⟨rfl, hba, hb⟩
      have HN2 := Lib.hid (HNX.out _ HE.out w2 hba hb)
      clear hba hb
      go_wp2_with fail
      go_roundw
      case rel => exact ⟨k + 1, by go_num, by omega, HN2.out⟩
      case measure => simp [intOf]; omega
    · have HBT := Lib.hid (btext wr w.heap.size w.heap.size _ hi.1 hi.2.size)
      have HF := Lib.hid (show l.take k = l from List.take_of_length_le (by omega))
      rw [HF.out] at HBT
      have HB := Lib.hid hi.2
      clear hi
      go_wp2_with fail
      refine HBT.out.mono ?_
      rintro e w2 ⟨rfl, hb⟩
      have HB2 := Lib.hid (HB.out.trans hb)
      clear hb
      go_wp2_with fail
      go_ret
      exact ⟨rfl, HB2.out⟩
end Go.Proofs.YthlphmldghppmaaGreatDoor

/- xmllex: the reference: Escape; texts: the law's walk. -/
namespace Go.Proofs.YthlphmldghppmaaGreatDoor
open Go.RowKit
set_option linter.unusedVariables false

theorem catX (a b : ByteArray) : (a ++ b).data.toList = a.data.toList ++ b.data.toList := by simp [ByteArray.data_append]
theorem cutX (s : ByteArray) (k : Nat) (h : k < s.size) : (s.extract k (k + 1)).data.toList = [s[k]] := by
  rw [ByteArray.data_extract, Array.toList_extract, List.extract_eq_take_drop, show k + 1 - k = 1 by omega]
  have h1 : k < s.data.toList.length := by rw [Array.length_toList]; exact h
  rw [List.drop_eq_getElem_cons h1]
  simp
  rfl
/-- What is written by now. -/
def EsI (l : List UInt8) (k : Nat) (O : ByteArray) : Prop := O.data.toList = escF (l.take k) ∧ O.size ≤ 6 * k
theorem EsI.push {l : List UInt8} {k : Nat} {O T : ByteArray} (h : EsI l k O) (hk : k < l.length) (hT : escB l[k] = T.data.toList) : EsI l (k + 1) (O ++ T) := by
  refine ⟨by rw [catX, h.1, escF_take hk, hT], ?_⟩
  have h1 := escB_len l[k]
  rw [hT, Array.length_toList] at h1
  rw [ByteArray.size_append]
  have h2 := h.2
  have : T.size = T.data.size := rfl
  omega
theorem ba_ext {a b : ByteArray} (h : a.data.toList = b.data.toList) : a = b := ByteArray.ext (Array.toList_inj.1 h)
set_option maxRecDepth 100000 in
set_option maxHeartbeats 4000000 in
theorem resc_c (w : World) (s : ByteArray) (hs : s.size ≤ 1048576) : Calls Tryz.prog 17 #[.string s] w fun e w' => e = .returned (.string ⟨(escF s.data.toList).toArray⟩) ∧ w = w' := by
  obtain ⟨l, hl⟩ : ∃ l, l = s.data.toList := ⟨_, rfl⟩
  have hln : l.length = s.size := by rw [hl, Array.length_toList]; rfl
  have HLN := Lib.hid hln
  have HI0 := Lib.hid (show EsI l 0 ⟨#[]⟩ from ⟨rfl, by simp [ByteArray.size]⟩)
  have T9 := Lib.hid (fun w => rtext_c 1 9 w (by decide) (by decide) (by decide))
  have T10 := Lib.hid (fun w => rtext_c 1 10 w (by decide) (by decide) (by decide))
  have T13 := Lib.hid (fun w => rtext_c 1 13 w (by decide) (by decide) (by decide))
  rw [show txt 9 = [57] from by decide +kernel] at T9
  rw [show txt 10 = [49, 48] from by decide +kernel] at T10
  rw [show txt 13 = [49, 51] from by decide +kernel] at T13
  rw [← hl]
  have HL := Lib.hid hl
  clear hl hln
  go_enter Tryz.func17, Tryz.ntmps17
  go_wp2_with fail
  go_loopw [7, 3] (fun s7 s3 wr => ∃ (k : Nat) (O : ByteArray), s7 = .int .i64 k ∧ s3 = .string O ∧ k ≤ s.size ∧ Hid (EsI l k O) ∧ wr = w) (fun s7 _ _ => s.size - (intOf s7).toNat)
  case atStart => exact ⟨0, ⟨#[]⟩, rfl, rfl, by omega, HI0, rfl⟩
  case round =>
    obtain ⟨k, O, rfl, rfl, hk, HI, rfl⟩ := hrel
    have hO : O.size ≤ 6291456 := by have := HI.out.2; omega
    by_cases hkn : k < s.size
    · obtain ⟨x, hx⟩ : ∃ x, s[k]'hkn = x := ⟨_, rfl⟩
      have hkl : k < l.length := by rw [HLN.out]; exact hkn
      have hxl : l[k]'hkl = x := by
        rw [← hx]
        have hl' := HL.out
        subst hl'
        simp
        rfl
      have HP := Lib.hid (fun (T : ByteArray) (hT : escB x = T.data.toList) => HI.out.push hkl (T := T) (by rw [hxl]; exact hT))
      have HCT := Lib.hid (show (s.extract k (k + 1)).data.toList = [x] from by rw [cutX s k hkn, hx])
      clear hxl hkl
      by_cases h38 : x.toNat = 38
      · have HE := Lib.hid (HP.out ⟨#[38, 97, 109, 112, 59]⟩ (by unfold escB; rw [if_pos h38]))
        have hxi : (x.toNat : Int) = 38 := by omega
        clear h38 HCT
        go_wp2_with fail
        go_roundw
        case rel => exact ⟨k + 1, _, by go_num, rfl, by omega, HE, by first | rfl | trivial⟩
        case measure => simp [intOf]; omega
      by_cases h60 : x.toNat = 60
      · have HE := Lib.hid (HP.out ⟨#[38, 108, 116, 59]⟩ (by unfold escB; rw [if_neg h38, if_pos h60]))
        have hxi : (x.toNat : Int) = 60 := by omega
        clear h38 h60 HCT
        go_wp2_with fail
        go_roundw
        case rel => exact ⟨k + 1, _, by go_num, rfl, by omega, HE, by first | rfl | trivial⟩
        case measure => simp [intOf]; omega
      by_cases h62 : x.toNat = 62
      · have HE := Lib.hid (HP.out ⟨#[38, 103, 116, 59]⟩ (by unfold escB; rw [if_neg h38, if_neg h60, if_pos h62]))
        have hxi : (x.toNat : Int) = 62 := by omega
        clear h38 h60 h62 HCT
        go_wp2_with fail
        go_roundw
        case rel => exact ⟨k + 1, _, by go_num, rfl, by omega, HE, by first | rfl | trivial⟩
        case measure => simp [intOf]; omega
      by_cases h34 : x.toNat = 34
      · have HE := Lib.hid (HP.out ⟨#[38, 113, 117, 111, 116, 59]⟩ (by unfold escB; rw [if_neg h38, if_neg h60, if_neg h62, if_pos h34]))
        have hxi : (x.toNat : Int) = 34 := by omega
        clear h38 h60 h62 h34 HCT
        go_wp2_with fail
        go_roundw
        case rel => exact ⟨k + 1, _, by go_num, rfl, by omega, HE, by first | rfl | trivial⟩
        case measure => simp [intOf]; omega
      by_cases h9 : x.toNat = 9
      · have HE := Lib.hid (HP.out ⟨#[38, 35, 57, 59]⟩ (by unfold escB; rw [if_neg h38, if_neg h60, if_neg h62, if_neg h34, if_pos h9]))
        have hxi : (x.toNat : Int) = 9 := by omega
        clear h38 h60 h62 h34 h9 HCT
        go_wp2_with fail
        refine (T9.out _).mono ?_
        rintro e w2 ⟨rfl, rfl⟩
        go_wp2_with fail
        go_roundw
        case rel => exact ⟨k + 1, _, by go_num, rfl, by omega, HE, by first | rfl | trivial⟩
        case measure => simp [intOf]; omega
      by_cases h10 : x.toNat = 10
      · have HE := Lib.hid (HP.out ⟨#[38, 35, 49, 48, 59]⟩ (by unfold escB; rw [if_neg h38, if_neg h60, if_neg h62, if_neg h34, if_neg h9, if_pos h10]))
        have hxi : (x.toNat : Int) = 10 := by omega
        clear h38 h60 h62 h34 h9 h10 HCT
        go_wp2_with fail
        refine (T10.out _).mono ?_
        rintro e w2 ⟨rfl, rfl⟩
        go_wp2_with fail
        go_roundw
        case rel => exact ⟨k + 1, _, by go_num, rfl, by omega, HE, by first | rfl | trivial⟩
        case measure => simp [intOf]; omega
      by_cases h13 : x.toNat = 13
      · have HE := Lib.hid (HP.out ⟨#[38, 35, 49, 51, 59]⟩ (by unfold escB; rw [if_neg h38, if_neg h60, if_neg h62, if_neg h34, if_neg h9, if_neg h10, if_pos h13]))
        have hxi : (x.toNat : Int) = 13 := by omega
        clear h38 h60 h62 h34 h9 h10 h13 HCT
        go_wp2_with fail
        refine (T13.out _).mono ?_
        rintro e w2 ⟨rfl, rfl⟩
        go_wp2_with fail
        go_roundw
        case rel => exact ⟨k + 1, _, by go_num, rfl, by omega, HE, by first | rfl | trivial⟩
        case measure => simp [intOf]; omega
      have HE := Lib.hid (HP.out (s.extract k (k + 1)) (by rw [HCT.out]; unfold escB; rw [if_neg h38, if_neg h60, if_neg h62, if_neg h34, if_neg h9, if_neg h10, if_neg h13]))
      have t38 : ((x.toNat : Int) == 38) = false := by simp; omega
      have t60 : ((x.toNat : Int) == 60) = false := by simp; omega
      have t62 : ((x.toNat : Int) == 62) = false := by simp; omega
      have t34 : ((x.toNat : Int) == 34) = false := by simp; omega
      have t9 : ((x.toNat : Int) == 9) = false := by simp; omega
      have t10 : ((x.toNat : Int) == 10) = false := by simp; omega
      have t13 : ((x.toNat : Int) == 13) = false := by simp; omega
      have hez : (s.extract k (k + 1)).size ≤ 1 := by rw [ByteArray.size_extract]; omega
      clear h38 h60 h62 h34 h9 h10 h13 HCT
      go_wp2_with fail
      go_roundw
      case rel => exact ⟨k + 1, _, by go_num, rfl, by omega, HE, by first | rfl | trivial⟩
      case measure => simp [intOf]; omega
    · have HE := Lib.hid (show O = ⟨(escF l).toArray⟩ from ba_ext (by
        have h1 := HI.out.1
        rw [List.take_of_length_le (by rw [HLN.out]; omega)] at h1
        rw [h1]))
      clear HI
      go_wp2_with fail
      go_ret
      exact ⟨by rw [HE.out]; rfl, rfl⟩
set_option maxRecDepth 100000 in
set_option maxHeartbeats 2000000 in
theorem texts_w (v0 : Value) (xs : List UInt8) (s : ByteArray) (w : World) (hw : BW w) (h : Rd w v0 xs) (hl : xs.length ≤ 1048576) (hs : s.size ≤ 1048576) : Calls Tryz.prog 5 #[v0, .string s] w fun e w' => e = .returned (.bool true) ∧ Below w.heap.size w w' := by
  obtain ⟨p, c, rfl⟩ := rd_form h
  have HU := Lib.hid (unescape_c w hw _ xs h (by omega))
  have HV := Lib.hid (fun (wx : World) (hx : Below w.heap.size w wx) => runescape_c wx _ xs (h.below hx) (by omega))
  have HES := Lib.hid (fun (wx : World) => escape_c wx s hs)
  have HRE := Lib.hid (fun (wx : World) => resc_c wx s hs)
  have HW := Lib.hid hw
  obtain ⟨L, hL⟩ : ∃ L, L = xs.length := ⟨_, rfl⟩
  obtain ⟨R, hR⟩ : ∃ R, R = rsT false xs := ⟨_, rfl⟩
  obtain ⟨Z, hZ⟩ : ∃ Z, Z = (⟨(escF s.data.toList).toArray⟩ : ByteArray) := ⟨_, rfl⟩
  rw [← hL] at HU HV ⊢
  rw [← hR] at HU HV
  rw [← hZ] at HES HRE
  have hzz : (Z.toList == Z.toList) = true := by simp
  clear h hw hl hs hL hR hZ
  have key : ∃ (S : ByteArray) (a z : Int), (∀ wx e w', UnAft wx R e w' → e = .returned (.tuple #[.string S, .int .i64 a, .int .i64 z]) ∧ Below wx.heap.size wx w') := by
    cases R with
    | error a => exact ⟨⟨#[]⟩, a, 13, fun wx e w' h => h⟩
    | ok t => exact ⟨⟨t.toArray⟩, 0, 0, fun wx e w' h => h⟩
  obtain ⟨S, a, z, hk⟩ := key
  have HU := Lib.hid (HU.out.mono fun e w' he => hk _ e w' he)
  have HV := Lib.hid (fun wx hx => (HV.out wx hx).mono fun e w' he => hk _ e w' he)
  have hss : (S.toList == S.toList) = true := by simp
  have haa : (a == a) = true := by simp
  have hza : (z == z) = true := by simp
  clear hk
  go_enter Tryz.func5, Tryz.ntmps5
  go_wp2_with fail
  refine HU.out.mono ?_
  rintro e w1 ⟨rfl, hb1⟩
  have HB1 := Lib.hid hb1
  have HV1 := Lib.hid (HV.out w1 hb1)
  clear hb1
  go_wp2_with fail
  refine HV1.out.mono ?_
  rintro e w2 ⟨rfl, hb2⟩
  have HB2 := Lib.hid (HB1.out.trans (hb2.mono HB1.out.size))
  clear hb2
  go_wp2_with fail
  refine (HES.out _).mono ?_
  rintro e w3 ⟨rfl, hb3⟩
  have HB3 := Lib.hid (HB2.out.trans (hb3.mono HB2.out.size))
  clear hb3
  go_wp2_with fail
  refine (HRE.out _).mono ?_
  rintro e w4 ⟨rfl, rfl⟩
  have HAW := Lib.hid (awake_c w3 (HW.out.below HB3.out))
  go_wp2_with fail
  refine HAW.out.mono ?_
  rintro e w5 ⟨rfl, hb5⟩
  have HB5 := Lib.hid (HB3.out.trans (hb5.mono HB3.out.size))
  clear hb5
  go_wp2_with fail
  go_ret
  exact ⟨rfl, HB5.out⟩
end Go.Proofs.YthlphmldghppmaaGreatDoor
