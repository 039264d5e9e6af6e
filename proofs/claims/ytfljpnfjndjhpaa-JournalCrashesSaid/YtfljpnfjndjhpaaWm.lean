/- The plain side of wire: the groups of seven bits, the zigzag, reading them back; no program. -/
import Derived.Laws.BitsAllLaws
namespace Go.Proofs.Ytfljpnfjndjhpaa

/-- The groups of seven bits, the least first. -/
def vb : Nat → Nat → List UInt8
  | 0, u => [UInt8.ofNat u]
  | f + 1, u => if u < 128 then [UInt8.ofNat u] else UInt8.ofNat (u % 128 + 128) :: vb f (u / 128)

theorem or128 (k : Nat) : bits BinOp.or IntKind.u8 ((k : Int) % 256) 128 = ((k % 128 + 128 : Nat) : Int) := by
  have h : ∀ m : Fin 256, m.val ||| 128 = m.val % 128 + 128 := by decide +kernel
  have e : ((k : Int) % 256) = ((k % 256 : Nat) : Int) := by omega
  rw [e, show (128 : Int) = ((128 : Nat) : Int) from rfl, u8_or_nat _ _ (by omega) (by omega), h ⟨k % 256, by omega⟩]
  simp only
  omega

theorem vb_small (f k : Nat) (h : k < 128) : vb f k = [UInt8.ofNat k] := by cases f <;> simp [vb, h]
theorem vb_great (f k : Nat) (h : ¬ k < 128) : vb (f + 1) k = UInt8.ofNat (k % 128 + 128) :: vb f (k / 128) := by simp [vb, h]

/-- The zigzag of a number. -/
def zz (n : Int) : Nat := if n < 0 then (2 * (-n - 1) + 1).toNat else (2 * n).toNat

/-- The encoding of a number. -/
def enc (n : Int) : List UInt8 := vb 9 (zz n)

theorem zz_lt (n : Int) (hlo : -9223372036854775808 ≤ n) (hhi : n ≤ 9223372036854775807) : zz n < 18446744073709551616 := by
  unfold zz
  split <;> omega

theorem u64_wrap (n : Int) : IntKind.u64.wrap n = n % 18446744073709551616 := by simp [IntKind.wrap, IntKind.signed, IntKind.bits]
theorem zz_pos (n : Int) (h : ¬ n < 0) : 2 * n = ((zz n : Nat) : Int) := by unfold zz; rw [if_neg h]; omega
theorem zz_neg (n : Int) (h : n < 0) (hlo : -9223372036854775808 ≤ n) : IntKind.u64.wrap (IntKind.u64.wrap (-IntKind.u64.wrap (2 * IntKind.u64.wrap n)) - 1) = ((zz n : Nat) : Int) := by
  unfold zz
  rw [if_pos h]
  simp only [u64_wrap]
  omega

theorem vb_len (f k : Nat) : (vb f k).length ≤ f + 1 := by
  induction f generalizing k with
  | zero => simp [vb]
  | succ f ih => unfold vb; split; · simp
                 · have := ih (k / 128); simp; omega
theorem enc_len (n : Int) : (enc n).length ≤ 10 := vb_len 9 _

/-- The number of a zigzag. -/
def sgn (u : Nat) : Int := if u % 2 = 1 then -((u / 2 : Nat) : Int) - 1 else ((u / 2 : Nat) : Int)

theorem sgn_zz (n : Int) : sgn (zz n) = n := by
  unfold sgn zz
  split <;> split <;> omega
theorem zz_sgn (u : Nat) : zz (sgn u) = u := by
  unfold sgn zz
  split <;> split <;> omega
theorem sgn_lo (u : Nat) (h : u < 18446744073709551616) : -9223372036854775808 ≤ sgn u := by unfold sgn; split <;> omega
theorem sgn_hi (u : Nat) (h : u < 18446744073709551616) : sgn u ≤ 9223372036854775807 := by unfold sgn; split <;> omega

/-- Reading a number: the number, its length, the error (3: short, 5: form). i bytes were read, they held u. -/
def gi : Nat → Nat → List UInt8 → Int × Nat × Int
  | _, _, [] => (0, 0, 3)
  | i, u, x :: r =>
    if (i = 9 ∧ 1 < x.toNat) ∨ (0 < i ∧ x.toNat = 0) then (0, 0, 5)
    else if x.toNat < 128 then (sgn (u + x.toNat % 128 * 128 ^ i), i + 1, 0)
    else gi (i + 1) (u + x.toNat % 128 * 128 ^ i) r

theorem gi_enc (f : Nat) : ∀ (i u k : Nat) (rest : List UInt8), i + f = 9 → k < 128 ^ (f + 1) → u + k * 128 ^ i < 18446744073709551616 → (0 < i → 0 < k) →
    gi i u (vb f k ++ rest) = (sgn (u + k * 128 ^ i), i + (vb f k).length, 0) := by
  induction f with
  | zero =>
    intro i u k rest hi hk hb hp
    obtain rfl : i = 9 := by omega
    have hk1 : k ≤ 1 := by omega
    have ek : (UInt8.ofNat k).toNat = k := by simp; omega
    have hp := hp (by omega)
    obtain rfl : k = 1 := by omega
    rw [show vb 0 1 ++ rest = 1 :: rest from rfl, gi]
    simp [vb]
  | succ f ih =>
    intro i u k rest hi hk hb hp
    by_cases h : k < 128
    · rw [vb_small _ _ h, List.singleton_append, gi]
      have ek : (UInt8.ofNat k).toNat = k := by simp; omega
      rw [ek, if_neg (by omega), if_pos h, Nat.mod_eq_of_lt h]
      simp
    · rw [vb_great _ _ h, List.cons_append, gi]
      have ek : (UInt8.ofNat (k % 128 + 128)).toNat = k % 128 + 128 := by simp; omega
      have e1 : u + k % 128 * 128 ^ i + k / 128 * 128 ^ (i + 1) = u + k * 128 ^ i := by
        rw [Nat.pow_succ, ← Nat.mul_assoc, Nat.mul_right_comm, Nat.add_assoc, ← Nat.add_mul]
        congr 2
        omega
      rw [ek, if_neg (by omega), if_neg (by omega), show (k % 128 + 128) % 128 = k % 128 from by omega]
      rw [ih (i + 1) _ (k / 128) rest (by omega) (by rw [Nat.pow_succ] at hk; omega) (by rw [e1]; exact hb) (by omega), e1]
      simp
      omega

theorem gi_back (xs : List UInt8) : ∀ (i u : Nat) (n : Int) (s : Nat), i ≤ 9 → u < 128 ^ i → gi i u xs = (n, s, 0) →
    ∃ k, s = i + (vb (9 - i) k).length ∧ (∃ rest, xs = vb (9 - i) k ++ rest) ∧ n = sgn (u + k * 128 ^ i) ∧ (0 < i → 0 < k) ∧ u + k * 128 ^ i < 18446744073709551616 := by
  induction xs with
  | nil => intro i u n s _ _ h; simp [gi] at h
  | cons x r ih =>
    intro i u n s hi hu h
    rw [gi] at h
    by_cases h1 : (i = 9 ∧ 1 < x.toNat) ∨ (0 < i ∧ x.toNat = 0)
    · rw [if_pos h1] at h; simp at h
    · rw [if_neg h1] at h
      have hx := x.toNat_lt
      have hpow : 128 ^ i ≤ 128 ^ 9 := Nat.pow_le_pow_right (by omega) hi
      by_cases h2 : x.toNat < 128
      · rw [if_pos h2] at h
        simp only [Prod.mk.injEq] at h
        obtain ⟨rfl, rfl, _⟩ := h
        rw [Nat.mod_eq_of_lt h2]
        refine ⟨x.toNat, by rw [vb_small _ _ h2]; simp, ⟨r, by rw [vb_small _ _ h2]; simp⟩, rfl, by omega, ?_⟩
        by_cases h9 : i = 9
        · subst h9
          have : x.toNat ≤ 1 := by omega
          have := Nat.mul_le_mul_right (128 ^ 9) this
          omega
        · have : 128 ^ i ≤ 128 ^ 8 := Nat.pow_le_pow_right (by omega) (by omega)
          have := Nat.mul_le_mul (show x.toNat ≤ 127 by omega) this
          omega
      · rw [if_neg h2] at h
        have h9 : i ≠ 9 := by omega
        have hm : x.toNat % 128 ≤ 127 := by omega
        have hu' : u + x.toNat % 128 * 128 ^ i < 128 ^ (i + 1) := by
          have := Nat.mul_le_mul_right (128 ^ i) hm
          rw [Nat.pow_succ]
          omega
        obtain ⟨k, hs, ⟨rest, hr⟩, hn, hp, hb⟩ := ih (i + 1) _ n s (by omega) hu' h
        have hk := hp (by omega)
        have e1 : u + x.toNat % 128 * 128 ^ i + k * 128 ^ (i + 1) = u + (x.toNat % 128 + 128 * k) * 128 ^ i := by
          rw [Nat.pow_succ, Nat.add_mul, Nat.add_assoc]
          congr 2
          rw [Nat.mul_comm 128 k, Nat.mul_assoc, Nat.mul_comm 128]
        rw [e1] at hn hb
        have ev : vb (9 - i) (x.toNat % 128 + 128 * k) = x :: vb (9 - (i + 1)) k := by
          rw [show 9 - i = (9 - (i + 1)) + 1 from by omega, vb_great _ _ (by omega), show (x.toNat % 128 + 128 * k) % 128 + 128 = x.toNat from by omega, show (x.toNat % 128 + 128 * k) / 128 = k from by omega]
          simp
        exact ⟨x.toNat % 128 + 128 * k, by rw [ev, hs, List.length_cons]; omega, ⟨rest, by rw [ev, hr]; rfl⟩, hn, by omega, hb⟩

/-- What was put is read. -/
theorem gi_of_enc (n : Int) (rest : List UInt8) (hlo : -9223372036854775808 ≤ n) (hhi : n ≤ 9223372036854775807) : gi 0 0 (enc n ++ rest) = (n, (enc n).length, 0) := by
  have hz := zz_lt n hlo hhi
  have := gi_enc 9 0 0 (zz n) rest rfl (by omega) (by simpa using hz) (by omega)
  simp only [Nat.pow_zero, Nat.mul_one, Nat.zero_add, sgn_zz] at this
  exact this

/-- What is read was put so. -/
theorem enc_of_gi (xs : List UInt8) (n : Int) (s : Nat) (h : gi 0 0 xs = (n, s, 0)) : -9223372036854775808 ≤ n ∧ n ≤ 9223372036854775807 ∧ s = (enc n).length ∧ ∃ rest, xs = enc n ++ rest := by
  obtain ⟨k, hs, ⟨rest, hr⟩, hn, _, hb⟩ := gi_back xs 0 0 n s (by omega) (by omega) h
  simp only [Nat.pow_zero, Nat.mul_one, Nat.zero_add, Nat.sub_zero] at hn hb hs hr
  subst hn
  have e : enc (sgn k) = vb 9 k := by unfold enc; rw [zz_sgn]
  exact ⟨sgn_lo k hb, sgn_hi k hb, by rw [e]; exact hs, rest, by rw [e]; exact hr⟩

theorem or_step (k U : Nat) (x : UInt8) (hk : k ≤ 9) (hU : U < 128 ^ k) (h9 : k = 9 → x.toNat ≤ 1) :
    bits BinOp.or IntKind.u64 (U : Int) (IntKind.u64.wrap (IntKind.u64.wrap (bits BinOp.and IntKind.u8 (x.toNat : Int) 127) * 2 ^ (7 * k))) = ((U + x.toNat % 128 * 128 ^ k : Nat) : Int) ∧
    U + x.toNat % 128 * 128 ^ k < 18446744073709551616 := by
  have hx := x.toNat_lt
  have hpow : 128 ^ k ≤ 128 ^ 9 := Nat.pow_le_pow_right (by omega) hk
  have e7 : (2 : Nat) ^ (7 * k) = 128 ^ k := by rw [Nat.pow_mul]
  have hlt : x.toNat % 128 * 128 ^ k < 18446744073709551616 ∧ U + x.toNat % 128 * 128 ^ k < 18446744073709551616 := by
    by_cases h : k = 9
    · have := h9 h
      subst h
      have := Nat.mul_le_mul_right (128 ^ 9) (show x.toNat % 128 ≤ 1 by omega)
      omega
    · have h8 : 128 ^ k ≤ 128 ^ 8 := Nat.pow_le_pow_right (by omega) (by omega)
      have := Nat.mul_le_mul (show x.toNat % 128 ≤ 127 by omega) h8
      omega
  have ea : bits BinOp.and IntKind.u8 (x.toNat : Int) 127 = ((x.toNat % 128 : Nat) : Int) := by
    rw [show (127 : Int) = ((127 : Nat) : Int) from rfl, u8_and_nat _ _ hx (by omega), nat_mask7]
  have eb : IntKind.u64.wrap (IntKind.u64.wrap ((x.toNat % 128 : Nat) : Int) * 2 ^ (7 * k)) = ((x.toNat % 128 * 128 ^ k : Nat) : Int) := by
    rw [u64_wrap, u64_wrap]
    have : (2 : Int) ^ (7 * k) = ((128 ^ k : Nat) : Int) := by rw [← e7, Int.natCast_pow]; rfl
    have e1 : (((x.toNat % 128 : Nat) : Int) % 18446744073709551616) = ((x.toNat % 128 : Nat) : Int) := by omega
    have h1 := hlt.1
    rw [this, e1, ← Int.natCast_mul]
    generalize x.toNat % 128 * 128 ^ k = z at h1
    omega
  refine ⟨?_, hlt.2⟩
  rw [ea, eb, u64_or_nat _ _ (by omega) hlt.1, Nat.or_comm, nat_join (7 * k) _ _ (by rw [e7]; exact Nat.mul_mod_left _ _) (by rw [e7]; exact hU), Nat.add_comm]

end Go.Proofs.Ytfljpnfjndjhpaa
