/- The plain side of the reference's Decode: where it ends it says what D says. -/
import Derived.Test.YtllhlmdhnmdihaaDoorCm
namespace Go.Proofs.YtllhlmdhnmdihaaDoor
open Go.Lib

theorem D_nil : D [] = (0, 0) := rfl

theorem u8_eq (x : UInt8) (z : Int) (h : z = x.toNat) : u8 z = x := by
  subst h
  simp [u8]

theorem D_of (xs : List UInt8) (h : xs.length ≠ 0) : D xs = (if (decodeN xs.length (at8 xs 0) (at8 xs 1) (at8 xs 2) (at8 xs 3)).1 = 65533 ∧ (decodeN xs.length (at8 xs 0) (at8 xs 1) (at8 xs 2) (at8 xs 3)).2 < 3 then (0, 0) else decodeN xs.length (at8 xs 0) (at8 xs 1) (at8 xs 2) (at8 xs 3)) := by
  unfold D G
  rw [if_neg h]

/-- decodeN where it fails. -/
theorem D_bad (xs : List UInt8) (h : xs.length ≠ 0) (hd : decodeN xs.length (at8 xs 0) (at8 xs 1) (at8 xs 2) (at8 xs 3) = (65533, 1)) : D xs = (0, 0) := by
  rw [D_of xs h, hd]
  rfl
theorem D_good (xs : List UInt8) (h : xs.length ≠ 0) (r n : Nat) (hd : decodeN xs.length (at8 xs 0) (at8 xs 1) (at8 xs 2) (at8 xs 3) = (r, n)) (hg : r ≠ 65533 ∨ 3 ≤ n) : D xs = (r, n) := by
  rw [D_of xs h, hd, if_neg (by simp only; omega)]

/-- One byte. -/
theorem D_one (xs : List UInt8) (h : xs.length ≠ 0) (h0 : at8 xs 0 < 128) : D xs = (at8 xs 0, 1) := by
  apply D_good xs h
  · unfold decodeN
    rw [if_pos h0]
  · omega
/-- A byte that begins nothing. -/
theorem D_cont (xs : List UInt8) (h : xs.length ≠ 0) (h0 : 128 ≤ at8 xs 0) (h1 : at8 xs 0 < 192) : D xs = (0, 0) := by
  apply D_bad xs h
  unfold decodeN
  rw [if_neg (by omega), if_neg (by omega), if_neg (by omega), if_neg (by omega)]

theorem D_two_bad (xs : List UInt8) (h : xs.length ≠ 0) (h0 : 192 ≤ at8 xs 0) (h1 : at8 xs 0 < 224) (hb : xs.length < 2 ∨ at8 xs 1 < 128 ∨ 192 ≤ at8 xs 1) : D xs = (0, 0) := by
  have := at8_lt xs 1
  apply D_bad xs h
  unfold decodeN
  rw [if_neg (by omega), if_neg (by omega), if_neg (by omega), if_neg (by omega)]

theorem D_two (xs : List UInt8) (h : 2 ≤ xs.length) (h0 : 192 ≤ at8 xs 0) (h1 : at8 xs 0 < 224) (h2 : 128 ≤ at8 xs 1) (h3 : at8 xs 1 < 192) :
    D xs = if 128 ≤ (at8 xs 0 - 192) * 64 + (at8 xs 1 - 128) then ((at8 xs 0 - 192) * 64 + (at8 xs 1 - 128), 2) else (0, 0) := by
  have e : at8 xs 0 % 32 * 64 + at8 xs 1 % 64 = (at8 xs 0 - 192) * 64 + (at8 xs 1 - 128) := by omega
  split
  · rename_i hr
    apply D_good xs (by omega)
    · unfold decodeN
      rw [if_neg (by omega), if_pos (by omega), e, if_pos hr]
    · omega
  · rename_i hr
    apply D_bad xs (by omega)
    unfold decodeN
    rw [if_neg (by omega), if_pos (by omega), e, if_neg hr]

theorem D_three_bad (xs : List UInt8) (h : xs.length ≠ 0) (h0 : 224 ≤ at8 xs 0) (h1 : at8 xs 0 < 240) (hb : xs.length < 3 ∨ (at8 xs 1 < 128 ∨ 192 ≤ at8 xs 1) ∨ at8 xs 2 < 128 ∨ 192 ≤ at8 xs 2) : D xs = (0, 0) := by
  have := at8_lt xs 1
  have := at8_lt xs 2
  apply D_bad xs h
  unfold decodeN
  rw [if_neg (by omega), if_neg (by omega), if_neg (by omega), if_neg (by omega)]

theorem D_three (xs : List UInt8) (h : 3 ≤ xs.length) (h0 : 224 ≤ at8 xs 0) (h1 : at8 xs 0 < 240) (h2 : 128 ≤ at8 xs 1) (h3 : at8 xs 1 < 192) (h4 : 128 ≤ at8 xs 2) (h5 : at8 xs 2 < 192) (r : Nat)
    (hr : r = (at8 xs 0 - 224) * 4096 + (at8 xs 1 - 128) * 64 + (at8 xs 2 - 128)) :
    D xs = if 2048 ≤ r ∧ (r < 55296 ∨ 57344 ≤ r) then (r, 3) else (0, 0) := by
  have e : at8 xs 0 % 16 * 4096 + at8 xs 1 % 64 * 64 + at8 xs 2 % 64 = r := by omega
  split
  · rename_i hr
    apply D_good xs (by omega)
    · unfold decodeN
      rw [if_neg (by omega), if_neg (by omega), if_pos (by omega), e, if_pos (by omega)]
    · omega
  · rename_i hr
    apply D_bad xs (by omega)
    unfold decodeN
    rw [if_neg (by omega), if_neg (by omega), if_pos (by omega), e, if_neg (by omega)]

theorem D_four_bad (xs : List UInt8) (h : xs.length ≠ 0) (h0 : 240 ≤ at8 xs 0) (hb : xs.length < 4 ∨ (at8 xs 1 < 128 ∨ 192 ≤ at8 xs 1) ∨ (at8 xs 2 < 128 ∨ 192 ≤ at8 xs 2) ∨ at8 xs 3 < 128 ∨ 192 ≤ at8 xs 3) : D xs = (0, 0) := by
  have := at8_lt xs 1
  have := at8_lt xs 2
  have := at8_lt xs 3
  apply D_bad xs h
  unfold decodeN
  rw [if_neg (by omega), if_neg (by omega), if_neg (by omega), if_neg (by omega)]

theorem D_four (xs : List UInt8) (h : 4 ≤ xs.length) (h0 : 240 ≤ at8 xs 0) (h2 : 128 ≤ at8 xs 1) (h3 : at8 xs 1 < 192) (h4 : 128 ≤ at8 xs 2) (h5 : at8 xs 2 < 192) (h6 : 128 ≤ at8 xs 3) (h7 : at8 xs 3 < 192) (r : Nat)
    (hr : r = (at8 xs 0 - 240) * 262144 + (at8 xs 1 - 128) * 4096 + (at8 xs 2 - 128) * 64 + (at8 xs 3 - 128)) :
    D xs = if 65536 ≤ r ∧ r ≤ 1114111 then (r, 4) else (0, 0) := by
  have h1 := at8_lt xs 0
  by_cases h8 : at8 xs 0 < 248
  · have e : at8 xs 0 % 8 * 262144 + at8 xs 1 % 64 * 4096 + at8 xs 2 % 64 * 64 + at8 xs 3 % 64 = r := by omega
    split
    · rename_i hr
      apply D_good xs (by omega)
      · unfold decodeN
        rw [if_neg (by omega), if_neg (by omega), if_neg (by omega), if_pos (by omega), e, if_pos (by omega)]
      · omega
    · rename_i hr
      apply D_bad xs (by omega)
      unfold decodeN
      rw [if_neg (by omega), if_neg (by omega), if_neg (by omega), if_pos (by omega), e, if_neg (by omega)]
  · rw [if_neg (by omega)]
    apply D_bad xs (by omega)
    unfold decodeN
    rw [if_neg (by omega), if_neg (by omega), if_neg (by omega), if_neg (by omega)]

theorem at8_cons (x : UInt8) (xs : List UInt8) : at8 (x :: xs) 0 = x.toNat := rfl
theorem at8_succ (x : UInt8) (xs : List UInt8) (i : Nat) : at8 (x :: xs) (i + 1) = at8 xs i := by simp [at8]

/-- Whether the character's bytes are those: two. -/
theorem E_two (x0 x1 : UInt8) (r : Int) (h1 : 192 ≤ x0.toNat) (h2 : x0.toNat < 224) (h3 : 128 ≤ x1.toNat) (h4 : x1.toNat < 192) (hr : r = ((x0.toNat - 192) * 64 + (x1.toNat - 128) : Nat)) : (E r = [x0, x1]) ↔ 128 ≤ r := by
  unfold E
  rw [if_neg (by omega)]
  by_cases h : r < 128
  · rw [if_pos h]
    simp
    omega
  · rw [if_neg h, if_pos (by omega), u8_eq x0 _ (by omega), u8_eq x1 _ (by omega)]
    simp
    omega

theorem E_three (x0 x1 x2 : UInt8) (r : Int) (h1 : 224 ≤ x0.toNat) (h2 : x0.toNat < 240) (h3 : 128 ≤ x1.toNat) (h4 : x1.toNat < 192) (h5 : 128 ≤ x2.toNat) (h6 : x2.toNat < 192)
    (hr : r = ((x0.toNat - 224) * 4096 + (x1.toNat - 128) * 64 + (x2.toNat - 128) : Nat)) : (E r = [x0, x1, x2]) ↔ (2048 ≤ r ∧ (r < 55296 ∨ 57344 ≤ r)) := by
  unfold E
  by_cases hs : 55296 ≤ r ∧ r ≤ 57343
  · rw [if_pos (by omega)]
    simp
    omega
  · rw [if_neg (by omega)]
    by_cases h : r < 128
    · rw [if_pos h]
      simp
      omega
    · rw [if_neg h]
      by_cases h' : r < 2048
      · rw [if_pos h']
        simp
        omega
      · rw [if_neg h', if_pos (by omega), u8_eq x0 _ (by omega), u8_eq x1 _ (by omega), u8_eq x2 _ (by omega)]
        simp
        omega

theorem E_four (x0 x1 x2 x3 : UInt8) (r : Int) (h1 : 240 ≤ x0.toNat) (h3 : 128 ≤ x1.toNat) (h4 : x1.toNat < 192) (h5 : 128 ≤ x2.toNat) (h6 : x2.toNat < 192) (h7 : 128 ≤ x3.toNat) (h8 : x3.toNat < 192)
    (hr : r = ((x0.toNat - 240) * 262144 + (x1.toNat - 128) * 4096 + (x2.toNat - 128) * 64 + (x3.toNat - 128) : Nat)) : (E r = [x0, x1, x2, x3]) ↔ (65536 ≤ r ∧ r ≤ 1114111) := by
  unfold E
  by_cases hs : 1114111 < r ∨ (55296 ≤ r ∧ r ≤ 57343)
  · rw [if_pos (by omega)]
    simp
    omega
  · rw [if_neg (by omega)]
    by_cases h : r < 128
    · rw [if_pos h]
      simp
      omega
    · rw [if_neg h]
      by_cases h' : r < 2048
      · rw [if_pos h']
        simp
        omega
      · rw [if_neg h']
        by_cases h'' : r < 65536
        · rw [if_pos h'']
          simp
          omega
        · rw [if_neg h'', u8_eq x0 _ (by omega), u8_eq x1 _ (by omega), u8_eq x2 _ (by omega), u8_eq x3 _ (by omega)]
          simp
          omega
end Go.Proofs.YtllhlmdhnmdihaaDoor
