/- The plain side of chars: UTF-8. -/
import Derived.Shelf.Unicode.DecodeSlow
import Derived.Lib.RuneBytes
namespace Go.Proofs.YtllhlmdhnmdihaaDoor
open Go.Lib

/-- Byte i, 0 beyond the end. -/
def at8 (xs : List UInt8) (i : Nat) : Nat := (xs.getD i 0).toNat
/-- What Go's decoder hands back. -/
def G (xs : List UInt8) : Nat × Nat := if xs.length = 0 then (65533, 0) else decodeN xs.length (at8 xs 0) (at8 xs 1) (at8 xs 2) (at8 xs 3)
/-- The first character and its length, (0, 0) where there is none. -/
def D (xs : List UInt8) : Nat × Nat := if (G xs).1 = 65533 ∧ (G xs).2 < 3 then (0, 0) else G xs

def u8 (x : Int) : UInt8 := UInt8.ofNat x.toNat
/-- The bytes of a character. -/
def E (r : Int) : List UInt8 :=
  if r < 0 ∨ 1114111 < r ∨ (55296 ≤ r ∧ r ≤ 57343) then []
  else if r < 128 then [u8 r]
  else if r < 2048 then [u8 (192 + r / 64), u8 (128 + r % 64)]
  else if r < 65536 then [u8 (224 + r / 4096), u8 (128 + r / 64 % 64), u8 (128 + r % 64)]
  else [u8 (240 + r / 262144), u8 (128 + r / 4096 % 64), u8 (128 + r / 64 % 64), u8 (128 + r % 64)]

theorem get_at8 (xs : List UInt8) (i : Nat) : ((⟨xs.toArray⟩ : ByteArray).get! i).toNat = at8 xs i := by
  unfold at8 ByteArray.get!
  by_cases h : i < xs.length
  · simp [h, List.getD]
  · simp [List.getD, h]
    rfl

theorem G_go (xs : List UInt8) : decodeGo ⟨xs.toArray⟩ = G xs := by
  unfold decodeGo G
  have hs : (⟨xs.toArray⟩ : ByteArray).size = xs.length := by simp [ByteArray.size]
  rw [hs, decode_at, hs]
  simp only [Nat.zero_add, Nat.sub_zero, get_at8]

theorem at8_lt (xs : List UInt8) (i : Nat) : at8 xs i < 256 := (xs.getD i 0).toNat_lt

set_option maxHeartbeats 1000000 in
theorem decodeN_le (n b0 b1 b2 b3 : Nat) (h : b0 < 256) : (decodeN n b0 b1 b2 b3).1 ≤ 1114111 ∧ (decodeN n b0 b1 b2 b3).2 ≤ 4 ∧ ((decodeN n b0 b1 b2 b3).2 ≤ n ∨ n = 0) := by
  unfold decodeN
  repeat' split
  all_goals (simp only; omega)

theorem G_le (xs : List UInt8) : (G xs).1 ≤ 1114111 ∧ (G xs).2 ≤ 4 ∧ (G xs).2 ≤ xs.length := by
  unfold G
  split
  · simp
  · have := decodeN_le xs.length (at8 xs 0) (at8 xs 1) (at8 xs 2) (at8 xs 3) (at8_lt _ _)
    omega

theorem u8_toNat (x : Int) (h0 : 0 ≤ x) (h1 : x < 256) : ((u8 x).toNat : Int) = x := by
  unfold u8
  simp
  omega

theorem runeCells_E (r : Int) (h0 : 0 ≤ r) (h1 : r ≤ 1114111) (h2 : ¬ (55296 ≤ r ∧ r ≤ 57343)) : runeCells r = (E r).map fun b => Value.int .u8 (b.toNat : Int) := by
  unfold runeCells E
  rw [if_neg (by omega)]
  by_cases a : r < 128
  · rw [if_pos a, encodeRuneZ_one h0 (by omega)]
    simp only [List.map_cons, List.map_nil]
    rw [u8_toNat _ (by omega) (by omega)]
  · rw [if_neg a]
    by_cases b : r < 2048
    · rw [if_pos b, encodeRuneZ_two (by omega) (by omega)]
      simp only [List.map_cons, List.map_nil]
      rw [u8_toNat _ (by omega) (by omega), u8_toNat _ (by omega) (by omega)]
    · rw [if_neg b]
      by_cases c : r < 65536
      · rw [if_pos c, encodeRuneZ_three (by omega)]
        simp only [List.map_cons, List.map_nil]
        rw [u8_toNat _ (by omega) (by omega), u8_toNat _ (by omega) (by omega), u8_toNat _ (by omega) (by omega)]
      · rw [if_neg c, encodeRuneZ_four (by omega) (by omega)]
        simp only [List.map_cons, List.map_nil]
        rw [u8_toNat _ (by omega) (by omega), u8_toNat _ (by omega) (by omega), u8_toNat _ (by omega) (by omega), u8_toNat _ (by omega) (by omega)]

end Go.Proofs.YtllhlmdhnmdihaaDoor
