/- wire: both CRCs. -/
import Derived.Test.YtfljpnfjndjhpaaWt
namespace Go.Proofs.Ytfljpnfjndjhpaa
open Go.RowKit
set_option linter.unusedVariables false

/-- One bit of the CRC. -/
def st (c : Nat) : Nat := if c % 2 = 1 then (c / 2) ^^^ 3988292384 else c / 2
def it : Nat → Nat → Nat
  | 0, c => c
  | k + 1, c => it k (st c)
def crcN : Nat → List UInt8 → Nat
  | c, [] => c
  | c, x :: xs => crcN (it 8 (c ^^^ x.toNat)) xs

theorem st_lt (c : Nat) (h : c < 4294967296) : st c < 4294967296 := by
  unfold st
  split
  · exact Nat.xor_lt_two_pow (n := 32) (by omega) (by omega)
  · omega
theorem it_lt (k c : Nat) (h : c < 4294967296) : it k c < 4294967296 := by
  induction k generalizing c with
  | zero => exact h
  | succ k ih => exact ih _ (st_lt c h)
theorem xor_lt (c : Nat) (x : UInt8) (h : c < 4294967296) : c ^^^ x.toNat < 4294967296 :=
  Nat.xor_lt_two_pow (n := 32) h (by have := x.toNat_lt; omega)

theorem x_step (c : Nat) (x : UInt8) (h : c < 4294967296) : bits BinOp.xor IntKind.u32 (c : Int) (x.toNat : Int) = ((c ^^^ x.toNat : Nat) : Int) :=
  u32_xor_nat _ _ h (by have := x.toNat_lt; omega)

theorem crc_step {m D C T : Nat} {x : UInt8} {l r : List UInt8} (hm : ¬ m < 8) (h : it (8 - m) D = it 8 (C ^^^ x.toNat)) (hd : l = x :: r) (hg : crcN C l = T) : crcN D r = T := by
  subst hd
  rw [show 8 - m = 0 from by omega] at h
  have e : D = it 8 (C ^^^ x.toNat) := h
  rw [← hg, e]
  rfl
theorem crc_end {C T : Nat} {l : List UInt8} (hd : l = []) (hg : crcN C l = T) : T = C := by
  subst hd
  exact hg.symm

theorem st_w (D : Nat) (h : D < 4294967296) : bits BinOp.xor IntKind.u32 ((D : Int) / 2) (3988292384 * bits BinOp.and IntKind.u32 (D : Int) 1 % 4294967296) = ((st D : Nat) : Int) := by
  rw [show (1 : Int) = ((1 : Nat) : Int) from rfl, u32_and_nat _ _ h (by omega), nat_mask1]
  rw [show ((D : Int) / 2) = ((D / 2 : Nat) : Int) from by omega]
  unfold st
  rcases (show D % 2 = 0 ∨ D % 2 = 1 from by omega) with h2 | h2
  · rw [h2, if_neg (by omega), show (3988292384 * ((0 : Nat) : Int) % 4294967296) = ((0 : Nat) : Int) from by omega, u32_xor_nat _ _ (by omega) (by omega)]
    simp
  · rw [h2, if_pos rfl, show (3988292384 * ((1 : Nat) : Int) % 4294967296) = ((3988292384 : Nat) : Int) from by omega, u32_xor_nat _ _ (by omega) (by omega)]

theorem st_r (D : Nat) (h : D < 4294967296) (h2 : D % 2 = 1) : bits BinOp.xor IntKind.u32 ((D : Int) / 2) 3988292384 = ((st D : Nat) : Int) := by
  rw [show ((D : Int) / 2) = ((D / 2 : Nat) : Int) from by omega, show (3988292384 : Int) = ((3988292384 : Nat) : Int) from rfl, u32_xor_nat _ _ (by omega) (by omega)]
  unfold st
  rw [if_pos h2]
theorem st_0 (D : Nat) (h2 : ¬ D % 2 = 1) : ((D : Int) / 2) = ((st D : Nat) : Int) := by
  unfold st
  rw [if_neg h2]
  omega

theorem fin_r (C : Nat) (h : C < 4294967296) : bits BinOp.xor IntKind.u32 (C : Int) 4294967295 = ((C ^^^ 4294967295 : Nat) : Int) := by
  rw [show (4294967295 : Int) = ((4294967295 : Nat) : Int) from rfl, u32_xor_nat _ _ h (by omega)]
theorem fin_lt (C : Nat) (h : C < 4294967296) : C ^^^ 4294967295 < 4294967296 := Nat.xor_lt_two_pow (n := 32) h (by omega)
theorem w64_small (z : Nat) (h : z < 4294967296) : wrap64 (z : Int) = (z : Int) := by unfold wrap64; omega
theorem fin_w (C : Nat) (h : C < 4294967296) : wrap64 (bits BinOp.xor IntKind.u32 IntKind.u32.max (C : Int)) = ((C ^^^ 4294967295 : Nat) : Int) := by
  rw [show IntKind.u32.max = ((4294967295 : Nat) : Int) from by simp [IntKind.max, IntKind.signed, IntKind.bits], u32_xor_nat _ _ (by omega) h, Nat.xor_comm]
  exact w64_small _ (fin_lt C h)
theorem fin_r64 (C : Nat) (h : C < 4294967296) : wrap64 (bits BinOp.xor IntKind.u32 (C : Int) 4294967295) = ((C ^^^ 4294967295 : Nat) : Int) := by
  rw [fin_r C h]
  exact w64_small _ (fin_lt C h)

set_option maxRecDepth 100000 in
theorem crc_w (w : World) (v : Value) (xs : List UInt8) (h : Rd w v xs) : Calls Try.prog 46 #[v] w fun e w' => e = .returned (.int .i64 ((crcN 4294967295 xs ^^^ 4294967295 : Nat))) ∧ w = w' := by
  obtain ⟨p, c, rfl, h1, h2, h3, h4⟩ := h
  have H4 := Lib.hid h4
  unfold maxLen at h2
  have hl : xs.length ≤ 9223372036854775807 := by omega
  clear h1 h2 h3 h4
  go_enter Try.func46, Try.ntmps46
  go_wp2_with fail
  go_loop [3, 8] (fun c i => ∃ k C : Nat, k ≤ xs.length ∧ i = .int .i64 k ∧ c = .int .u32 C ∧ C < 4294967296 ∧ crcN C (xs.drop k) = crcN 4294967295 xs) (fun _ i => xs.length - (intOf i).toNat)
  case atStart => exact ⟨0, 4294967295, by omega, rfl, rfl, by omega, rfl⟩
  case round =>
    obtain ⟨k, C, hk, rfl, rfl, hC, hg⟩ := hrel
    have HG := Lib.hid hg
    have HC := Lib.hid hC
    clear hg hC
    by_cases hkl : k < xs.length
    · obtain ⟨b, o, rfl, hx⟩ := H4.out (by omega)
      have hc := hx k hkl
      have HD := Lib.hid (show xs.drop k = xs[k] :: xs.drop (k + 1) from List.drop_eq_getElem_cons hkl)
      generalize hxk : xs[k] = x at *
      clear hx hxk
      have hxl := x.toNat_lt
      have HX := Lib.hid (x_step C x HC.out)
      go_wp2_with fail
      rw [HX.out]
      have HL := Lib.hid (xor_lt C x HC.out)
      go_loop [3, 16] (fun c j => ∃ m D : Nat, m ≤ 8 ∧ j = .int .i64 m ∧ c = .int .u32 D ∧ D < 4294967296 ∧ it (8 - m) D = it 8 (C ^^^ x.toNat)) (fun _ j => 8 - (intOf j).toNat)
      case atStart => exact ⟨0, _, by omega, rfl, rfl, HL.out, rfl⟩
      case round =>
        obtain ⟨m, D, hm, rfl, rfl, hD, hi⟩ := hrel
        have HI := Lib.hid hi
        have HDD := Lib.hid hD
        clear hi hD
        by_cases hm8 : m < 8
        · go_wp2_with fail
          refine ⟨⟨m + 1, st D, by omega, by go_num, by rw [st_w D HDD.out], st_lt _ HDD.out, ?_⟩, by simp [intOf]; omega⟩
          have := HI.out
          rw [show 8 - m = (8 - (m + 1)) + 1 from by omega] at this
          exact this
        · go_wp2_with fail
          refine ⟨⟨k + 1, D, by omega, by go_num, rfl, HDD.out, ?_⟩, by simp [intOf]; omega⟩
          exact crc_step hm8 HI.out HD.out HG.out
    · have HK := Lib.hid (crc_end (show xs.drop k = [] from by simp; omega) HG.out)
      go_wp2_with fail
      go_ret
      exact ⟨by rw [HK.out, ← fin_w C HC.out]; rfl, rfl⟩
end Go.Proofs.Ytfljpnfjndjhpaa
