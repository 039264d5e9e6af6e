/- wire: signed, getInt. -/
import Derived.Test.YtcljpapkinnhiaaWi
namespace Go.Proofs.Ytcljpapkinnhiaa
open Go.RowKit
set_option linter.unusedVariables false

set_option maxRecDepth 100000 in
theorem signed_c (w : World) (u : Nat) (hu : u < 18446744073709551616) : Calls Try.prog 28 #[.int .u64 u] w fun e w' => e = .returned (.int .i64 (sgn u)) ∧ w = w' := by
  have HU := Lib.hid hu
  have h2 : (u : Int) / 2 ≤ 9223372036854775807 := by omega
  clear hu
  by_cases h : u % 2 = 1
  · have HS := Lib.hid (show sgn u = -((u / 2 : Nat) : Int) - 1 from by unfold sgn; rw [if_pos h])
    have h1 : (((u : Int) % 2) == 1) = true := by simp; omega
    clear h
    go_enter Try.func28, Try.ntmps28
    go_wp2
    go_ret
    exact ⟨by rw [HS.out]; simp, rfl⟩
  · have HS := Lib.hid (show sgn u = ((u / 2 : Nat) : Int) from by unfold sgn; rw [if_neg h])
    have h1 : (((u : Int) % 2) == 1) = false := by simp; omega
    clear h
    go_enter Try.func28, Try.ntmps28
    go_wp2
    go_ret
    exact ⟨by rw [HS.out]; simp, rfl⟩

set_option maxRecDepth 100000 in
theorem getInt_c (w : World) (v : Value) (xs : List UInt8) (h : Rd w v xs) : Calls Try.prog 26 #[v] w fun e w' => e = .returned (.tuple #[.int .i64 (gi 0 0 xs).1, .int .i64 (gi 0 0 xs).2.1, .int .i64 (gi 0 0 xs).2.2]) ∧ w = w' := by
  obtain ⟨p, c, rfl, h1, h2, h3, h4⟩ := h
  have H4 := Lib.hid h4
  clear h3 h4
  go_enter Try.func26, Try.ntmps26
  go_wp2_with fail
  go_loop [5, 10] (fun u i => ∃ k U : Nat, k ≤ xs.length ∧ k ≤ 9 ∧ i = .int .i64 k ∧ u = .int .u64 U ∧ U < 128 ^ k ∧ gi k U (xs.drop k) = gi 0 0 xs) (fun _ i => xs.length - (intOf i).toNat)
  case atStart => exact ⟨0, 0, by omega, by omega, rfl, rfl, by simp, rfl⟩
  case round =>
    obtain ⟨k, U, hk, hk9, rfl, rfl, hU, hg⟩ := hrel
    have HG := Lib.hid hg
    have HU := Lib.hid hU
    clear hg hU
    by_cases hkl : k < xs.length
    · obtain ⟨b, o, rfl, hx⟩ := H4.out (by omega)
      have hc := hx k hkl
      have HD := Lib.hid (show xs.drop k = xs[k] :: xs.drop (k + 1) from List.drop_eq_getElem_cons hkl)
      generalize hxk : xs[k] = x at *
      clear hx hxk
      have hx1 := x.toNat_lt
      by_cases hbad : (k = 9 ∧ 1 < x.toNat) ∨ (0 < k ∧ x.toNat = 0)
      · have HR := Lib.hid (show gi 0 0 xs = (0, 0, 5) from by rw [← HG.out, HD.out, gi, if_pos hbad])
        rcases hbad with ⟨h9, hb1⟩ | ⟨h0, hb0⟩
        · have t1 : ((k : Int) == 9) = true := by simp; omega
          clear h9
          go_wp2_with fail
          all_goals go_ret3
          all_goals exact ⟨by rw [HR.out]; rfl, rfl⟩
        · have hb2 : ((x.toNat : Int) == 0) = true := by simp; omega
          have hb3 : x.toNat ≤ 1 := by omega
          clear hb0
          go_wp2_with fail
          all_goals go_ret3
          all_goals exact ⟨by rw [HR.out]; rfl, rfl⟩
      · have h9 : k = 9 → x.toNat ≤ 1 := by omega
        have HO := Lib.hid (or_step k U x hk9 HU.out h9)
        by_cases hlast : x.toNat < 128
        · have HR := Lib.hid (show gi 0 0 xs = (sgn (U + x.toNat % 128 * 128 ^ k), k + 1, 0) from by rw [← HG.out, HD.out, gi, if_neg hbad, if_pos hlast])
          have hb : (9 ≤ k ∧ x.toNat ≤ 1 ∧ 0 < x.toNat) ∨ (k < 9 ∧ 0 < k ∧ 0 < x.toNat) ∨ k < 1 := by omega
          clear hbad h9
          rcases hb with ⟨hb1, hb2, hb3⟩ | ⟨hb1, hb2, hb3⟩ | hb1
          · have t1 : ((k : Int) == 9) = true := by simp; omega
            have t0 : ((x.toNat : Int) == 0) = false := by simp; omega
            go_wp2_with fail
            all_goals
              rw [HO.out.1]
              refine (signed_c _ _ HO.out.2).mono ?_
              rintro e w' ⟨rfl, rfl⟩
              go_wp2_with fail
              go_ret3
              exact ⟨by rw [HR.out]; first | rfl | simp, rfl⟩
          · have t0 : ((x.toNat : Int) == 0) = false := by simp; omega
            go_wp2_with fail
            all_goals
              rw [HO.out.1]
              refine (signed_c _ _ HO.out.2).mono ?_
              rintro e w' ⟨rfl, rfl⟩
              go_wp2_with fail
              go_ret3
              exact ⟨by rw [HR.out]; first | rfl | simp, rfl⟩
          · go_wp2_with fail
            all_goals
              rw [HO.out.1]
              refine (signed_c _ _ HO.out.2).mono ?_
              rintro e w' ⟨rfl, rfl⟩
              go_wp2_with fail
              go_ret3
              exact ⟨by rw [HR.out]; first | rfl | simp, rfl⟩
        · have HR := Lib.hid (show gi (k + 1) (U + x.toNat % 128 * 128 ^ k) (xs.drop (k + 1)) = gi 0 0 xs from by rw [← HG.out, HD.out, gi, if_neg hbad, if_neg hlast])
          have hk9' : k + 1 ≤ 9 := by omega
          go_wp2_with fail
          all_goals
            refine ⟨⟨k + 1, U + x.toNat % 128 * 128 ^ k, by omega, hk9', by go_num, by rw [HO.out.1], ?_, HR.out⟩, by simp [intOf]; omega⟩
            have := HU.out
            have h2 := Nat.mul_le_mul_right (128 ^ k) (show x.toNat % 128 ≤ 127 by omega)
            rw [Nat.pow_succ]
            omega
    · have HR := Lib.hid (show gi 0 0 xs = (0, 0, 3) from by rw [← HG.out, show xs.drop k = [] from by simp; omega]; rfl)
      go_wp2_with fail
      go_ret3
      exact ⟨by rw [HR.out]; rfl, rfl⟩
end Go.Proofs.Ytcljpapkinnhiaa
