/- Cases: slices.Equal at string and at int. Written by tools/genyw.py off XYs. -/
import Derived.Test.YtncloiimbclklaaYv
namespace Go.Proofs.Ytncloiimbclklaa
open Go Go.RowKit Go.Shelf
set_option linter.unusedVariables false
set_option linter.unusedSimpArgs false

def sameZ (x y : List Int) : Bool := decide (x.length = y.length) && decide (x = y)

set_option maxRecDepth 100000 in
set_option maxHeartbeats 2000000 in
theorem equalT_c (w : World) (v1 v2 : Value) (x y : List ByteArray) (h1 : RdV w v1 (tcells x)) (h2 : RdV w v2 (tcells y)) : Calls Try.prog 61 #[v1, v2] w fun e w' => e = .returned (.bool (sameT x y)) ∧ ∃ d, w' = w.drewN d := by
  obtain ⟨R, hR⟩ : ∃ R, R = sameT x y := ⟨_, rfl⟩
  have HR := Lib.hid hR
  rw [← hR]
  clear hR
  unfold sameT at HR
  obtain ⟨p, cp, hlv⟩ := h1.form
  obtain ⟨p2, cp2, hlv2⟩ := h2.form
  subst hlv hlv2
  have hlen : (tcells x).length = x.length := by simp [tcells]
  have hlen2 : (tcells y).length = y.length := by simp [tcells]
  rw [hlen] at h1 ⊢
  rw [hlen2] at h2 ⊢
  have hn1 : x.length ≤ 9223372036854775807 := by obtain ⟨p', c', e, g1, g2, _⟩ := h1; rw [hlen] at g1; unfold maxLen at g2; omega
  have HC1 := Lib.hid (fun k (hk : k < x.length) => h1.at (k := k) (u := .string x[k]) (by rw [hlen]; exact hk) (by simp [tcells, hk]))
  have HC2 := Lib.hid (fun k (hk : k < y.length) => h2.at (k := k) (u := .string y[k]) (by rw [hlen2]; exact hk) (by simp [tcells, hk]))
  clear h1 h2 hlen hlen2
  by_cases hll : x.length = y.length
  · have h7 : ((x.length : Int) != (y.length : Int)) = false := by rw [hll]; simp
    have HLL := Lib.hid hll
    have HR2 := Lib.hid (show R = decide (x = y) from by rw [HR.out, decide_eq_true hll, Bool.true_and])
    clear hll
    go_enter Try.func61, Try.ntmps61
    go_wp2_with fail
    clear h7
    go_loopw [13] (fun i wr => ∃ k d : Nat, k ≤ x.length ∧ i = .int .i64 k ∧ x.take k = y.take k ∧ wr = w.drewN d) (fun i _ => x.length - (intOf i).toNat)
    case atStart => exact ⟨0, 0, by omega, rfl, by simp, rfl⟩
    case round =>
      obtain ⟨k, d, hk, rfl, ht, rfl⟩ := hrel
      have HT := Lib.hid ht
      clear ht
      by_cases hlt : k < x.length
      · have hd : decide ((k : Int) < (x.length : Int)) = true := decide_eq_true (by omega)
        have hlt2 : k < y.length := by rw [← HLL.out]; exact hlt
        obtain ⟨b1, o1, rfl, hb1, hc1⟩ := HC1.out k hlt
        obtain ⟨b2, o2, rfl, hb2, hc2⟩ := HC2.out k hlt2
        have HG1 := Lib.hid (List.take_succ_eq_append_getElem hlt)
        have HG2 := Lib.hid (List.take_succ_eq_append_getElem hlt2)
        obtain ⟨a1, ha1⟩ : ∃ a, x[k] = a := ⟨_, rfl⟩
        obtain ⟨a2, ha2⟩ : ∃ a, y[k] = a := ⟨_, rfl⟩
        have HA1 := Lib.hid ha1
        have HA2 := Lib.hid ha2
        rw [ha1] at hc1
        rw [ha2] at hc2
        clear ha1 ha2
        by_cases he : a1 = a2
        · have HX := Lib.hid (show x.take (k + 1) = y.take (k + 1) from by rw [HG1.out, HG2.out, HT.out, HA1.out, HA2.out, he])
          have hq : (a1.toList == a2.toList) = true := by rw [he]; simp
          clear he
          go_wp2_with fail
          go_quiet (fail)
          go_wp2_with fail
          go_roundw
          case rel => exact ⟨k + 1, _, by omega, by go_num, HX.out, rfl⟩
          case measure => simp [intOf]; omega
        · have HE := Lib.hid (show R = false from by
            rw [HR2.out]
            refine decide_eq_false fun e => ?_
            subst e
            exact he (HA1.out.symm.trans HA2.out))
          have hq : (a1.toList == a2.toList) = false := by
            rw [beq_eq_false_iff_ne]
            exact fun e => he (bytes_ext e)
          clear he
          go_wp2_with fail
          go_quiet (fail)
          go_wp2_with fail
          go_ret
          exact ⟨by rw [HE.out]; rfl, _, World.drewN_drewN _ _ _⟩
      · have hd : decide ((k : Int) < (x.length : Int)) = false := decide_eq_false (by omega)
        have HE := Lib.hid (show R = true from by
          rw [HR2.out]
          have h := HT.out
          rw [show k = x.length from by omega] at h
          rw [List.take_length, HLL.out, List.take_length] at h
          simp [h])
        go_wp2_with fail
        go_ret
        exact ⟨by rw [HE.out]; rfl, _, rfl⟩
  · have h7 : ((x.length : Int) != (y.length : Int)) = true := by rw [bne_iff_ne]; omega
    have HE := Lib.hid (show R = false from by rw [HR.out, decide_eq_false hll, Bool.false_and])
    go_enter Try.func61, Try.ntmps61
    go_wp2_with fail
    go_ret
    exact ⟨by rw [HE.out]; rfl, 0, rfl⟩

set_option maxRecDepth 100000 in
set_option maxHeartbeats 2000000 in
theorem equalZ_c (w : World) (v1 v2 : Value) (x y : List Int) (h1 : RdV w v1 (icells x)) (h2 : RdV w v2 (icells y)) : Calls Try.prog 60 #[v1, v2] w fun e w' => e = .returned (.bool (sameZ x y)) ∧ ∃ d, w' = w.drewN d := by
  obtain ⟨R, hR⟩ : ∃ R, R = sameZ x y := ⟨_, rfl⟩
  have HR := Lib.hid hR
  rw [← hR]
  clear hR
  unfold sameZ at HR
  obtain ⟨p, cp, hlv⟩ := h1.form
  obtain ⟨p2, cp2, hlv2⟩ := h2.form
  subst hlv hlv2
  have hlen : (icells x).length = x.length := by simp [icells]
  have hlen2 : (icells y).length = y.length := by simp [icells]
  rw [hlen] at h1 ⊢
  rw [hlen2] at h2 ⊢
  have hn1 : x.length ≤ 9223372036854775807 := by obtain ⟨p', c', e, g1, g2, _⟩ := h1; rw [hlen] at g1; unfold maxLen at g2; omega
  have HC1 := Lib.hid (fun k (hk : k < x.length) => h1.at (k := k) (u := .int .i64 x[k]) (by rw [hlen]; exact hk) (by simp [icells, hk]))
  have HC2 := Lib.hid (fun k (hk : k < y.length) => h2.at (k := k) (u := .int .i64 y[k]) (by rw [hlen2]; exact hk) (by simp [icells, hk]))
  clear h1 h2 hlen hlen2
  by_cases hll : x.length = y.length
  · have h7 : ((x.length : Int) != (y.length : Int)) = false := by rw [hll]; simp
    have HLL := Lib.hid hll
    have HR2 := Lib.hid (show R = decide (x = y) from by rw [HR.out, decide_eq_true hll, Bool.true_and])
    clear hll
    go_enter Try.func60, Try.ntmps60
    go_wp2_with fail
    clear h7
    go_loopw [13] (fun i wr => ∃ k d : Nat, k ≤ x.length ∧ i = .int .i64 k ∧ x.take k = y.take k ∧ wr = w.drewN d) (fun i _ => x.length - (intOf i).toNat)
    case atStart => exact ⟨0, 0, by omega, rfl, by simp, rfl⟩
    case round =>
      obtain ⟨k, d, hk, rfl, ht, rfl⟩ := hrel
      have HT := Lib.hid ht
      clear ht
      by_cases hlt : k < x.length
      · have hd : decide ((k : Int) < (x.length : Int)) = true := decide_eq_true (by omega)
        have hlt2 : k < y.length := by rw [← HLL.out]; exact hlt
        obtain ⟨b1, o1, rfl, hb1, hc1⟩ := HC1.out k hlt
        obtain ⟨b2, o2, rfl, hb2, hc2⟩ := HC2.out k hlt2
        have HG1 := Lib.hid (List.take_succ_eq_append_getElem hlt)
        have HG2 := Lib.hid (List.take_succ_eq_append_getElem hlt2)
        obtain ⟨a1, ha1⟩ : ∃ a, x[k] = a := ⟨_, rfl⟩
        obtain ⟨a2, ha2⟩ : ∃ a, y[k] = a := ⟨_, rfl⟩
        have HA1 := Lib.hid ha1
        have HA2 := Lib.hid ha2
        rw [ha1] at hc1
        rw [ha2] at hc2
        clear ha1 ha2
        by_cases he : a1 = a2
        · have HX := Lib.hid (show x.take (k + 1) = y.take (k + 1) from by rw [HG1.out, HG2.out, HT.out, HA1.out, HA2.out, he])
          have hq : (a1 != a2) = false := by rw [he]; simp
          clear he
          go_wp2_with fail
          go_quiet (fail)
          go_wp2_with fail
          go_roundw
          case rel => exact ⟨k + 1, _, by omega, by go_num, HX.out, rfl⟩
          case measure => simp [intOf]; omega
        · have HE := Lib.hid (show R = false from by
            rw [HR2.out]
            refine decide_eq_false fun e => ?_
            subst e
            exact he (HA1.out.symm.trans HA2.out))
          have hq : (a1 != a2) = true := by simpa using he
          clear he
          go_wp2_with fail
          go_quiet (fail)
          go_wp2_with fail
          go_ret
          exact ⟨by rw [HE.out]; rfl, _, World.drewN_drewN _ _ _⟩
      · have hd : decide ((k : Int) < (x.length : Int)) = false := decide_eq_false (by omega)
        have HE := Lib.hid (show R = true from by
          rw [HR2.out]
          have h := HT.out
          rw [show k = x.length from by omega] at h
          rw [List.take_length, HLL.out, List.take_length] at h
          simp [h])
        go_wp2_with fail
        go_ret
        exact ⟨by rw [HE.out]; rfl, _, rfl⟩
  · have h7 : ((x.length : Int) != (y.length : Int)) = true := by rw [bne_iff_ne]; omega
    have HE := Lib.hid (show R = false from by rw [HR.out, decide_eq_false hll, Bool.false_and])
    go_enter Try.func60, Try.ntmps60
    go_wp2_with fail
    go_ret
    exact ⟨by rw [HE.out]; rfl, 0, rfl⟩
end Go.Proofs.Ytncloiimbclklaa
