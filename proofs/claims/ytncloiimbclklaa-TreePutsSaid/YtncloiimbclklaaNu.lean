/- The reference's Text: it calls itself. -/
import Derived.Test.YtncloiimbclklaaNt
namespace Go.Proofs.Ytncloiimbclklaa
open Go.RowKit
set_option linter.unusedVariables false

theorem txt_size (k : Nat) : ∀ (n : Int), -9223372036854775808 ≤ n → n ≤ 9223372036854775807 → (txt n).length ≤ 25 := by
  intro n h1 h2
  have hd : ∀ f u, (dg f u).length ≤ f + 1 := by
    intro f
    induction f with
    | zero => intro u; simp [dg]
    | succ f ih => intro u; unfold dg; split; · simp
                   · have := ih (u / 10); simp; omega
  unfold txt
  split
  · have := hd 20 (-n).toNat
    unfold ds
    simp only [List.length_cons]
    omega
  · have := hd 20 n.toNat
    unfold ds
    omega

theorem cat (a b : List UInt8) : ((⟨a.toArray⟩ : ByteArray) ++ ⟨b.toArray⟩) = ⟨(a ++ b).toArray⟩ := by
  apply ByteArray.ext
  simp [ByteArray.data_append]

theorem digit_cut : ∀ m : Fin 10, ((⟨#[48, 49, 50, 51, 52, 53, 54, 55, 56, 57]⟩ : ByteArray).extract m.val (m.val + 1)) = ⟨[UInt8.ofNat (48 + m.val)].toArray⟩ := by decide +kernel

set_option maxRecDepth 100000 in
theorem rdigit_c (n : Int) (w : World) (h0 : 0 ≤ n) (h10 : n < 10) :
    Calls Try.prog 82 #[.int .i64 n] w fun e w' => e = .returned (.string ⟨(txt n).toArray⟩) ∧ w = w' := by
  have HT := Lib.hid (txt_digit n h0 h10)
  have HC := Lib.hid (digit_cut ⟨n.toNat, by omega⟩)
  go_enter Try.func82, Try.ntmps82
  go_wp2_with fail
  go_ret
  refine ⟨?_, rfl⟩
  rw [HT.out, ← HC.out]
  rw [show (n + 1).toNat = n.toNat + 1 from by omega]
  rfl

set_option maxRecDepth 100000 in
set_option maxHeartbeats 1000000 in
theorem rtext_c (k : Nat) : ∀ (n : Int) (w : World), n.natAbs < 10 ^ (k + 1) → -9223372036854775808 ≤ n → n ≤ 9223372036854775807 →
    Calls Try.prog 82 #[.int .i64 n] w fun e w' => e = .returned (.string ⟨(txt n).toArray⟩) ∧ w = w' := by
  induction k with
  | zero =>
    intro n w hk hlo hhi
    by_cases hneg : n < 0
    · have HT := Lib.hid (txt_minus n hneg (by omega))
      have hk' : -10 < n := by omega
      have L1 := txt_size 0 (-n) (by omega) (by omega)
      clear hk
      generalize ha : txt (-n) = a at *
      have HA := Lib.hid ha
      clear ha
      go_enter Try.func82, Try.ntmps82
      go_wp2_with fail
      refine (rdigit_c (-n) _ (by omega) (by omega)).mono ?_
      rintro e w' ⟨rfl, rfl⟩
      rw [HA.out]
      go_wp2_with fail
      go_ret
      exact ⟨by rw [HT.out, show (45 :: a) = [45] ++ a from rfl, ← cat]; rfl, rfl⟩
    · exact rdigit_c n w (by omega) (by omega)
  | succ k ih =>
    intro n w hk hlo hhi
    by_cases h1 : 0 ≤ n
    · by_cases h2 : n < 10
      · exact rdigit_c n w h1 h2
      · have HT := Lib.hid (txt_pos n (by omega) hhi)
        have HI := Lib.hid (ih (n / 10) w (by rw [Nat.pow_succ] at hk; omega) (by omega) (by omega))
        have h2' : 10 ≤ n := by omega
        have L1 := txt_size 0 (n / 10) (by omega) (by omega)
        have L2 := txt_size 0 (n % 10) (by omega) (by omega)
        clear hk h2 ih
        generalize ha : txt (n / 10) = a at *
        generalize hb : txt (n % 10) = b at *
        have HB := Lib.hid hb
        clear ha hb
        go_enter Try.func82, Try.ntmps82
        go_wp2_with fail
        refine HI.out.mono ?_
        rintro e w' ⟨rfl, rfl⟩
        go_wp2_with fail
        refine (rdigit_c (n % 10) _ (by omega) (by omega)).mono ?_
        rintro e w' ⟨rfl, rfl⟩
        rw [HB.out]
        go_wp2_with fail
        go_ret
        exact ⟨by rw [HT.out, ← cat]; rfl, rfl⟩
    · by_cases h2 : -10 < n
      · have HT := Lib.hid (txt_minus n (by omega) h2)
        have L1 := txt_size 0 (-n) (by omega) (by omega)
        clear hk
        generalize ha : txt (-n) = a at *
        have HA := Lib.hid ha
        clear ha
        have h1' : n < 0 := by omega
        clear h1 ih
        go_enter Try.func82, Try.ntmps82
        go_wp2_with fail
        refine (rdigit_c (-n) _ (by omega) (by omega)).mono ?_
        rintro e w' ⟨rfl, rfl⟩
        rw [HA.out]
        go_wp2_with fail
        go_ret
        exact ⟨by rw [HT.out, show (45 :: a) = [45] ++ a from rfl, ← cat]; rfl, rfl⟩
      · have HT := Lib.hid (txt_neg n (by omega) hlo)
        have e1 : n.tdiv 10 = -((-n) / 10) := by
          rw [← Int.neg_neg n, Int.neg_tdiv, Int.neg_neg, Int.tdiv_eq_ediv_of_nonneg (by omega)]
        have e2 : n.tmod 10 = -((-n) % 10) := by
          rw [← Int.neg_neg n, Int.neg_tmod, Int.neg_neg, Int.tmod_eq_emod_of_nonneg (by omega)]
        have hd1 : (n.tdiv 10).natAbs < 10 ^ (k + 1) := by rw [e1]; rw [Nat.pow_succ] at hk; omega
        have hd2 : -9223372036854775808 ≤ n.tdiv 10 ∧ n.tdiv 10 ≤ 0 := by omega
        have hm : 0 ≤ -(n.tmod 10) ∧ -(n.tmod 10) < 10 := by omega
        have HI := Lib.hid (ih (n.tdiv 10) w hd1 hd2.1 (by omega))
        have L1 := txt_size 0 (n.tdiv 10) hd2.1 (by omega)
        have L2 := txt_size 0 (-(n.tmod 10)) (by omega) (by omega)
        have HM := Lib.hid hm
        have h1' : n ≤ -10 := by omega
        have hq1 := hd2.1
        have hq2 := hd2.2
        have hm1 := hm.1
        have hm2 := hm.2
        clear hk h2 ih h1 e1 e2 hd1 hd2 hm
        generalize ha : txt (n.tdiv 10) = a at *
        generalize hb : txt (-(n.tmod 10)) = b at *
        have HB := Lib.hid hb
        clear ha hb
        go_enter Try.func82, Try.ntmps82
        go_wp2_with fail
        refine HI.out.mono ?_
        rintro e w' ⟨rfl, rfl⟩
        go_wp2_with fail
        refine (rdigit_c _ _ HM.out.1 HM.out.2).mono ?_
        rintro e w' ⟨rfl, rfl⟩
        rw [HB.out]
        go_wp2_with fail
        go_ret
        exact ⟨by rw [HT.out, ← cat]; rfl, rfl⟩
end Go.Proofs.Ytncloiimbclklaa
