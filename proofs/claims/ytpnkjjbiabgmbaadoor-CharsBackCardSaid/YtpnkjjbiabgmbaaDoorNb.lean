/- The plain side of CharsBack. -/
import Derived.Test.YtpnkjjbiabgmbaaDoorNp
import Derived.Test.YtpnkjjbiabgmbaaDoorCd
namespace Go.Proofs.YtpnkjjbiabgmbaaDoor
open Go.Lib

theorem isM_ds (u : Nat) (h : u < 100000000000000000000) : isM (ds u) = false := by
  unfold isM
  cases hd : ds u with
  | nil => rfl
  | cons x r =>
    have := ds_ne u h r
    rw [hd] at this
    simp at this
    simpa using this

theorem num_txt (n : Int) (h1 : -9223372036854775808 ≤ n) (h2 : n ≤ 9223372036854775807) : num (txt n) = (n, 0) := by
  unfold txt
  by_cases h : n < 0
  · rw [if_pos h]
    have e1 : isM (45 :: ds (-n).toNat) = true := rfl
    have e2 : stripM (45 :: ds (-n).toNat) = ds (-n).toNat := rfl
    unfold num
    rw [e1, e2, numD_minus _ (ds_numeral _ (by omega)) (fun ⟨_, e⟩ => by
      have := ds_val (-n).toNat (by omega)
      rw [e] at this
      have e3 : val 0 [48] = 0 := rfl
      omega) (by rw [ds_val _ (by omega)]; omega), ds_val _ (by omega)]
    simp only [Prod.mk.injEq, and_true]
    omega
  · rw [if_neg h]
    have e1 := isM_ds n.toNat (by omega)
    have e2 : stripM (ds n.toNat) = ds n.toNat := by unfold stripM; rw [e1]; rfl
    unfold num
    rw [e1, e2, numD_plus _ (ds_numeral _ (by omega)) (by rw [ds_val _ (by omega)]; omega), ds_val _ (by omega)]
    simp only [Prod.mk.injEq, and_true]
    omega

theorem short_of (d : List UInt8) (h : numeral d = true) (hv : val 0 d ≤ 9223372036854775808) : d.length ≤ 20 := by
  rcases Nat.lt_or_ge 20 d.length with h20 | h20
  · exfalso
    unfold numeral at h
    rw [Bool.and_eq_true, Bool.or_eq_true] at h
    cases d with
    | nil => simp at h20
    | cons x r =>
      have hx : x ≠ 48 := by
        intro e
        subst e
        rcases h.2 with h2 | h2
        · have : r = [] := by simpa using h2
          rw [this] at h20
          simp at h20
        · simp at h2
      have := key20 _ (x :: r) rfl (by omega) h.1 x r rfl hx
      omega
  · exact h20

theorem txt_num (xs : List UInt8) (v : Int) (h : num xs = (v, 0)) : txt v = xs ∧ -9223372036854775808 ≤ v ∧ v ≤ 9223372036854775807 := by
  unfold num numD at h
  split at h
  · simp at h
  · rename_i hb
    have hn : numeral (stripM xs) = true := by
      cases hq : numeral (stripM xs)
      · rw [hq] at hb; simp at hb
      · rfl
    have hz : NotZ (isM xs) (stripM xs) := by
      intro ⟨h1, h2⟩
      apply hb
      rw [h1, h2]
      simp
    split at h
    · rename_i hm
      split at h
      · rename_i hv
        simp only [Prod.mk.injEq, and_true] at h
        subst h
        rw [hm] at hz
        refine ⟨?_, by omega, by omega⟩
        rw [txt_of_minus _ hn hz (short_of _ hn hv)]
        unfold stripM
        rw [if_pos hm]
        cases xs with
        | nil => simp [isM] at hm
        | cons x r => simp [isM] at hm; rw [hm]; rfl
      · simp at h
    · rename_i hm
      split at h
      · rename_i hv
        simp only [Prod.mk.injEq, and_true] at h
        subst h
        refine ⟨?_, by omega, by omega⟩
        rw [txt_of_plus _ hn (short_of _ hn (by omega))]
        unfold stripM
        rw [if_neg hm]
      · simp at h

/-- A character's bytes, with anything behind, begin with it. -/
theorem D_E (r : Int) (h : E r ≠ []) (rest : List UInt8) : D (E r ++ rest) = (r.toNat, (E r).length) ∧ 0 ≤ r ∧ r ≤ 1114111 := by
  by_cases hb : r < 0 ∨ 1114111 < r ∨ (55296 ≤ r ∧ r ≤ 57343)
  · exact absurd (by unfold E; rw [if_pos hb]) h
  · have h0 : 0 ≤ r := by omega
    refine ⟨?_, h0, by omega⟩
    have hu : ∀ z : Int, 0 ≤ z → z < 256 → (u8 z).toNat = z.toNat := fun z a b => by have := u8_toNat z a b; omega
    by_cases a : r < 128
    · have e : E r = [u8 r] := by unfold E; rw [if_neg hb, if_pos a]
      rw [e]
      have e0 : at8 ([u8 r] ++ rest) 0 = r.toNat := hu r h0 (by omega)
      rw [D_one _ (by simp) (by rw [e0]; omega), e0]
      rfl
    · by_cases b : r < 2048
      · have e : E r = [u8 (192 + r / 64), u8 (128 + r % 64)] := by unfold E; rw [if_neg hb, if_neg a, if_pos b]
        rw [e]
        have e0 : at8 ([u8 (192 + r / 64), u8 (128 + r % 64)] ++ rest) 0 = (192 + r / 64).toNat := hu _ (by omega) (by omega)
        have e1 : at8 ([u8 (192 + r / 64), u8 (128 + r % 64)] ++ rest) 1 = (128 + r % 64).toNat := hu _ (by omega) (by omega)
        rw [D_two _ (by simp) (by rw [e0]; omega) (by rw [e0]; omega) (by rw [e1]; omega) (by rw [e1]; omega), e0, e1, if_pos (by omega)]
        simp
        omega
      · by_cases c : r < 65536
        · have e : E r = [u8 (224 + r / 4096), u8 (128 + r / 64 % 64), u8 (128 + r % 64)] := by unfold E; rw [if_neg hb, if_neg a, if_neg b, if_pos c]
          rw [e]
          have e0 : at8 ([u8 (224 + r / 4096), u8 (128 + r / 64 % 64), u8 (128 + r % 64)] ++ rest) 0 = (224 + r / 4096).toNat := hu _ (by omega) (by omega)
          have e1 : at8 ([u8 (224 + r / 4096), u8 (128 + r / 64 % 64), u8 (128 + r % 64)] ++ rest) 1 = (128 + r / 64 % 64).toNat := hu _ (by omega) (by omega)
          have e2 : at8 ([u8 (224 + r / 4096), u8 (128 + r / 64 % 64), u8 (128 + r % 64)] ++ rest) 2 = (128 + r % 64).toNat := hu _ (by omega) (by omega)
          rw [D_three _ (by simp) (by rw [e0]; omega) (by rw [e0]; omega) (by rw [e1]; omega) (by rw [e1]; omega) (by rw [e2]; omega) (by rw [e2]; omega) r.toNat (by rw [e0, e1, e2]; omega), if_pos (by omega)]
          rfl
        · have e : E r = [u8 (240 + r / 262144), u8 (128 + r / 4096 % 64), u8 (128 + r / 64 % 64), u8 (128 + r % 64)] := by unfold E; rw [if_neg hb, if_neg a, if_neg b, if_neg c]
          rw [e]
          have e0 : at8 ([u8 (240 + r / 262144), u8 (128 + r / 4096 % 64), u8 (128 + r / 64 % 64), u8 (128 + r % 64)] ++ rest) 0 = (240 + r / 262144).toNat := hu _ (by omega) (by omega)
          have e1 : at8 ([u8 (240 + r / 262144), u8 (128 + r / 4096 % 64), u8 (128 + r / 64 % 64), u8 (128 + r % 64)] ++ rest) 1 = (128 + r / 4096 % 64).toNat := hu _ (by omega) (by omega)
          have e2 : at8 ([u8 (240 + r / 262144), u8 (128 + r / 4096 % 64), u8 (128 + r / 64 % 64), u8 (128 + r % 64)] ++ rest) 2 = (128 + r / 64 % 64).toNat := hu _ (by omega) (by omega)
          have e3 : at8 ([u8 (240 + r / 262144), u8 (128 + r / 4096 % 64), u8 (128 + r / 64 % 64), u8 (128 + r % 64)] ++ rest) 3 = (128 + r % 64).toNat := hu _ (by omega) (by omega)
          rw [D_four _ (by simp) (by rw [e0]; omega) (by rw [e1]; omega) (by rw [e1]; omega) (by rw [e2]; omega) (by rw [e2]; omega) (by rw [e3]; omega) (by rw [e3]; omega) r.toNat (by rw [e0, e1, e2, e3]; omega), if_pos (by omega)]
          rfl
end Go.Proofs.YtpnkjjbiabgmbaaDoor
