/- Cases: a path's last part (the program's Last). Written by tools/genyp.py off tree/XVc. -/
import Derived.Test.YtncloiimbclklaaYo
namespace Go.Proofs.Ytncloiimbclklaa
open Go Go.RowKit Go.Shelf
set_option linter.unusedVariables false
set_option linter.unusedSimpArgs false

set_option maxRecDepth 100000 in
set_option maxHeartbeats 2000000 in
theorem lastT_c (w : World) (s : ByteArray) (hs : s.size ≤ 140737488355328) : Calls Try.prog 39 #[.string s] w fun e w' => e = .returned (pairV (lastB s)) ∧ Below w.heap.size w w' := by
  have HL1 := fun w => Try.strings_LastIndex s ⟨#[47]⟩ (by omega) w
  rw [show (⟨#[47]⟩ : ByteArray).data.toList = [47] from rfl] at HL1
  obtain ⟨j, hj, hjs⟩ := last47' s
  have hts : (s.extract j s.size).size ≤ 140737488355328 := by rw [ByteArray.size_extract]; omega
  have HLB := Lib.hid (show lastB s = lastP (s.extract j s.size).data.toList from by unfold lastB; rw [hj, cutFrom]; simp)
  obtain ⟨t, ht⟩ : ∃ t, s.extract j s.size = t := ⟨_, rfl⟩
  rw [ht] at HLB hts
  obtain ⟨z0, hz0⟩ : ∃ z, Lib.lastIndex s.data.toList [47] = z := ⟨_, rfl⟩
  rw [hz0] at HL1 hj
  obtain rfl : z0 = (j : Int) - 1 := by omega
  have HL1 := Lib.hid HL1
  have hw : (j : Int) - 1 + 1 = (j : Int) := by omega
  have hw2 : (j : Int) ≤ 140737488355328 := by omega
  clear hz0 hj
  have HL2 := fun w => Try.strings_LastIndex t ⟨#[46]⟩ (by omega) w
  rw [show (⟨#[46]⟩ : ByteArray).data.toList = [46] from rfl] at HL2
  obtain ⟨z, hz⟩ : ∃ z, Lib.lastIndex t.data.toList [46] = z := ⟨_, rfl⟩
  rw [hz] at HL2
  have HL2 := Lib.hid HL2
  by_cases h1 : z < 1
  · have hd : decide (z < 1) = true := decide_eq_true h1
    have HP := Lib.hid (lastP_off _ _ hz h1)
    clear hz
    go_enter Try.func39, Try.ntmps39
    go_wp2_with (first
      | (go_at_call 53; with_reducible refine (HL2.out _).mono ?_; rintro e w' ⟨rfl, rfl⟩)
      | (go_at_call 53; with_reducible refine (HL1.out _).mono ?_; rintro e w' ⟨rfl, rfl⟩))
    go_ret2
    exact ⟨by rw [HLB.out, HP.out]; rfl, Below.refl _ _⟩
  · obtain ⟨k, rfl⟩ : ∃ k : Nat, z = (k : Int) := ⟨z.toNat, by omega⟩
    have hk : k < t.size := by
      have := lastIs_lib t.data.toList 46
      rw [hz] at this
      rcases this with ⟨e, _⟩ | ⟨j, e, hj, _⟩
      · omega
      · have : t.data.toList.length = t.size := Array.length_toList
        omega
    have hd : decide ((k : Int) < 1) = false := decide_eq_false h1
    have hk1 : k + 1 ≤ t.size := hk
    have hk0 : k ≤ t.size := by omega
    have HN := Lib.hid (fun w => number_c w (t.extract (k + 1) t.size) (by rw [ByteArray.size_extract]; omega))
    have he : tb (t.extract (k + 1) t.size) = t.data.toList.drop (k + 1) := by rw [cutFrom]; rfl
    rw [he] at HN
    have HP1 := Lib.hid (lastP_bad _ _ hz)
    have HP2 := Lib.hid (lastP_ok _ _ hz (by omega))
    rw [show ((k : Int)).toNat = k from by omega] at HP1 HP2
    have HC := Lib.hid (cutTo t k)
    obtain ⟨n, hn⟩ : ∃ n, (num (t.data.toList.drop (k + 1))).1 = n := ⟨_, rfl⟩
    obtain ⟨q, hq⟩ : ∃ q, (num (t.data.toList.drop (k + 1))).2 = q := ⟨_, rfl⟩
    rw [hn, hq] at HN HP1 HP2
    clear hn hq hz he h1 hk
    by_cases hq0 : q = 0
    · subst hq0
      by_cases hn1 : n < 1
      · have hdn : decide (n < 1) = true := decide_eq_true hn1
        have HP := Lib.hid (HP1.out (.inr hn1))
        clear HP1 HP2 hn1
        go_enter Try.func39, Try.ntmps39
        go_wp2_with (first
          | (go_at_call 58; refine (HN.out _).mono ?_; rintro e w' ⟨rfl, rfl⟩)
          | (go_at_call 53; with_reducible refine (HL2.out _).mono ?_; rintro e w' ⟨rfl, rfl⟩)
          | (go_at_call 53; with_reducible refine (HL1.out _).mono ?_; rintro e w' ⟨rfl, rfl⟩))
        go_ret2
        exact ⟨by rw [HLB.out, HP.out]; rfl, Below.refl _ _⟩
      · have hdn : decide (n < 1) = false := decide_eq_false hn1
        have HP := Lib.hid (HP2.out rfl (by omega))
        clear HP1 HP2 hn1
        go_enter Try.func39, Try.ntmps39
        go_wp2_with (first
          | (go_at_call 58; refine (HN.out _).mono ?_; rintro e w' ⟨rfl, rfl⟩)
          | (go_at_call 53; with_reducible refine (HL2.out _).mono ?_; rintro e w' ⟨rfl, rfl⟩)
          | (go_at_call 53; with_reducible refine (HL1.out _).mono ?_; rintro e w' ⟨rfl, rfl⟩))
        go_ret2
        exact ⟨by rw [HLB.out, HP.out]; unfold pairV; rw [← HC.out]; rfl, Below.refl _ _⟩
    · have hqb : ((q : Int) != 0) = true := by simpa using hq0
      have HP := Lib.hid (HP1.out (.inl hq0))
      clear HP1 HP2 hq0
      go_enter Try.func39, Try.ntmps39
      go_wp2_with (first
        | (go_at_call 58; refine (HN.out _).mono ?_; rintro e w' ⟨rfl, rfl⟩)
        | (go_at_call 53; with_reducible refine (HL2.out _).mono ?_; rintro e w' ⟨rfl, rfl⟩)
        | (go_at_call 53; with_reducible refine (HL1.out _).mono ?_; rintro e w' ⟨rfl, rfl⟩))
      go_ret2
      exact ⟨by rw [HLB.out, HP.out]; rfl, Below.refl _ _⟩
end Go.Proofs.Ytncloiimbclklaa
