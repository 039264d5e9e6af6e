/- tree: the reference's last, part, texts. -/
import Derived.Test.YtncloiimbclklaaVc
namespace Go.Proofs.Ytncloiimbclklaa
open Go Go.RowKit Go.Shelf
set_option linter.unusedVariables false

theorem size_list (s : ByteArray) : s.data.toList.length = s.size := Array.length_toList
theorem drop_next (s : ByteArray) (k : Nat) (h : k < s.size) : s.data.toList.drop k = s[k] :: s.data.toList.drop (k + 1) := by
  rw [List.drop_eq_getElem_cons (by rw [size_list]; exact h)]
  rfl
theorem drop_all (s : ByteArray) : s.data.toList.drop s.size = [] := by rw [← size_list]; exact List.drop_length

set_option maxRecDepth 100000 in
theorem rlast_c (w : World) (s : ByteArray) (hs : s.size ≤ 140737488355328) (x : UInt8) (z : Int) (hz : LastIs s.data.toList x z) :
    Calls Try.prog 55 #[.string s, .int .u8 (x.toNat : Int)] w fun e w' => e = .returned (.int .i64 z) ∧ w = w' := by
  have HZ := Lib.hid (fun y hy => lastIs_unique s.data.toList x z y hz hy)
  have hx8 := x.toNat_lt
  clear hz
  go_enter Try.func55, Try.ntmps55
  go_wp2_with fail
  go_loop [5] (fun i => ∃ j : Int, i = .int .i64 j ∧ -1 ≤ j ∧ j < s.size ∧ x ∉ s.data.toList.drop (j + 1).toNat) (fun i => (intOf i + 1).toNat)
  case atStart => exact ⟨(s.size : Int) - 1, rfl, by omega, by omega, by
    rw [show ((s.size : Int) - 1 + 1).toNat = s.size from by omega, drop_all]; simp⟩
  case round =>
    obtain ⟨j, rfl, h1, h2, hr⟩ := hrel
    have HR := Lib.hid hr
    clear hr
    by_cases h0 : 0 ≤ j
    · obtain ⟨k, rfl⟩ : ∃ k : Nat, j = k := ⟨j.toNat, by omega⟩
      have hlt : k < s.size := by omega
      have HD := Lib.hid (drop_next s k hlt)
      have HR2 := Lib.hid (show x ∉ s.data.toList.drop (k + 1) from by have := HR.out; rwa [show ((k : Int) + 1).toNat = k + 1 from by omega] at this)
      have hb := (s[k]).toNat_lt
      by_cases he : s[k] = x
      · have HE := Lib.hid (HZ.out _ (lastIs_at s.data.toList x k (by rw [size_list]; exact hlt) he HR2.out))
        have hq : ((s[k].toNat : Int) == (x.toNat : Int)) = true := by rw [he]; simp
        clear he
        go_wp2_with fail
        go_ret
        exact ⟨by rw [HE.out]; rfl, rfl⟩
      · have HN := Lib.hid (show x ∉ s.data.toList.drop ((k : Int) - 1 + 1).toNat from by
          rw [show ((k : Int) - 1 + 1).toNat = k from by omega, HD.out, List.mem_cons, not_or]
          exact ⟨fun e => he e.symm, HR2.out⟩)
        have hq : ((s[k].toNat : Int) == (x.toNat : Int)) = false := by
          rw [beq_eq_false_iff_ne]
          intro e
          exact he (UInt8.toNat_inj.1 (by omega))
        clear he
        go_wp2_with fail
        exact ⟨⟨(k : Int) - 1, rfl, by omega, by omega, HN.out⟩, by simp [intOf]⟩
    · have HE := Lib.hid (HZ.out (-1) (.inl ⟨rfl, by
        have h := HR.out
        rw [show (j + 1).toNat = 0 from by omega, List.drop_zero] at h
        exact h⟩))
      go_wp2_with fail
      go_ret
      exact ⟨by rw [HE.out]; rfl, rfl⟩


set_option maxRecDepth 100000 in
set_option maxHeartbeats 1000000 in
theorem rpart_c (w : World) (s : ByteArray) (hs : s.size ≤ 140737488355328) : Calls Try.prog 59 #[.string s] w fun e w' => e = .returned (pairV (lastP s.data.toList)) ∧ Below w.heap.size w w' := by
  have HL2 := fun w => rlast_c w s hs 46 _ (lastIs_lib s.data.toList 46)
  rw [show (((46 : UInt8).toNat : Nat) : Int) = 46 from rfl] at HL2
  obtain ⟨z, hz⟩ : ∃ z, Lib.lastIndex s.data.toList [46] = z := ⟨_, rfl⟩
  rw [hz] at HL2
  have HL2' := Lib.hid HL2
  clear HL2
  by_cases h1 : z < 1
  · have hd : decide (z < 1) = true := decide_eq_true h1
    have HP := Lib.hid (lastP_off _ _ hz h1)
    clear hz
    go_enter Try.func59, Try.ntmps59
    go_wp2_with (go_at_call 55; refine (HL2'.out _).mono ?_; rintro e w' ⟨rfl, rfl⟩)
    go_ret2
    exact ⟨by rw [HP.out]; rfl, Below.refl _ _⟩
  · obtain ⟨k, rfl⟩ : ∃ k : Nat, z = (k : Int) := ⟨z.toNat, by omega⟩
    have hk : k < s.size := by
      have := lastIs_lib s.data.toList 46
      rw [hz] at this
      rcases this with ⟨e, _⟩ | ⟨j, e, hj, _⟩
      · omega
      · have : s.data.toList.length = s.size := Array.length_toList
        omega
    have hd : decide ((k : Int) < 1) = false := decide_eq_false h1
    have hk1 : k + 1 ≤ s.size := hk
    have hk0 : k ≤ s.size := by omega
    have HN := Lib.hid (fun w => rnumber_c w (s.extract (k + 1) s.size) (by rw [ByteArray.size_extract]; omega))
    have he : tb (s.extract (k + 1) s.size) = s.data.toList.drop (k + 1) := by rw [cutFrom]; rfl
    rw [he] at HN
    have HP1 := Lib.hid (lastP_bad _ _ hz)
    have HP2 := Lib.hid (lastP_ok _ _ hz (by omega))
    rw [show ((k : Int)).toNat = k from by omega] at HP1 HP2
    have HC := Lib.hid (cutTo s k)
    obtain ⟨n, hn⟩ : ∃ n, (num (s.data.toList.drop (k + 1))).1 = n := ⟨_, rfl⟩
    obtain ⟨q, hq⟩ : ∃ q, (num (s.data.toList.drop (k + 1))).2 = q := ⟨_, rfl⟩
    rw [hn, hq] at HN HP1 HP2
    clear hn hq hz he h1 hk
    by_cases hq0 : q = 0
    · subst hq0
      by_cases hn1 : n < 1
      · have hdn : decide (n < 1) = true := decide_eq_true hn1
        have HP := Lib.hid (HP1.out (.inr hn1))
        clear HP1 HP2 hn1
        go_enter Try.func59, Try.ntmps59
        go_wp2_with (first
          | (go_at_call 76; refine (HN.out _).mono ?_; rintro e w' ⟨rfl, rfl⟩)
          | (go_at_call 55; refine (HL2'.out _).mono ?_; rintro e w' ⟨rfl, rfl⟩))
        go_ret2
        exact ⟨by rw [HP.out]; rfl, Below.refl _ _⟩
      · have hdn : decide (n < 1) = false := decide_eq_false hn1
        have HP := Lib.hid (HP2.out rfl (by omega))
        clear HP1 HP2 hn1
        go_enter Try.func59, Try.ntmps59
        go_wp2_with (first
          | (go_at_call 76; refine (HN.out _).mono ?_; rintro e w' ⟨rfl, rfl⟩)
          | (go_at_call 55; refine (HL2'.out _).mono ?_; rintro e w' ⟨rfl, rfl⟩))
        go_ret2
        exact ⟨by rw [HP.out]; unfold pairV; rw [← HC.out]; rfl, Below.refl _ _⟩
    · have hqb : ((q : Int) != 0) = true := by simpa using hq0
      have HP := Lib.hid (HP1.out (.inl hq0))
      clear HP1 HP2 hq0
      go_enter Try.func59, Try.ntmps59
      go_wp2_with (first
        | (go_at_call 76; refine (HN.out _).mono ?_; rintro e w' ⟨rfl, rfl⟩)
        | (go_at_call 55; refine (HL2'.out _).mono ?_; rintro e w' ⟨rfl, rfl⟩))
      go_ret2
      exact ⟨by rw [HP.out]; rfl, Below.refl _ _⟩
end Go.Proofs.Ytncloiimbclklaa
