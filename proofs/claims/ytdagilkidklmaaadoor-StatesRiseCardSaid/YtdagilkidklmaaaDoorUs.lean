/- states: sets of states, the steps of an event. -/
import Derived.Test.YtdagilkidklmaaaDoorUm
import Derived.Test.YtdagilkidklmaaaDoorRows
import Derived.OpenShut
import Derived.Outline
import Derived.Lib.Hide
import Derived.WalkLawsBesides
import Derived.WalkSpells
import Derived.Laws.Bits64b
namespace Go.Proofs.YtdagilkidklmaaaDoor
open Go.RowKit
set_option linter.unusedVariables false

theorem shl_one (s : Int) (h : 0 ≤ s) : Op.shift .shl .u64 1 .i64 s = pure (.int .u64 (((if s.toNat < 64 then 2 ^ s.toNat else 0) : Nat) : Int)) := by
  unfold Op.shift
  rw [if_neg (by omega)]
  show pure (Value.int .u64 (IntKind.u64.wrap (1 * 2 ^ (min s.toNat 64)))) = _
  congr 2
  have hw : ∀ n : Int, IntKind.u64.wrap n = n % 18446744073709551616 := by intro n; simp [IntKind.wrap, IntKind.signed, IntKind.bits]
  rw [hw, Int.one_mul]
  by_cases h64 : s.toNat < 64
  · rw [if_pos h64, Nat.min_eq_left (by omega)]
    have : (2 : Nat) ^ s.toNat < 2 ^ 64 := Nat.pow_lt_pow_right (by omega) h64
    have h2 : ((2 : Int) ^ s.toNat) = ((2 ^ s.toNat : Nat) : Int) := by norm_cast
    have h3 : ∀ x : Nat, x < 18446744073709551616 → (x : Int) % 18446744073709551616 = (x : Int) := by intro x hx; omega
    rw [h2]
    exact h3 _ this
  · rw [if_neg h64, Nat.min_eq_right (by omega)]
    rfl

theorem and_one (m : Nat) (hm : m < 1024) (s : Int) (h : 0 ≤ s) : (bits .and .u64 (m : Int) (((if s.toNat < 64 then 2 ^ s.toNat else 0) : Nat) : Int) != 0) = inS m s := by
  have hb : (if s.toNat < 64 then 2 ^ s.toNat else 0) < 18446744073709551616 := by
    split
    · show 2 ^ s.toNat < 2 ^ 64
      exact Nat.pow_lt_pow_right (by omega) (by assumption)
    · omega
  rw [bits_and_u64_nat m _ (by omega) hb]
  unfold inS
  rw [decide_eq_true h, Bool.true_and]
  split
  · cases ht : m.testBit s.toNat
    · have : m &&& 2 ^ s.toNat = 0 := by
        apply Nat.eq_of_testBit_eq
        intro i
        rw [Nat.testBit_and, Nat.testBit_two_pow, Nat.zero_testBit]
        by_cases hi : s.toNat = i
        · subst hi; rw [ht]; rfl
        · rw [decide_eq_false hi, Bool.and_false]
      rw [this]; rfl
    · have : m &&& 2 ^ s.toNat ≠ 0 := by
        intro e
        have h1 : (m &&& 2 ^ s.toNat).testBit s.toNat = true := by
          rw [Nat.testBit_and, Nat.testBit_two_pow, ht]; simp
        rw [e, Nat.zero_testBit] at h1
        exact absurd h1 (by decide)
      simp only [bne_iff_ne, ne_eq]
      omega
  · rw [Nat.testBit_lt_two_pow (show m < 2 ^ s.toNat from Nat.lt_of_lt_of_le (show m < 2 ^ 10 from hm) (Nat.pow_le_pow_right (by omega) (by omega)))]
    simp

set_option maxRecDepth 100000 in
theorem has_c (w : World) (m : Nat) (hm : m < 1024) (s : Int) : Calls Tryd.prog 10 #[.int .u64 (m : Int), .int .i64 s] w fun e w' => e = .returned (.bool (inS m s)) ∧ w = w' := by
  by_cases h : 0 ≤ s
  · have hd : decide (0 ≤ s) = true := decide_eq_true h
    have hsh := shl_one s h
    have hq := and_one m hm s h
    generalize (((if s.toNat < 64 then 2 ^ s.toNat else 0) : Nat) : Int) = X at hsh hq
    generalize inS m s = q at hq ⊢
    generalize (m : Int) = M at hq ⊢
    clear hm
    go_enter Tryd.func10, Tryd.ntmps10
    go_wp2
    go_ret
    exact ⟨rfl, rfl⟩
  · have hd : decide (0 ≤ s) = false := decide_eq_false h
    have HQ := Lib.hid (show inS m s = false from by unfold inS; rw [hd]; rfl)
    generalize (m : Int) = M
    clear h hm
    go_enter Tryd.func10, Tryd.ntmps10
    go_wp2
    go_ret
    exact ⟨by rw [HQ.out]; rfl, rfl⟩

def stepV (p : Nat × Int) : Value := .agg #[.int .u64 (p.1 : Int), .int .i64 p.2]

def stepO (p : Nat × Int) : Obj := .cells #[.int .u64 (p.1 : Int), .int .i64 p.2] 33
theorem box_bel' (w : World) (o : Obj) : Below w.heap.size w (w.alloc o) := (Below.refl _ _).alloc (Nat.le_refl _) _

theorem event_cases (e : Int) : e = 2 ∨ e = 3 ∨ e = 4 ∨ e = 5 ∨ e = 6 ∨ e = 7 ∨ e = 8 ∨ e = 9 ∨ e = 10 ∨ e = 11 ∨ e = 12 ∨ e = 13 ∨ e = 14 ∨ e = 15 ∨ e = 16 ∨ e = 17 ∨ e = 18 ∨ (e < 2 ∨ 18 < e) := by omega
theorem event_off {e : Int} (h : e < 2 ∨ 18 < e) : planM e = (0, 0) ∧ workM e = (0, 0) ∧ occM e = (0, 0) := by
  refine ⟨?_, ?_, ?_⟩
  · unfold planM; repeat rw [if_neg (by omega)]
  · unfold workM; repeat rw [if_neg (by omega)]
  · unfold occM; repeat rw [if_neg (by omega)]

set_option maxRecDepth 100000 in
set_option maxHeartbeats 4000000 in
theorem planStep_c (w : World) (e : Int) : Calls Tryd.prog 12 #[.int .i64 e] w fun r w' => r = .returned (stepV (planM e)) ∧ w' = w.alloc (stepO (planM e)) := by
  rcases event_cases e with rfl | rfl | rfl | rfl | rfl | rfl | rfl | rfl | rfl | rfl | rfl | rfl | rfl | rfl | rfl | rfl | rfl | h
  · go_enter Tryd.func12, Tryd.ntmps12
    go_wp2
    refine bodyPost_ret (v := stepV (planM 2)) (by simp [results, Tryd.results12, go_sem]; rfl) rfl ?_
    exact ⟨rfl, rfl⟩
  · go_enter Tryd.func12, Tryd.ntmps12
    go_wp2
    refine bodyPost_ret (v := stepV (planM 3)) (by simp [results, Tryd.results12, go_sem]; rfl) rfl ?_
    exact ⟨rfl, rfl⟩
  · go_enter Tryd.func12, Tryd.ntmps12
    go_wp2
    refine bodyPost_ret (v := stepV (planM 4)) (by simp [results, Tryd.results12, go_sem]; rfl) rfl ?_
    exact ⟨rfl, rfl⟩
  · go_enter Tryd.func12, Tryd.ntmps12
    go_wp2
    refine bodyPost_ret (v := stepV (planM 5)) (by simp [results, Tryd.results12, go_sem]; rfl) rfl ?_
    exact ⟨rfl, rfl⟩
  · go_enter Tryd.func12, Tryd.ntmps12
    go_wp2
    refine bodyPost_ret (v := stepV (planM 6)) (by simp [results, Tryd.results12, go_sem]; rfl) rfl ?_
    exact ⟨rfl, rfl⟩
  · go_enter Tryd.func12, Tryd.ntmps12
    go_wp2
    refine bodyPost_ret (v := stepV (planM 7)) (by simp [results, Tryd.results12, go_sem]; rfl) rfl ?_
    exact ⟨rfl, rfl⟩
  · go_enter Tryd.func12, Tryd.ntmps12
    go_wp2
    refine bodyPost_ret (v := stepV (planM 8)) (by simp [results, Tryd.results12, go_sem]; rfl) rfl ?_
    exact ⟨rfl, rfl⟩
  · go_enter Tryd.func12, Tryd.ntmps12
    go_wp2
    refine bodyPost_ret (v := stepV (planM 9)) (by simp [results, Tryd.results12, go_sem]; rfl) rfl ?_
    exact ⟨rfl, rfl⟩
  · go_enter Tryd.func12, Tryd.ntmps12
    go_wp2
    refine bodyPost_ret (v := stepV (planM 10)) (by simp [results, Tryd.results12, go_sem]; rfl) rfl ?_
    exact ⟨rfl, rfl⟩
  · go_enter Tryd.func12, Tryd.ntmps12
    go_wp2
    refine bodyPost_ret (v := stepV (planM 11)) (by simp [results, Tryd.results12, go_sem]; rfl) rfl ?_
    exact ⟨rfl, rfl⟩
  · go_enter Tryd.func12, Tryd.ntmps12
    go_wp2
    refine bodyPost_ret (v := stepV (planM 12)) (by simp [results, Tryd.results12, go_sem]; rfl) rfl ?_
    exact ⟨rfl, rfl⟩
  · go_enter Tryd.func12, Tryd.ntmps12
    go_wp2
    refine bodyPost_ret (v := stepV (planM 13)) (by simp [results, Tryd.results12, go_sem]; rfl) rfl ?_
    exact ⟨rfl, rfl⟩
  · go_enter Tryd.func12, Tryd.ntmps12
    go_wp2
    refine bodyPost_ret (v := stepV (planM 14)) (by simp [results, Tryd.results12, go_sem]; rfl) rfl ?_
    exact ⟨rfl, rfl⟩
  · go_enter Tryd.func12, Tryd.ntmps12
    go_wp2
    refine bodyPost_ret (v := stepV (planM 15)) (by simp [results, Tryd.results12, go_sem]; rfl) rfl ?_
    exact ⟨rfl, rfl⟩
  · go_enter Tryd.func12, Tryd.ntmps12
    go_wp2
    refine bodyPost_ret (v := stepV (planM 16)) (by simp [results, Tryd.results12, go_sem]; rfl) rfl ?_
    exact ⟨rfl, rfl⟩
  · go_enter Tryd.func12, Tryd.ntmps12
    go_wp2
    refine bodyPost_ret (v := stepV (planM 17)) (by simp [results, Tryd.results12, go_sem]; rfl) rfl ?_
    exact ⟨rfl, rfl⟩
  · go_enter Tryd.func12, Tryd.ntmps12
    go_wp2
    refine bodyPost_ret (v := stepV (planM 18)) (by simp [results, Tryd.results12, go_sem]; rfl) rfl ?_
    exact ⟨rfl, rfl⟩
  · have HE := Lib.hid (event_off h)
    have t2 : ((e : Int) == 2) = false := by simp; omega
    have t3 : ((e : Int) == 3) = false := by simp; omega
    have t4 : ((e : Int) == 4) = false := by simp; omega
    have t5 : ((e : Int) == 5) = false := by simp; omega
    have t6 : ((e : Int) == 6) = false := by simp; omega
    have t7 : ((e : Int) == 7) = false := by simp; omega
    have t8 : ((e : Int) == 8) = false := by simp; omega
    have t9 : ((e : Int) == 9) = false := by simp; omega
    have t10 : ((e : Int) == 10) = false := by simp; omega
    have t11 : ((e : Int) == 11) = false := by simp; omega
    have t12 : ((e : Int) == 12) = false := by simp; omega
    have t13 : ((e : Int) == 13) = false := by simp; omega
    have t14 : ((e : Int) == 14) = false := by simp; omega
    have t15 : ((e : Int) == 15) = false := by simp; omega
    have t16 : ((e : Int) == 16) = false := by simp; omega
    have t17 : ((e : Int) == 17) = false := by simp; omega
    have t18 : ((e : Int) == 18) = false := by simp; omega
    clear h
    go_enter Tryd.func12, Tryd.ntmps12
    go_wp2
    refine bodyPost_ret (v := stepV (0, 0)) (by simp [results, Tryd.results12, go_sem]; rfl) rfl ?_
    exact ⟨by rw [HE.out.1], by rw [HE.out.1]; rfl⟩

set_option maxRecDepth 100000 in
set_option maxHeartbeats 4000000 in
theorem workStep_c (w : World) (e : Int) : Calls Tryd.prog 14 #[.int .i64 e] w fun r w' => r = .returned (stepV (workM e)) ∧ w' = w.alloc (stepO (workM e)) := by
  rcases event_cases e with rfl | rfl | rfl | rfl | rfl | rfl | rfl | rfl | rfl | rfl | rfl | rfl | rfl | rfl | rfl | rfl | rfl | h
  · go_enter Tryd.func14, Tryd.ntmps14
    go_wp2
    refine bodyPost_ret (v := stepV (workM 2)) (by simp [results, Tryd.results14, go_sem]; rfl) rfl ?_
    exact ⟨rfl, rfl⟩
  · go_enter Tryd.func14, Tryd.ntmps14
    go_wp2
    refine bodyPost_ret (v := stepV (workM 3)) (by simp [results, Tryd.results14, go_sem]; rfl) rfl ?_
    exact ⟨rfl, rfl⟩
  · go_enter Tryd.func14, Tryd.ntmps14
    go_wp2
    refine bodyPost_ret (v := stepV (workM 4)) (by simp [results, Tryd.results14, go_sem]; rfl) rfl ?_
    exact ⟨rfl, rfl⟩
  · go_enter Tryd.func14, Tryd.ntmps14
    go_wp2
    refine bodyPost_ret (v := stepV (workM 5)) (by simp [results, Tryd.results14, go_sem]; rfl) rfl ?_
    exact ⟨rfl, rfl⟩
  · go_enter Tryd.func14, Tryd.ntmps14
    go_wp2
    refine bodyPost_ret (v := stepV (workM 6)) (by simp [results, Tryd.results14, go_sem]; rfl) rfl ?_
    exact ⟨rfl, rfl⟩
  · go_enter Tryd.func14, Tryd.ntmps14
    go_wp2
    refine bodyPost_ret (v := stepV (workM 7)) (by simp [results, Tryd.results14, go_sem]; rfl) rfl ?_
    exact ⟨rfl, rfl⟩
  · go_enter Tryd.func14, Tryd.ntmps14
    go_wp2
    refine bodyPost_ret (v := stepV (workM 8)) (by simp [results, Tryd.results14, go_sem]; rfl) rfl ?_
    exact ⟨rfl, rfl⟩
  · go_enter Tryd.func14, Tryd.ntmps14
    go_wp2
    refine bodyPost_ret (v := stepV (workM 9)) (by simp [results, Tryd.results14, go_sem]; rfl) rfl ?_
    exact ⟨rfl, rfl⟩
  · go_enter Tryd.func14, Tryd.ntmps14
    go_wp2
    refine bodyPost_ret (v := stepV (workM 10)) (by simp [results, Tryd.results14, go_sem]; rfl) rfl ?_
    exact ⟨rfl, rfl⟩
  · go_enter Tryd.func14, Tryd.ntmps14
    go_wp2
    refine bodyPost_ret (v := stepV (workM 11)) (by simp [results, Tryd.results14, go_sem]; rfl) rfl ?_
    exact ⟨rfl, rfl⟩
  · go_enter Tryd.func14, Tryd.ntmps14
    go_wp2
    refine bodyPost_ret (v := stepV (workM 12)) (by simp [results, Tryd.results14, go_sem]; rfl) rfl ?_
    exact ⟨rfl, rfl⟩
  · go_enter Tryd.func14, Tryd.ntmps14
    go_wp2
    refine bodyPost_ret (v := stepV (workM 13)) (by simp [results, Tryd.results14, go_sem]; rfl) rfl ?_
    exact ⟨rfl, rfl⟩
  · go_enter Tryd.func14, Tryd.ntmps14
    go_wp2
    refine bodyPost_ret (v := stepV (workM 14)) (by simp [results, Tryd.results14, go_sem]; rfl) rfl ?_
    exact ⟨rfl, rfl⟩
  · go_enter Tryd.func14, Tryd.ntmps14
    go_wp2
    refine bodyPost_ret (v := stepV (workM 15)) (by simp [results, Tryd.results14, go_sem]; rfl) rfl ?_
    exact ⟨rfl, rfl⟩
  · go_enter Tryd.func14, Tryd.ntmps14
    go_wp2
    refine bodyPost_ret (v := stepV (workM 16)) (by simp [results, Tryd.results14, go_sem]; rfl) rfl ?_
    exact ⟨rfl, rfl⟩
  · go_enter Tryd.func14, Tryd.ntmps14
    go_wp2
    refine bodyPost_ret (v := stepV (workM 17)) (by simp [results, Tryd.results14, go_sem]; rfl) rfl ?_
    exact ⟨rfl, rfl⟩
  · go_enter Tryd.func14, Tryd.ntmps14
    go_wp2
    refine bodyPost_ret (v := stepV (workM 18)) (by simp [results, Tryd.results14, go_sem]; rfl) rfl ?_
    exact ⟨rfl, rfl⟩
  · have HE := Lib.hid (event_off h)
    have t2 : ((e : Int) == 2) = false := by simp; omega
    have t3 : ((e : Int) == 3) = false := by simp; omega
    have t4 : ((e : Int) == 4) = false := by simp; omega
    have t5 : ((e : Int) == 5) = false := by simp; omega
    have t6 : ((e : Int) == 6) = false := by simp; omega
    have t7 : ((e : Int) == 7) = false := by simp; omega
    have t8 : ((e : Int) == 8) = false := by simp; omega
    have t9 : ((e : Int) == 9) = false := by simp; omega
    have t10 : ((e : Int) == 10) = false := by simp; omega
    have t11 : ((e : Int) == 11) = false := by simp; omega
    have t12 : ((e : Int) == 12) = false := by simp; omega
    have t13 : ((e : Int) == 13) = false := by simp; omega
    have t14 : ((e : Int) == 14) = false := by simp; omega
    have t15 : ((e : Int) == 15) = false := by simp; omega
    have t16 : ((e : Int) == 16) = false := by simp; omega
    have t17 : ((e : Int) == 17) = false := by simp; omega
    have t18 : ((e : Int) == 18) = false := by simp; omega
    clear h
    go_enter Tryd.func14, Tryd.ntmps14
    go_wp2
    refine bodyPost_ret (v := stepV (0, 0)) (by simp [results, Tryd.results14, go_sem]; rfl) rfl ?_
    exact ⟨by rw [HE.out.2.1], by rw [HE.out.2.1]; rfl⟩

set_option maxRecDepth 100000 in
set_option maxHeartbeats 4000000 in
theorem occurStep_c (w : World) (e : Int) : Calls Tryd.prog 15 #[.int .i64 e] w fun r w' => r = .returned (stepV (occM e)) ∧ w' = w.alloc (stepO (occM e)) := by
  rcases event_cases e with rfl | rfl | rfl | rfl | rfl | rfl | rfl | rfl | rfl | rfl | rfl | rfl | rfl | rfl | rfl | rfl | rfl | h
  · go_enter Tryd.func15, Tryd.ntmps15
    go_wp2
    refine bodyPost_ret (v := stepV (occM 2)) (by simp [results, Tryd.results15, go_sem]; rfl) rfl ?_
    exact ⟨rfl, rfl⟩
  · go_enter Tryd.func15, Tryd.ntmps15
    go_wp2
    refine bodyPost_ret (v := stepV (occM 3)) (by simp [results, Tryd.results15, go_sem]; rfl) rfl ?_
    exact ⟨rfl, rfl⟩
  · go_enter Tryd.func15, Tryd.ntmps15
    go_wp2
    refine bodyPost_ret (v := stepV (occM 4)) (by simp [results, Tryd.results15, go_sem]; rfl) rfl ?_
    exact ⟨rfl, rfl⟩
  · go_enter Tryd.func15, Tryd.ntmps15
    go_wp2
    refine bodyPost_ret (v := stepV (occM 5)) (by simp [results, Tryd.results15, go_sem]; rfl) rfl ?_
    exact ⟨rfl, rfl⟩
  · go_enter Tryd.func15, Tryd.ntmps15
    go_wp2
    refine bodyPost_ret (v := stepV (occM 6)) (by simp [results, Tryd.results15, go_sem]; rfl) rfl ?_
    exact ⟨rfl, rfl⟩
  · go_enter Tryd.func15, Tryd.ntmps15
    go_wp2
    refine bodyPost_ret (v := stepV (occM 7)) (by simp [results, Tryd.results15, go_sem]; rfl) rfl ?_
    exact ⟨rfl, rfl⟩
  · go_enter Tryd.func15, Tryd.ntmps15
    go_wp2
    refine bodyPost_ret (v := stepV (occM 8)) (by simp [results, Tryd.results15, go_sem]; rfl) rfl ?_
    exact ⟨rfl, rfl⟩
  · go_enter Tryd.func15, Tryd.ntmps15
    go_wp2
    refine bodyPost_ret (v := stepV (occM 9)) (by simp [results, Tryd.results15, go_sem]; rfl) rfl ?_
    exact ⟨rfl, rfl⟩
  · go_enter Tryd.func15, Tryd.ntmps15
    go_wp2
    refine bodyPost_ret (v := stepV (occM 10)) (by simp [results, Tryd.results15, go_sem]; rfl) rfl ?_
    exact ⟨rfl, rfl⟩
  · go_enter Tryd.func15, Tryd.ntmps15
    go_wp2
    refine bodyPost_ret (v := stepV (occM 11)) (by simp [results, Tryd.results15, go_sem]; rfl) rfl ?_
    exact ⟨rfl, rfl⟩
  · go_enter Tryd.func15, Tryd.ntmps15
    go_wp2
    refine bodyPost_ret (v := stepV (occM 12)) (by simp [results, Tryd.results15, go_sem]; rfl) rfl ?_
    exact ⟨rfl, rfl⟩
  · go_enter Tryd.func15, Tryd.ntmps15
    go_wp2
    refine bodyPost_ret (v := stepV (occM 13)) (by simp [results, Tryd.results15, go_sem]; rfl) rfl ?_
    exact ⟨rfl, rfl⟩
  · go_enter Tryd.func15, Tryd.ntmps15
    go_wp2
    refine bodyPost_ret (v := stepV (occM 14)) (by simp [results, Tryd.results15, go_sem]; rfl) rfl ?_
    exact ⟨rfl, rfl⟩
  · go_enter Tryd.func15, Tryd.ntmps15
    go_wp2
    refine bodyPost_ret (v := stepV (occM 15)) (by simp [results, Tryd.results15, go_sem]; rfl) rfl ?_
    exact ⟨rfl, rfl⟩
  · go_enter Tryd.func15, Tryd.ntmps15
    go_wp2
    refine bodyPost_ret (v := stepV (occM 16)) (by simp [results, Tryd.results15, go_sem]; rfl) rfl ?_
    exact ⟨rfl, rfl⟩
  · go_enter Tryd.func15, Tryd.ntmps15
    go_wp2
    refine bodyPost_ret (v := stepV (occM 17)) (by simp [results, Tryd.results15, go_sem]; rfl) rfl ?_
    exact ⟨rfl, rfl⟩
  · go_enter Tryd.func15, Tryd.ntmps15
    go_wp2
    refine bodyPost_ret (v := stepV (occM 18)) (by simp [results, Tryd.results15, go_sem]; rfl) rfl ?_
    exact ⟨rfl, rfl⟩
  · have HE := Lib.hid (event_off h)
    have t2 : ((e : Int) == 2) = false := by simp; omega
    have t3 : ((e : Int) == 3) = false := by simp; omega
    have t4 : ((e : Int) == 4) = false := by simp; omega
    have t5 : ((e : Int) == 5) = false := by simp; omega
    have t6 : ((e : Int) == 6) = false := by simp; omega
    have t7 : ((e : Int) == 7) = false := by simp; omega
    have t8 : ((e : Int) == 8) = false := by simp; omega
    have t9 : ((e : Int) == 9) = false := by simp; omega
    have t10 : ((e : Int) == 10) = false := by simp; omega
    have t11 : ((e : Int) == 11) = false := by simp; omega
    have t12 : ((e : Int) == 12) = false := by simp; omega
    have t13 : ((e : Int) == 13) = false := by simp; omega
    have t14 : ((e : Int) == 14) = false := by simp; omega
    have t15 : ((e : Int) == 15) = false := by simp; omega
    have t16 : ((e : Int) == 16) = false := by simp; omega
    have t17 : ((e : Int) == 17) = false := by simp; omega
    have t18 : ((e : Int) == 18) = false := by simp; omega
    clear h
    go_enter Tryd.func15, Tryd.ntmps15
    go_wp2
    refine bodyPost_ret (v := stepV (0, 0)) (by simp [results, Tryd.results15, go_sem]; rfl) rfl ?_
    exact ⟨by rw [HE.out.2.2], by rw [HE.out.2.2]; rfl⟩

theorem kind_cases9 (k : Int) : k = 0 ∨ k = 1 ∨ k = 2 ∨ k = 3 ∨ k = 4 ∨ k = 5 ∨ k = 6 ∨ k = 7 ∨ (k < 0 ∨ 7 < k) := by omega
theorem between_c (w : World) (a b c : Int) : Calls Tryd.prog 18 #[.int .i64 a, .int .i64 b, .int .i64 c] w fun r w' => r = .returned (.bool (decide (a ≤ b) && decide (b ≤ c))) ∧ w = w' := by
  obtain ⟨p, hp⟩ : ∃ p, decide (a ≤ b) = p := ⟨_, rfl⟩
  obtain ⟨q, hq⟩ : ∃ q, decide (b ≤ c) = q := ⟨_, rfl⟩
  rw [hp, hq]
  cases p
  · go_enter Tryd.func18, Tryd.ntmps18
    go_wp2
    go_ret
    exact ⟨by simp, rfl⟩
  · go_enter Tryd.func18, Tryd.ntmps18
    go_wp2
    go_ret
    exact ⟨by simp, rfl⟩
theorem task_c (w : World) (k : Int) : Calls Tryd.prog 17 #[.int .i64 k] w fun r w' => r = .returned (.bool (decide (1 ≤ k) && decide (k ≤ 4))) ∧ w = w' := by
  have HB := Lib.hid (between_c w 1 k 4)
  go_enter Tryd.func17, Tryd.ntmps17
  go_wp2_with (go_at_call 18; refine HB.out.mono ?_; rintro e w' ⟨rfl, rfl⟩)
  go_ret
  exact ⟨rfl, rfl⟩
theorem works_c (w : World) (k : Int) : Calls Tryd.prog 13 #[.int .i64 k] w fun r w' => r = .returned (.bool (worksM k)) ∧ w = w' := by
  by_cases h : k = 0
  · subst h
    go_enter Tryd.func13, Tryd.ntmps13
    go_wp2
    go_ret
    exact ⟨rfl, rfl⟩
  · have h0 : ((k : Int) == 0) = false := by simpa using h
    have HT := Lib.hid (task_c w k)
    have HW := Lib.hid (show worksM k = (decide (1 ≤ k) && decide (k ≤ 4)) from by
      unfold worksM
      rw [show decide (0 ≤ k) = decide (1 ≤ k) from by rw [decide_eq_decide]; omega])
    rw [← HW.out] at HT
    clear h
    go_enter Tryd.func13, Tryd.ntmps13
    go_wp2_with (go_at_call 17; refine HT.out.mono ?_; rintro e w' ⟨rfl, rfl⟩)
    go_ret
    exact ⟨rfl, rfl⟩
theorem occurs_c (w : World) (k : Int) : Calls Tryd.prog 16 #[.int .i64 k] w fun r w' => r = .returned (.bool (occursM k)) ∧ w = w' := by
  rcases kind_cases9 k with rfl | rfl | rfl | rfl | rfl | rfl | rfl | rfl | h
  iterate 8
    · go_enter Tryd.func16, Tryd.ntmps16
      go_wp2
      go_ret
      exact ⟨rfl, rfl⟩
  · have h5 : ((k : Int) == 5) = false := by simp; omega
    have h6 : ((k : Int) == 6) = false := by simp; omega
    have h7 : ((k : Int) == 7) = false := by simp; omega
    have HO := Lib.hid (show occursM k = false from by
      unfold occursM
      rcases h with h | h
      · rw [decide_eq_false (by omega), Bool.false_and]
      · rw [decide_eq_false (p := k ≤ 7) (by omega), Bool.and_false])
    clear h
    go_enter Tryd.func16, Tryd.ntmps16
    go_wp2
    go_ret
    exact ⟨by rw [HO.out]; rfl, rfl⟩
theorem statesOf_c (w : World) (k : Int) (r : Bool) : Calls Tryd.prog 11 #[.int .i64 k, .bool r] w fun x w' => x = .returned (.int .u64 (stM k r : Int)) ∧ w = w' := by
  have HW := Lib.hid (works_c w k)
  have HO := Lib.hid (occurs_c w k)
  cases r
  · have HS := Lib.hid (show stM k false = (if worksM k then 510 else if occursM k then 450 else 0) from by unfold stM; rw [if_neg (by decide)])
    generalize worksM k = p at *
    generalize occursM k = q at *
    cases p
    · cases q
      · go_enter Tryd.func11, Tryd.ntmps11
        go_wp2_with (first | (go_at_call 16; refine HO.out.mono ?_; rintro e w' ⟨rfl, rfl⟩) | (go_at_call 13; refine HW.out.mono ?_; rintro e w' ⟨rfl, rfl⟩))
        go_ret
        exact ⟨by rw [HS.out]; rfl, rfl⟩
      · go_enter Tryd.func11, Tryd.ntmps11
        go_wp2_with (first | (go_at_call 16; refine HO.out.mono ?_; rintro e w' ⟨rfl, rfl⟩) | (go_at_call 13; refine HW.out.mono ?_; rintro e w' ⟨rfl, rfl⟩))
        go_ret
        exact ⟨by rw [HS.out]; rfl, rfl⟩
    · go_enter Tryd.func11, Tryd.ntmps11
      go_wp2_with (go_at_call 13; refine HW.out.mono ?_; rintro e w' ⟨rfl, rfl⟩)
      go_ret
      exact ⟨by rw [HS.out]; rfl, rfl⟩
  · by_cases h : k = 0
    · subst h
      go_enter Tryd.func11, Tryd.ntmps11
      go_wp2
      go_ret
      exact ⟨rfl, rfl⟩
    · have h0 : ((k : Int) == 0) = false := by simpa using h
      have HS := Lib.hid (show stM k true = 0 from by unfold stM; rw [if_pos rfl, if_neg h])
      clear h
      go_enter Tryd.func11, Tryd.ntmps11
      go_wp2
      go_ret
      exact ⟨by rw [HS.out]; rfl, rfl⟩
theorem states_c (w : World) (k : Int) (r : Bool) (s : Int) : Calls Tryd.prog 7 #[.int .i64 k, .bool r, .int .i64 s] w fun x w' => x = .returned (.bool (inS (stM k r) s)) ∧ w = w' := by
  have HS := Lib.hid (statesOf_c w k r)
  have HH := Lib.hid (has_c w (stM k r) (stM_lt k r) s)
  generalize inS (stM k r) s = q at *
  generalize ((stM k r : Nat) : Int) = M at *
  go_enter Tryd.func7, Tryd.ntmps7
  go_wp2_with (first | (go_at_call 10; refine HH.out.mono ?_; rintro e w' ⟨rfl, rfl⟩) | (go_at_call 11; refine HS.out.mono ?_; rintro e w' ⟨rfl, rfl⟩))
  go_ret
  exact ⟨rfl, rfl⟩
end Go.Proofs.YtdagilkidklmaaaDoor
