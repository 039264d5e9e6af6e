/- states: the reference. -/
import Derived.Test.YtdagilkidklmaaaUo
namespace Go.Proofs.Ytdagilkidklmaaa
open Go.RowKit
set_option linter.unusedVariables false
set_option linter.unusedSimpArgs false

def icells (xs : List Int) : List Value := xs.map fun x => .int .i64 x

/-- one: whether a number is one of those in a block. -/
def InBlock (w : World) (b : Nat) (xs : List Int) : Prop := ∀ i (h : i < xs.length), w.cell? ⟨b, i, none⟩ = some (.int .i64 xs[i])

theorem inBlock_new (w : World) (xs : List Int) (T : TypeId) : InBlock (w.alloc (.cells (icells xs).toArray T)) w.heap.size xs := by
  intro i h
  simp only [World.cell?, heap_alloc_new]
  simp [icells, h]

theorem contains_false {s : Int} {xs : List Int} (h : ∀ i (hi : i < xs.length), (xs[i] == s) = false) : xs.contains s = false := by
  rw [List.contains_eq_mem]
  refine decide_eq_false fun hm => ?_
  obtain ⟨i, hi, rfl⟩ := List.mem_iff_getElem.1 hm
  have := h i hi
  simp at this
theorem contains_true {s : Int} {xs : List Int} {i : Nat} (hi : i < xs.length) (h : (xs[i] == s) = true) : xs.contains s = true := by
  rw [List.contains_eq_mem]
  refine decide_eq_true ?_
  have : xs[i] = s := by simpa using h
  rw [← this]; exact List.getElem_mem hi

set_option maxRecDepth 100000 in
set_option maxHeartbeats 4000000 in
theorem one_c (w : World) (s : Int) (b : Nat) (xs : List Int) (hx : InBlock w b xs) (hp : 0 < xs.length) (hl : xs.length < 10) : Calls Try.prog 16 #[.int .i64 s, .slice (some ⟨b, 0, none⟩) xs.length xs.length] w fun x w' => x = .returned (.bool (xs.contains s)) ∧ w = w' := by
  have HX := Lib.hid hx
  have HT := Lib.hid (fun i (hi : i < xs.length) => @contains_true s xs i hi)
  have HF := Lib.hid (@contains_false s xs)
  obtain ⟨n, hn⟩ : ∃ n, xs.length = n := ⟨_, rfl⟩
  have HN := Lib.hid hn
  rw [hn] at hp hl ⊢
  clear hx hn
  obtain ⟨rr, hrr⟩ : ∃ r, xs.contains s = r := ⟨_, rfl⟩
  have HRR := Lib.hid hrr
  rw [hrr]
  clear hrr
  go_enter Try.func16, Try.ntmps16
  go_wp2_with fail
  go_loop [9] (fun i => ∃ k : Nat, k ≤ n ∧ i = .int .i64 k ∧ ∀ j (hj : j < xs.length), j < k → (xs[j] == s) = false) (fun i => n - (intOf i).toNat)
  case atStart => exact ⟨0, by omega, rfl, by intro j _ h; omega⟩
  case round =>
    obtain ⟨k, hk, rfl, hr⟩ := hrel
    have HR := Lib.hid hr
    clear hr
    by_cases hlt : k < n
    · have hkx : k < xs.length := by rw [HN.out]; exact hlt
      have hcl := HX.out k hkx
      obtain ⟨x, hx⟩ : ∃ x, xs[k] = x := ⟨_, rfl⟩
      rw [hx] at hcl
      obtain ⟨q, hq⟩ : ∃ q, (x == s) = q := ⟨_, rfl⟩
      cases q with
      | true =>
        have HE := Lib.hid (show xs.contains s = true from HT.out k hkx (by rw [hx]; exact hq))
        clear hx hkx
        go_wp2_with fail
        go_ret
        exact ⟨by rw [← HRR.out, HE.out]; rfl, rfl⟩
      | false =>
        have HE := Lib.hid (show ∀ j (hj : j < xs.length), j < k + 1 → (xs[j] == s) = false from by
          intro j hj h
          by_cases e : j = k
          · subst e; rw [hx]; exact hq
          · exact HR.out j hj (by omega))
        clear hx hkx
        go_wp2_with fail
        exact ⟨⟨k + 1, by omega, by go_num, HE.out⟩, by simp [intOf]; omega⟩
    · have HE := Lib.hid (show xs.contains s = false from HF.out (fun i hi => HR.out i hi (by have := HN.out; omega)))
      have he : k = n := by omega
      subst he
      clear hlt hk
      go_wp2_with fail
      go_ret
      exact ⟨by rw [← HRR.out, HE.out]; rfl, rfl⟩

theorem one_new (w : World) (s : Int) (xs : List Int) (A : Array Value) (hA : A = (icells xs).toArray) (n : Nat) (hn : n = xs.length) (hp : 0 < n) (hl : n < 10) : Calls Try.prog 16 #[.int .i64 s, .slice (some ⟨w.heap.size, 0, none⟩) n n] (w.alloc (.cells A 3)) fun x w' => x = .returned (.bool (xs.contains s)) ∧ w.alloc (.cells A 3) = w' := by
  subst hA hn
  exact one_c _ s _ xs (inBlock_new w xs _) hp hl

theorem rFinal_c (w : World) (s : Int) : Calls Try.prog 27 #[.int .i64 s] w fun x w' => x = .returned (.bool (rFinal s)) ∧ Below w.heap.size w w' := by
  have H1 := Lib.hid (fun w => one_new w s [7, 8, 9] #[.int .i64 7, .int .i64 8, .int .i64 9] rfl 3 rfl (by omega) (by omega))
  rw [show [7, 8, 9].contains s = rFinal s from rfl] at H1
  generalize rFinal s = q at *
  have HB := Lib.hid (fun o => box_bel' w o)
  go_enter Try.func27, Try.ntmps27
  go_wp2_with (go_at_call 16; refine (H1.out _).mono ?_; rintro e w' ⟨rfl, rfl⟩)
  go_ret
  exact ⟨rfl, HB.out _⟩
-- GEN
theorem rtask_c (w : World) (k : Int) : Calls Try.prog 28 #[.int .i64 k] w fun r w' => r = .returned (.bool (decide (1 ≤ k) && decide (k ≤ 4))) ∧ w = w' := by
  obtain ⟨p, hp⟩ : ∃ p, decide (1 ≤ k) = p := ⟨_, rfl⟩
  obtain ⟨q, hq⟩ : ∃ q, decide (k ≤ 4) = q := ⟨_, rfl⟩
  rw [hp, hq]
  cases p
  · go_enter Try.func28, Try.ntmps28
    go_wp2
    go_ret
    exact ⟨by simp, rfl⟩
  · go_enter Try.func28, Try.ntmps28
    go_wp2
    go_ret
    exact ⟨by simp, rfl⟩
theorem rworks_c (w : World) (k : Int) : Calls Try.prog 18 #[.int .i64 k] w fun r w' => r = .returned (.bool (worksM k)) ∧ w = w' := by
  by_cases h : k = 0
  · subst h
    go_enter Try.func18, Try.ntmps18
    go_wp2
    go_ret
    exact ⟨rfl, rfl⟩
  · have h0 : ((k : Int) == 0) = false := by simpa using h
    have HT := Lib.hid (rtask_c w k)
    have HW := Lib.hid (show worksM k = (decide (1 ≤ k) && decide (k ≤ 4)) from by
      unfold worksM
      rw [show decide (0 ≤ k) = decide (1 ≤ k) from by rw [decide_eq_decide]; omega])
    rw [← HW.out] at HT
    clear h
    go_enter Try.func18, Try.ntmps18
    go_wp2_with (go_at_call 28; refine HT.out.mono ?_; rintro e w' ⟨rfl, rfl⟩)
    go_ret
    exact ⟨rfl, rfl⟩
theorem rknown_c (w : World) (k : Int) : Calls Try.prog 26 #[.int .i64 k] w fun r w' => r = .returned (.bool (decide (0 ≤ k) && decide (k ≤ 7))) ∧ w = w' := by
  obtain ⟨p, hp⟩ : ∃ p, decide (0 ≤ k) = p := ⟨_, rfl⟩
  obtain ⟨q, hq⟩ : ∃ q, decide (k ≤ 7) = q := ⟨_, rfl⟩
  rw [hp, hq]
  cases p
  · go_enter Try.func26, Try.ntmps26
    go_wp2
    go_ret
    exact ⟨by simp, rfl⟩
  · go_enter Try.func26, Try.ntmps26
    go_wp2
    go_ret
    exact ⟨by simp, rfl⟩

set_option maxRecDepth 100000 in
set_option maxHeartbeats 4000000 in
theorem rWork_c (w : World) (s b e : Int) : Calls Try.prog 19 #[.int .i64 s, .int .i64 b, .int .i64 e] w fun x w' => x = .returned (.tuple #[.int .i64 (rWork s b e).1, .bool (rWork s b e).2]) ∧ Below w.heap.size w w' := by
  have HB := Lib.hid (fun o => box_bel' w o)
  rcases event_cases e with rfl | rfl | rfl | rfl | rfl | rfl | rfl | rfl | rfl | rfl | rfl | rfl | rfl | rfl | rfl | rfl | rfl | h
  · obtain ⟨q, hq⟩ : ∃ q, (s == 1) = q := ⟨_, rfl⟩
    cases q
    · have HP := Lib.hid (show rWork s b 2 = (0, false) from by unfold rWork; rw [hq]; rfl)
      go_enter Try.func19, Try.ntmps19
      go_wp2_with fail
      go_ret2
      exact ⟨ret_pair HP.out, Below.refl _ _⟩
    · have HP := Lib.hid (show rWork s b 2 = (2, true) from by unfold rWork; rw [hq]; rfl)
      go_enter Try.func19, Try.ntmps19
      go_wp2_with fail
      go_ret2
      exact ⟨ret_pair HP.out, Below.refl _ _⟩
  · obtain ⟨q, hq⟩ : ∃ q, (s == 2) = q := ⟨_, rfl⟩
    cases q
    · have HP := Lib.hid (show rWork s b 3 = (0, false) from by unfold rWork; rw [hq]; rfl)
      go_enter Try.func19, Try.ntmps19
      go_wp2_with fail
      go_ret2
      exact ⟨ret_pair HP.out, Below.refl _ _⟩
    · have HP := Lib.hid (show rWork s b 3 = (3, true) from by unfold rWork; rw [hq]; rfl)
      go_enter Try.func19, Try.ntmps19
      go_wp2_with fail
      go_ret2
      exact ⟨ret_pair HP.out, Below.refl _ _⟩
  · obtain ⟨q, hq⟩ : ∃ q, (s == 3) = q := ⟨_, rfl⟩
    cases q
    · have HP := Lib.hid (show rWork s b 4 = (0, false) from by unfold rWork; rw [hq]; rfl)
      go_enter Try.func19, Try.ntmps19
      go_wp2_with fail
      go_ret2
      exact ⟨ret_pair HP.out, Below.refl _ _⟩
    · have HP := Lib.hid (show rWork s b 4 = (2, true) from by unfold rWork; rw [hq]; rfl)
      go_enter Try.func19, Try.ntmps19
      go_wp2_with fail
      go_ret2
      exact ⟨ret_pair HP.out, Below.refl _ _⟩
  · obtain ⟨q, hq⟩ : ∃ q, (s == 1) = q := ⟨_, rfl⟩
    cases q
    · have HP := Lib.hid (show rWork s b 5 = (0, false) from by unfold rWork; rw [hq]; rfl)
      go_enter Try.func19, Try.ntmps19
      go_wp2_with fail
      go_ret2
      exact ⟨ret_pair HP.out, Below.refl _ _⟩
    · have HP := Lib.hid (show rWork s b 5 = (4, true) from by unfold rWork; rw [hq]; rfl)
      go_enter Try.func19, Try.ntmps19
      go_wp2_with fail
      go_ret2
      exact ⟨ret_pair HP.out, Below.refl _ _⟩
  · obtain ⟨q, hq⟩ : ∃ q, (s == 2) = q := ⟨_, rfl⟩
    cases q
    · have HP := Lib.hid (show rWork s b 6 = (0, false) from by unfold rWork; rw [hq]; rfl)
      go_enter Try.func19, Try.ntmps19
      go_wp2_with fail
      go_ret2
      exact ⟨ret_pair HP.out, Below.refl _ _⟩
    · have HP := Lib.hid (show rWork s b 6 = (4, true) from by unfold rWork; rw [hq]; rfl)
      go_enter Try.func19, Try.ntmps19
      go_wp2_with fail
      go_ret2
      exact ⟨ret_pair HP.out, Below.refl _ _⟩
  · obtain ⟨q, hq⟩ : ∃ q, (s == 4) = q := ⟨_, rfl⟩
    cases q
    · have HP := Lib.hid (show rWork s b 7 = (0, false) from by unfold rWork; rw [hq]; rfl)
      go_enter Try.func19, Try.ntmps19
      go_wp2_with fail
      go_ret2
      exact ⟨ret_pair HP.out, Below.refl _ _⟩
    · have HP := Lib.hid (show rWork s b 7 = (7, true) from by unfold rWork; rw [hq]; rfl)
      go_enter Try.func19, Try.ntmps19
      go_wp2_with fail
      go_ret2
      exact ⟨ret_pair HP.out, Below.refl _ _⟩
  · obtain ⟨q, hq⟩ : ∃ q, (s == 4) = q := ⟨_, rfl⟩
    cases q
    · have HP := Lib.hid (show rWork s b 8 = (0, false) from by unfold rWork; rw [hq]; rfl)
      go_enter Try.func19, Try.ntmps19
      go_wp2_with fail
      go_ret2
      exact ⟨ret_pair HP.out, Below.refl _ _⟩
    · have HP := Lib.hid (show rWork s b 8 = (5, true) from by unfold rWork; rw [hq]; rfl)
      go_enter Try.func19, Try.ntmps19
      go_wp2_with fail
      go_ret2
      exact ⟨ret_pair HP.out, Below.refl _ _⟩
  · obtain ⟨q, hq⟩ : ∃ q, (s == 5) = q := ⟨_, rfl⟩
    cases q
    · have HP := Lib.hid (show rWork s b 9 = (0, false) from by unfold rWork; rw [hq]; rfl)
      go_enter Try.func19, Try.ntmps19
      go_wp2_with fail
      go_ret2
      exact ⟨ret_pair HP.out, Below.refl _ _⟩
    · have HP := Lib.hid (show rWork s b 9 = (4, true) from by unfold rWork; rw [hq]; rfl)
      go_enter Try.func19, Try.ntmps19
      go_wp2_with fail
      go_ret2
      exact ⟨ret_pair HP.out, Below.refl _ _⟩
  · obtain ⟨q, hq⟩ : ∃ q, (s == 4) = q := ⟨_, rfl⟩
    cases q
    · have HP := Lib.hid (show rWork s b 10 = (0, false) from by unfold rWork; rw [hq]; rfl)
      go_enter Try.func19, Try.ntmps19
      go_wp2_with fail
      go_ret2
      exact ⟨ret_pair HP.out, Below.refl _ _⟩
    · have HP := Lib.hid (show rWork s b 10 = (6, true) from by unfold rWork; rw [hq]; rfl)
      go_enter Try.func19, Try.ntmps19
      go_wp2_with fail
      go_ret2
      exact ⟨ret_pair HP.out, Below.refl _ _⟩
  · obtain ⟨q, hq⟩ : ∃ q, (s == 6) = q := ⟨_, rfl⟩
    cases q
    · have HP := Lib.hid (show rWork s b 11 = (0, false) from by unfold rWork; rw [hq]; rfl)
      go_enter Try.func19, Try.ntmps19
      go_wp2_with fail
      go_ret2
      exact ⟨ret_pair HP.out, Below.refl _ _⟩
    · obtain ⟨q2, hq2⟩ : ∃ q, (b == 4) = q := ⟨_, rfl⟩
      cases q2
      · have HP := Lib.hid (show rWork s b 11 = (0, false) from by unfold rWork; rw [hq, hq2]; rfl)
        go_enter Try.func19, Try.ntmps19
        go_wp2_with fail
        go_ret2
        exact ⟨ret_pair HP.out, Below.refl _ _⟩
      · have HP := Lib.hid (show rWork s b 11 = (4, true) from by unfold rWork; rw [hq, hq2]; rfl)
        go_enter Try.func19, Try.ntmps19
        go_wp2_with fail
        go_ret2
        exact ⟨ret_pair HP.out, Below.refl _ _⟩
  · have H1 := Lib.hid (fun w => one_new w s [4, 6, 5] #[.int .i64 4, .int .i64 6, .int .i64 5] rfl 3 rfl (by omega) (by omega))
    obtain ⟨q, hq⟩ : ∃ q, [4, 6, 5].contains s = q := ⟨_, rfl⟩
    rw [hq] at H1
    cases q
    · have HP := Lib.hid (show rWork s b 12 = (0, false) from by unfold rWork; rw [hq]; rfl)
      clear hq
      go_enter Try.func19, Try.ntmps19
      go_wp2_with (go_at_call 16; refine (H1.out _).mono ?_; rintro e w' ⟨rfl, rfl⟩)
      go_ret2
      exact ⟨ret_pair HP.out, HB.out _⟩
    · have HP := Lib.hid (show rWork s b 12 = (8, true) from by unfold rWork; rw [hq]; rfl)
      clear hq
      go_enter Try.func19, Try.ntmps19
      go_wp2_with (go_at_call 16; refine (H1.out _).mono ?_; rintro e w' ⟨rfl, rfl⟩)
      go_ret2
      exact ⟨ret_pair HP.out, HB.out _⟩
  · have H1 := Lib.hid (fun w => one_new w s [1, 2, 3, 4, 5] #[.int .i64 1, .int .i64 2, .int .i64 3, .int .i64 4, .int .i64 5] rfl 5 rfl (by omega) (by omega))
    obtain ⟨q, hq⟩ : ∃ q, [1, 2, 3, 4, 5].contains s = q := ⟨_, rfl⟩
    rw [hq] at H1
    cases q
    · have HP := Lib.hid (show rWork s b 13 = (0, false) from by unfold rWork; rw [hq]; rfl)
      clear hq
      go_enter Try.func19, Try.ntmps19
      go_wp2_with (go_at_call 16; refine (H1.out _).mono ?_; rintro e w' ⟨rfl, rfl⟩)
      go_ret2
      exact ⟨ret_pair HP.out, HB.out _⟩
    · have HP := Lib.hid (show rWork s b 13 = (8, true) from by unfold rWork; rw [hq]; rfl)
      clear hq
      go_enter Try.func19, Try.ntmps19
      go_wp2_with (go_at_call 16; refine (H1.out _).mono ?_; rintro e w' ⟨rfl, rfl⟩)
      go_ret2
      exact ⟨ret_pair HP.out, HB.out _⟩
  · have HP := Lib.hid (show rWork s b 14 = (0, false) from rfl)
    go_enter Try.func19, Try.ntmps19
    go_wp2_with fail
    go_ret2
    exact ⟨ret_pair HP.out, Below.refl _ _⟩
  · have HP := Lib.hid (show rWork s b 15 = (0, false) from rfl)
    go_enter Try.func19, Try.ntmps19
    go_wp2_with fail
    go_ret2
    exact ⟨ret_pair HP.out, Below.refl _ _⟩
  · have HP := Lib.hid (show rWork s b 16 = (0, false) from rfl)
    go_enter Try.func19, Try.ntmps19
    go_wp2_with fail
    go_ret2
    exact ⟨ret_pair HP.out, Below.refl _ _⟩
  · have HP := Lib.hid (show rWork s b 17 = (0, false) from rfl)
    go_enter Try.func19, Try.ntmps19
    go_wp2_with fail
    go_ret2
    exact ⟨ret_pair HP.out, Below.refl _ _⟩
  · have HP := Lib.hid (show rWork s b 18 = (0, false) from rfl)
    go_enter Try.func19, Try.ntmps19
    go_wp2_with fail
    go_ret2
    exact ⟨ret_pair HP.out, Below.refl _ _⟩
  · have HP := Lib.hid (show rWork s b e = (0, false) from by
      have hf : ∀ c : Int, 2 ≤ c → c ≤ 18 → (e == c) = false := by intro c h1 h2; rw [beq_eq_false_iff_ne]; omega
      unfold rWork
      simp only [hf 2 (by omega) (by omega), hf 3 (by omega) (by omega), hf 4 (by omega) (by omega), hf 5 (by omega) (by omega), hf 6 (by omega) (by omega), hf 7 (by omega) (by omega), hf 8 (by omega) (by omega), hf 9 (by omega) (by omega), hf 10 (by omega) (by omega), hf 11 (by omega) (by omega), hf 12 (by omega) (by omega), hf 13 (by omega) (by omega), Bool.false_and, Bool.or_false, Bool.false_eq_true, if_false])
    have t2 : ((e : Int) == 2) = false := by simp; omega
    have t3 : ((e : Int) == 3) = false := by simp; omega
    have t4 : ((e : Int) == 4) = false := by simp; omega
    have t5 : ((e : Int) == 5) = false := by simp; omega
    have t6 : ((e : Int) == 6) = false := by simp; omega
    have t7 : ((e : Int) == 7) = false := by simp; omega
    have t8 : ((e : Int) == 8) = false := by simp; omega
    have t9 : ((e : Int) == 9) = false := by simp; omega
    have t10 : ((e : Int) == 10) = false := by simp; omega
    have t11 : ((e : Int) == 11) = false := by simp; omega
    have t12 : ((e : Int) == 12) = false := by simp; omega
    have t13 : ((e : Int) == 13) = false := by simp; omega
    clear h
    go_enter Try.func19, Try.ntmps19
    go_wp2_with fail
    go_ret2
    exact ⟨ret_pair HP.out, Below.refl _ _⟩

set_option maxRecDepth 100000 in
set_option maxHeartbeats 4000000 in
theorem rPlan_c (w : World) (s e : Int) : Calls Try.prog 15 #[.int .i64 s, .int .i64 e] w fun x w' => x = .returned (.tuple #[.int .i64 (rPlan s e).1, .bool (rPlan s e).2]) ∧ Below w.heap.size w w' := by
  have HB := Lib.hid (fun o => box_bel' w o)
  rcases event_cases e with rfl | rfl | rfl | rfl | rfl | rfl | rfl | rfl | rfl | rfl | rfl | rfl | rfl | rfl | rfl | rfl | rfl | h
  · have HP := Lib.hid (show rPlan s 2 = (0, false) from rfl)
    go_enter Try.func15, Try.ntmps15
    go_wp2_with fail
    go_ret2
    exact ⟨ret_pair HP.out, Below.refl _ _⟩
  · have HP := Lib.hid (show rPlan s 3 = (0, false) from rfl)
    go_enter Try.func15, Try.ntmps15
    go_wp2_with fail
    go_ret2
    exact ⟨ret_pair HP.out, Below.refl _ _⟩
  · have HP := Lib.hid (show rPlan s 4 = (0, false) from rfl)
    go_enter Try.func15, Try.ntmps15
    go_wp2_with fail
    go_ret2
    exact ⟨ret_pair HP.out, Below.refl _ _⟩
  · have HP := Lib.hid (show rPlan s 5 = (0, false) from rfl)
    go_enter Try.func15, Try.ntmps15
    go_wp2_with fail
    go_ret2
    exact ⟨ret_pair HP.out, Below.refl _ _⟩
  · have HP := Lib.hid (show rPlan s 6 = (0, false) from rfl)
    go_enter Try.func15, Try.ntmps15
    go_wp2_with fail
    go_ret2
    exact ⟨ret_pair HP.out, Below.refl _ _⟩
  · obtain ⟨q, hq⟩ : ∃ q, (s == 4) = q := ⟨_, rfl⟩
    cases q
    · have HP := Lib.hid (show rPlan s 7 = (0, false) from by unfold rPlan; rw [hq]; rfl)
      go_enter Try.func15, Try.ntmps15
      go_wp2_with fail
      go_ret2
      exact ⟨ret_pair HP.out, Below.refl _ _⟩
    · have HP := Lib.hid (show rPlan s 7 = (7, true) from by unfold rPlan; rw [hq]; rfl)
      go_enter Try.func15, Try.ntmps15
      go_wp2_with fail
      go_ret2
      exact ⟨ret_pair HP.out, Below.refl _ _⟩
  · obtain ⟨q, hq⟩ : ∃ q, (s == 4) = q := ⟨_, rfl⟩
    cases q
    · have HP := Lib.hid (show rPlan s 8 = (0, false) from by unfold rPlan; rw [hq]; rfl)
      go_enter Try.func15, Try.ntmps15
      go_wp2_with fail
      go_ret2
      exact ⟨ret_pair HP.out, Below.refl _ _⟩
    · have HP := Lib.hid (show rPlan s 8 = (5, true) from by unfold rPlan; rw [hq]; rfl)
      go_enter Try.func15, Try.ntmps15
      go_wp2_with fail
      go_ret2
      exact ⟨ret_pair HP.out, Below.refl _ _⟩
  · obtain ⟨q, hq⟩ : ∃ q, (s == 5) = q := ⟨_, rfl⟩
    cases q
    · have HP := Lib.hid (show rPlan s 9 = (0, false) from by unfold rPlan; rw [hq]; rfl)
      go_enter Try.func15, Try.ntmps15
      go_wp2_with fail
      go_ret2
      exact ⟨ret_pair HP.out, Below.refl _ _⟩
    · have HP := Lib.hid (show rPlan s 9 = (4, true) from by unfold rPlan; rw [hq]; rfl)
      go_enter Try.func15, Try.ntmps15
      go_wp2_with fail
      go_ret2
      exact ⟨ret_pair HP.out, Below.refl _ _⟩
  · obtain ⟨q, hq⟩ : ∃ q, (s == 4) = q := ⟨_, rfl⟩
    cases q
    · have HP := Lib.hid (show rPlan s 10 = (0, false) from by unfold rPlan; rw [hq]; rfl)
      go_enter Try.func15, Try.ntmps15
      go_wp2_with fail
      go_ret2
      exact ⟨ret_pair HP.out, Below.refl _ _⟩
    · have HP := Lib.hid (show rPlan s 10 = (6, true) from by unfold rPlan; rw [hq]; rfl)
      go_enter Try.func15, Try.ntmps15
      go_wp2_with fail
      go_ret2
      exact ⟨ret_pair HP.out, Below.refl _ _⟩
  · obtain ⟨q, hq⟩ : ∃ q, (s == 6) = q := ⟨_, rfl⟩
    cases q
    · have HP := Lib.hid (show rPlan s 11 = (0, false) from by unfold rPlan; rw [hq]; rfl)
      go_enter Try.func15, Try.ntmps15
      go_wp2_with fail
      go_ret2
      exact ⟨ret_pair HP.out, Below.refl _ _⟩
    · have HP := Lib.hid (show rPlan s 11 = (4, true) from by unfold rPlan; rw [hq]; rfl)
      go_enter Try.func15, Try.ntmps15
      go_wp2_with fail
      go_ret2
      exact ⟨ret_pair HP.out, Below.refl _ _⟩
  · have H1 := Lib.hid (fun w => one_new w s [4, 5, 6] #[.int .i64 4, .int .i64 5, .int .i64 6] rfl 3 rfl (by omega) (by omega))
    obtain ⟨q, hq⟩ : ∃ q, [4, 5, 6].contains s = q := ⟨_, rfl⟩
    rw [hq] at H1
    cases q
    · have HP := Lib.hid (show rPlan s 12 = (0, false) from by unfold rPlan; rw [hq]; rfl)
      clear hq
      go_enter Try.func15, Try.ntmps15
      go_wp2_with (go_at_call 16; refine (H1.out _).mono ?_; rintro e w' ⟨rfl, rfl⟩)
      go_ret2
      exact ⟨ret_pair HP.out, HB.out _⟩
    · have HP := Lib.hid (show rPlan s 12 = (8, true) from by unfold rPlan; rw [hq]; rfl)
      clear hq
      go_enter Try.func15, Try.ntmps15
      go_wp2_with (go_at_call 16; refine (H1.out _).mono ?_; rintro e w' ⟨rfl, rfl⟩)
      go_ret2
      exact ⟨ret_pair HP.out, HB.out _⟩
  · have H1 := Lib.hid (fun w => one_new w s [4, 5] #[.int .i64 4, .int .i64 5] rfl 2 rfl (by omega) (by omega))
    obtain ⟨q, hq⟩ : ∃ q, [4, 5].contains s = q := ⟨_, rfl⟩
    rw [hq] at H1
    cases q
    · have HP := Lib.hid (show rPlan s 13 = (0, false) from by unfold rPlan; rw [hq]; rfl)
      clear hq
      go_enter Try.func15, Try.ntmps15
      go_wp2_with (go_at_call 16; refine (H1.out _).mono ?_; rintro e w' ⟨rfl, rfl⟩)
      go_ret2
      exact ⟨ret_pair HP.out, HB.out _⟩
    · have HP := Lib.hid (show rPlan s 13 = (8, true) from by unfold rPlan; rw [hq]; rfl)
      clear hq
      go_enter Try.func15, Try.ntmps15
      go_wp2_with (go_at_call 16; refine (H1.out _).mono ?_; rintro e w' ⟨rfl, rfl⟩)
      go_ret2
      exact ⟨ret_pair HP.out, HB.out _⟩
  · have HP := Lib.hid (show rPlan s 14 = (0, false) from rfl)
    go_enter Try.func15, Try.ntmps15
    go_wp2_with fail
    go_ret2
    exact ⟨ret_pair HP.out, Below.refl _ _⟩
  · have HP := Lib.hid (show rPlan s 15 = (0, false) from rfl)
    go_enter Try.func15, Try.ntmps15
    go_wp2_with fail
    go_ret2
    exact ⟨ret_pair HP.out, Below.refl _ _⟩
  · have HP := Lib.hid (show rPlan s 16 = (0, false) from rfl)
    go_enter Try.func15, Try.ntmps15
    go_wp2_with fail
    go_ret2
    exact ⟨ret_pair HP.out, Below.refl _ _⟩
  · have HP := Lib.hid (show rPlan s 17 = (0, false) from rfl)
    go_enter Try.func15, Try.ntmps15
    go_wp2_with fail
    go_ret2
    exact ⟨ret_pair HP.out, Below.refl _ _⟩
  · have H1 := Lib.hid (fun w => one_new w s [7, 8, 5, 6] #[.int .i64 7, .int .i64 8, .int .i64 5, .int .i64 6] rfl 4 rfl (by omega) (by omega))
    obtain ⟨q, hq⟩ : ∃ q, [7, 8, 5, 6].contains s = q := ⟨_, rfl⟩
    rw [hq] at H1
    cases q
    · have HP := Lib.hid (show rPlan s 18 = (0, false) from by unfold rPlan; rw [hq]; rfl)
      clear hq
      go_enter Try.func15, Try.ntmps15
      go_wp2_with (go_at_call 16; refine (H1.out _).mono ?_; rintro e w' ⟨rfl, rfl⟩)
      go_ret2
      exact ⟨ret_pair HP.out, HB.out _⟩
    · have HP := Lib.hid (show rPlan s 18 = (9, true) from by unfold rPlan; rw [hq]; rfl)
      clear hq
      go_enter Try.func15, Try.ntmps15
      go_wp2_with (go_at_call 16; refine (H1.out _).mono ?_; rintro e w' ⟨rfl, rfl⟩)
      go_ret2
      exact ⟨ret_pair HP.out, HB.out _⟩
  · have HP := Lib.hid (show rPlan s e = (0, false) from by
      have hf : ∀ c : Int, 2 ≤ c → c ≤ 18 → (e == c) = false := by intro c h1 h2; rw [beq_eq_false_iff_ne]; omega
      unfold rPlan
      simp only [hf 7 (by omega) (by omega), hf 8 (by omega) (by omega), hf 9 (by omega) (by omega), hf 10 (by omega) (by omega), hf 11 (by omega) (by omega), hf 12 (by omega) (by omega), hf 13 (by omega) (by omega), hf 18 (by omega) (by omega), Bool.false_and, Bool.or_false, Bool.false_eq_true, if_false])
    have t7 : ((e : Int) == 7) = false := by simp; omega
    have t8 : ((e : Int) == 8) = false := by simp; omega
    have t9 : ((e : Int) == 9) = false := by simp; omega
    have t10 : ((e : Int) == 10) = false := by simp; omega
    have t11 : ((e : Int) == 11) = false := by simp; omega
    have t12 : ((e : Int) == 12) = false := by simp; omega
    have t13 : ((e : Int) == 13) = false := by simp; omega
    have t18 : ((e : Int) == 18) = false := by simp; omega
    clear h
    go_enter Try.func15, Try.ntmps15
    go_wp2_with fail
    go_ret2
    exact ⟨ret_pair HP.out, Below.refl _ _⟩

set_option maxRecDepth 100000 in
set_option maxHeartbeats 4000000 in
theorem rMoment_c (w : World) (s b e : Int) : Calls Try.prog 20 #[.int .i64 s, .int .i64 b, .int .i64 e] w fun x w' => x = .returned (.tuple #[.int .i64 (rMoment s b e).1, .bool (rMoment s b e).2]) ∧ Below w.heap.size w w' := by
  have HB := Lib.hid (fun o => box_bel' w o)
  rcases event_cases e with rfl | rfl | rfl | rfl | rfl | rfl | rfl | rfl | rfl | rfl | rfl | rfl | rfl | rfl | rfl | rfl | rfl | h
  · have HP := Lib.hid (show rMoment s b 2 = (0, false) from rfl)
    go_enter Try.func20, Try.ntmps20
    go_wp2_with fail
    go_ret2
    exact ⟨ret_pair HP.out, Below.refl _ _⟩
  · have HP := Lib.hid (show rMoment s b 3 = (0, false) from rfl)
    go_enter Try.func20, Try.ntmps20
    go_wp2_with fail
    go_ret2
    exact ⟨ret_pair HP.out, Below.refl _ _⟩
  · have HP := Lib.hid (show rMoment s b 4 = (0, false) from rfl)
    go_enter Try.func20, Try.ntmps20
    go_wp2_with fail
    go_ret2
    exact ⟨ret_pair HP.out, Below.refl _ _⟩
  · have HP := Lib.hid (show rMoment s b 5 = (0, false) from rfl)
    go_enter Try.func20, Try.ntmps20
    go_wp2_with fail
    go_ret2
    exact ⟨ret_pair HP.out, Below.refl _ _⟩
  · have HP := Lib.hid (show rMoment s b 6 = (0, false) from rfl)
    go_enter Try.func20, Try.ntmps20
    go_wp2_with fail
    go_ret2
    exact ⟨ret_pair HP.out, Below.refl _ _⟩
  · have HP := Lib.hid (show rMoment s b 7 = (0, false) from rfl)
    go_enter Try.func20, Try.ntmps20
    go_wp2_with fail
    go_ret2
    exact ⟨ret_pair HP.out, Below.refl _ _⟩
  · have HP := Lib.hid (show rMoment s b 8 = (0, false) from rfl)
    go_enter Try.func20, Try.ntmps20
    go_wp2_with fail
    go_ret2
    exact ⟨ret_pair HP.out, Below.refl _ _⟩
  · have HP := Lib.hid (show rMoment s b 9 = (0, false) from rfl)
    go_enter Try.func20, Try.ntmps20
    go_wp2_with fail
    go_ret2
    exact ⟨ret_pair HP.out, Below.refl _ _⟩
  · obtain ⟨q, hq⟩ : ∃ q, (s == 1) = q := ⟨_, rfl⟩
    cases q
    · have HP := Lib.hid (show rMoment s b 10 = (0, false) from by unfold rMoment; rw [hq]; rfl)
      go_enter Try.func20, Try.ntmps20
      go_wp2_with fail
      go_ret2
      exact ⟨ret_pair HP.out, Below.refl _ _⟩
    · have HP := Lib.hid (show rMoment s b 10 = (6, true) from by unfold rMoment; rw [hq]; rfl)
      go_enter Try.func20, Try.ntmps20
      go_wp2_with fail
      go_ret2
      exact ⟨ret_pair HP.out, Below.refl _ _⟩
  · obtain ⟨q, hq⟩ : ∃ q, (s == 6) = q := ⟨_, rfl⟩
    cases q
    · have HP := Lib.hid (show rMoment s b 11 = (0, false) from by unfold rMoment; rw [hq]; rfl)
      go_enter Try.func20, Try.ntmps20
      go_wp2_with fail
      go_ret2
      exact ⟨ret_pair HP.out, Below.refl _ _⟩
    · obtain ⟨q2, hq2⟩ : ∃ q, (b == 1) = q := ⟨_, rfl⟩
      cases q2
      · have HP := Lib.hid (show rMoment s b 11 = (0, false) from by unfold rMoment; rw [hq, hq2]; rfl)
        go_enter Try.func20, Try.ntmps20
        go_wp2_with fail
        go_ret2
        exact ⟨ret_pair HP.out, Below.refl _ _⟩
      · have HP := Lib.hid (show rMoment s b 11 = (1, true) from by unfold rMoment; rw [hq, hq2]; rfl)
        go_enter Try.func20, Try.ntmps20
        go_wp2_with fail
        go_ret2
        exact ⟨ret_pair HP.out, Below.refl _ _⟩
  · have H1 := Lib.hid (fun w => one_new w s [1, 6] #[.int .i64 1, .int .i64 6] rfl 2 rfl (by omega) (by omega))
    obtain ⟨q, hq⟩ : ∃ q, [1, 6].contains s = q := ⟨_, rfl⟩
    rw [hq] at H1
    cases q
    · have HP := Lib.hid (show rMoment s b 12 = (0, false) from by unfold rMoment; rw [hq]; rfl)
      clear hq
      go_enter Try.func20, Try.ntmps20
      go_wp2_with (go_at_call 16; refine (H1.out _).mono ?_; rintro e w' ⟨rfl, rfl⟩)
      go_ret2
      exact ⟨ret_pair HP.out, HB.out _⟩
    · have HP := Lib.hid (show rMoment s b 12 = (8, true) from by unfold rMoment; rw [hq]; rfl)
      clear hq
      go_enter Try.func20, Try.ntmps20
      go_wp2_with (go_at_call 16; refine (H1.out _).mono ?_; rintro e w' ⟨rfl, rfl⟩)
      go_ret2
      exact ⟨ret_pair HP.out, HB.out _⟩
  · have HP := Lib.hid (show rMoment s b 13 = (0, false) from rfl)
    go_enter Try.func20, Try.ntmps20
    go_wp2_with fail
    go_ret2
    exact ⟨ret_pair HP.out, Below.refl _ _⟩
  · have HP := Lib.hid (show rMoment s b 14 = (0, false) from rfl)
    go_enter Try.func20, Try.ntmps20
    go_wp2_with fail
    go_ret2
    exact ⟨ret_pair HP.out, Below.refl _ _⟩
  · have HP := Lib.hid (show rMoment s b 15 = (0, false) from rfl)
    go_enter Try.func20, Try.ntmps20
    go_wp2_with fail
    go_ret2
    exact ⟨ret_pair HP.out, Below.refl _ _⟩
  · have HP := Lib.hid (show rMoment s b 16 = (0, false) from rfl)
    go_enter Try.func20, Try.ntmps20
    go_wp2_with fail
    go_ret2
    exact ⟨ret_pair HP.out, Below.refl _ _⟩
  · obtain ⟨q, hq⟩ : ∃ q, (s == 1) = q := ⟨_, rfl⟩
    cases q
    · have HP := Lib.hid (show rMoment s b 17 = (0, false) from by unfold rMoment; rw [hq]; rfl)
      go_enter Try.func20, Try.ntmps20
      go_wp2_with fail
      go_ret2
      exact ⟨ret_pair HP.out, Below.refl _ _⟩
    · have HP := Lib.hid (show rMoment s b 17 = (7, true) from by unfold rMoment; rw [hq]; rfl)
      go_enter Try.func20, Try.ntmps20
      go_wp2_with fail
      go_ret2
      exact ⟨ret_pair HP.out, Below.refl _ _⟩
  · have HP := Lib.hid (show rMoment s b 18 = (0, false) from rfl)
    go_enter Try.func20, Try.ntmps20
    go_wp2_with fail
    go_ret2
    exact ⟨ret_pair HP.out, Below.refl _ _⟩
  · have HP := Lib.hid (show rMoment s b e = (0, false) from by
      have hf : ∀ c : Int, 2 ≤ c → c ≤ 18 → (e == c) = false := by intro c h1 h2; rw [beq_eq_false_iff_ne]; omega
      unfold rMoment
      simp only [hf 10 (by omega) (by omega), hf 11 (by omega) (by omega), hf 12 (by omega) (by omega), hf 17 (by omega) (by omega), Bool.false_and, Bool.or_false, Bool.false_eq_true, if_false])
    have t10 : ((e : Int) == 10) = false := by simp; omega
    have t11 : ((e : Int) == 11) = false := by simp; omega
    have t12 : ((e : Int) == 12) = false := by simp; omega
    have t17 : ((e : Int) == 17) = false := by simp; omega
    clear h
    go_enter Try.func20, Try.ntmps20
    go_wp2_with fail
    go_ret2
    exact ⟨ret_pair HP.out, Below.refl _ _⟩

end Go.Proofs.Ytdagilkidklmaaa
