/- states: the step of an event, of whatever kind; the state behind it. -/
import Derived.Test.YtdagilkidklmaaaDoorUs
namespace Go.Proofs.YtdagilkidklmaaaDoor
open Go.RowKit
set_option linter.unusedVariables false

theorem stepOf_c (w : World) (k : Int) (r : Bool) (e : Int) : Calls Tryd.prog 9 #[.int .i64 k, .bool r, .int .i64 e] w fun x w' => x = .returned (stepV (stepM k r e)) ∧ w' = (w.alloc (stepO (stepM k r e))).alloc (stepO (stepM k r e)) := by
  have HW := Lib.hid (fun w => works_c w k)
  have H1 := Lib.hid (fun w => planStep_c w e)
  have H2 := Lib.hid (fun w => workStep_c w e)
  have H3 := Lib.hid (fun w => occurStep_c w e)
  unfold stepV stepO at *
  obtain ⟨m, hm⟩ : ∃ m, stepM k r e = m := ⟨_, rfl⟩
  rw [hm]
  obtain ⟨M, T⟩ := m
  dsimp only
  cases r
  · have HS := Lib.hid (show stepM k false e = (if worksM k then workM e else occM e) from by unfold stepM; rw [if_neg (by decide)])
    rw [hm] at HS
    clear hm
    generalize worksM k = p at *
    cases p
    · rw [show occM e = (M, T) from HS.out.symm] at H3
      clear HS H1 H2
      generalize (M : Int) = M1 at *
      go_enter Tryd.func9, Tryd.ntmps9
      go_wp2_with (first | (go_at_call 15; refine (H3.out _).mono ?_; rintro e w' ⟨rfl, rfl⟩) | (go_at_call 13; refine (HW.out _).mono ?_; rintro e w' ⟨rfl, rfl⟩))
      refine bodyPost_ret (v := .agg #[.int .u64 M1, .int .i64 T]) (by simp [results, Tryd.results9, go_sem]) rfl ?_
      exact ⟨rfl, rfl⟩
    · rw [show workM e = (M, T) from HS.out.symm] at H2
      clear HS H1 H3
      generalize (M : Int) = M1 at *
      go_enter Tryd.func9, Tryd.ntmps9
      go_wp2_with (first | (go_at_call 14; refine (H2.out _).mono ?_; rintro e w' ⟨rfl, rfl⟩) | (go_at_call 13; refine (HW.out _).mono ?_; rintro e w' ⟨rfl, rfl⟩))
      refine bodyPost_ret (v := .agg #[.int .u64 M1, .int .i64 T]) (by simp [results, Tryd.results9, go_sem]) rfl ?_
      exact ⟨rfl, rfl⟩
  · rw [show planM e = (M, T) from hm] at H1
    clear hm H2 H3
    generalize (M : Int) = M1 at *
    go_enter Tryd.func9, Tryd.ntmps9
    go_wp2_with (go_at_call 12; refine (H1.out _).mono ?_; rintro e w' ⟨rfl, rfl⟩)
    refine bodyPost_ret (v := .agg #[.int .u64 M1, .int .i64 T]) (by simp [results, Tryd.results9, go_sem]) rfl ?_
    exact ⟨rfl, rfl⟩

theorem ret_pair {x : Int} {y : Bool} {p : Int × Bool} (h : p = (x, y)) : Ending.returned (.tuple #[.int .i64 x, .bool y]) = Ending.returned (.tuple #[.int .i64 p.1, .bool p.2]) := by rw [h]
theorem bel3 (w : World) (a b c : Obj) : Below w.heap.size w (((w.alloc a).alloc b).alloc c) :=
  (((Below.refl _ _).alloc (Nat.le_refl _) _).alloc (by simp) _).alloc (by simp; omega) _

set_option maxRecDepth 100000 in
theorem nextOff_c (w : World) (k : Int) (r : Bool) (s b e : Int) (h : inS (stM k r) s = false) : Calls Tryd.prog 4 #[.int .i64 k, .bool r, .int .i64 s, .int .i64 b, .int .i64 e] w fun x w' => x = .returned (.tuple #[.int .i64 0, .bool false]) ∧ Below w.heap.size w w' := by
  have HS := Lib.hid (fun w => states_c w k r s)
  rw [h] at HS
  clear h
  go_enter Tryd.func4, Tryd.ntmps4
  go_wp2_with (go_at_call 7; refine (HS.out _).mono ?_; rintro e w' ⟨rfl, rfl⟩)
  go_ret2
  exact ⟨rfl, Below.refl _ _⟩

set_option maxRecDepth 100000 in
theorem nextOne_c (w : World) (k : Int) (r : Bool) (s b e : Int) (h : inS (stM k r) s = true) (hr : (!r && (s == 6)) = false ∨ ((e == 11) = false ∧ (e == 16) = false)) : Calls Tryd.prog 4 #[.int .i64 k, .bool r, .int .i64 s, .int .i64 b, .int .i64 e] w fun x w' => x = .returned (.tuple #[.int .i64 (oneM k r s e).1, .bool (oneM k r s e).2]) ∧ Below w.heap.size w w' := by
  have HS := Lib.hid (fun w => states_c w k r s)
  have HT := Lib.hid (fun w => stepOf_c w k r e)
  have HH := Lib.hid (fun w => has_c w _ (stepM_lt k r e) s)
  have HO := Lib.hid (show oneM k r s e = if inS (stepM k r e).1 s then ((stepM k r e).2, true) else (0, false) from by unfold oneM; rw [h]; rfl)
  have HB := Lib.hid (fun o1 o2 o3 => bel3 w o1 o2 o3)
  rw [h] at HS
  clear h
  unfold stepV stepO at HT
  obtain ⟨m, hm⟩ : ∃ m, stepM k r e = m := ⟨_, rfl⟩
  rw [hm] at HT HH HO
  clear hm
  obtain ⟨M, T⟩ := m
  dsimp only at HT HH HO
  generalize inS M s = q at *
  generalize (M : Int) = M1 at *
  obtain ⟨s6, hs6⟩ : ∃ x, (s == 6) = x := ⟨_, rfl⟩
  rw [hs6] at hr
  cases q
  · have HP := Lib.hid (show oneM k r s e = (0, false) from HO.out)
    cases r
    · cases s6
      · clear hr
        go_enter Tryd.func4, Tryd.ntmps4
        go_wp2_with (first | (go_at_call 10; refine (HH.out _).mono ?_; rintro e w' ⟨rfl, rfl⟩) | (go_at_call 9; refine (HT.out _).mono ?_; rintro e w' ⟨rfl, rfl⟩) | (go_at_call 7; refine (HS.out _).mono ?_; rintro e w' ⟨rfl, rfl⟩))
        go_ret2
        exact ⟨ret_pair HP.out, HB.out _ _ _⟩
      · obtain ⟨h11, h16⟩ : (e == 11) = false ∧ (e == 16) = false := hr.resolve_left (by decide)
        clear hr
        go_enter Tryd.func4, Tryd.ntmps4
        go_wp2_with (first | (go_at_call 10; refine (HH.out _).mono ?_; rintro e w' ⟨rfl, rfl⟩) | (go_at_call 9; refine (HT.out _).mono ?_; rintro e w' ⟨rfl, rfl⟩) | (go_at_call 7; refine (HS.out _).mono ?_; rintro e w' ⟨rfl, rfl⟩))
        go_ret2
        exact ⟨ret_pair HP.out, HB.out _ _ _⟩
    · clear hr
      go_enter Tryd.func4, Tryd.ntmps4
      go_wp2_with (first | (go_at_call 10; refine (HH.out _).mono ?_; rintro e w' ⟨rfl, rfl⟩) | (go_at_call 9; refine (HT.out _).mono ?_; rintro e w' ⟨rfl, rfl⟩) | (go_at_call 7; refine (HS.out _).mono ?_; rintro e w' ⟨rfl, rfl⟩))
      go_ret2
      exact ⟨ret_pair HP.out, HB.out _ _ _⟩
  · have HP := Lib.hid (show oneM k r s e = (T, true) from HO.out)
    cases r
    · cases s6
      · clear hr
        go_enter Tryd.func4, Tryd.ntmps4
        go_wp2_with (first | (go_at_call 10; refine (HH.out _).mono ?_; rintro e w' ⟨rfl, rfl⟩) | (go_at_call 9; refine (HT.out _).mono ?_; rintro e w' ⟨rfl, rfl⟩) | (go_at_call 7; refine (HS.out _).mono ?_; rintro e w' ⟨rfl, rfl⟩))
        go_ret2
        exact ⟨ret_pair HP.out, HB.out _ _ _⟩
      · obtain ⟨h11, h16⟩ : (e == 11) = false ∧ (e == 16) = false := hr.resolve_left (by decide)
        clear hr
        go_enter Tryd.func4, Tryd.ntmps4
        go_wp2_with (first | (go_at_call 10; refine (HH.out _).mono ?_; rintro e w' ⟨rfl, rfl⟩) | (go_at_call 9; refine (HT.out _).mono ?_; rintro e w' ⟨rfl, rfl⟩) | (go_at_call 7; refine (HS.out _).mono ?_; rintro e w' ⟨rfl, rfl⟩))
        go_ret2
        exact ⟨ret_pair HP.out, HB.out _ _ _⟩
    · clear hr
      go_enter Tryd.func4, Tryd.ntmps4
      go_wp2_with (first | (go_at_call 10; refine (HH.out _).mono ?_; rintro e w' ⟨rfl, rfl⟩) | (go_at_call 9; refine (HT.out _).mono ?_; rintro e w' ⟨rfl, rfl⟩) | (go_at_call 7; refine (HS.out _).mono ?_; rintro e w' ⟨rfl, rfl⟩))
      go_ret2
      exact ⟨ret_pair HP.out, HB.out _ _ _⟩

/-- Next, where nothing leads back. -/
theorem nextPlain_c (w : World) (k : Int) (r : Bool) (s b e : Int) (hr : (!r && (s == 6)) = false ∨ ((e == 11) = false ∧ (e == 16) = false)) : Calls Tryd.prog 4 #[.int .i64 k, .bool r, .int .i64 s, .int .i64 b, .int .i64 e] w fun x w' => x = .returned (.tuple #[.int .i64 (oneM k r s e).1, .bool (oneM k r s e).2]) ∧ Below w.heap.size w w' := by
  by_cases h : inS (stM k r) s = true
  · exact nextOne_c w k r s b e h hr
  · have h : inS (stM k r) s = false := by simpa using h
    refine (nextOff_c w k r s b e h).mono ?_
    rintro x w' ⟨rfl, hb⟩
    exact ⟨ret_pair (by unfold oneM; rw [h]; rfl), hb⟩

set_option maxRecDepth 100000 in
theorem back_c (w : World) (k b e : Int) (he : (e == 11) = false ∧ (e == 16) = false) : Calls Tryd.prog 8 #[.int .i64 k, .int .i64 b, .int .i64 e] w fun x w' => x = .returned (.tuple #[.int .i64 (backM k b e).1, .bool (backM k b e).2]) ∧ Below w.heap.size w w' := by
  have HN := Lib.hid (fun w => nextPlain_c w k false b 0 e (.inr he))
  have HM := Lib.hid (show backM k b e = if (oneM k false b e).2 then (b, true) else (0, false) from rfl)
  generalize oneM k false b e = p at HN HM
  obtain ⟨T, q⟩ := p
  dsimp only at HN HM
  clear he
  cases q
  · have HP := Lib.hid (show backM k b e = (0, false) from HM.out)
    go_enter Tryd.func8, Tryd.ntmps8
    go_wp2_with (go_at_call 4; refine (HN.out _).mono ?_; rintro e w' ⟨rfl, hb⟩; have HB := Lib.hid hb; clear hb)
    go_ret2
    exact ⟨ret_pair HP.out, HB.out⟩
  · have HP := Lib.hid (show backM k b e = (b, true) from HM.out)
    go_enter Tryd.func8, Tryd.ntmps8
    go_wp2_with (go_at_call 4; refine (HN.out _).mono ?_; rintro e w' ⟨rfl, hb⟩; have HB := Lib.hid hb; clear hb)
    go_ret2
    exact ⟨ret_pair HP.out, HB.out⟩

theorem bel_box {w w' : World} {o : Obj} (h : Below (w.alloc o).heap.size (w.alloc o) w') : Below w.heap.size w w' := (box_bel' w o).trans (h.mono (by simp))

set_option maxRecDepth 100000 in
set_option maxHeartbeats 4000000 in
theorem next_c (w : World) (k : Int) (r : Bool) (s b e : Int) : Calls Tryd.prog 4 #[.int .i64 k, .bool r, .int .i64 s, .int .i64 b, .int .i64 e] w fun x w' => x = .returned (.tuple #[.int .i64 (nextM k r s b e).1, .bool (nextM k r s b e).2]) ∧ Below w.heap.size w w' := by
  by_cases h : inS (stM k r) s = true
  · by_cases h6 : (!r && (s == 6)) = true
    · obtain ⟨rfl, rfl⟩ : r = false ∧ s = 6 := by simpa using h6
      by_cases h11 : e = 11
      · subst h11
        have HP := Lib.hid (show nextM k false 6 b 11 = backM k b 10 from by unfold nextM; rw [h]; rfl)
        have HS := Lib.hid (fun w => states_c w k false 6)
        rw [h] at HS
        have HK := Lib.hid (fun w => back_c w k b 10 ⟨rfl, rfl⟩)
        rw [← HP.out] at HK
        generalize nextM k false 6 b 11 = p at *
        clear h h6 HP
        obtain ⟨T, q⟩ := p
        dsimp only at HK ⊢
        go_enter Tryd.func4, Tryd.ntmps4
        go_wp2_with (first | (go_at_call 8; refine (HK.out _).mono ?_; rintro e w' ⟨rfl, hb⟩; have HB := Lib.hid hb; clear hb) | (go_at_call 7; refine (HS.out _).mono ?_; rintro e w' ⟨rfl, rfl⟩))
        go_ret2
        exact ⟨rfl, HB.out⟩
      · by_cases h16 : e = 16
        · subst h16
          have HP := Lib.hid (show nextM k false 6 b 16 = backM k (wr b) 15 from by unfold nextM; rw [h]; rfl)
          have HS := Lib.hid (fun w => states_c w k false 6)
          rw [h] at HS
          have HK := Lib.hid (fun w => back_c w k (wr b) 15 ⟨rfl, rfl⟩)
          rw [← HP.out] at HK
          generalize nextM k false 6 b 16 = p at *
          clear h h6 HP h11
          obtain ⟨T, q⟩ := p
          dsimp only at HK ⊢
          unfold wr at HK
          go_enter Tryd.func4, Tryd.ntmps4
          go_wp2_with (first | (go_at_call 8; refine (HK.out _).mono ?_; rintro e w' ⟨rfl, hb⟩; have HB := Lib.hid hb; clear hb) | (go_at_call 7; refine (HS.out _).mono ?_; rintro e w' ⟨rfl, rfl⟩))
          go_ret2
          exact ⟨rfl, HB.out⟩
        · have e1 : (e == 11) = false := by simpa using h11
          have e2 : (e == 16) = false := by simpa using h16
          refine (nextPlain_c w k false 6 b e (.inr ⟨e1, e2⟩)).mono ?_
          rintro x w' ⟨rfl, hb⟩
          exact ⟨ret_pair (by unfold nextM; rw [h, e1, e2]; simp), hb⟩
    · have h6 : (!r && (s == 6)) = false := by simpa using h6
      refine (nextPlain_c w k r s b e (.inl h6)).mono ?_
      rintro x w' ⟨rfl, hb⟩
      exact ⟨ret_pair (by unfold nextM; rw [h, h6]; simp), hb⟩
  · have h : inS (stM k r) s = false := by simpa using h
    refine (nextOff_c w k r s b e h).mono ?_
    rintro x w' ⟨rfl, hb⟩
    exact ⟨ret_pair (nextM_off b e h), hb⟩
end Go.Proofs.YtdagilkidklmaaaDoor
