/- states: the reference's States, parent and Next. -/
import Derived.Test.YtdagilkidklmaaaUr
namespace Go.Proofs.Ytdagilkidklmaaa
open Go.RowKit
set_option linter.unusedVariables false
set_option linter.unusedSimpArgs false

set_option maxRecDepth 100000 in
set_option maxHeartbeats 1000000 in
theorem rStates_c (w : World) (k : Int) (r : Bool) (s : Int) : Calls Try.prog 14 #[.int .i64 k, .bool r, .int .i64 s] w fun x w' => x = .returned (.bool (rStates k r s)) ∧ Below w.heap.size w w' := by
  have HK := Lib.hid (fun w => rknown_c w k)
  have HW := Lib.hid (fun w => rworks_c w k)
  have HM := Lib.hid (show rStates k r s = if !(decide (0 ≤ k) && decide (k ≤ 7)) || r && k != 0 then false else if r then [4, 5, 6, 7, 8, 9].contains s else if worksM k then decide (1 ≤ s) && decide (s ≤ 8) else [1, 6, 7, 8].contains s from rfl)
  have HA := Lib.hid (fun w => one_new w s [4, 5, 6, 7, 8, 9] #[.int .i64 4, .int .i64 5, .int .i64 6, .int .i64 7, .int .i64 8, .int .i64 9] rfl 6 rfl (by omega) (by omega))
  have HC := Lib.hid (fun w => one_new w s [1, 6, 7, 8] #[.int .i64 1, .int .i64 6, .int .i64 7, .int .i64 8] rfl 4 rfl (by omega) (by omega))
  generalize [4, 5, 6, 7, 8, 9].contains s = qa at *
  generalize [1, 6, 7, 8].contains s = qc at *
  generalize (decide (0 ≤ k) && decide (k ≤ 7)) = kn at *
  generalize worksM k = wk at *
  generalize rStates k r s = res at *
  obtain ⟨z, hz⟩ : ∃ z, (k != 0) = z := ⟨_, rfl⟩
  rw [hz] at HM
  have HB := Lib.hid (fun o => box_bel' w o)
  cases kn
  · have HP := Lib.hid (show res = false from HM.out)
    go_enter Try.func14, Try.ntmps14
    go_wp2_with (go_at_call 26; refine (HK.out _).mono ?_; rintro e w' ⟨rfl, rfl⟩)
    go_ret
    exact ⟨by rw [HP.out]; rfl, Below.refl _ _⟩
  · cases r
    · cases wk
      · have HP := Lib.hid (show res = qc from HM.out)
        clear hz
        go_enter Try.func14, Try.ntmps14
        go_wp2_with (first | (go_at_call 16; refine (HC.out _).mono ?_; rintro e w' ⟨rfl, rfl⟩) | (go_at_call 18; refine (HW.out _).mono ?_; rintro e w' ⟨rfl, rfl⟩) | (go_at_call 26; refine (HK.out _).mono ?_; rintro e w' ⟨rfl, rfl⟩))
        go_ret
        exact ⟨by rw [HP.out]; rfl, HB.out _⟩
      · have HP := Lib.hid (show res = (decide (1 ≤ s) && decide (s ≤ 8)) from HM.out)
        obtain ⟨p1, hp1⟩ : ∃ p, decide (1 ≤ s) = p := ⟨_, rfl⟩
        obtain ⟨p2, hp2⟩ : ∃ p, decide (s ≤ 8) = p := ⟨_, rfl⟩
        rw [hp1, hp2] at HP
        clear hz
        cases p1
        · go_enter Try.func14, Try.ntmps14
          go_wp2_with (first | (go_at_call 18; refine (HW.out _).mono ?_; rintro e w' ⟨rfl, rfl⟩) | (go_at_call 26; refine (HK.out _).mono ?_; rintro e w' ⟨rfl, rfl⟩))
          go_ret
          exact ⟨by rw [HP.out]; rfl, Below.refl _ _⟩
        · go_enter Try.func14, Try.ntmps14
          go_wp2_with (first | (go_at_call 18; refine (HW.out _).mono ?_; rintro e w' ⟨rfl, rfl⟩) | (go_at_call 26; refine (HK.out _).mono ?_; rintro e w' ⟨rfl, rfl⟩))
          go_ret
          exact ⟨by rw [HP.out]; simp, Below.refl _ _⟩
    · cases z
      · have HP := Lib.hid (show res = qa from HM.out)
        go_enter Try.func14, Try.ntmps14
        go_wp2_with (first | (go_at_call 16; refine (HA.out _).mono ?_; rintro e w' ⟨rfl, rfl⟩) | (go_at_call 26; refine (HK.out _).mono ?_; rintro e w' ⟨rfl, rfl⟩))
        go_ret
        exact ⟨by rw [HP.out]; rfl, HB.out _⟩
      · have HP := Lib.hid (show res = false from HM.out)
        go_enter Try.func14, Try.ntmps14
        go_wp2_with (go_at_call 26; refine (HK.out _).mono ?_; rintro e w' ⟨rfl, rfl⟩)
        go_ret
        exact ⟨by rw [HP.out]; rfl, Below.refl _ _⟩

theorem bel_tr {w x w' : World} (h1 : Below w.heap.size w x) (h2 : Below x.heap.size x w') : Below w.heap.size w w' := h1.trans (h2.mono h1.size)
theorem bel_n {w w' : World} (h : Below w.heap.size w w') (o : Obj) : Below w.heap.size w (w'.alloc o) := h.alloc h.size _

theorem one_at1 (w : World) (o : Obj) (s : Int) (xs : List Int) (A : Array Value) (hA : A = (icells xs).toArray) (n : Nat) (hn : n = xs.length) (hp : 0 < n) (hl : n < 10) : Calls Try.prog 16 #[.int .i64 s, .slice (some ⟨w.heap.size + 1, 0, none⟩) n n] ((w.alloc o).alloc (.cells A 3)) fun x w' => x = .returned (.bool (xs.contains s)) ∧ (w.alloc o).alloc (.cells A 3) = w' := by
  have := one_new (w.alloc o) s xs A hA n hn hp hl
  rwa [World.size_alloc] at this
theorem one_at2 (w : World) (o o2 : Obj) (s : Int) (xs : List Int) (A : Array Value) (hA : A = (icells xs).toArray) (n : Nat) (hn : n = xs.length) (hp : 0 < n) (hl : n < 10) : Calls Try.prog 16 #[.int .i64 s, .slice (some ⟨w.heap.size + 1 + 1, 0, none⟩) n n] (((w.alloc o).alloc o2).alloc (.cells A 3)) fun x w' => x = .returned (.bool (xs.contains s)) ∧ ((w.alloc o).alloc o2).alloc (.cells A 3) = w' := by
  have := one_new ((w.alloc o).alloc o2) s xs A hA n hn hp hl
  rwa [World.size_alloc, World.size_alloc] at this

/-- What the parent does, of what is known. -/
def parX (waits goes fin : Bool) (s b e : Int) : Int × Bool :=
  if e == 14 && !fin then (8, true) else if e == 15 && waits then (6, true) else if e == 16 && s == 6 && goes then (RowKit.wrap64 (b - 10), true) else (0, false)
theorem rParent_X (k s b e : Int) (hb : -9223372036854775808 ≤ b ∧ b ≤ 9223372036854775807) : rParent k s b e = parX (if worksM k then [1, 2, 3, 4, 5].contains s else [1].contains s) (if worksM k then [11, 12, 13, 14, 15].contains b else b == 11) (rFinal s) s b e := by
  obtain ⟨goes, hg⟩ : ∃ g, (if worksM k then [11, 12, 13, 14, 15].contains b else b == 11) = g := ⟨_, rfl⟩
  have hw : goes = true → RowKit.wrap64 (b - 10) = b - 10 := by
    intro hq
    have : b ∈ [11, 12, 13, 14, 15] := by
      rw [← hg] at hq
      split at hq
      · simpa [List.contains_eq_mem] using hq
      · have : b = 11 := by simpa using hq
        simp [this]
    unfold RowKit.wrap64
    simp only [List.mem_cons, List.not_mem_nil, or_false] at this
    omega
  unfold rParent parX
  rw [hg]
  cases goes
  · simp only [Bool.and_false, Bool.false_eq_true, if_false]
  · rw [hw rfl]

set_option maxRecDepth 100000 in
set_option maxHeartbeats 1000000 in
theorem parX14_c (w : World) (k s b : Int) : Calls Try.prog 17 #[.int .i64 k, .int .i64 s, .int .i64 b, .int .i64 14] w fun x w' => x = .returned (.tuple #[.int .i64 (parX (if worksM k then [1, 2, 3, 4, 5].contains s else [1].contains s) (if worksM k then [11, 12, 13, 14, 15].contains b else b == 11) (rFinal s) s b 14).1, .bool (parX (if worksM k then [1, 2, 3, 4, 5].contains s else [1].contains s) (if worksM k then [11, 12, 13, 14, 15].contains b else b == 11) (rFinal s) s b 14).2]) ∧ Below w.heap.size w w' := by
  have HW := Lib.hid (fun w => rworks_c w k)
  have HF := Lib.hid (fun w => rFinal_c w s)
  have H1 := Lib.hid (fun w => one_new w s [1] #[.int .i64 1] rfl 1 rfl (by omega) (by omega))
  have H2 := Lib.hid (fun o => one_at1 w o s [1, 2, 3, 4, 5] #[.int .i64 1, .int .i64 2, .int .i64 3, .int .i64 4, .int .i64 5] rfl 5 rfl (by omega) (by omega))
  have H3 := Lib.hid (fun o1 o2 => one_at2 w o1 o2 b [11, 12, 13, 14, 15] #[.int .i64 11, .int .i64 12, .int .i64 13, .int .i64 14, .int .i64 15] rfl 5 rfl (by omega) (by omega))
  have HB1 := Lib.hid (fun o => box_bel' w o)
  have HB3 := Lib.hid (fun a b c => bel3 w a b c)
  obtain ⟨g0, hg0⟩ : ∃ g, (b == 11) = g := ⟨_, rfl⟩
  rw [hg0]
  generalize [1].contains s = w1 at *
  generalize [1, 2, 3, 4, 5].contains s = w2 at *
  generalize [11, 12, 13, 14, 15].contains b = g2 at *
  generalize worksM k = wk at *
  generalize rFinal s = fin at *
  clear hg0
  cases wk
  · cases fin
    · go_enter Try.func17, Try.ntmps17
      go_wp2_with (first | (go_at_call 27; refine (HF.out _).mono ?_; rintro e w' ⟨rfl, hb⟩; have HBF := Lib.hid (show Below w.heap.size w w' from by first | exact bel_tr (HB1.out _) hb | exact bel_tr (HB3.out _ _ _) hb); clear hb) | (go_at_call 16; with_reducible refine (H3.out _ _).mono ?_; rintro e w' ⟨rfl, rfl⟩) | (go_at_call 16; with_reducible refine (H2.out _).mono ?_; rintro e w' ⟨rfl, rfl⟩) | (go_at_call 16; with_reducible refine (H1.out _).mono ?_; rintro e w' ⟨rfl, rfl⟩) | (go_at_call 18; refine (HW.out _).mono ?_; rintro e w' ⟨rfl, rfl⟩))
      go_ret2
      exact ⟨rfl, by first | exact HBF.out | exact HB1.out _ | exact HB3.out _ _ _⟩
    · go_enter Try.func17, Try.ntmps17
      go_wp2_with (first | (go_at_call 27; refine (HF.out _).mono ?_; rintro e w' ⟨rfl, hb⟩; have HBF := Lib.hid (show Below w.heap.size w w' from by first | exact bel_tr (HB1.out _) hb | exact bel_tr (HB3.out _ _ _) hb); clear hb) | (go_at_call 16; with_reducible refine (H3.out _ _).mono ?_; rintro e w' ⟨rfl, rfl⟩) | (go_at_call 16; with_reducible refine (H2.out _).mono ?_; rintro e w' ⟨rfl, rfl⟩) | (go_at_call 16; with_reducible refine (H1.out _).mono ?_; rintro e w' ⟨rfl, rfl⟩) | (go_at_call 18; refine (HW.out _).mono ?_; rintro e w' ⟨rfl, rfl⟩))
      go_ret2
      exact ⟨rfl, by first | exact HBF.out | exact HB1.out _ | exact HB3.out _ _ _⟩
  · cases fin
    · go_enter Try.func17, Try.ntmps17
      go_wp2_with (first | (go_at_call 27; refine (HF.out _).mono ?_; rintro e w' ⟨rfl, hb⟩; have HBF := Lib.hid (show Below w.heap.size w w' from by first | exact bel_tr (HB1.out _) hb | exact bel_tr (HB3.out _ _ _) hb); clear hb) | (go_at_call 16; with_reducible refine (H3.out _ _).mono ?_; rintro e w' ⟨rfl, rfl⟩) | (go_at_call 16; with_reducible refine (H2.out _).mono ?_; rintro e w' ⟨rfl, rfl⟩) | (go_at_call 16; with_reducible refine (H1.out _).mono ?_; rintro e w' ⟨rfl, rfl⟩) | (go_at_call 18; refine (HW.out _).mono ?_; rintro e w' ⟨rfl, rfl⟩))
      go_ret2
      exact ⟨rfl, by first | exact HBF.out | exact HB1.out _ | exact HB3.out _ _ _⟩
    · go_enter Try.func17, Try.ntmps17
      go_wp2_with (first | (go_at_call 27; refine (HF.out _).mono ?_; rintro e w' ⟨rfl, hb⟩; have HBF := Lib.hid (show Below w.heap.size w w' from by first | exact bel_tr (HB1.out _) hb | exact bel_tr (HB3.out _ _ _) hb); clear hb) | (go_at_call 16; with_reducible refine (H3.out _ _).mono ?_; rintro e w' ⟨rfl, rfl⟩) | (go_at_call 16; with_reducible refine (H2.out _).mono ?_; rintro e w' ⟨rfl, rfl⟩) | (go_at_call 16; with_reducible refine (H1.out _).mono ?_; rintro e w' ⟨rfl, rfl⟩) | (go_at_call 18; refine (HW.out _).mono ?_; rintro e w' ⟨rfl, rfl⟩))
      go_ret2
      exact ⟨rfl, by first | exact HBF.out | exact HB1.out _ | exact HB3.out _ _ _⟩

set_option maxRecDepth 100000 in
set_option maxHeartbeats 1000000 in
theorem parX15_c (w : World) (k s b : Int) : Calls Try.prog 17 #[.int .i64 k, .int .i64 s, .int .i64 b, .int .i64 15] w fun x w' => x = .returned (.tuple #[.int .i64 (parX (if worksM k then [1, 2, 3, 4, 5].contains s else [1].contains s) (if worksM k then [11, 12, 13, 14, 15].contains b else b == 11) (rFinal s) s b 15).1, .bool (parX (if worksM k then [1, 2, 3, 4, 5].contains s else [1].contains s) (if worksM k then [11, 12, 13, 14, 15].contains b else b == 11) (rFinal s) s b 15).2]) ∧ Below w.heap.size w w' := by
  have HW := Lib.hid (fun w => rworks_c w k)
  have HF := Lib.hid (fun w => rFinal_c w s)
  have H1 := Lib.hid (fun w => one_new w s [1] #[.int .i64 1] rfl 1 rfl (by omega) (by omega))
  have H2 := Lib.hid (fun o => one_at1 w o s [1, 2, 3, 4, 5] #[.int .i64 1, .int .i64 2, .int .i64 3, .int .i64 4, .int .i64 5] rfl 5 rfl (by omega) (by omega))
  have H3 := Lib.hid (fun o1 o2 => one_at2 w o1 o2 b [11, 12, 13, 14, 15] #[.int .i64 11, .int .i64 12, .int .i64 13, .int .i64 14, .int .i64 15] rfl 5 rfl (by omega) (by omega))
  have HB1 := Lib.hid (fun o => box_bel' w o)
  have HB3 := Lib.hid (fun a b c => bel3 w a b c)
  obtain ⟨g0, hg0⟩ : ∃ g, (b == 11) = g := ⟨_, rfl⟩
  rw [hg0]
  generalize [1].contains s = w1 at *
  generalize [1, 2, 3, 4, 5].contains s = w2 at *
  generalize [11, 12, 13, 14, 15].contains b = g2 at *
  generalize worksM k = wk at *
  generalize rFinal s = fin at *
  clear hg0
  cases wk
  · cases w1
    · go_enter Try.func17, Try.ntmps17
      go_wp2_with (first | (go_at_call 16; with_reducible refine (H3.out _ _).mono ?_; rintro e w' ⟨rfl, rfl⟩) | (go_at_call 16; with_reducible refine (H2.out _).mono ?_; rintro e w' ⟨rfl, rfl⟩) | (go_at_call 16; with_reducible refine (H1.out _).mono ?_; rintro e w' ⟨rfl, rfl⟩) | (go_at_call 18; refine (HW.out _).mono ?_; rintro e w' ⟨rfl, rfl⟩))
      go_ret2
      exact ⟨rfl, by first | exact HBF.out | exact HB1.out _ | exact HB3.out _ _ _⟩
    · go_enter Try.func17, Try.ntmps17
      go_wp2_with (first | (go_at_call 16; with_reducible refine (H3.out _ _).mono ?_; rintro e w' ⟨rfl, rfl⟩) | (go_at_call 16; with_reducible refine (H2.out _).mono ?_; rintro e w' ⟨rfl, rfl⟩) | (go_at_call 16; with_reducible refine (H1.out _).mono ?_; rintro e w' ⟨rfl, rfl⟩) | (go_at_call 18; refine (HW.out _).mono ?_; rintro e w' ⟨rfl, rfl⟩))
      go_ret2
      exact ⟨rfl, by first | exact HBF.out | exact HB1.out _ | exact HB3.out _ _ _⟩
  · cases w2
    · go_enter Try.func17, Try.ntmps17
      go_wp2_with (first | (go_at_call 16; with_reducible refine (H3.out _ _).mono ?_; rintro e w' ⟨rfl, rfl⟩) | (go_at_call 16; with_reducible refine (H2.out _).mono ?_; rintro e w' ⟨rfl, rfl⟩) | (go_at_call 16; with_reducible refine (H1.out _).mono ?_; rintro e w' ⟨rfl, rfl⟩) | (go_at_call 18; refine (HW.out _).mono ?_; rintro e w' ⟨rfl, rfl⟩))
      go_ret2
      exact ⟨rfl, by first | exact HBF.out | exact HB1.out _ | exact HB3.out _ _ _⟩
    · go_enter Try.func17, Try.ntmps17
      go_wp2_with (first | (go_at_call 16; with_reducible refine (H3.out _ _).mono ?_; rintro e w' ⟨rfl, rfl⟩) | (go_at_call 16; with_reducible refine (H2.out _).mono ?_; rintro e w' ⟨rfl, rfl⟩) | (go_at_call 16; with_reducible refine (H1.out _).mono ?_; rintro e w' ⟨rfl, rfl⟩) | (go_at_call 18; refine (HW.out _).mono ?_; rintro e w' ⟨rfl, rfl⟩))
      go_ret2
      exact ⟨rfl, by first | exact HBF.out | exact HB1.out _ | exact HB3.out _ _ _⟩

set_option maxRecDepth 100000 in
set_option maxHeartbeats 1000000 in
theorem parX16_c (w : World) (k s b : Int) : Calls Try.prog 17 #[.int .i64 k, .int .i64 s, .int .i64 b, .int .i64 16] w fun x w' => x = .returned (.tuple #[.int .i64 (parX (if worksM k then [1, 2, 3, 4, 5].contains s else [1].contains s) (if worksM k then [11, 12, 13, 14, 15].contains b else b == 11) (rFinal s) s b 16).1, .bool (parX (if worksM k then [1, 2, 3, 4, 5].contains s else [1].contains s) (if worksM k then [11, 12, 13, 14, 15].contains b else b == 11) (rFinal s) s b 16).2]) ∧ Below w.heap.size w w' := by
  have HW := Lib.hid (fun w => rworks_c w k)
  have HF := Lib.hid (fun w => rFinal_c w s)
  have H1 := Lib.hid (fun w => one_new w s [1] #[.int .i64 1] rfl 1 rfl (by omega) (by omega))
  have H2 := Lib.hid (fun o => one_at1 w o s [1, 2, 3, 4, 5] #[.int .i64 1, .int .i64 2, .int .i64 3, .int .i64 4, .int .i64 5] rfl 5 rfl (by omega) (by omega))
  have H3 := Lib.hid (fun o1 o2 => one_at2 w o1 o2 b [11, 12, 13, 14, 15] #[.int .i64 11, .int .i64 12, .int .i64 13, .int .i64 14, .int .i64 15] rfl 5 rfl (by omega) (by omega))
  have HB1 := Lib.hid (fun o => box_bel' w o)
  have HB3 := Lib.hid (fun a b c => bel3 w a b c)
  obtain ⟨g0, hg0⟩ : ∃ g, (b == 11) = g := ⟨_, rfl⟩
  rw [hg0]
  generalize [1].contains s = w1 at *
  generalize [1, 2, 3, 4, 5].contains s = w2 at *
  generalize [11, 12, 13, 14, 15].contains b = g2 at *
  generalize worksM k = wk at *
  generalize rFinal s = fin at *
  obtain ⟨s6, hs6⟩ : ∃ g, (s == 6) = g := ⟨_, rfl⟩
  cases wk
  · cases s6
    · have HP := Lib.hid (fun x y z => show parX x y z s b 16 = (0, false) from by unfold parX; rw [hs6]; rfl)
      go_enter Try.func17, Try.ntmps17
      go_wp2_with (first | (go_at_call 16; with_reducible refine (H3.out _ _).mono ?_; rintro e w' ⟨rfl, rfl⟩) | (go_at_call 16; with_reducible refine (H2.out _).mono ?_; rintro e w' ⟨rfl, rfl⟩) | (go_at_call 16; with_reducible refine (H1.out _).mono ?_; rintro e w' ⟨rfl, rfl⟩) | (go_at_call 18; refine (HW.out _).mono ?_; rintro e w' ⟨rfl, rfl⟩))
      go_ret2
      exact ⟨ret_pair (HP.out _ _ _), by first | exact HBF.out | exact HB1.out _ | exact HB3.out _ _ _⟩
    · cases g0
      · have HP := Lib.hid (fun x z => show parX x false z s b 16 = (0, false) from by unfold parX; rw [hs6]; rfl)
        go_enter Try.func17, Try.ntmps17
        go_wp2_with (first | (go_at_call 16; with_reducible refine (H3.out _ _).mono ?_; rintro e w' ⟨rfl, rfl⟩) | (go_at_call 16; with_reducible refine (H2.out _).mono ?_; rintro e w' ⟨rfl, rfl⟩) | (go_at_call 16; with_reducible refine (H1.out _).mono ?_; rintro e w' ⟨rfl, rfl⟩) | (go_at_call 18; refine (HW.out _).mono ?_; rintro e w' ⟨rfl, rfl⟩))
        go_ret2
        exact ⟨ret_pair (HP.out _ _), by first | exact HBF.out | exact HB1.out _ | exact HB3.out _ _ _⟩
      · have HP := Lib.hid (fun x z => show parX x true z s b 16 = (RowKit.wrap64 (b - 10), true) from by unfold parX; rw [hs6]; rfl)
        go_enter Try.func17, Try.ntmps17
        go_wp2_with (first | (go_at_call 16; with_reducible refine (H3.out _ _).mono ?_; rintro e w' ⟨rfl, rfl⟩) | (go_at_call 16; with_reducible refine (H2.out _).mono ?_; rintro e w' ⟨rfl, rfl⟩) | (go_at_call 16; with_reducible refine (H1.out _).mono ?_; rintro e w' ⟨rfl, rfl⟩) | (go_at_call 18; refine (HW.out _).mono ?_; rintro e w' ⟨rfl, rfl⟩))
        go_ret2
        exact ⟨ret_pair (HP.out _ _), by first | exact HBF.out | exact HB1.out _ | exact HB3.out _ _ _⟩
  · cases s6
    · have HP := Lib.hid (fun x y z => show parX x y z s b 16 = (0, false) from by unfold parX; rw [hs6]; rfl)
      go_enter Try.func17, Try.ntmps17
      go_wp2_with (first | (go_at_call 16; with_reducible refine (H3.out _ _).mono ?_; rintro e w' ⟨rfl, rfl⟩) | (go_at_call 16; with_reducible refine (H2.out _).mono ?_; rintro e w' ⟨rfl, rfl⟩) | (go_at_call 16; with_reducible refine (H1.out _).mono ?_; rintro e w' ⟨rfl, rfl⟩) | (go_at_call 18; refine (HW.out _).mono ?_; rintro e w' ⟨rfl, rfl⟩))
      go_ret2
      exact ⟨ret_pair (HP.out _ _ _), by first | exact HBF.out | exact HB1.out _ | exact HB3.out _ _ _⟩
    · cases g2
      · have HP := Lib.hid (fun x z => show parX x false z s b 16 = (0, false) from by unfold parX; rw [hs6]; rfl)
        go_enter Try.func17, Try.ntmps17
        go_wp2_with (first | (go_at_call 16; with_reducible refine (H3.out _ _).mono ?_; rintro e w' ⟨rfl, rfl⟩) | (go_at_call 16; with_reducible refine (H2.out _).mono ?_; rintro e w' ⟨rfl, rfl⟩) | (go_at_call 16; with_reducible refine (H1.out _).mono ?_; rintro e w' ⟨rfl, rfl⟩) | (go_at_call 18; refine (HW.out _).mono ?_; rintro e w' ⟨rfl, rfl⟩))
        go_ret2
        exact ⟨ret_pair (HP.out _ _), by first | exact HBF.out | exact HB1.out _ | exact HB3.out _ _ _⟩
      · have HP := Lib.hid (fun x z => show parX x true z s b 16 = (RowKit.wrap64 (b - 10), true) from by unfold parX; rw [hs6]; rfl)
        go_enter Try.func17, Try.ntmps17
        go_wp2_with (first | (go_at_call 16; with_reducible refine (H3.out _ _).mono ?_; rintro e w' ⟨rfl, rfl⟩) | (go_at_call 16; with_reducible refine (H2.out _).mono ?_; rintro e w' ⟨rfl, rfl⟩) | (go_at_call 16; with_reducible refine (H1.out _).mono ?_; rintro e w' ⟨rfl, rfl⟩) | (go_at_call 18; refine (HW.out _).mono ?_; rintro e w' ⟨rfl, rfl⟩))
        go_ret2
        exact ⟨ret_pair (HP.out _ _), by first | exact HBF.out | exact HB1.out _ | exact HB3.out _ _ _⟩

theorem rParent_c (w : World) (k s b e : Int) (hb : -9223372036854775808 ≤ b ∧ b ≤ 9223372036854775807) (he : [14, 15, 16].contains e = true) : Calls Try.prog 17 #[.int .i64 k, .int .i64 s, .int .i64 b, .int .i64 e] w fun x w' => x = .returned (.tuple #[.int .i64 (rParent k s b e).1, .bool (rParent k s b e).2]) ∧ Below w.heap.size w w' := by
  have he : e = 14 ∨ e = 15 ∨ e = 16 := by simpa [List.contains_eq_mem] using he
  rw [rParent_X k s b e hb]
  rcases he with rfl | rfl | rfl
  · exact parX14_c w k s b
  · exact parX15_c w k s b
  · exact parX16_c w k s b

end Go.Proofs.Ytdagilkidklmaaa
