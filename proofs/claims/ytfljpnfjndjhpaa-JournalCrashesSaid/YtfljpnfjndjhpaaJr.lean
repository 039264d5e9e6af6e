/- journal: Records of one record. -/
import Derived.Test.YtfljpnfjndjhpaaJp
import Derived.Laws.MakeOwn
namespace Go.Proofs.Ytfljpnfjndjhpaa
open Go.RowKit
set_option linter.unusedVariables false

section
variable {w : World} {jb : Nat} {a : Addr} {foot : List Nat} {j : JS} {sv rv : Value} {vs : List Value} {s : DS}

set_option maxRecDepth 100000 in
set_option maxHeartbeats 4000000 in
theorem jrecs_one (hj : Jr w jb (some a) foot j sv rv vs) (r : List UInt8) (hr : j.recs = [r]) (hn : r.length ≤ 140737488355328) :
    Calls Try.prog 7 #[.pointer (some ⟨jb, 0, none⟩)] w fun e w' => ∃ p c, e = .returned (.slice p 1 c) ∧ Below w.heap.size w w' := by
  have HJ := Lib.hid hj
  have HN := Lib.hid hn
  obtain ⟨c0, c1, c2, c3, cf⟩ := cells4 hj.blk
  have hl : vs.length = 1 := by rw [hj.len, hr]; rfl
  obtain ⟨v0, rfl⟩ : ∃ v0, vs = [v0] := by
    match vs, hl with
    | [v0], _ => exact ⟨v0, rfl⟩
  have hr0 := hj.rs 0 v0 r rfl (by rw [hr]; rfl)
  have HR0 := Lib.hid hr0
  obtain ⟨g, cap, cur, rfl, _, k3, k4, k5, k6, k7⟩ : ∃ g cap cur, rv = .slice (some ⟨g, 0, none⟩) 1 cap ∧ 0 ≤ g ∧ w.heap[g]? = some (.cells cur 23 (0, 0)) ∧ 1 ≤ cap ∧ cap ≤ maxLen ∧ cur.size = cap * 1 ∧ cur.toList.take (1 * 1) = [v0] := by
    rcases hj.row.2 with ⟨_, h⟩ | h
    · simp at h
    · exact h
  obtain ⟨p0, q0, rfl, l1, l2, _⟩ := hr0
  have d0 : w.cell? ⟨g, 0, none⟩ = some (.slice p0 r.length q0) := by
    have : (cur.toList.take 1)[0]? = some (.slice p0 r.length q0) := by simp only [Nat.mul_one] at k7; rw [k7]; rfl
    rw [List.getElem?_take_of_lt (by omega)] at this
    simp only [World.cell?, k3]
    simpa using this
  obtain ⟨i0, hi, hz0, hz1, hz2⟩ := info_parts infoB
  have hmk : ∀ W : World, Sem.run Try.prog (Instr.makeSlice 22 (.int .i64 1) (.int .i64 1)) W = .ok (.slice (some ⟨W.heap.size, 0, none⟩) 1 1) (W.alloc (.cells #[.slice none 0 0] 23 (0, 0))) := by
    intro W
    have := run_makeSlice (P := Try.prog) W 22 23 i0 (.slice none 0 0) Try.underlying22 hi hz0 .i64 .i64 1 1 (by omega) (by omega) (by rw [hz1]; decide) (by rw [hz2]; omega) (by omega)
    rw [hz1] at this
    have hm : madeCells (Value.slice none 0 0).cells (Int.toNat 1 * 1) = #[.slice none 0 0] := by first | rfl | (simp [madeCells, Value.cells]; done) | (apply Array.ext <;> simp [madeCells, Value.cells])
    rw [hm] at this
    exact this
  unfold maxLen at k5
  clear hj hn c0 c1 c3 cf k3 k6 k7 hr
  go_enter Try.func7, Try.ntmps7
  have c2' : (w.alloc (.cells #[.slice none 0 0] 23 (0, 0))).cell? ⟨jb, 2, none⟩ = some (.slice (some ⟨g, 0, none⟩) 1 cap) := by rw [((Below.refl _ _).alloc (Nat.le_refl _) _ : Below w.heap.size w _).cell (World.block_lt_of_cell? w _ c2)]; exact c2
  go_wp2_with (go_at_call 26; refine (jmade_c HJ.out).mono ?_; rintro e w' ⟨rfl, rfl⟩)
  have e0 : (w.alloc (.cells #[.slice none 0 0] 23 (0, 0))).cell? ⟨g, 0, none⟩ = some (.slice p0 r.length q0) := by rw [((Below.refl _ _).alloc (Nat.le_refl _) _ : Below w.heap.size w _).cell (World.block_lt_of_cell? w _ d0)]; exact d0
  refine wp_loop_rounds 2 ?_
  rw [rounds_succ]
  go_wp2_with (go_at_call 25; refine (clone_c _ _ r (HR0.out.alloc _) HN.out).mono ?_; rintro e w2 ⟨v2, rfl, ho, hb⟩; obtain ⟨a7, cp7, rfl, _, _, _⟩ := own_form ho; have HB := Lib.hid hb; have hb0 := (hb.block w.heap.size (by simp)).trans (heap_alloc_new w _); have d2 := cellAt hb0 0 _ rfl; have f2 := frozenAt hb0 0; clear ho hb hb0)
  rw [rounds_succ]
  go_wp2_with fail
  exact bodyPost_ret (v := .slice (some ⟨w.heap.size, 0, none⟩) 1 1) (by simp [results, Try.results7, go_sem]) rfl ⟨_, _, rfl, (((Below.refl _ _).alloc (Nat.le_refl _) _).trans (HB.out.mono (by simp))).setCell (by simp) _⟩
end
end Go.Proofs.Ytfljpnfjndjhpaa
