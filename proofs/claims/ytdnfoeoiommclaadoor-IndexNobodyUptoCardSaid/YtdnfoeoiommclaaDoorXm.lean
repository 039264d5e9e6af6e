/- An index: keyOf, For. -/
import Derived.Test.YtdnfoeoiommclaaDoorXl
import Derived.Test.YtdnfoeoiommclaaDoorQe
import Derived.Test.YtdnfoeoiommclaaDoorYv
namespace Go.Proofs.YtdnfoeoiommclaaDoor
open Go Go.RowKit Go.Shelf Go.ChangeMaps
set_option linter.unusedVariables false
set_option linter.unusedSimpArgs false

theorem baseX_form (l : List UInt8) : ∃ b ok, P.baseV l = .tuple #[.string b, .bool ok] := by
  unfold P.baseV
  split
  · exact ⟨_, _, rfl⟩
  · exact ⟨_, _, rfl⟩
theorem lastX_form (s : ByteArray) : ∃ b n, pairV (lastB s) = .tuple #[.string b, .int .i64 n] := ⟨_, _, rfl⟩
theorem infoK3 : (Tryd.prog.info? 73).map (·.size) = some 3 := by kernel_rfl
theorem three_at {w : World} {b : Nat} {z0 z1 z2 : Value} {T : TypeId} (h : w.heap[b]? = some (.cells #[z0, z1, z2] T (0, 0))) (c0 c1 c2 : Value) :
    (((w.setCell ⟨b, 0, none⟩ c0).setCell ⟨b, 1, none⟩ c1).setCell ⟨b, 2, none⟩ c2).heap[b]? = some (.cells #[c0, c1, c2] T (0, 0)) := by
  simp [World.setCell, Array.getElem?_modify, h]
theorem cells3x {w : World} {b : Nat} {c0 c1 c2 : Value} {T : TypeId} (h : w.heap[b]? = some (.cells #[c0, c1, c2] T (0, 0))) : w.cell? ⟨b, 0, none⟩ = some c0 ∧ w.cell? ⟨b, 1, none⟩ = some c1 ∧ w.cell? ⟨b, 2, none⟩ = some c2 ∧ (∀ o, w.frozen? ⟨b, o, none⟩ = false) := by
  refine ⟨?_, ?_, ?_, fun o => ?_⟩ <;> simp [World.cell?, World.frozen?, h]

def KeyC (w : World) (k : Value) (e : Ending) (w' : World) : Prop := e = .returned k ∧ Below w.heap.size w w'
set_option maxRecDepth 100000 in
theorem keyOf_file (w : World) (p : ByteArray) (n : Int) (hp : p.size ≤ 2097152) : Calls Tryd.prog 13 #[.agg #[.string p, .bool true, .int .i64 n]] w fun e w' => ∃ b, KeyC w (.agg #[.bool true, .string b, .int .i64 n]) e w' := by
  obtain ⟨b, ok, hb⟩ := baseX_form p.data.toList
  have HP := Lib.hid (fun W => P.base_c W p hp)
  rw [hb] at HP
  clear hb hp
  go_enter Tryd.func13, Tryd.ntmps13
  go_wp2_with fail
  refine (HP.out _).mono ?_
  rintro e w2 ⟨rfl, hb2⟩
  have HB2 := Lib.hid (((((Below.refl w.heap.size w).alloc (Nat.le_refl _) _).alloc (by simp) _).trans (hb2.mono (by simp; omega))))
  have h1 := (hb2.block w.heap.size (by simp; omega)).trans (two_old w _ _)
  have h2 := (hb2.block (w.heap.size + 1) (by simp)).trans (two_new w _ _)
  obtain ⟨a0, a1, a2, az⟩ := cells3x h1
  obtain ⟨b0, b1, b2, bz⟩ := cells3x h2
  have H2 := Lib.hid h2
  clear hb2 h1 h2
  go_wp2_with fail
  refine bodyPost_ret (results_cell_row Tryd.results13 _ _ (w.heap.size + 1) 73 _ (0, 0) _ rfl (three_at H2.out _ _ _) Tryd.underlying73 rfl infoK3) rfl ?_
  exact ⟨b, rfl, ((HB2.out.setCell (p := ⟨w.heap.size + 1, 0, none⟩) (by simp) _).setCell (p := ⟨w.heap.size + 1, 1, none⟩) (by simp) _).setCell (p := ⟨w.heap.size + 1, 2, none⟩) (by simp) _⟩
set_option maxRecDepth 100000 in
theorem keyOf_item (w : World) (p b : ByteArray) (n m : Int) (hp : p.size ≤ 2097152) (hl : pairV (lastB p) = .tuple #[.string b, .int .i64 m]) : Calls Tryd.prog 13 #[.agg #[.string p, .bool false, .int .i64 n]] w (KeyC w (.agg #[.bool false, .string b, .int .i64 n])) := by
  have HP := Lib.hid (fun W => lastT_c W p (by omega))
  rw [hl] at HP
  clear hl hp
  go_enter Tryd.func13, Tryd.ntmps13
  go_wp2_with fail
  refine (HP.out _).mono ?_
  rintro e w2 ⟨rfl, hb2⟩
  have HB2 := Lib.hid (((((Below.refl w.heap.size w).alloc (Nat.le_refl _) _).alloc (by simp) _).trans (hb2.mono (by simp; omega))))
  have h1 := (hb2.block w.heap.size (by simp; omega)).trans (two_old w _ _)
  have h2 := (hb2.block (w.heap.size + 1) (by simp)).trans (two_new w _ _)
  obtain ⟨a0, a1, a2, az⟩ := cells3x h1
  obtain ⟨b0, b1, b2, bz⟩ := cells3x h2
  have H2 := Lib.hid h2
  clear hb2 h1 h2
  go_wp2_with fail
  refine bodyPost_ret (results_cell_row Tryd.results13 _ _ (w.heap.size + 1) 73 _ (0, 0) _ rfl (three_at H2.out _ _ _) Tryd.underlying73 rfl infoK3) rfl ?_
  exact ⟨rfl, ((HB2.out.setCell (p := ⟨w.heap.size + 1, 0, none⟩) (by simp) _).setCell (p := ⟨w.heap.size + 1, 1, none⟩) (by simp) _).setCell (p := ⟨w.heap.size + 1, 2, none⟩) (by simp) _⟩
/-- The key of whatever event. -/
theorem keyOf_any (w : World) (p : ByteArray) (f : Bool) (n : Int) (hp : p.size ≤ 2097152) : Calls Tryd.prog 13 #[.agg #[.string p, .bool f, .int .i64 n]] w fun e w' => ∃ b, e = .returned (.agg #[.bool f, .string b, .int .i64 n]) ∧ Below w.heap.size w w' := by
  cases f
  · obtain ⟨b, m, hl⟩ := lastX_form p
    exact (keyOf_item w p b n m hp hl).mono fun _ _ h => ⟨b, h.1, h.2⟩
  · exact (keyOf_file w p n hp).mono fun _ _ h => h
end Go.Proofs.YtdnfoeoiommclaaDoor
