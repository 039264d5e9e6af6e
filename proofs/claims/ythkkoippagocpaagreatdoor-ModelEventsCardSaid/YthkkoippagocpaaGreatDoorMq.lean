/- A model at constants: the head's faults. -/
import Derived.Test.YthkkoippagocpaaGreatDoorMp
import Derived.Laws.EntriesVeiled
namespace Go.Proofs.YthkkoippagocpaaGreatDoor
open Go Go.RowKit Go.Shelf
set_option linter.unusedVariables false
set_option linter.unusedSimpArgs false

theorem boxM (w : World) (o : Obj) : Below w.heap.size w (w.alloc o) := (Below.refl _ _).alloc (Nat.le_refl _) _
set_option maxRecDepth 100000 in
theorem shapeCheck_nil (w : World) : Calls Tryz.prog 27 #[.slice none 0 0] w fun e w' => e = .returned (.int .i64 0) ∧ Below w.heap.size w w' := by
  have HS := Lib.hid swalk_nil
  go_enter Tryz.func27, Tryz.ntmps27
  go_wp2_with fail
  refine (HS.out _ _ _).mono ?_
  rintro e w1 ⟨rfl, hb1⟩
  have HB1 := Lib.hid (((boxM w _).alloc (by simp) _).trans (hb1.mono (by simp; omega)))
  have h0 := (hb1.block w.heap.size (by simp; omega)).trans ((Below.heap_alloc _ _ _ (by simp)).trans (heap_alloc_new w _))
  have c0 : w1.cell? ⟨w.heap.size, 0, none⟩ = some (.slice none 0 0) := by simp [World.cell?, h0]
  clear hb1 h0
  go_wp2_with fail
  refine (HS.out _ _ _).mono ?_
  rintro e w2 ⟨rfl, hb2⟩
  have HB2 := Lib.hid (HB1.out.trans (hb2.mono HB1.out.size))
  clear hb2
  go_wp2_with fail
  go_ret
  exact ⟨rfl, HB2.out⟩
set_option maxRecDepth 100000 in
set_option maxHeartbeats 1000000 in
theorem headFault_ok (w : World) (id pid : ByteArray) (hs : id.size ≤ 64) (hn : nameOk id.data.toList = true) : Calls Tryz.prog 20 #[.agg (modelM id pid)] w fun e w' => e = .returned (.int .i64 0) ∧ Below w.heap.size w w' := by
  have HN := Lib.hid (fun W => sname_c W id (by omega))
  rw [hn] at HN
  have HT := Lib.hid title_nil
  have HW := Lib.hid twice_nil
  have HC := Lib.hid shapeCheck_nil
  have HP := Lib.hid (fun W => planned_x W pid)
  obtain ⟨w0, hw0⟩ : ∃ x, x = w.alloc (.cells (modelM id pid) 39) := ⟨_, rfl⟩
  have HBW := Lib.hid (show Below w.heap.size w w0 from by rw [hw0]; exact boxM w _)
  have hq : w0.heap[w.heap.size]? = some (.cells (modelM id pid) 39 (0, 0)) := by rw [hw0]; exact heap_alloc_new w _
  have HR := Lib.hid (fun (W : World) (hb : Below w0.heap.size w0 W) (j : Nat) (u : Value) (hj : (modelM id pid)[j]? = some u) => (show W.cell? ⟨w.heap.size, j, none⟩ = some u from by
    rw [cell_of_row W w.heap.size j _ _ _ ((hb.block w.heap.size (Array.getElem?_eq_some_iff.1 hq).1).trans hq)]; exact hj))
  have HR0 := HR.out w0 (Below.refl _ _)
  unfold modelM at hw0
  unfold itemM at HP
  have HW0 := Lib.hid hw0
  clear hw0 hq hn hs
  have d0 : w0.cell? ⟨w.heap.size, 0, none⟩ = some (.string id) := HR0 0 _ rfl
  have d1 : w0.cell? ⟨w.heap.size, 1, none⟩ = some (.string ⟨#[]⟩) := HR0 1 _ rfl
  clear HR0
  unfold modelM
  go_enter Tryz.func20, Tryz.ntmps20
  go_upto_region 1 with (fail)
  rw [← HW0.out]
  go_wp2_with (go_at_call 24; refine (HN.out _).mono ?_; rintro e w' ⟨rfl, rfl⟩)
  refine (HT.out _).mono ?_
  rintro e w1 ⟨rfl, hb1⟩
  have HB1 := Lib.hid hb1
  clear hb1 d0 d1
  have d2 : w1.cell? ⟨w.heap.size, 2, none⟩ = some (.slice none 0 0) := HR.out w1 HB1.out 2 _ rfl
  have d3 : w1.cell? ⟨w.heap.size, 3, none⟩ = some (.slice none 0 0) := HR.out w1 HB1.out 3 _ rfl
  go_wp2_with fail
  refine wp_loop_rounds 1 ?_
  rw [rounds_succ]
  go_wp2_with (go_at_call 26; refine (HW.out _).mono ?_; rintro e w' ⟨rfl, rfl⟩)
  refine (HC.out _).mono ?_
  rintro e w2 ⟨rfl, hb2⟩
  have HB2 := Lib.hid (HB1.out.trans (hb2.mono HB1.out.size))
  clear hb2 d2 d3
  have d4 : w2.cell? ⟨w.heap.size, 4, none⟩ = some (.string pid) := HR.out w2 HB2.out 4 _ rfl
  have d5 : w2.cell? ⟨w.heap.size, 5, none⟩ = some (.string ⟨#[]⟩) := HR.out w2 HB2.out 5 _ rfl
  have d6 : w2.cell? ⟨w.heap.size, 6, none⟩ = some (.int .i64 0) := HR.out w2 HB2.out 6 _ rfl
  have d7 : w2.cell? ⟨w.heap.size, 7, none⟩ = some (.slice none 0 0) := HR.out w2 HB2.out 7 _ rfl
  have d8 : w2.cell? ⟨w.heap.size, 8, none⟩ = some (.slice none 0 0) := HR.out w2 HB2.out 8 _ rfl
  have d9 : w2.cell? ⟨w.heap.size, 9, none⟩ = some (.string ⟨#[]⟩) := HR.out w2 HB2.out 9 _ rfl
  have d10 : w2.cell? ⟨w.heap.size, 10, none⟩ = some (.string ⟨#[]⟩) := HR.out w2 HB2.out 10 _ rfl
  have d11 : w2.cell? ⟨w.heap.size, 11, none⟩ = some (.string ⟨#[]⟩) := HR.out w2 HB2.out 11 _ rfl
  have d12 : w2.cell? ⟨w.heap.size, 12, none⟩ = some (.bool false) := HR.out w2 HB2.out 12 _ rfl
  have d13 : w2.cell? ⟨w.heap.size, 13, none⟩ = some (.bool false) := HR.out w2 HB2.out 13 _ rfl
  have d14 : w2.cell? ⟨w.heap.size, 14, none⟩ = some (.int .i64 0) := HR.out w2 HB2.out 14 _ rfl
  have d15 : w2.cell? ⟨w.heap.size, 15, none⟩ = some (.slice none 0 0) := HR.out w2 HB2.out 15 _ rfl
  have d16 : w2.cell? ⟨w.heap.size, 16, none⟩ = some (.slice none 0 0) := HR.out w2 HB2.out 16 _ rfl
  have d17 : w2.cell? ⟨w.heap.size, 17, none⟩ = some (.slice none 0 0) := HR.out w2 HB2.out 17 _ rfl
  go_wp2_with fail
  refine (HP.out _).mono ?_
  rintro e w3 ⟨rfl, hb3⟩
  have HB3 := Lib.hid (HBW.out.trans ((HB2.out.trans (hb3.mono HB2.out.size)).mono HBW.out.size))
  clear hb3 d4 d5 d6 d7 d8 d9 d10 d11 d12 d13 d14 d15 d16 d17
  go_wp2_with fail
  go_ret
  exact ⟨rfl, HB3.out⟩
set_option maxRecDepth 100000 in
theorem headFault_bad (w : World) (id pid : ByteArray) (hs : id.size ≤ 64) (hn : nameOk id.data.toList = false) : Calls Tryz.prog 20 #[.agg (modelM id pid)] w fun e w' => e = .returned (.int .i64 23) ∧ Below w.heap.size w w' := by
  have HN := Lib.hid (fun W => sname_c W id (by omega))
  rw [hn] at HN
  clear hn hs
  unfold modelM
  go_enter Tryz.func20, Tryz.ntmps20
  go_wp2_with (go_at_call 24; refine (HN.out _).mono ?_; rintro e w' ⟨rfl, rfl⟩)
  go_ret
  exact ⟨rfl, boxM w _⟩
end Go.Proofs.YthkkoippagocpaaGreatDoor
