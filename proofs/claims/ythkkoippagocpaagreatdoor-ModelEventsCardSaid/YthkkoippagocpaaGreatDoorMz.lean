/- A model at constants: an item's faults. Written by tools/genmz.py. -/
import Derived.Test.YthkkoippagocpaaGreatDoorMy
import Derived.Test.YthkkoippagocpaaGreatDoorMv
import Derived.Test.YthkkoippagocpaaGreatDoorMu
namespace Go.Proofs.YthkkoippagocpaaGreatDoor
open Go Go.RowKit Go.Shelf
set_option linter.unusedVariables false
set_option linter.unusedSimpArgs false

set_option maxRecDepth 100000 in
theorem sindex_nil (w : World) (a : Option Addr) (c : Nat) (s : ByteArray) : Calls Tryz.prog 45 #[.slice a 0 c, .string s] w fun e w' => e = .returned (.int .i64 (-1)) ∧ w = w' := by
  go_enter Tryz.func45, Tryz.ntmps45
  go_wp2_with fail
  refine wp_loop_rounds 1 ?_
  rw [rounds_succ]
  go_wp2_with fail
  go_ret
  exact ⟨rfl, rfl⟩
set_option maxRecDepth 100000 in
theorem scont_nil (w : World) (a : Option Addr) (c : Nat) (s : ByteArray) : Calls Tryz.prog 31 #[.slice a 0 c, .string s] w fun e w' => e = .returned (.bool false) ∧ w' = w := by
  have HI := Lib.hid sindex_nil
  go_enter Tryz.func31, Tryz.ntmps31
  go_wp2_with (go_at_call 45; refine (HI.out _ _ _ _).mono ?_; rintro e w' ⟨rfl, rfl⟩)
  go_ret
  exact ⟨rfl, rfl⟩

set_option maxRecDepth 100000 in
set_option maxHeartbeats 1000000 in
theorem itemFault_m (w : World) (K B : Nat) (id pid : ByteArray) (g off c g2 off2 c2 : Nat) (hs : pid.size ≤ 64) (hn : nameOk pid.data.toList = true) (hc2 : c2 ≤ maxLen) (h1c : 1 ≤ c2)
    (hk : w.heap[K]? = some (.cells (chkM id pid (.slice (some ⟨g, off, none⟩) 1 c) (.slice (some ⟨g2, off2, none⟩) 1 c2)) 43 (0, 0))) (hr : Row B w (.slice (some ⟨g, off, none⟩) 1 c) 1 14 (itemM pid).toList) :
    Calls Tryz.prog 22 #[.pointer (some ⟨K, 0, none⟩), .int .i64 0] w fun e w' => e = .returned (.int .i64 0) ∧ Below w.heap.size w w' := by
  have HN := Lib.hid (fun W => sname_c W pid (by omega))
  rw [hn] at HN
  have HT := Lib.hid title_nil
  have HC := Lib.hid scont_nil
  have HF := Lib.hid (fun W => formed_x W pid)
  have HRF := Lib.hid rolesFault_nil
  obtain ⟨k18, k19, kz⟩ := chk_cells hk
  have hKl := (Array.getElem?_eq_some_iff.1 hk).1
  have HK := Lib.hid hk
  unfold itemM at hr HF
  have o0 : w.cell? ⟨g, off, none⟩ = some (.string pid) := hr.at 0 _ rfl
  have o1 : w.cell? ⟨g, off + 1, none⟩ = some (.string ⟨#[]⟩) := hr.at 1 _ rfl
  have o2 : w.cell? ⟨g, off + 2, none⟩ = some (.int .i64 0) := hr.at 2 _ rfl
  have o3 : w.cell? ⟨g, off + 3, none⟩ = some (.slice none 0 0) := hr.at 3 _ rfl
  have o4 : w.cell? ⟨g, off + 4, none⟩ = some (.slice none 0 0) := hr.at 4 _ rfl
  have o5 : w.cell? ⟨g, off + 5, none⟩ = some (.string ⟨#[]⟩) := hr.at 5 _ rfl
  have o6 : w.cell? ⟨g, off + 6, none⟩ = some (.string ⟨#[]⟩) := hr.at 6 _ rfl
  have o7 : w.cell? ⟨g, off + 7, none⟩ = some (.string ⟨#[]⟩) := hr.at 7 _ rfl
  have o8 : w.cell? ⟨g, off + 8, none⟩ = some (.bool false) := hr.at 8 _ rfl
  have o9 : w.cell? ⟨g, off + 9, none⟩ = some (.bool false) := hr.at 9 _ rfl
  have o10 : w.cell? ⟨g, off + 10, none⟩ = some (.int .i64 0) := hr.at 10 _ rfl
  have o11 : w.cell? ⟨g, off + 11, none⟩ = some (.slice none 0 0) := hr.at 11 _ rfl
  have o12 : w.cell? ⟨g, off + 12, none⟩ = some (.slice none 0 0) := hr.at 12 _ rfl
  have o13 : w.cell? ⟨g, off + 13, none⟩ = some (.slice none 0 0) := hr.at 13 _ rfl
  have hgl := hr.lt
  unfold maxLen at hc2
  clear hk hr hn hs
  go_enter Tryz.func22, Tryz.ntmps22
  go_wp2_with (go_at_call 24; refine (HN.out _).mono ?_; rintro e w' ⟨rfl, rfl⟩)
  refine (HT.out _).mono ?_
  rintro e w1 ⟨rfl, hb1⟩
  have HB1 := Lib.hid ((boxM w _).trans (hb1.mono (by simp)))
  have hi := (hb1.block w.heap.size (by simp)).trans (heap_alloc_new w _)
  have HIB := Lib.hid hi
  obtain ⟨p0, p1, p2, p3, p4, p5, p6, p7, p8, p9, p10, p11, p12, p13, pz⟩ := cells14m hi
  have hl1 : w.heap.size < w1.heap.size := (Array.getElem?_eq_some_iff.1 hi).1
  clear hi hb1 o0 o1 o2 o3 o4 o5 o6 o7 o8 o9 o10 o11 o12 o13 k18 k19 kz
  obtain ⟨k18, k19, kz⟩ := chk_cells ((HB1.out.block K hKl).trans HK.out)
  go_wp2_with fail
  go_quiet ((go_at_call 31; exact Calls.quiet_of_same (HC.out _ _ _ _)))
  go_wp2_with fail
  refine (HF.out _).mono ?_
  rintro e w2 ⟨rfl, hb2⟩
  have HB2 := Lib.hid ((below_drewN HB1.out _).trans (hb2.mono HB1.out.size))
  have hi2 := (hb2.block w.heap.size hl1).trans HIB.out
  obtain ⟨q0, q1, q2, q3, q4, q5, q6, q7, q8, q9, q10, q11, q12, q13, qz⟩ := cells14m hi2
  clear hb2 hi2 p0 p1 p2 p3 p4 p5 p6 p7 p8 p9 p10 p11 p12 p13 pz k18 k19 kz
  go_wp2_with (go_at_call 33; refine (HRF.out _ _).mono ?_; rintro e w' ⟨rfl, rfl⟩)
  go_ret
  exact ⟨rfl, HB2.out⟩
end Go.Proofs.YthkkoippagocpaaGreatDoor
