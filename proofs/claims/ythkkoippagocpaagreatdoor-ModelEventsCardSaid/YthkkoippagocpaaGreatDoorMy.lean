/- A model at constants: collect. -/
import Derived.Test.YthkkoippagocpaaGreatDoorMw
namespace Go.Proofs.YthkkoippagocpaaGreatDoor
open Go Go.RowKit Go.Shelf
set_option linter.unusedVariables false
set_option linter.unusedSimpArgs false

theorem Coll2.back {w W w' : World} {lim K B2 : Nat} {id pid : ByteArray} (hb : Below w.heap.size w W) (hl : w.heap.size ≤ lim) (hK : K < w.heap.size) (h : Coll2 W lim K B2 id pid w') : Coll2 w w.heap.size K B2 id pid w' := by
  obtain ⟨g, off, c, g2, off2, c2, h1, h2, h3, h4, h5, h6⟩ := h
  exact ⟨g, off, c, g2, off2, c2, h1, h2.mono hb.size, h3.mono hb.size, h4, fun k hk k1 k2 => (h5 k (by omega) k1 k2).trans (hb.block k hk), fun B v0 hb0 hB => h6 B v0 (hb0.trans (hb.mono (by omega))) hB⟩
theorem two_oldM (w : World) (o1 o2 : Obj) : ((w.alloc o1).alloc o2).heap[w.heap.size]? = some o1 := (Below.heap_alloc _ _ _ (by simp)).trans (heap_alloc_new w _)
theorem two_newM (w : World) (o1 o2 : Obj) : ((w.alloc o1).alloc o2).heap[w.heap.size + 1]? = some o2 := by simpa using heap_alloc_new (w.alloc o1) o2
theorem two_belM (w : World) (o1 o2 : Obj) : Below w.heap.size w ((w.alloc o1).alloc o2) := (boxM w _).alloc (by simp) _

set_option maxRecDepth 100000 in
set_option maxHeartbeats 1000000 in
theorem walk_m (w : World) (K B1 B2 : Nat) (id pid : ByteArray) (h : SeekM w K B1 B2 id pid) :
    Calls Tryz.prog 29 #[.agg (modelM id pid), .func (.func 30) #[] #[.pointer (some ⟨B1, 0, none⟩), .pointer (some ⟨B2, 0, none⟩)]] w fun e w' => e = .returned (.tuple #[]) ∧ Coll2 w w.heap.size K B2 id pid w' := by
  have HF := Lib.hid (fun (W : World) (hb : Below w.heap.size w W) (hw) => (walker1_m W K B1 B2 (w.heap.size + 1) id pid (h.below hb) (by have := h.h3; omega) hw).mono fun _ _ hx => And.intro hx.1 (Coll2.back hb (by omega) (by have := h.h1; have := h.h2; have := h.h3; omega) hx.2))
  clear h
  unfold modelM
  unfold itemM at HF
  go_enter Tryz.func29, Tryz.ntmps29
  go_wp2_with fail
  refine (HF.out _ (two_belM w _ _) (two_newM w _ _)).mono ?_
  rintro e w2 ⟨rfl, hx⟩
  have HX := Lib.hid hx
  clear hx
  go_wp2_with fail
  refine bodyPost_end (v := .tuple #[]) (by simp [results, Tryz.results29, go_sem]) rfl ?_
  exact ⟨rfl, HX.out⟩

/-- The items are collected. -/
def CollB (w : World) (K : Nat) (id pid : ByteArray) (w' : World) : Prop :=
  ∃ g off c g2 off2 c2, w'.heap[K]? = some (.cells (chkM id pid (.slice (some ⟨g, off, none⟩) 1 c) (.slice (some ⟨g2, off2, none⟩) 1 c2)) 43 (0, 0)) ∧ Row w.heap.size w' (.slice (some ⟨g, off, none⟩) 1 c) 1 14 (itemM pid).toList ∧ Row w.heap.size w' (.slice (some ⟨g2, off2, none⟩) 1 c2) 1 1 [.string pid] ∧ (∀ B v0, Below B v0 w → B ≤ K → Below B v0 w')
theorem infoMod : (Tryz.prog.info? 39).map (·.size) = some 18 := by kernel_rfl
theorem chk_model {w : World} {K : Nat} {id pid : ByteArray} {vI vD : Value} (h : w.heap[K]? = some (.cells (chkM id pid vI vD) 43 (0, 0))) : ∀ j v, (modelM id pid)[j]? = some v → w.cell? ((⟨K, 0, none⟩ : Addr).add j) = some v := by
  intro j v hj
  rw [Addr.add_lit, Nat.zero_add, cell_of_row w K j _ _ _ h, ← hj]
  have hl : j < 18 := (Array.getElem?_eq_some_iff.1 hj).1
  rcases (by omega : j = 0 ∨ j = 1 ∨ j = 2 ∨ j = 3 ∨ j = 4 ∨ j = 5 ∨ j = 6 ∨ j = 7 ∨ j = 8 ∨ j = 9 ∨ j = 10 ∨ j = 11 ∨ j = 12 ∨ j = 13 ∨ j = 14 ∨ j = 15 ∨ j = 16 ∨ j = 17) with rfl | rfl | rfl | rfl | rfl | rfl | rfl | rfl | rfl | rfl | rfl | rfl | rfl | rfl | rfl | rfl | rfl | rfl <;> rfl
set_option maxRecDepth 100000 in
set_option maxHeartbeats 1000000 in
theorem collect_m (w : World) (K : Nat) (id pid : ByteArray) (hk : w.heap[K]? = some (.cells (chkM id pid (.slice none 0 0) (.slice none 0 0)) 43 (0, 0))) :
    Calls Tryz.prog 21 #[.pointer (some ⟨K, 0, none⟩)] w fun e w' => e = .returned (.bool true) ∧ CollB w K id pid w' := by
  have hKl := (Array.getElem?_eq_some_iff.1 hk).1
  obtain ⟨w0, hw0⟩ : ∃ y, y = (w.alloc (.cells #[.pointer (some ⟨K, 0, none⟩)] 50)).alloc (.cells #[.bool true] 4) := ⟨_, rfl⟩
  have hb : Below w.heap.size w w0 := by rw [hw0]; exact two_belM w _ _
  have hs : SeekM w0 K w.heap.size (w.heap.size + 1) id pid := ⟨hKl, by omega, by rw [hw0]; simp, (hb.block K hKl).trans hk, by rw [hw0]; exact two_oldM w _ _, _, by rw [hw0]; exact two_newM w _ _⟩
  have HF := Lib.hid (walk_m w0 K _ _ id pid hs)
  have HC := Lib.hid (chk_model hs.hk)
  have HI := Lib.hid (infoMod.trans (congrArg some (show (18 : Nat) = (modelM id pid).size from rfl)))
  have HB := Lib.hid hb
  have HW0 := Lib.hid hw0
  have HSZ := Lib.hid (show w0.heap.size = w.heap.size + 2 from by rw [hw0]; simp)
  obtain ⟨M, hM⟩ : ∃ M, M = modelM id pid := ⟨_, rfl⟩
  rw [← hM] at HF HC HI
  have b0 : w0.cell? ⟨w.heap.size, 0, none⟩ = some (.pointer (some ⟨K, 0, none⟩)) := by simp [World.cell?, hs.hb1]
  have l1 : w.heap.size < w0.heap.size := by have := HSZ.out; omega
  clear hk hs hb hw0 hM
  go_enter Tryz.func21, Tryz.ntmps21
  go_upto_region 2 with (fail)
  rw [← HW0.out]
  go_wp2_with (refine wpList_load_cells rfl 39 (Operand.tmp 6) rfl ⟨K, 0, none⟩ rfl M _ HC.out Tryz.underlying39 rfl HI.out ?_)
  refine HF.out.mono ?_
  rintro e w2 ⟨rfl, hx⟩
  have HX := Lib.hid hx
  obtain ⟨_, _, _, _, _, _, _, _, _, hq, _⟩ := hx
  have c0 : w2.cell? ⟨w.heap.size + 1, 0, none⟩ = some (.bool true) := by simp [World.cell?, hq]
  clear hq
  go_wp2_with fail
  go_ret
  obtain ⟨g, off, c, g2, off2, c2, h1, h2, h3, h4, h5, h6⟩ := HX.out
  exact ⟨rfl, g, off, c, g2, off2, c2, h1, h2.mono HB.out.size, h3.mono HB.out.size, fun B v0 hb0 hB => h6 B v0 (hb0.trans (HB.out.mono (by omega))) hB⟩
end Go.Proofs.YthkkoippagocpaaGreatDoor
