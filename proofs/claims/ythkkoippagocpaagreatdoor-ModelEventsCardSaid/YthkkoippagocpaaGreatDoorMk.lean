/- A model at constants: Check. -/
import Derived.Test.YthkkoippagocpaaGreatDoorMz
import Derived.Deep.WholeRow
import Derived.Great.Walk
import Derived.Great.BuildSlice
namespace Go.Proofs.YthkkoippagocpaaGreatDoor
open Go Go.RowKit Go.Shelf
set_option linter.unusedVariables false
set_option linter.unusedSimpArgs false

/-- The cells of a model in a block. -/
theorem box_model {w : World} {g : Nat} {id pid : ByteArray} (h : w.heap[g]? = some (.cells (modelM id pid) 39 (0, 0))) : ∀ j v, (modelM id pid)[j]? = some v → w.cell? ((⟨g, 0, none⟩ : Addr).add j) = some v := by
  intro j v hj
  rw [Addr.add_lit, Nat.zero_add, cell_of_row w g j _ _ _ h]
  exact hj
theorem builtM (id pid : ByteArray) : Tryz.prog.built 43 [(0, .agg (modelM id pid))] = some (chkM id pid (.slice none 0 0) (.slice none 0 0)) := by kernel_rfl

set_option maxRecDepth 100000 in
set_option maxHeartbeats 1000000 in
theorem check_bad (w : World) (id pid : ByteArray) (hs : id.size ≤ 64) (hn : nameOk id.data.toList = false) : Calls Tryz.prog 19 #[.agg (modelM id pid)] w fun e w' => e = .returned (.int .i64 23) ∧ Below w.heap.size w w' := by
  obtain ⟨w0, hw0⟩ : ∃ y, y = w.alloc (.cells (modelM id pid) 39) := ⟨_, rfl⟩
  have hb0 : Below w.heap.size w w0 := by rw [hw0]; exact boxM w _
  have hq : w0.heap[w.heap.size]? = some (.cells (modelM id pid) 39 (0, 0)) := by rw [hw0]; exact heap_alloc_new w _
  have HF := Lib.hid (headFault_bad w0 id pid hs hn)
  have HC := Lib.hid (box_model hq)
  have HI := Lib.hid (infoMod.trans (congrArg some (show (18 : Nat) = (modelM id pid).size from rfl)))
  have HB := Lib.hid hb0
  obtain ⟨M, hM⟩ : ∃ M, M = modelM id pid := ⟨_, rfl⟩
  rw [← hM] at HF HC HI hw0
  have HW0 := Lib.hid hw0
  rw [← hM]
  clear hs hn hb0 hq hM hw0
  go_enter Tryz.func19, Tryz.ntmps19
  go_upto_region 1 with (fail)
  rw [← HW0.out]
  go_wp2_with (refine wpList_load_cells rfl 39 (Operand.tmp 1) rfl ⟨w.heap.size, 0, none⟩ rfl M _ HC.out Tryz.underlying39 rfl HI.out ?_)
  refine HF.out.mono ?_
  rintro e w2 ⟨rfl, hx⟩
  have HX := Lib.hid (HB.out.trans (hx.mono HB.out.size))
  clear hx
  go_wp2_with fail
  go_ret
  exact ⟨rfl, HX.out⟩
theorem Row.caps {B : Nat} {w : World} {g off n c size : Nat} {xs : List Value} (h : Row B w (.slice (some ⟨g, off, none⟩) n c) n size xs) : n ≤ c ∧ c ≤ maxLen := by
  obtain ⟨g', off', c', hv, _, _, h2, h3, _⟩ := h
  simp only [Value.slice.injEq, Option.some.injEq, Addr.mk.injEq, true_and, and_true] at hv
  obtain ⟨⟨rfl, rfl⟩, rfl⟩ := hv
  exact ⟨h2, h3⟩

theorem infoChk : (Tryz.prog.info? 43).map (·.size) = some 20 := by kernel_rfl
theorem chk_one (id pid : ByteArray) : (chkM id pid (.slice none 0 0) (.slice none 0 0)).all (·.oneCell') = true := by simp [chkM, Value.oneCell']

set_option maxRecDepth 100000 in
set_option maxHeartbeats 2000000 in
set_option warningAsError false in
theorem check_ok (w : World) (id pid : ByteArray) (hs : id.size ≤ 64) (hn : nameOk id.data.toList = true) (hps : pid.size ≤ 64) (hpn : nameOk pid.data.toList = true) : Calls Tryz.prog 19 #[.agg (modelM id pid)] w fun e w' => e = .returned (.int .i64 0) ∧ Below w.heap.size w w' := by
  obtain ⟨w0, hw0⟩ : ∃ y, y = w.alloc (.cells (modelM id pid) 39) := ⟨_, rfl⟩
  have hb0 : Below w.heap.size w w0 := by rw [hw0]; exact boxM w _
  have hq : w0.heap[w.heap.size]? = some (.cells (modelM id pid) 39 (0, 0)) := by rw [hw0]; exact heap_alloc_new w _
  have hql := (Array.getElem?_eq_some_iff.1 hq).1
  have HF := Lib.hid (headFault_ok w0 id pid hs hn)
  have HC := Lib.hid (fun (W : World) (hb : Below w0.heap.size w0 W) => box_model ((hb.block _ hql).trans hq))
  have HI := Lib.hid (infoMod.trans (congrArg some (show (18 : Nat) = (modelM id pid).size from rfl)))
  have HT := Lib.hid (builtM id pid)
  have HIX := Lib.hid (infoChk.trans (congrArg some (show (20 : Nat) = (chkM id pid (.slice none 0 0) (.slice none 0 0)).size from rfl)))
  have HSX := Lib.hid (show (chkM ⟨#[]⟩ ⟨#[]⟩ (.slice none 0 0) (.slice none 0 0)).size = (chkM id pid (.slice none 0 0) (.slice none 0 0)).size from rfl)
  have H1X := Lib.hid (chk_one id pid)
  have HB := Lib.hid hb0
  have HPS := Lib.hid hps
  have HPN := Lib.hid hpn
  have HCO := Lib.hid (fun W K hk => collect_m W K id pid hk)
  obtain ⟨M, hM⟩ : ∃ M, M = modelM id pid := ⟨_, rfl⟩
  obtain ⟨X, hX⟩ : ∃ X, X = chkM id pid (.slice none 0 0) (.slice none 0 0) := ⟨_, rfl⟩
  rw [← hM] at HF HC HI HT hw0
  rw [← hX] at HT HIX HSX H1X
  have HX := Lib.hid hX
  have HW0 := Lib.hid hw0
  rw [← hM]
  have HM := Lib.hid hM
  clear hs hn hps hpn hb0 hq hM hw0 hql hX
  go_enter Tryz.func19, Tryz.ntmps19
  go_upto_region 1 with (fail)
  rw [← HW0.out]
  go_wp2_with (refine wpList_load_cells rfl 39 (Operand.tmp 1) rfl ⟨w.heap.size, 0, none⟩ rfl M _ (HC.out _ (Below.refl _ _)) Tryz.underlying39 rfl HI.out ?_)
  refine HF.out.mono ?_
  rintro e w2 ⟨rfl, hx⟩
  have HX2 := Lib.hid hx
  clear hx
  go_upto_region 4 with (fail)
  go_wp2_with (refine wpList_load_cells rfl 39 (Operand.tmp 1) rfl ⟨w.heap.size, 0, none⟩ rfl M _ (HC.out _ HX2.out) Tryz.underlying39 rfl HI.out ?_; go_loud (refine wpList_buildTo rfl 43 _ rfl _ rfl X (Eq.trans (congrArg (fun l => Tryz.prog.built 43 l) (by kernel_rfl : _ = [(0, Value.agg M)])) HT.out) ?_); go_loud (refine Go.Great.wpList_allocTo rfl _ rfl (.pointer (some ⟨w2.heap.size, 0, none⟩)) (.cells (chkM ⟨#[]⟩ ⟨#[]⟩ (.slice none 0 0) (.slice none 0 0)) 43) (by kernel_rfl) ?_); go_loud (refine wpList_store_row rfl 43 _ _ rfl w2.heap.size X rfl rfl 43 _ (heap_alloc_last _ _) HIX.out HSX.out H1X.out ?_); go_loud (rw [World.setRow_alloc_new]))
  have hk3 : (w2.alloc (.cells X 43)).heap[w2.heap.size]? = some (.cells (chkM id pid (.slice none 0 0) (.slice none 0 0)) 43 (0, 0)) := by rw [heap_alloc_new, HX.out]
  refine (HCO.out _ _ hk3).mono ?_
  rintro e w4 ⟨rfl, g, off, c, g2, off2, c2, h1, h2, h3, h4⟩
  have hB2 : Below w.heap.size w w2 := HB.out.trans (HX2.out.mono HB.out.size)
  have HB4 := Lib.hid (h4 _ _ (hB2.alloc (Nat.le_trans hB2.size (Nat.le_refl _)) (.cells X 43)) hB2.size)
  have hl4 : w2.heap.size < w4.heap.size := (Array.getElem?_eq_some_iff.1 h1).1
  have HI4 := Lib.hid (itemFault_m w4 _ _ id pid g off c g2 off2 c2 HPS.out HPN.out h3.caps.2 h3.caps.1 h1 h2)
  have HC4 := Lib.hid (fun (W : World) (hb : Below w4.heap.size w4 W) => condFault_x W w2.heap.size id pid _ _ ((hb.block _ hl4).trans h1))
  have HK4 := Lib.hid (fun (W : World) (hb : Below w4.heap.size w4 W) => chk_cells ((hb.block _ hl4).trans h1))
  have HR4 := Lib.hid (fun (W : World) (hb : Below w4.heap.size w4 W) => (h2.below hb))
  have HCP := Lib.hid h2.caps
  obtain ⟨k18, k19, kz⟩ := HK4.out w4 (Below.refl _ _)
  clear h1 h2 h3 h4 hB2 hk3 HT HIX HSX H1X HCO HF
  go_wp2_with fail
  refine wp_loop_rounds 2 ?_
  rw [rounds_succ]
  go_wp2_with fail
  refine HI4.out.mono ?_
  rintro e w5 ⟨rfl, hb5⟩
  have HB5 := Lib.hid hb5
  clear hb5 k18 k19 kz
  obtain ⟨k18, k19, kz⟩ := HK4.out w5 HB5.out
  have hr5 := HR4.out w5 HB5.out
  have o0 : w5.cell? ⟨g, off, none⟩ = some (.string pid) := hr5.at 0 _ rfl
  have o1 : w5.cell? ⟨g, off + 1, none⟩ = some (.string ⟨#[]⟩) := hr5.at 1 _ rfl
  have o2 : w5.cell? ⟨g, off + 2, none⟩ = some (.int .i64 0) := hr5.at 2 _ rfl
  have o3 : w5.cell? ⟨g, off + 3, none⟩ = some (.slice none 0 0) := hr5.at 3 _ rfl
  have o4 : w5.cell? ⟨g, off + 4, none⟩ = some (.slice none 0 0) := hr5.at 4 _ rfl
  have o5 : w5.cell? ⟨g, off + 5, none⟩ = some (.string ⟨#[]⟩) := hr5.at 5 _ rfl
  have o6 : w5.cell? ⟨g, off + 6, none⟩ = some (.string ⟨#[]⟩) := hr5.at 6 _ rfl
  have o7 : w5.cell? ⟨g, off + 7, none⟩ = some (.string ⟨#[]⟩) := hr5.at 7 _ rfl
  have o8 : w5.cell? ⟨g, off + 8, none⟩ = some (.bool false) := hr5.at 8 _ rfl
  have o9 : w5.cell? ⟨g, off + 9, none⟩ = some (.bool false) := hr5.at 9 _ rfl
  have o10 : w5.cell? ⟨g, off + 10, none⟩ = some (.int .i64 0) := hr5.at 10 _ rfl
  have o11 : w5.cell? ⟨g, off + 11, none⟩ = some (.slice none 0 0) := hr5.at 11 _ rfl
  have o12 : w5.cell? ⟨g, off + 12, none⟩ = some (.slice none 0 0) := hr5.at 12 _ rfl
  have o13 : w5.cell? ⟨g, off + 13, none⟩ = some (.slice none 0 0) := hr5.at 13 _ rfl
  have hgl := hr5.lt
  have hcp := HCP.out
  unfold maxLen at hcp
  obtain ⟨hcp1, hcp2⟩ := hcp
  clear hr5
  unfold itemM at HC4
  go_wp2_with fail
  rw [rounds_succ]
  go_wp2_with fail
  refine wp_loop_rounds 2 ?_
  rw [rounds_succ]
  go_wp2_with fail
  refine (HC4.out _ (HB5.out.alloc HB5.out.size _)).mono ?_
  rintro e w7 ⟨rfl, hb7⟩
  have HB7 := Lib.hid ((HB5.out.alloc HB5.out.size _).trans (hb7.mono (by have := HB5.out.size; simp; omega)))
  clear hb7
  go_wp2_with fail
  rw [rounds_succ]
  go_wp2_with fail
  go_ret
  exact ⟨rfl, HB4.out.trans (HB7.out.mono HB4.out.size)⟩
end Go.Proofs.YthkkoippagocpaaGreatDoor
