/- A model at constants: the law's awake. -/
import Derived.Test.YthkkoippagocpaaGreatDoorMk
namespace Go.Proofs.YthkkoippagocpaaGreatDoor
open Go Go.RowKit Go.Shelf
set_option linter.unusedVariables false
set_option linter.unusedSimpArgs false

theorem builtA1 : Tryz.prog.built 36 [(0, .string ⟨#[112]⟩)] = some (itemM ⟨#[112]⟩) := by kernel_rfl
theorem builtA2 : Tryz.prog.built 39 [(0, .string ⟨#[109]⟩), (4, .agg (itemM ⟨#[112]⟩))] = some (modelM ⟨#[109]⟩ ⟨#[112]⟩) := by kernel_rfl
theorem builtA3 : Tryz.prog.built 39 [] = some (modelM ⟨#[]⟩ ⟨#[]⟩) := by kernel_rfl
theorem oneA : (modelM ⟨#[109]⟩ ⟨#[112]⟩).all (·.oneCell') = true := by simp [modelM, Value.oneCell']

set_option maxRecDepth 100000 in
set_option maxHeartbeats 400000 in
theorem mawake_c (w : World) : Calls Tryz.prog 14 #[] w fun e w' => e = .returned (.bool true) ∧ Below w.heap.size w w' := by
  have hq : (w.alloc (.cells (modelM ⟨#[109]⟩ ⟨#[112]⟩) 39)).heap[w.heap.size]? = some (.cells (modelM ⟨#[109]⟩ ⟨#[112]⟩) 39 (0, 0)) := heap_alloc_new w _
  have HOK := Lib.hid (check_ok (w.alloc (.cells (modelM ⟨#[109]⟩ ⟨#[112]⟩) 39)) ⟨#[109]⟩ ⟨#[112]⟩ (by decide) nm_m (by decide) nm_p)
  have HBAD := Lib.hid (fun W => check_bad W ⟨#[]⟩ ⟨#[]⟩ (by decide) nm_0)
  have HC := Lib.hid (box_model hq)
  have HI := Lib.hid (infoMod.trans (congrArg some (show (18 : Nat) = (modelM ⟨#[109]⟩ ⟨#[112]⟩).size from rfl)))
  have HS := Lib.hid (show (modelM ⟨#[]⟩ ⟨#[]⟩).size = (modelM ⟨#[109]⟩ ⟨#[112]⟩).size from rfl)
  have H1 := Lib.hid oneA
  have HT1 := Lib.hid builtA1
  have HT2 := Lib.hid builtA2
  have HT3 := Lib.hid builtA3
  clear hq
  obtain ⟨M, hM⟩ : ∃ M, M = modelM ⟨#[109]⟩ ⟨#[112]⟩ := ⟨_, rfl⟩
  obtain ⟨Z, hZ⟩ : ∃ Z, Z = modelM ⟨#[]⟩ ⟨#[]⟩ := ⟨_, rfl⟩
  obtain ⟨I, hI⟩ : ∃ I, I = itemM ⟨#[112]⟩ := ⟨_, rfl⟩
  rw [← hM] at HOK HC HI HS H1 HT2
  rw [← hI] at HT1 HT2
  rw [← hZ] at HS HT3
  unfold modelM at HBAD
  have HZ := Lib.hid hZ
  clear hM hZ hI
  go_enter Tryz.func14, Tryz.ntmps14
  go_upto_region 1 with (fail)
  go_upto_region 2 with ((refine wpList_buildTo rfl 36 _ rfl _ rfl I (Eq.trans (congrArg (fun l => Tryz.prog.built 36 l) (by kernel_rfl : _ = [(0, Value.string ⟨#[112]⟩)])) HT1.out) ?_; go_loud (refine wpList_buildTo rfl 39 _ rfl _ rfl M (Eq.trans (congrArg (fun l => Tryz.prog.built 39 l) (by kernel_rfl : _ = [(0, Value.string ⟨#[109]⟩), (4, .agg I)])) HT2.out) ?_); go_loud (refine Go.Great.wpList_allocTo rfl _ rfl (.pointer (some ⟨w.heap.size, 0, none⟩)) (.cells (modelM ⟨#[]⟩ ⟨#[]⟩) 39) (by kernel_rfl) ?_); rw [← HZ.out]; go_loud (refine wpList_store_row rfl 39 _ _ rfl w.heap.size M rfl rfl 39 _ (heap_alloc_last _ _) HI.out HS.out H1.out ?_); go_loud (rw [World.setRow_alloc_new])))
  go_wp2_with (refine wpList_load_cells rfl 39 (Operand.tmp 1) rfl ⟨w.heap.size, 0, none⟩ rfl M _ HC.out Tryz.underlying39 rfl HI.out ?_)
  refine HOK.out.mono ?_
  rintro e w2 ⟨rfl, hb2⟩
  have HB2 := Lib.hid ((boxM w _).trans (hb2.mono (by simp)))
  clear hb2
  go_wp2_with fail
  refine (HBAD.out _).mono ?_
  rintro e w3 ⟨rfl, hb3⟩
  have HB3 := Lib.hid (HB2.out.trans (hb3.mono HB2.out.size))
  clear hb3
  go_wp2_with fail
  go_ret
  exact ⟨rfl, HB3.out⟩
end Go.Proofs.YthkkoippagocpaaGreatDoor
