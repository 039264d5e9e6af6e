/- Instances: the reference's copies; whether two are the same. -/
import Derived.Test.YtncloiimbclklaaYd
namespace Go.Proofs.Ytncloiimbclklaa
open Go Go.RowKit
set_option linter.unusedVariables false
set_option linter.unusedSimpArgs false

theorem ownS_empty (w : World) (base : Nat) (e : TypeId) (size : Nat) (hb : base ≤ w.heap.size) : OwnS (w.alloc (.cells #[] e)) base e size (.slice (some ⟨w.heap.size, 0, none⟩) 0 0) 0 [] :=
  ⟨by simp, .inr ⟨w.heap.size, 0, 0, #[], rfl, hb, heap_alloc_new _ _, Nat.le_refl _, by unfold maxLen; omega, by simp, by simp⟩⟩
theorem three_old (w : World) (o o2 o3 : Obj) : (((w.alloc o).alloc o2).alloc o3).heap[w.heap.size]? = some o := (Below.heap_alloc _ _ _ (by simp; omega)).trans (two_old w o o2)
theorem three_mid (w : World) (o o2 o3 : Obj) : (((w.alloc o).alloc o2).alloc o3).heap[w.heap.size + 1]? = some o2 := (Below.heap_alloc _ _ _ (by simp)).trans (two_new w o o2)

set_option maxRecDepth 100000 in
set_option maxHeartbeats 1000000 in
theorem rcopied_c (w : World) (x : IV) (h : IVok w x) (hs : x.ls.length ≤ 40) : Calls Try.prog 31 #[.agg x.cells.toArray] w (CopyAs w x) := by
  obtain ⟨i0, hi, hz0, hz1, hz2⟩ := info_parts infoInt
  obtain ⟨path, item, st, bf, lv, ls, due⟩ := x
  have hlen : (icells ls).length = ls.length := by simp [icells]
  have HS := Lib.hid (fun (W : World) (hb : Below w.heap.size w W) => (h.rl.below hb).src (t := 28) Try.underlying28 (icells_one ls))
  dsimp only at HS hs
  obtain ⟨p, cp, hlv⟩ := h.rl.form
  dsimp only at hlv
  subst hlv
  rw [hlen] at HS ⊢
  unfold IV.cells
  dsimp only
  have HB2 := Lib.hid (fun o o2 => (box_bel' w o).alloc (box_bel' w o).size o2)
  have HB3 := Lib.hid (fun o o2 o3 => ((box_bel' w o).alloc (box_bel' w o).size o2).alloc ((box_bel' w o).alloc (box_bel' w o).size o2).size o3)
  have HE := Lib.hid (fun o o2 => (show OwnS ((((w.alloc o).alloc o2)).alloc (.cells #[] 3)) (w.heap.size + 2) 3 1 (.slice (some ⟨w.heap.size + 1 + 1, 0, none⟩) 0 0) 0 [] from by
    have := ownS_empty ((w.alloc o).alloc o2) (w.heap.size + 2) 3 1 (by simp)
    rwa [World.size_alloc, World.size_alloc] at this))
  have HSZ := Lib.hid hs
  clear h hlen hs
  go_enter Try.func31, Try.ntmps31
  go_wp2_with (at_builtin; refine wpList_append_S rfl _ _ 28 28 rfl (w.heap.size + 2) 3 i0 (.int .i64 0) 1 8 Try.underlying28 hi hz0 hz1 hz2 rfl (by decide) _ 0 [] rfl (HE.out _ _) _ ls.length (icells ls) rfl (HS.out _ (HB3.out _ _ _)) ?c1 ?c2 ?c3 ?_)
  case c1 => have := HSZ.out; unfold maxLen; omega
  case c2 => have := HSZ.out; omega
  case c3 => simp
  intro v' w1 hown hgrow how
  have HOW := Lib.hid hown
  have HB4 := Lib.hid ((HB3.out _ _ _).grown hgrow (by simp; omega) (fun k ek => by simp [Value.ownBlock] at ek; omega))
  have HG := Lib.hid hgrow
  obtain ⟨pa, ca, hv', _⟩ := hown.form
  subst hv'
  have hg := hgrow.block
  obtain ⟨c0, c1, c2, c3, c4, c5, cz⟩ := cells6 ((hg w.heap.size (by simp; omega) (by simp [Value.ownBlock]; omega)).trans (three_old w _ _ _))
  have hx := (hg (w.heap.size + 1) (by simp) (by simp [Value.ownBlock])).trans (three_mid w _ _ _)
  have HX := Lib.hid hx
  obtain ⟨r0, r1, r2, r3, r4, r5, rz⟩ := cells6 hx
  clear hown hgrow hg hx how
  go_wp2_with fail
  have hx2 := (Below.heap_setCell w1 ⟨w.heap.size, 4, none⟩ (.slice pa ls.length ca) (w.heap.size + 1) (by simp)).trans HX.out
  refine bodyPost_ret (results_cell_row Try.results31 _ _ (w.heap.size + 1) 30 _ (0, 0) _ rfl (putI_at hx2 _ _ _ _ _ _) Try.underlying30 rfl infoI6) rfl ?_
  refine ⟨_, rfl, ?_, putI_below (HB4.out.setCell (p := ⟨w.heap.size, 4, none⟩) (Nat.le_refl _) _) (by omega) _ _ _ _ _ _⟩
  refine (HOW.out.keep (fun g hg => ?_)).up (by omega)
  have hge := HOW.out.base g hg
  rw [putI_far _ _ _ (by omega)]
  exact Below.heap_setCell _ _ _ _ (by show g ≠ w.heap.size; omega)
end Go.Proofs.Ytncloiimbclklaa
