/- Cases: a copy of a document (the reference's). Written by tools/genze.py. -/
import Derived.Test.YtncloiimbclklaaZd
namespace Go.Proofs.Ytncloiimbclklaa
open Go Go.RowKit Go.Shelf
set_option linter.unusedVariables false
set_option linter.unusedSimpArgs false

theorem infoD6 : (Try.prog.info? 49).map (·.size) = some 6 := by kernel_rfl
/-- A copy of a document: the same, but for where the references lie. -/
def CopyAsD (w : World) (x : DV) (e : Ending) (w' : World) : Prop :=
  ∃ v', e = .returned (.agg #[.string x.path, .int .i64 x.vk, .int .i64 x.vi, .bool x.vb, .string x.vt, v']) ∧ OwnS w' w.heap.size 9 1 v' x.rs.length (tcells x.rs) ∧ Below w.heap.size w w'

set_option maxRecDepth 100000 in
set_option maxHeartbeats 1000000 in
theorem rcopiedD_c (w : World) (x : DV) (h : DVok w x) (hs : x.rs.length ≤ 40) : Calls Try.prog 45 #[.agg x.cells.toArray] w (CopyAsD w x) := by
  obtain ⟨i0, hi, hz0, hz1, hz2⟩ := info_parts infoText
  obtain ⟨path, vk, vi, vb, vt, rv, rs⟩ := x
  have hlen : (tcells rs).length = rs.length := by simp [tcells]
  have HS := Lib.hid (fun (W : World) (hb : Below w.heap.size w W) => (h.rr.below hb).src (t := 47) Try.underlying47 (tcells_one rs))
  dsimp only at HS hs
  obtain ⟨p, cp, hlv⟩ := h.rr.form
  dsimp only at hlv
  subst hlv
  rw [hlen] at HS ⊢
  unfold DV.cells
  dsimp only
  have HB2 := Lib.hid (fun o o2 => (box_bel' w o).alloc (box_bel' w o).size o2)
  have HB3 := Lib.hid (fun o o2 o3 => ((box_bel' w o).alloc (box_bel' w o).size o2).alloc ((box_bel' w o).alloc (box_bel' w o).size o2).size o3)
  have HE := Lib.hid (fun o o2 => (show OwnS ((((w.alloc o).alloc o2)).alloc (.cells #[] 9)) (w.heap.size + 2) 9 1 (.slice (some ⟨w.heap.size + 1 + 1, 0, none⟩) 0 0) 0 [] from by
    have := ownS_empty ((w.alloc o).alloc o2) (w.heap.size + 2) 9 1 (by simp)
    rwa [World.size_alloc, World.size_alloc] at this))
  have HSZ := Lib.hid hs
  clear h hlen hs
  go_enter Try.func45, Try.ntmps45
  go_wp2_with (at_builtin; refine wpList_append_S rfl _ _ 47 47 rfl (w.heap.size + 2) 9 i0 (.string ⟨#[]⟩) 1 16 Try.underlying47 hi hz0 hz1 hz2 rfl (by decide) _ 0 [] rfl (HE.out _ _) _ rs.length (tcells rs) rfl (HS.out _ (HB3.out _ _ _)) ?c1 ?c2 ?c3 ?_)
  case c1 => have := HSZ.out; unfold maxLen; omega
  case c2 => have := HSZ.out; omega
  case c3 => simp
  intro v' w1 hown hgrow how
  have HOW := Lib.hid hown
  have HB4 := Lib.hid ((HB3.out _ _ _).grown hgrow (by simp; omega) (fun k ek => by simp [Value.ownBlock] at ek; omega))
  have HG := Lib.hid hgrow
  obtain ⟨pa, ca, hv', _⟩ := hown.form
  subst hv'
  have hg := hgrow.block
  obtain ⟨c0, c1, c2, c3, c4, c5, cz⟩ := cells6 ((hg w.heap.size (by simp; omega) (by simp [Value.ownBlock]; omega)).trans (three_old w _ _ _))
  have hx := (hg (w.heap.size + 1) (by simp) (by simp [Value.ownBlock])).trans (three_mid w _ _ _)
  have HX := Lib.hid hx
  obtain ⟨r0, r1, r2, r3, r4, r5, rz⟩ := cells6 hx
  clear hown hgrow hg hx how
  go_wp2_with fail
  have hx2 := (Below.heap_setCell w1 ⟨w.heap.size, 5, none⟩ (.slice pa rs.length ca) (w.heap.size + 1) (by simp)).trans HX.out
  refine bodyPost_ret (results_cell_row Try.results45 _ _ (w.heap.size + 1) 49 _ (0, 0) _ rfl (putI_at hx2 _ _ _ _ _ _) Try.underlying49 rfl infoD6) rfl ?_
  refine ⟨_, rfl, ?_, putI_below (HB4.out.setCell (p := ⟨w.heap.size, 5, none⟩) (Nat.le_refl _) _) (by omega) _ _ _ _ _ _⟩
  refine (HOW.out.keep (fun g hg => ?_)).up (by omega)
  have hge := HOW.out.base g hg
  rw [putI_far _ _ _ (by omega)]
  exact Below.heap_setCell _ _ _ _ (by show g ≠ w.heap.size; omega)
end Go.Proofs.Ytncloiimbclklaa
