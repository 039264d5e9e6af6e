/- the reference's disk: Copy. -/
import Derived.Test.YtcpldjaoacihlaaRcr
namespace Go.Proofs.Ytcpldjaoacihlaa
open Go.RowKit
set_option linter.unusedVariables false

set_option maxRecDepth 100000 in
set_option maxHeartbeats 2000000 in
theorem copy_r {w : World} {q : Option Addr} {s : DS} {m bb : List Nat} (h : RDisk w q s m bb) (hl : s.fs.length ≤ 1000000) :
    Calls Try.prog 18 #[.pointer q] w fun e w' => ∃ m', e = .returned (.pointer (some ⟨w.heap.size, 0, none⟩)) ∧ RDisk w' (some ⟨w.heap.size, 0, none⟩) s m' bb ∧ (∀ i ∈ m', w.heap.size ≤ i) ∧ Below w.heap.size w w' := by
  obtain ⟨qb, lv, G, rfl, hc, rfl, rfl, hq, hbb⟩ := h.parts
  have HC := Lib.hid hc
  have hlG : G.length ≤ 1000000 := by rw [← hc.len]; exact hl
  have hltq := hc.ltq
  obtain ⟨c0, c1, c2, c3, cf⟩ := cells4 hc.blk
  obtain ⟨a, c, rfl, l1, l2, _⟩ := hc.row.form
  unfold maxLen at l2
  obtain ⟨ti1, hi', hz0', hz1', hz2'⟩ := info_parts infoF
  have HSF := Lib.hid (flat_one G (fun p hp => by obtain ⟨_, _, hv, _⟩ := HC.out.rd p hp; rw [hv]; rfl))
  have HS := Lib.hid (show ∀ W, Below w.heap.size w W → Src Try.prog 3 62 (.slice a G.length c) G.length (flat G) W from fun W hW => by
    have := (HC.out.row.below hW).srcTo HSF.out G.length (Nat.le_refl _) _ Try.underlying62
    rwa [List.take_length] at this)
  clear h hc hq hbb hl cf
  go_enter Try.func18, Try.ntmps18
  go_wp2_with (at_builtin; go_must (refine wpList_append_S rfl (Operand.tmp 7) (Operand.tmp 11) 62 62 (by rfl) (w.heap.size + 1) 69 ti1 _ 3 48 Try.underlying62 hi' hz0' hz1' hz2' rfl (Nat.succ_pos _) (.slice (some ⟨w.heap.size + 1, 0, none⟩) 0 0) 0 [] (by rfl) ⟨by simp, .inr ⟨_, 0, 0, #[], rfl, Nat.le_refl _, heap_new _ _ (by simp), Nat.le_refl _, Nat.zero_le _, by simp, by simp⟩⟩ (.slice a G.length c) G.length (flat G) (by rfl) (HS.out _ (((Below.refl _ _).alloc (Nat.le_refl _) _).alloc (by simp) _)) (by unfold maxLen; omega) (by omega) (by simp) ?_); intro v' w2 hown2 hgrow2 hl2; rw [Nat.zero_add, List.nil_append] at hown2; have HO := Lib.hid hown2; have HG := Lib.hid hgrow2; have hbx := (hgrow2.block w.heap.size (by simp; omega) (fun e => by have e' : w.heap.size = w.heap.size + 1 := Option.some.inj e; omega)).trans ((Below.heap_alloc _ _ _ (by simp)).trans (heap_alloc_new w _)); have HBX := Lib.hid hbx; obtain ⟨x0, x1, x2, x3, xf⟩ := cells4 hbx; have xf0 := xf 0; have hlw : w.heap.size < w2.heap.size := World.block_lt_of_cell? w2 _ x0; obtain ⟨a2, cp2, hv2, _⟩ := hown2.form; subst hv2; clear hown2 hgrow2 hl2 hbx xf)
  go_ret
  have hO := HO.out
  have hne : ∀ g, (Value.slice a2 G.length cp2).ownBlock = some g → w.heap.size + 1 ≤ g := hO.base
  have hb2 : Below w.heap.size w w2 := (((Below.refl _ _).alloc (Nat.le_refl _) _).alloc (by simp) _).grown HG.out (by simp; omega) (fun g hg => by have e' : w.heap.size + 1 = g := Option.some.inj hg; omega)
  have hfar : ∀ g, g ≠ w.heap.size → (w2.setCell ⟨w.heap.size, 0, none⟩ (.slice a2 G.length cp2)).heap[g]? = w2.heap[g]? := fun g hg => Below.heap_setCell _ _ _ _ hg
  refine ⟨w.heap.size :: (Value.slice a2 G.length cp2).ownBlock.toList, rfl, ⟨w.heap.size, .slice a2 G.length cp2, G, rfl, ⟨(heap_mod HBX.out).trans rfl, ?_, HC.out.fs, fun p hp => ?_, HC.out.ok⟩, rfl, ?_, rfl, fun i hi hm => ?_⟩, fun i hi => ?_, hb2.setCell (Nat.le_refl _) _⟩
  · exact (hO.mono (Nat.zero_le _)).keep fun g hg => hfar g (by have := hne g hg; omega)
  · refine Rd.keep' ((HC.out.rd p hp).below hb2) fun g h1 h2 => hfar g ?_
    have := HC.out.ltb g (mem_bblks hp h1 h2)
    omega
  · cases ho : (Value.slice a2 G.length cp2).ownBlock with
    | none => simp
    | some g => have := hne g ho; simp; omega
  · have h1 := HC.out.ltb i hi
    simp only [List.mem_cons, Option.mem_toList] at hm
    rcases hm with e | e
    · omega
    · have := hne i e; omega
  · simp only [List.mem_cons, Option.mem_toList] at hi
    rcases hi with e | e
    · omega
    · have := hne i e; omega
end Go.Proofs.Ytcpldjaoacihlaa
