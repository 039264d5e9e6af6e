/- A model at constants: the walker with collect's closure. -/
import Derived.Test.YthkkoippagocpaaGreatDoorMt
import Derived.Shelf.Abstract
import Derived.Laws.EntriesVeiled
import Derived.Deep.DeepCutAuto
import Derived.Deep.RegionLaw
namespace Go.Proofs.YthkkoippagocpaaGreatDoor
open Go Go.RowKit Go.Shelf
set_option linter.unusedVariables false
set_option linter.unusedSimpArgs false

/-- Where collect's variables lie. -/
structure SeekM (w : World) (K B1 B2 : Nat) (id pid : ByteArray) : Prop where
  h1 : K < B1
  h2 : B1 < B2
  h3 : B2 < w.heap.size
  hk : w.heap[K]? = some (.cells (chkM id pid (.slice none 0 0) (.slice none 0 0)) 43 (0, 0))
  hb1 : w.heap[B1]? = some (.cells #[.pointer (some ⟨K, 0, none⟩)] 50 (0, 0))
  hb2 : ∃ v0, w.heap[B2]? = some (.cells #[v0] 4 (0, 0))
theorem SeekM.below {w W : World} {K B1 B2 : Nat} {id pid : ByteArray} (h : SeekM w K B1 B2 id pid) (hb : Below w.heap.size w W) : SeekM W K B1 B2 id pid := by
  obtain ⟨h1, h2, h3, hk, hb1, v0, hb2⟩ := h
  have := hb.size
  exact ⟨h1, h2, by omega, (hb.block _ (by omega)).trans hk, (hb.block _ (by omega)).trans hb1, v0, (hb.block _ (by omega)).trans hb2⟩
/-- What the walk leaves: blocks below lim are as they were, but for two. -/
def Coll2 (w : World) (lim K B2 : Nat) (id pid : ByteArray) (w' : World) : Prop :=
  ∃ g off c g2 off2 c2, w'.heap[K]? = some (.cells (chkM id pid (.slice (some ⟨g, off, none⟩) 1 c) (.slice (some ⟨g2, off2, none⟩) 1 c2)) 43 (0, 0)) ∧ Row w.heap.size w' (.slice (some ⟨g, off, none⟩) 1 c) 1 14 (itemM pid).toList ∧ Row w.heap.size w' (.slice (some ⟨g2, off2, none⟩) 1 c2) 1 1 [.string pid] ∧
    w'.heap[B2]? = some (.cells #[.bool true] 4 (0, 0)) ∧ (∀ k, k < lim → k ≠ K → k ≠ B2 → w'.heap[k]? = w.heap[k]?) ∧ (∀ B v0, Below B v0 w → B ≤ K → Below B v0 w')
theorem Coll2.of {w W w' : World} {K B1 B2 : Nat} {id pid : ByteArray} (hb : Below w.heap.size w W) (hK : K < w.heap.size) (h : Coll1B W K B1 B2 id pid w') : Coll2 w w.heap.size K B2 id pid w' := by
  obtain ⟨g, off, c, g2, off2, c2, h1, h2, h3, h4, h5, h6⟩ := h
  have := hb.size
  exact ⟨g, off, c, g2, off2, c2, h1, h2.mono hb.size, h3.mono hb.size, h4, fun k hk k1 k2 => (h5 k (by omega) k1 k2).trans (hb.block k hk), fun B v0 hb0 hB => h6 B v0 (hb0.trans (hb.mono (by omega))) hB⟩
theorem Coll2.step {w w' w'' : World} {lim K B2 wk : Nat} {id pid : ByteArray} (h : Coll2 w lim K B2 id pid w') (hkw : wk < w.heap.size) (hwk : K < wk) (hwb : B2 < wk) (hB2 : B2 < w.heap.size) (hl : lim ≤ w.heap.size) (hs : w.heap.size ≤ w'.heap.size) (hx : w'.heap.size ≤ w''.heap.size) (hf : ∀ k, k < w'.heap.size → k ≠ wk → w''.heap[k]? = w'.heap[k]?) (hb : ∀ B v0, Below B v0 w' → B ≤ wk → Below B v0 w'') : Coll2 w (min lim wk) K B2 id pid w'' := by
  obtain ⟨g, off, c, g2, off2, c2, h1, h2, h3, h4, h5, h6⟩ := h
  have hkp : Keeps w.heap.size w' w'' := ⟨hx, fun k hk hk2 => hf k hk2 (by omega)⟩
  exact ⟨g, off, c, g2, off2, c2, (hf K (by omega) (by omega)).trans h1, h2.keep hkp, h3.keep hkp, (hf B2 (by omega) (by omega)).trans h4, fun k hk k1 k2 => (hf k (by omega) (by omega)).trans (h5 k (by omega) k1 k2), fun B v0 h0 hB => hb B v0 (h6 B v0 h0 hB) (by omega)⟩

set_option maxRecDepth 100000 in
set_option maxHeartbeats 2000000 in
theorem walker1_m (w : World) (K B1 B2 wk : Nat) (id pid : ByteArray) (h : SeekM w K B1 B2 id pid) (hB2 : B2 < wk)
    (hw : w.heap[wk]? = some (.cells #[.slice none 0 0, .func (.func 30) #[] #[.pointer (some ⟨B1, 0, none⟩), .pointer (some ⟨B2, 0, none⟩)]] 73 (0, 0))) :
    Calls Tryz.prog 44 #[.pointer (some ⟨wk, 0, none⟩), .agg (itemM pid)] w fun e w' => e = .returned (.bool true) ∧ Coll2 w wk K B2 id pid w' := by
  obtain ⟨i1, hi1, hz10, hz11, hz12⟩ := info_parts infoMText
  have hE := enters_of Tryz.func30 (by kernel_rfl) rfl
  have HF := Lib.hid (fun (W : World) (hb : Below w.heap.size w W) => have k := h.below hb; (coll1_x W K B1 B2 id pid k.hb2.choose k.h1 k.h2 k.h3 k.hk k.hb1 k.hb2.choose_spec).mono fun _ _ hx => And.intro hx.1 (And.intro (Coll2.of hb (by have := h.h1; have := h.h2; have := h.h3; omega) hx.2) hx.2))
  have hwk : wk < w.heap.size := (Array.getElem?_eq_some_iff.1 hw).1
  have hKw : K < wk := by have := h.h1; have := h.h2; omega
  have HH := Lib.hid h
  have c0 : w.cell? ⟨wk, 0, none⟩ = some (.slice none 0 0) := by simp [World.cell?, hw]
  have c1 : w.cell? ⟨wk, 1, none⟩ = some (.func (.func 30) #[] #[.pointer (some ⟨B1, 0, none⟩), .pointer (some ⟨B2, 0, none⟩)]) := by simp [World.cell?, hw]
  have HW := Lib.hid hw
  clear h hw
  unfold itemM at HF ⊢
  go_enter Tryz.func44, Tryz.ntmps44
  go_wp2_with fail
  go_cut [19] (fun x wx => ∃ W, W = wx ∧ x = .bool false ∧ Coll2 w w.heap.size K B2 id pid W ∧ Coll1B (w.alloc (.cells (itemM pid) 36)).drew K B1 B2 id pid W)
  case first =>
    go_region_law (go_simp; go_at_call 30; refine (HF.out _ (((Below.refl _ _).alloc (Nat.le_refl _) _).drew)).mono ?_; rintro e w2 ⟨rfl, hx, hx2⟩; have HX := Lib.hid hx; have HX2 := Lib.hid hx2; clear hx hx2)
    all_goals
      go_wp2_with fail
      go_meet
      exact ⟨_, rfl, rfl, HX.out, HX2.out⟩
  case rest =>
    obtain ⟨w2, hWX, rfl, hx, hx2⟩ := hcut
    subst hWX
    have HX := Lib.hid hx
    have HX2 := Lib.hid hx2
    clear hx hx2
    go_wp2_with fail
    obtain ⟨x1, x2, x3, x4, x5, x6, _, _, _, _, hkp, _⟩ := HX2.out
    have hib : w2.heap[w.heap.size]? = some (.cells #[.string pid, .string ⟨#[]⟩, .int .i64 0, .slice none 0 0, .slice none 0 0, .string ⟨#[]⟩, .string ⟨#[]⟩, .string ⟨#[]⟩, .bool false, .bool false, .int .i64 0, .slice none 0 0, .slice none 0 0, .slice none 0 0] 36 (0, 0)) := (hkp w.heap.size (by simp) (by omega) (by omega)).trans (heap_alloc_new w _)
    clear hkp
    obtain ⟨y1, y2, y3, y4, y5, y6, _, _, _, _, hkq, hbq⟩ := HX.out
    have hwb : w2.heap[wk]? = _ := (hkq wk hwk (by omega) (by omega)).trans HW.out
    have hs2 : w.heap.size + 1 ≤ w2.heap.size := (Array.getElem?_eq_some_iff.1 hib).1
    have HIB := Lib.hid hib
    have HWB := Lib.hid hwb
    clear hkq hbq
    obtain ⟨p0, p1, p2, p3, p4, p5, p6, p7, p8, p9, p10, p11, p12, p13, pz⟩ := cells14m hib
    have e0 : w2.cell? ⟨wk, 0, none⟩ = some (.slice none 0 0) := by simp [World.cell?, hwb]
    have ez : ∀ o, w2.frozen? ⟨wk, o, none⟩ = false := fun o => by simp [World.frozen?, hwb]
    have l1 : wk < w2.heap.size := by omega
    have l2 : w.heap.size < w2.heap.size := by omega
    clear hib hwb c0 c1
    go_cut [] (fun wx => ∃ W g off c, W = wx ∧ W.heap[wk]? = some (.cells #[.slice (some ⟨g, off, none⟩) 1 c, .func (.func 30) #[] #[.pointer (some ⟨B1, 0, none⟩), .pointer (some ⟨B2, 0, none⟩)]] 73 (0, 0)) ∧ 1 ≤ c ∧ c ≤ maxLen ∧ w2.heap.size ≤ W.heap.size ∧ (∀ k, k < w2.heap.size → k ≠ wk → W.heap[k]? = w2.heap[k]?) ∧ (∀ B v0, Below B v0 w2 → B ≤ wk → Below B v0 W))
    case first =>
      go_region_law (first
        | (refine step_append_nil (by rfl) (Operand.tmp 24) (Operand.tmp 27) 30 30 (by rfl) (w.heap.size + 1) 9 i1 (.string ⟨#[]⟩) 1 16 Tryz.underlying30 hi1 hz10 hz11 hz12 rfl (by decide) (by rfl) (.slice (some ⟨w2.heap.size, 0, none⟩) 1 1) 1 [.string pid] (by rfl) (srcM_text (heap_alloc_new w2 _)) (by unfold maxLen; omega) (by omega) (by simp; omega) ?_
           intro v5 w5 hown5 hgrow5
           obtain ⟨g5, off5, c5, hv5, hg5, hgl5, ow5⟩ := (OwnS.ofRow hown5).own1 (by omega)
           subst hv5
           have hgb5 : ∀ k, k < w2.heap.size → w5.heap[k]? = w2.heap[k]? := fun k hk => (hgrow5.block k (by simp; omega) (by simp)).trans (Below.heap_alloc w2 _ k hk)
           have HGB5 := Lib.hid hgb5
           have HC5 := Lib.hid (show 1 ≤ c5 ∧ c5 ≤ maxLen from by obtain ⟨_, _, _, q1, q2, _⟩ := ow5; exact ⟨q1, q2⟩)
           have hq5 := (hgb5 wk l1).trans HWB.out
           have HQ5 := Lib.hid hq5
           have HBel5 := Lib.hid (fun B v0 (hb : Below B v0 w2) (hB : B ≤ w2.heap.size) => ((hb.alloc hB _).drew).grown hgrow5 (by simp; omega) (fun k ek => by cases ek))
           have HS5 := Lib.hid (show w2.heap.size ≤ w5.heap.size from by have := hgrow5.size; simp at this; omega)
           have n0 : w5.cell? ⟨wk, 0, none⟩ = some (.slice none 0 0) := by simp [World.cell?, hq5]
           have nz : ∀ o, w5.frozen? ⟨wk, o, none⟩ = false := fun o => by simp [World.frozen?, hq5]
           clear hown5 hgrow5 hgb5 hq5 ow5)
        | fail "no arm")
      all_goals
        go_wp2_with fail
        go_meet
        refine ⟨_, g5, off5, c5, rfl, ?_, HC5.out.1, HC5.out.2, by rw [World.size_setCell]; exact HS5.out, fun k hk kk => (setX_far w5 kk _).trans (HGB5.out k hk), fun B v0 hb hB => (HBel5.out B v0 hb (by omega)).setCell (p := ⟨wk, 0, none⟩) hB _⟩
        simp [World.setCell, Array.getElem?_modify, HQ5.out]
    case rest =>
      obtain ⟨W, g, off, c, hWX, hq, hc1, hc2, hsz, hfr, hbl⟩ := hcut
      subst hWX
      have HQ := Lib.hid hq
      have HFR := Lib.hid hfr
      have HBL := Lib.hid hbl
      have HSZ := Lib.hid hsz
      clear p0 p1 p2 p3 p4 p5 p6 p7 p8 p9 p10 p11 p12 p13 pz e0 ez
      obtain ⟨p0, p1, p2, p3, p4, p5, p6, p7, p8, p9, p10, p11, p12, p13, pz⟩ := cells14m ((hfr w.heap.size l2 (by omega)).trans HIB.out)
      have e0 : W.cell? ⟨wk, 0, none⟩ = some (.slice (some ⟨g, off, none⟩) 1 c) := by simp [World.cell?, hq]
      have ez : ∀ o, W.frozen? ⟨wk, o, none⟩ = false := fun o => by simp [World.frozen?, hq]
      have i0 : ∀ W : World, (Instr.index 87 (.agg #[.slice none 0 0, .slice none 0 0]) (.int .i64 0)).run Tryz.prog W = .ok (.slice none 0 0) W := fun _ => by kernel_rfl
      have i1 : ∀ W : World, (Instr.index 87 (.agg #[.slice none 0 0, .slice none 0 0]) (.int .i64 1)).run Tryz.prog W = .ok (.slice none 0 0) W := fun _ => by kernel_rfl
      clear hq hfr hbl hsz
      unfold maxLen at hc2
      go_wp2_with fail
      refine wp_loop_rounds 3 ?_
      rw [rounds_succ]
      go_wp2_with fail
      refine wp_loop_rounds 1 ?_
      rw [rounds_succ]
      go_wp2_with fail
      rw [rounds_succ]
      go_wp2_with fail
      refine wp_loop_rounds 1 ?_
      rw [rounds_succ]
      go_wp2_with fail
      rw [rounds_succ]
      go_wp2_with fail
      go_region
      all_goals
        go_wp2_with fail
        go_ret
        refine ⟨rfl, ?_⟩
        have hmin : min w.heap.size wk = wk := by omega
        have hst := HX.out.step (wk := wk) (w'' := (W.setCell ⟨wk, 0, none⟩ (.slice (some ⟨g, off, none⟩) 0 c)).drew) hwk hKw (by omega) (by omega) (Nat.le_refl _) (by omega) (by have := HSZ.out; simpa [World.setCell] using this) (fun k hk kk => (setX_far W kk _).trans (HFR.out k hk kk)) (fun B v0 hb hB => ((HBL.out B v0 hb hB).setCell (p := ⟨wk, 0, none⟩) hB _).drew)
        rw [hmin] at hst
        exact hst
end Go.Proofs.YthkkoippagocpaaGreatDoor
