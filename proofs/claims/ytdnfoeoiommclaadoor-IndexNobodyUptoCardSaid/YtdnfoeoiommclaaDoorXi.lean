/- An index at constants: the map's operations. -/
import Derived.Test.YtdnfoeoiommclaaDoorXh
import Derived.WideKeyEntry
import Derived.Test.YtdnfoeoiommclaaDoorZc
namespace Go.Proofs.YtdnfoeoiommclaaDoor
open Go Go.RowKit Go.Shelf Go.ChangeMaps
set_option linter.unusedVariables false
set_option linter.unusedSimpArgs false

abbrev keyA : Value := .agg #[.bool false, .string ⟨#[97]⟩, .int .i64 7]
theorem keyX_check (W : World) (f : Bool) (s : ByteArray) (n : Int) (b : Bool) : (Instr.checkKey b 10000 73 (.agg #[.bool f, .string s, .int .i64 n])).run Tryd.prog W = .ok () W := by kernel_rfl
theorem zeroX_hooks (W : World) : (zeroValue 45).run Tryd.prog W = .ok (.slice none 0 0) W := by kernel_rfl
theorem lookX_nil (W : World) (f : Bool) (s : ByteArray) (n : Int) : (Instr.lookup 39 (.map none) (.agg #[.bool f, .string s, .int .i64 n]) false).run Tryd.prog W = .ok (.slice none 0 0) W := by kernel_rfl
theorem findX_none (W : World) : (Instr.findKey 73 keyA []).run Tryd.prog W = .ok none W := by kernel_rfl
theorem findX_one (W : World) (v : Value) : (Instr.findKey 73 keyA [⟨keyA, v, 0⟩]).run Tryd.prog W = .ok (some (0, v)) W := by kernel_rfl
theorem entryX_run (W : World) (M : Nat) (h : W.heap[M]? = some (.map #[] 0)) : (Instr.mapEntry 39 (.map (some M)) keyA).run Tryd.prog W = .ok (.tuple #[.slice none 0 0, .int .i64 0]) (setBlock W M (.map #[⟨keyA, .slice none 0 0, 0⟩] 1)) := by
  simp [Instr.mapEntry, run_underlying Tryd.underlying39, MapKept.run_getObj_map h, keyX_check, findX_none, zeroX_hooks, MapKept.run_setObj_map _ h, setBlock, Result.andThen]
  rfl
theorem lookX_one (W : World) (M : Nat) (v : Value) (h : W.heap[M]? = some (.map #[⟨keyA, v, 0⟩] 1)) : (Instr.lookup 39 (.map (some M)) keyA false).run Tryd.prog W = .ok v W := by
  simp [Instr.lookup, run_underlying Tryd.underlying39, MapKept.run_getObj_map h, keyX_check, findX_one, zeroX_hooks, Result.andThen]
theorem storeX_run (W : World) (M : Nat) (v u : Value) (h : W.heap[M]? = some (.map #[⟨keyA, u, 0⟩] 1)) : (Instr.entryStore 39 (.map (some M)) (.int .i64 0) v).run Tryd.prog W = .ok () (setBlock W M (.map #[⟨keyA, v, 0⟩] 1)) := by
  simp [Instr.entryStore, MapKept.run_getObj_map h, asInt, asIntOf, MapKept.run_setObj_map _ h, setBlock]

/-- A block that is written whole. -/
def After (w : World) (M : Nat) (o : Obj) (w' : World) : Prop := w'.heap[M]? = some o ∧ w'.heap.size = w.heap.size ∧ (∀ k, k ≠ M → w'.heap[k]? = w.heap[k]?) ∧ (∀ B w0, Below B w0 w → B ≤ M → Below B w0 w')
theorem afterX (w : World) (M : Nat) (o u : Obj) (h : w.heap[M]? = some u) : After w M o (setBlock w M o) := by
  have hl := (Array.getElem?_eq_some_iff.1 h).1
  refine ⟨by simp [setBlock, hl], by simp [setBlock], fun k hk => by simp only [setBlock, Array.getElem?_setIfInBounds]; rw [if_neg (by omega)], fun B w0 hb hM => hb.trans ⟨rfl, rfl, rfl, by simp [setBlock], fun k hk => ?_⟩⟩
  simp only [setBlock, Array.getElem?_setIfInBounds]
  rw [if_neg (by omega)]
theorem entryX_ex (W : World) (M : Nat) (h : W.heap[M]? = some (.map #[] 0)) : ∃ W1, (Instr.mapEntry 39 (.map (some M)) keyA).run Tryd.prog W = .ok (.tuple #[.slice none 0 0, .int .i64 0]) W1 ∧ After W M (.map #[⟨keyA, .slice none 0 0, 0⟩] 1) W1 :=
  ⟨_, entryX_run W M h, afterX W M _ _ h⟩
theorem storeX_ex (W : World) (M : Nat) (v u : Value) (h : W.heap[M]? = some (.map #[⟨keyA, u, 0⟩] 1)) : ∃ W1, (Instr.entryStore 39 (.map (some M)) (.int .i64 0) v).run Tryd.prog W = .ok () W1 ∧ After W M (.map #[⟨keyA, v, 0⟩] 1) W1 :=
  ⟨_, storeX_run W M v u h, afterX W M _ _ h⟩

/-- An index's cells: the model and the map. -/
def indexX (kids : Value) (M : Nat) : Array Value := #[.string ⟨#[]⟩, .string ⟨#[]⟩, .slice none 0 0, .slice none 0 0, .string ⟨#[112]⟩, .string ⟨#[]⟩, .int .i64 0, .slice none 0 0, .slice none 0 0, .string ⟨#[]⟩, .string ⟨#[]⟩, .string ⟨#[]⟩, .bool false, .bool false, .int .i64 0, .slice none 0 0, kids, .slice none 0 0, .map (some M)]
def hookX : List Value := [.string ⟨#[98]⟩, .bool true, .int .i64 0, .int .i64 0]
def HungB (w : World) (M : Nat) (w' : World) : Prop :=
  ∃ v, w'.heap[M]? = some (.map #[⟨keyA, v, 0⟩] 1) ∧ Row w.heap.size w' v 1 4 hookX ∧ (∀ k, k < w.heap.size → k ≠ M → w'.heap[k]? = w.heap[k]?) ∧ (∀ B w0, Below B w0 w → B ≤ M → Below B w0 w')

theorem srcX_hook {W : World} {g : Nat} (h : W.heap[g]? = some (.cells #[.string ⟨#[98]⟩, .bool true, .int .i64 0, .int .i64 0] 63 (0, 0))) : Src Tryd.prog 4 45 (.slice (some ⟨g, 0, none⟩) 1 1) 1 hookX W := by
  refine Src.ofSlice W Tryd.underlying45 ⟨g, 0, none⟩ 1 1 hookX rfl (fun j u hu => ?_) (by simp [hookX, Value.oneCell'])
  rw [Addr.add_lit, cell_of_row W g (0 + j) _ _ _ h, Nat.zero_add, ← hu]
  simp [hookX]
theorem hungX {w w0 W1 W2 W3 w' W4 : World} {M c : Nat} {p : Option Addr} {o : Obj} (h0 : Below w.heap.size w w0) (hM : M < w.heap.size) (h1 : Below w0.heap.size w0 W1) (a1 : After W1 M o W2) (h2 : Below W2.heap.size W2 W3)
    (hg : W3.grownBy w' none) (own : w'.ownsRow w0.heap.size 63 4 (.slice p 1 c) 1 hookX) (a4 : After w' M (.map #[⟨keyA, .slice p 1 c, 0⟩] 1) W4) : HungB w M W4 := by
  have s0 := h0.size
  have s1 := h1.size
  have s2 := a1.2.1
  have s3 := h2.size
  have s4 : W3.heap.size ≤ w'.heap.size := hg.size
  refine ⟨_, a4.1, ?_, fun k hk kM => ?_, fun B v0 hb hB => ?_⟩
  · obtain ⟨g, off, cc, hv, hg1, hl, ow⟩ := (OwnS.ofRow own).own1 (by omega)
    simp only [Value.slice.injEq, true_and] at hv
    obtain ⟨rfl, rfl⟩ := hv
    exact (ow.keep (a4.2.2.1 g (by omega))).row (by simp [hookX, Value.oneCell']) _ (by omega)
  · rw [a4.2.2.1 k kM, hg.block k (by omega) (by simp), h2.block k (by omega), a1.2.2.1 k kM, h1.block k (by omega), h0.block k hk]
  · refine a4.2.2.2 B v0 ?_ hB
    have e1 : Below B v0 W2 := a1.2.2.2 B v0 ((hb.trans (h0.mono (by omega))).trans (h1.mono (by omega))) hB
    exact (e1.trans (h2.mono (by omega))).grown hg (by omega) (fun k ek => by cases ek)

set_option maxRecDepth 100000 in
set_option maxHeartbeats 1000000 in
theorem hang_x (w : World) (X M : Nat) (kids : Value) (hx : w.heap[X]? = some (.cells (indexX kids M) 41 (0, 0))) (hm : w.heap[M]? = some (.map #[] 0)) :
    Calls Tryd.prog 47 #[.pointer (some ⟨X, 0, none⟩), keyA, .agg hookX.toArray] w fun e w' => e = .returned (.tuple #[]) ∧ HungB w M w' := by
  obtain ⟨i0, hi, hz0, hz1, hz2⟩ := info_parts infoXHook
  obtain ⟨w0, hw0⟩ : ∃ x, x = (w.alloc (.cells #[.bool false, .string ⟨#[97]⟩, .int .i64 7] 73)).alloc (.cells #[.string ⟨#[98]⟩, .bool true, .int .i64 0, .int .i64 0] 63) := ⟨_, rfl⟩
  have hbw : Below w.heap.size w w0 := by rw [hw0]; exact (box_bel' w _).alloc (box_bel' w _).size _
  have hq1 : w0.heap[w.heap.size]? = some (.cells #[.bool false, .string ⟨#[97]⟩, .int .i64 7] 73 (0, 0)) := by rw [hw0]; exact two_old w _ _
  have hq2 : w0.heap[w.heap.size + 1]? = some (.cells #[.string ⟨#[98]⟩, .bool true, .int .i64 0, .int .i64 0] 63 (0, 0)) := by rw [hw0]; exact two_new w _ _
  have hsw : w0.heap.size = w.heap.size + 2 := by rw [hw0]; simp
  have hMl := (Array.getElem?_eq_some_iff.1 hm).1
  have hXl := (Array.getElem?_eq_some_iff.1 hx).1
  have hm0 := (hbw.block M hMl).trans hm
  have hx0 := (hbw.block X hXl).trans hx
  have x18 : w0.cell? ⟨X, 18, none⟩ = some (.map (some M)) := by simp [World.cell?, hx0, indexX]
  have k0 : w0.cell? ⟨w.heap.size, 0, none⟩ = some (.bool false) := by simp [World.cell?, hq1]
  have k1 : w0.cell? ⟨w.heap.size, 1, none⟩ = some (.string ⟨#[97]⟩) := by simp [World.cell?, hq1]
  have k2 : w0.cell? ⟨w.heap.size, 2, none⟩ = some (.int .i64 7) := by simp [World.cell?, hq1]
  have l0 : w0.cell? ⟨w.heap.size + 1, 0, none⟩ = some (.string ⟨#[98]⟩) := by simp [World.cell?, hq2]
  have l1 : w0.cell? ⟨w.heap.size + 1, 1, none⟩ = some (.bool true) := by simp [World.cell?, hq2]
  have l2 : w0.cell? ⟨w.heap.size + 1, 2, none⟩ = some (.int .i64 0) := by simp [World.cell?, hq2]
  have l3 : w0.cell? ⟨w.heap.size + 1, 3, none⟩ = some (.int .i64 0) := by simp [World.cell?, hq2]
  have lX : X < w0.heap.size := by omega
  have lK : w.heap.size < w0.heap.size := by omega
  have lH : w.heap.size + 1 < w0.heap.size := by omega
  obtain ⟨WA, hA, hA1⟩ := entryX_ex w0.drew M hm0
  obtain ⟨WB, hB, hB1⟩ := entryX_ex (w0.alloc (.cells #[.string ⟨#[98]⟩, .bool true, .int .i64 0, .int .i64 0] 63)).drew M ((Below.heap_alloc w0 _ M (by omega)).trans hm0)
  have hwa : WA.heap[w.heap.size + 1]? = some (.cells #[.string ⟨#[98]⟩, .bool true, .int .i64 0, .int .i64 0] 63 (0, 0)) := (hA1.2.2.1 _ (by omega)).trans hq2
  have a0 : WA.cell? ⟨w.heap.size + 1, 0, none⟩ = some (.string ⟨#[98]⟩) := by simp [World.cell?, hwa]
  have a1 : WA.cell? ⟨w.heap.size + 1, 1, none⟩ = some (.bool true) := by simp [World.cell?, hwa]
  have a2 : WA.cell? ⟨w.heap.size + 1, 2, none⟩ = some (.int .i64 0) := by simp [World.cell?, hwa]
  have a3 : WA.cell? ⟨w.heap.size + 1, 3, none⟩ = some (.int .i64 0) := by simp [World.cell?, hwa]
  have HW0 := Lib.hid hw0
  have HA1 := Lib.hid hA1
  have HB1 := Lib.hid hB1
  have HSW := Lib.hid hsw
  have HBW := Lib.hid hbw
  have HMW := Lib.hid hMl
  clear hwa hw0 hbw hq1 hq2 hsw hm0 hx0 hA1 hB1 hx hm hMl
  unfold hookX
  go_enter Tryd.func47, Tryd.ntmps47
  go_upto_region 1 with (fail)
  rw [← HW0.out]
  go_region_law (first
    | (refine step_append_nil (by rfl) (Operand.tmp 11) (Operand.tmp 13) 45 45 (by rfl) w0.heap.size 63 i0 (.agg #[.string ⟨#[]⟩, .bool false, .int .i64 0, .int .i64 0]) 4 40 Tryd.underlying45 hi hz0 hz1 hz2 rfl (by decide) (by rfl) (.slice (some ⟨w0.heap.size, 0, none⟩) 1 1) 1 hookX (by rfl) (srcX_hook ((HB1.out.2.2.1 _ (by have := HSW.out; have := HMW.out; omega)).trans (heap_alloc_new w0 _))) (by unfold maxLen; omega) (by omega) (by have := HB1.out.2.1; simp at this; omega) ?_
       intro v' w' hown hgrow
       obtain ⟨p, c, hv, _⟩ := (OwnS.ofRow hown).form
       subst hv
       obtain ⟨W4, hst, haf⟩ := storeX_ex w' M (.slice p 1 c) _ ((hgrow.block M (by have := HB1.out.2.1; simp at this; have := HSW.out; have := HMW.out; omega) (by simp)).trans HB1.out.1)
       have HH := Lib.hid (hungX HBW.out HMW.out (((Below.refl w0.heap.size w0).alloc (Nat.le_refl _) _).drew) HB1.out (Below.refl _ _) hgrow hown haf)
       clear hown hgrow haf)
    | (refine step_append_nil (by rfl) (Operand.tmp 11) (Operand.tmp 13) 45 45 (by rfl) w0.heap.size 63 i0 (.agg #[.string ⟨#[]⟩, .bool false, .int .i64 0, .int .i64 0]) 4 40 Tryd.underlying45 hi hz0 hz1 hz2 rfl (by decide) (by rfl) (.slice (some ⟨WA.heap.size, 0, none⟩) 1 1) 1 hookX (by rfl) (srcX_hook (heap_alloc_new WA _)) (by unfold maxLen; omega) (by omega) (by have := HA1.out.2.1; simp at this; simp; omega) ?_
       intro v' w' hown hgrow
       obtain ⟨p, c, hv, _⟩ := (OwnS.ofRow hown).form
       subst hv
       obtain ⟨W4, hst, haf⟩ := storeX_ex w' M (.slice p 1 c) _ ((hgrow.block M (by have := HA1.out.2.1; simp at this; simp; have := HSW.out; have := HMW.out; omega) (by simp)).trans ((Below.heap_alloc WA _ M (by have := HA1.out.2.1; simp at this; have := HSW.out; have := HMW.out; omega)).trans HA1.out.1))
       have HH := Lib.hid (hungX HBW.out HMW.out ((Below.refl w0.heap.size w0).drew) HA1.out ((Below.refl _ _).alloc (Nat.le_refl _) _) hgrow hown haf)
       clear hown hgrow haf)
    | fail "no arm")
  all_goals
    go_wp2_with fail
    refine bodyPost_end (v := .tuple #[]) (by simp [results, Tryd.results47, go_sem]) rfl ?_
    exact ⟨rfl, HH.out⟩
end Go.Proofs.YtdnfoeoiommclaaDoor
