/- An index at constants: the map's operations. -/
import Derived.Test.YtllhlmdhnmdihaaDoorMi07
import Derived.WideKeyEntry
namespace Go.Proofs.YtllhlmdhnmdihaaDoor
open Go Go.RowKit Go.Shelf Go.ChangeMaps
set_option linter.unusedVariables false
set_option linter.unusedSimpArgs false

abbrev keyA : Value := .agg #[.bool false, .string ⟨#[97]⟩, .int .i64 7]
theorem keyX_check (W : World) (f : Bool) (s : ByteArray) (n : Int) (b : Bool) : (Instr.checkKey b 10000 73 (.agg #[.bool f, .string s, .int .i64 n])).run Tryd.prog W = .ok () W := by kernel_rfl
theorem zeroX_hooks (W : World) : (zeroValue 45).run Tryd.prog W = .ok (.slice none 0 0) W := by kernel_rfl
theorem lookX_nil (W : World) (f : Bool) (s : ByteArray) (n : Int) : (Instr.lookup 39 (.map none) (.agg #[.bool f, .string s, .int .i64 n]) false).run Tryd.prog W = .ok (.slice none 0 0) W := by kernel_rfl
theorem findX_none (W : World) : (Instr.findKey 73 keyA []).run Tryd.prog W = .ok none W := by kernel_rfl
theorem findX_one (W : World) (v : Value) : (Instr.findKey 73 keyA [⟨keyA, v, 0⟩]).run Tryd.prog W = .ok (some (0, v)) W := by kernel_rfl
theorem entryX_run (W : World) (M : Nat) (h : W.heap[M]? = some (.map #[] 0)) : (Instr.mapEntry 39 (.map (some M)) keyA).run Tryd.prog W = .ok (.tuple #[.slice none 0 0, .int .i64 0]) (setBlock W M (.map #[⟨keyA, .slice none 0 0, 0⟩] 1)) := by
  simp [Instr.mapEntry, run_underlying Tryd.underlying39, MapKept.run_getObj_map h, keyX_check, findX_none, zeroX_hooks, MapKept.run_setObj_map _ h, setBlock, Result.andThen]
  rfl
theorem lookX_one (W : World) (M : Nat) (v : Value) (h : W.heap[M]? = some (.map #[⟨keyA, v, 0⟩] 1)) : (Instr.lookup 39 (.map (some M)) keyA false).run Tryd.prog W = .ok v W := by
  simp [Instr.lookup, run_underlying Tryd.underlying39, MapKept.run_getObj_map h, keyX_check, findX_one, zeroX_hooks, Result.andThen]
theorem storeX_run (W : World) (M : Nat) (v u : Value) (h : W.heap[M]? = some (.map #[⟨keyA, u, 0⟩] 1)) : (Instr.entryStore 39 (.map (some M)) (.int .i64 0) v).run Tryd.prog W = .ok () (setBlock W M (.map #[⟨keyA, v, 0⟩] 1)) := by
  simp [Instr.entryStore, MapKept.run_getObj_map h, asInt, asIntOf, MapKept.run_setObj_map _ h, setBlock]

/-- A block that is written whole. -/
def After (w : World) (M : Nat) (o : Obj) (w' : World) : Prop := w'.heap[M]? = some o ∧ w'.heap.size = w.heap.size ∧ (∀ k, k ≠ M → w'.heap[k]? = w.heap[k]?) ∧ (∀ B w0, Below B w0 w → B ≤ M → Below B w0 w')
theorem afterX (w : World) (M : Nat) (o u : Obj) (h : w.heap[M]? = some u) : After w M o (setBlock w M o) := by
  have hl := (Array.getElem?_eq_some_iff.1 h).1
  refine ⟨by simp [setBlock, hl], by simp [setBlock], fun k hk => by simp only [setBlock, Array.getElem?_setIfInBounds]; rw [if_neg (by omega)], fun B w0 hb hM => hb.trans ⟨rfl, rfl, rfl, by simp [setBlock], fun k hk => ?_⟩⟩
  simp only [setBlock, Array.getElem?_setIfInBounds]
  rw [if_neg (by omega)]
theorem entryX_ex (W : World) (M : Nat) (h : W.heap[M]? = some (.map #[] 0)) : ∃ W1, (Instr.mapEntry 39 (.map (some M)) keyA).run Tryd.prog W = .ok (.tuple #[.slice none 0 0, .int .i64 0]) W1 ∧ After W M (.map #[⟨keyA, .slice none 0 0, 0⟩] 1) W1 :=
  ⟨_, entryX_run W M h, afterX W M _ _ h⟩
theorem storeX_ex (W : World) (M : Nat) (v u : Value) (h : W.heap[M]? = some (.map #[⟨keyA, u, 0⟩] 1)) : ∃ W1, (Instr.entryStore 39 (.map (some M)) (.int .i64 0) v).run Tryd.prog W = .ok () W1 ∧ After W M (.map #[⟨keyA, v, 0⟩] 1) W1 :=
  ⟨_, storeX_run W M v u h, afterX W M _ _ h⟩

def hookX : List Value := [.string ⟨#[98]⟩, .bool true, .int .i64 0, .int .i64 0]
def HungB (w : World) (M : Nat) (w' : World) : Prop :=
  ∃ v, w'.heap[M]? = some (.map #[⟨keyA, v, 0⟩] 1) ∧ Row w.heap.size w' v 1 4 hookX ∧ (∀ k, k < w.heap.size → k ≠ M → w'.heap[k]? = w.heap[k]?) ∧ (∀ B w0, Below B w0 w → B ≤ M → Below B w0 w')

theorem srcX_hook {W : World} {g : Nat} (h : W.heap[g]? = some (.cells #[.string ⟨#[98]⟩, .bool true, .int .i64 0, .int .i64 0] 63 (0, 0))) : Src Tryd.prog 4 45 (.slice (some ⟨g, 0, none⟩) 1 1) 1 hookX W := by
  refine Src.ofSlice W Tryd.underlying45 ⟨g, 0, none⟩ 1 1 hookX rfl (fun j u hu => ?_) (by simp [hookX, Value.oneCell'])
  rw [Addr.add_lit, cell_of_row W g (0 + j) _ _ _ h, Nat.zero_add, ← hu]
  simp [hookX]
theorem hungX {w w0 W1 W2 W3 w' W4 : World} {M c : Nat} {p : Option Addr} {o : Obj} (h0 : Below w.heap.size w w0) (hM : M < w.heap.size) (h1 : Below w0.heap.size w0 W1) (a1 : After W1 M o W2) (h2 : Below W2.heap.size W2 W3)
    (hg : W3.grownBy w' none) (own : w'.ownsRow w0.heap.size 63 4 (.slice p 1 c) 1 hookX) (a4 : After w' M (.map #[⟨keyA, .slice p 1 c, 0⟩] 1) W4) : HungB w M W4 := by
  have s0 := h0.size
  have s1 := h1.size
  have s2 := a1.2.1
  have s3 := h2.size
  have s4 : W3.heap.size ≤ w'.heap.size := hg.size
  refine ⟨_, a4.1, ?_, fun k hk kM => ?_, fun B v0 hb hB => ?_⟩
  · obtain ⟨g, off, cc, hv, hg1, hl, ow⟩ := (OwnS.ofRow own).own1 (by omega)
    simp only [Value.slice.injEq, true_and] at hv
    obtain ⟨rfl, rfl⟩ := hv
    exact (ow.keep (a4.2.2.1 g (by omega))).row (by simp [hookX, Value.oneCell']) _ (by omega)
  · rw [a4.2.2.1 k kM, hg.block k (by omega) (by simp), h2.block k (by omega), a1.2.2.1 k kM, h1.block k (by omega), h0.block k hk]
  · refine a4.2.2.2 B v0 ?_ hB
    have e1 : Below B v0 W2 := a1.2.2.2 B v0 ((hb.trans (h0.mono (by omega))).trans (h1.mono (by omega))) hB
    exact (e1.trans (h2.mono (by omega))).grown hg (by omega) (fun k ek => by cases ek)

set_option maxRecDepth 100000 in
set_option maxHeartbeats 1000000 in
theorem hang_x (w : World) (X M : Nat) (hx : w.cell? ⟨X, 18, none⟩ = some (.map (some M))) (hXl : X < w.heap.size) (hm : w.heap[M]? = some (.map #[] 0)) :
    Calls Tryd.prog 35 #[.pointer (some ⟨X, 0, none⟩), keyA, .agg hookX.toArray] w fun e w' => e = .returned (.tuple #[]) ∧ HungB w M w' := by
  obtain ⟨i0, hi, hz0, hz1, hz2⟩ := info_parts infoXHook
  obtain ⟨w0, hw0⟩ : ∃ x, x = (w.alloc (.cells #[.bool false, .string ⟨#[97]⟩, .int .i64 7] 73)).alloc (.cells #[.string ⟨#[98]⟩, .bool true, .int .i64 0, .int .i64 0] 63) := ⟨_, rfl⟩
  have hbw : Below w.heap.size w w0 := by rw [hw0]; exact (box_bel' w _).alloc (box_bel' w _).size _
  have hq1 : w0.heap[w.heap.size]? = some (.cells #[.bool false, .string ⟨#[97]⟩, .int .i64 7] 73 (0, 0)) := by rw [hw0]; exact two_old w _ _
  have hq2 : w0.heap[w.heap.size + 1]? = some (.cells #[.string ⟨#[98]⟩, .bool true, .int .i64 0, .int .i64 0] 63 (0, 0)) := by rw [hw0]; exact two_new w _ _
  have hsw : w0.heap.size = w.heap.size + 2 := by rw [hw0]; simp
  have hMl := (Array.getElem?_eq_some_iff.1 hm).1
  have hm0 := (hbw.block M hMl).trans hm
  have x18 : w0.cell? ⟨X, 18, none⟩ = some (.map (some M)) := (hbw.cell (p := ⟨X, 18, none⟩) hXl).trans hx
  have k0 : w0.cell? ⟨w.heap.size, 0, none⟩ = some (.bool false) := by simp [World.cell?, hq1]
  have k1 : w0.cell? ⟨w.heap.size, 1, none⟩ = some (.string ⟨#[97]⟩) := by simp [World.cell?, hq1]
  have k2 : w0.cell? ⟨w.heap.size, 2, none⟩ = some (.int .i64 7) := by simp [World.cell?, hq1]
  have l0 : w0.cell? ⟨w.heap.size + 1, 0, none⟩ = some (.string ⟨#[98]⟩) := by simp [World.cell?, hq2]
  have l1 : w0.cell? ⟨w.heap.size + 1, 1, none⟩ = some (.bool true) := by simp [World.cell?, hq2]
  have l2 : w0.cell? ⟨w.heap.size + 1, 2, none⟩ = some (.int .i64 0) := by simp [World.cell?, hq2]
  have l3 : w0.cell? ⟨w.heap.size + 1, 3, none⟩ = some (.int .i64 0) := by simp [World.cell?, hq2]
  have lX : X < w0.heap.size := by omega
  have lK : w.heap.size < w0.heap.size := by omega
  have lH : w.heap.size + 1 < w0.heap.size := by omega
  obtain ⟨WA, hA, hA1⟩ := entryX_ex w0.drew M hm0
  obtain ⟨WB, hB, hB1⟩ := entryX_ex (w0.alloc (.cells #[.string ⟨#[98]⟩, .bool true, .int .i64 0, .int .i64 0] 63)).drew M ((Below.heap_alloc w0 _ M (by omega)).trans hm0)
  have hwa : WA.heap[w.heap.size + 1]? = some (.cells #[.string ⟨#[98]⟩, .bool true, .int .i64 0, .int .i64 0] 63 (0, 0)) := (hA1.2.2.1 _ (by omega)).trans hq2
  have a0 : WA.cell? ⟨w.heap.size + 1, 0, none⟩ = some (.string ⟨#[98]⟩) := by simp [World.cell?, hwa]
  have a1 : WA.cell? ⟨w.heap.size + 1, 1, none⟩ = some (.bool true) := by simp [World.cell?, hwa]
  have a2 : WA.cell? ⟨w.heap.size + 1, 2, none⟩ = some (.int .i64 0) := by simp [World.cell?, hwa]
  have a3 : WA.cell? ⟨w.heap.size + 1, 3, none⟩ = some (.int .i64 0) := by simp [World.cell?, hwa]
  have HW0 := Lib.hid hw0
  have HA1 := Lib.hid hA1
  have HB1 := Lib.hid hB1
  have HSW := Lib.hid hsw
  have HBW := Lib.hid hbw
  have HMW := Lib.hid hMl
  clear hwa hw0 hbw hq1 hq2 hsw hm0 hA1 hB1 hx hm hMl
  unfold hookX
  go_enter Tryd.func35, Tryd.ntmps35
  go_upto_region 1 with (fail)
  rw [← HW0.out]
  go_region_law (first
    | (refine step_append_nil (by rfl) (Operand.tmp 11) (Operand.tmp 13) 45 45 (by rfl) w0.heap.size 63 i0 (.agg #[.string ⟨#[]⟩, .bool false, .int .i64 0, .int .i64 0]) 4 40 Tryd.underlying45 hi hz0 hz1 hz2 rfl (by decide) (by rfl) (.slice (some ⟨w0.heap.size, 0, none⟩) 1 1) 1 hookX (by rfl) (srcX_hook ((HB1.out.2.2.1 _ (by have := HSW.out; have := HMW.out; omega)).trans (heap_alloc_new w0 _))) (by unfold maxLen; omega) (by omega) (by have := HB1.out.2.1; simp at this; omega) ?_
       intro v' w' hown hgrow
       obtain ⟨p, c, hv, _⟩ := (OwnS.ofRow hown).form
       subst hv
       obtain ⟨W4, hst, haf⟩ := storeX_ex w' M (.slice p 1 c) _ ((hgrow.block M (by have := HB1.out.2.1; simp at this; have := HSW.out; have := HMW.out; omega) (by simp)).trans HB1.out.1)
       have HH := Lib.hid (hungX HBW.out HMW.out (((Below.refl w0.heap.size w0).alloc (Nat.le_refl _) _).drew) HB1.out (Below.refl _ _) hgrow hown haf)
       clear hown hgrow haf)
    | (refine step_append_nil (by rfl) (Operand.tmp 11) (Operand.tmp 13) 45 45 (by rfl) w0.heap.size 63 i0 (.agg #[.string ⟨#[]⟩, .bool false, .int .i64 0, .int .i64 0]) 4 40 Tryd.underlying45 hi hz0 hz1 hz2 rfl (by decide) (by rfl) (.slice (some ⟨WA.heap.size, 0, none⟩) 1 1) 1 hookX (by rfl) (srcX_hook (heap_alloc_new WA _)) (by unfold maxLen; omega) (by omega) (by have := HA1.out.2.1; simp at this; simp; omega) ?_
       intro v' w' hown hgrow
       obtain ⟨p, c, hv, _⟩ := (OwnS.ofRow hown).form
       subst hv
       obtain ⟨W4, hst, haf⟩ := storeX_ex w' M (.slice p 1 c) _ ((hgrow.block M (by have := HA1.out.2.1; simp at this; simp; have := HSW.out; have := HMW.out; omega) (by simp)).trans ((Below.heap_alloc WA _ M (by have := HA1.out.2.1; simp at this; have := HSW.out; have := HMW.out; omega)).trans HA1.out.1))
       have HH := Lib.hid (hungX HBW.out HMW.out ((Below.refl w0.heap.size w0).drew) HA1.out ((Below.refl _ _).alloc (Nat.le_refl _) _) hgrow hown haf)
       clear hown hgrow haf)
    | fail "no arm")
  all_goals
    go_wp2_with fail
    refine bodyPost_end (v := .tuple #[]) (by simp [results, Tryd.results35, go_sem]) rfl ?_
    exact ⟨rfl, HH.out⟩
end Go.Proofs.YtllhlmdhnmdihaaDoor

/- An index at constants: addSide. -/
namespace Go.Proofs.YtllhlmdhnmdihaaDoor
open Go Go.RowKit Go.Shelf Go.ChangeMaps
set_option linter.unusedVariables false
set_option linter.unusedSimpArgs false

theorem HungB.back {w W : World} {M : Nat} {w' : World} (hb : Below w.heap.size w W) (hM : M < w.heap.size) (h : HungB W M w') : HungB w M w' := by
  obtain ⟨v, h1, h2, h3, h4⟩ := h
  have := hb.size
  exact ⟨v, h1, h2.mono hb.size, fun k hk kM => (h3 k (by omega) kM).trans (hb.block k hk), fun B w0 h0 hB => h4 B w0 (h0.trans (hb.mono (by omega))) hB⟩
/-- An index that has no hook yet. -/
def IdxAt (w : World) (X M : Nat) : Prop := w.cell? ⟨X, 18, none⟩ = some (.map (some M)) ∧ X < w.heap.size ∧ w.heap[M]? = some (.map #[] 0)
theorem IdxAt.below {w W : World} {X M : Nat} (h : IdxAt w X M) (hb : Below w.heap.size w W) : IdxAt W X M :=
  ⟨(hb.cell (p := ⟨X, 18, none⟩) h.2.1).trans h.1, Nat.lt_of_lt_of_le h.2.1 hb.size, (hb.block M (Array.getElem?_eq_some_iff.1 h.2.2).1).trans h.2.2⟩

set_option maxRecDepth 100000 in
theorem addSide_nil (w : World) (X : Nat) (id : ByteArray) (en : Bool) (a : Option Addr) (c : Nat) : Calls Tryd.prog 18 #[.pointer (some ⟨X, 0, none⟩), .string id, .bool en, .slice a 0 c] w fun e w' => e = .returned (.tuple #[]) ∧ w' = w := by
  go_enter Tryd.func18, Tryd.ntmps18
  go_wp2_with fail
  refine wp_loop_rounds 1 ?_
  rw [rounds_succ]
  go_wp2_with fail
  refine bodyPost_end (v := .tuple #[]) (by simp [results, Tryd.results18, go_sem]) rfl ?_
  exact ⟨rfl, rfl⟩

theorem Row.at {B : Nat} {w : World} {g off n c size : Nat} {xs : List Value} (h : Row B w (.slice (some ⟨g, off, none⟩) n c) n size xs) : ∀ j u, xs[j]? = some u → w.cell? ⟨g, off + j, none⟩ = some u := by
  obtain ⟨g', off', c', hv, _, _, _, _, _, h4, _⟩ := h
  simp only [Value.slice.injEq, Option.some.injEq, Addr.mk.injEq, true_and, and_true] at hv
  obtain ⟨⟨rfl, rfl⟩, rfl⟩ := hv
  exact h4
theorem Row.lt {B : Nat} {w : World} {g off n c size : Nat} {xs : List Value} (h : Row B w (.slice (some ⟨g, off, none⟩) n c) n size xs) : g < w.heap.size := by
  obtain ⟨g', off', c', hv, _, _, _, _, hg, _⟩ := h
  simp only [Value.slice.injEq, Option.some.injEq, Addr.mk.injEq, true_and, and_true] at hv
  obtain ⟨⟨rfl, rfl⟩, rfl⟩ := hv
  exact hg

/-- The sentry of the law's model. -/
def sentX : ST := ⟨[⟨⟨#[97]⟩, ⟨#[]⟩, 7⟩], ⟨#[]⟩⟩
set_option maxRecDepth 100000 in
set_option maxHeartbeats 1000000 in
theorem addSide_x (w : World) (X M : Nat) (S : Nat → Prop) (v : Value) (hx : IdxAt w X M) (hs : SentsD S w v [sentX]) :
    Calls Tryd.prog 18 #[.pointer (some ⟨X, 0, none⟩), .string ⟨#[98]⟩, .bool true, v] w fun e w' => e = .returned (.tuple #[]) ∧ HungB w M w' := by
  obtain ⟨ps, hps, h1, _, h4⟩ := hs
  obtain ⟨⟨vOn, st⟩, rfl⟩ : ∃ p, ps = [p] := List.length_eq_one_iff.1 (by have := congrArg List.length hps; simpa using this)
  simp only [List.map_cons, List.map_nil, List.cons.injEq, and_true] at hps
  subst hps
  have h2 := (h4 _ (List.mem_singleton.2 rfl)).1
  have HM := Lib.hid (Array.getElem?_eq_some_iff.1 hx.2.2).1
  have HX := Lib.hid (fun (W : World) (hb : Below w.heap.size w W) => (hang_x W X M (hx.below hb).1 (hx.below hb).2.1 (hx.below hb).2.2).mono fun _ _ hh => And.intro hh.1 (HungB.back hb HM.out hh.2))
  obtain ⟨a1, c, rfl, hc1, _⟩ := h1.form
  obtain ⟨a2, c2, hv2, hc2, _⟩ := h2.form
  dsimp only at hv2 h2
  subst hv2
  obtain ⟨g, o, rfl, _, hg, k⟩ := h1.at (by simp)
  obtain ⟨g2, o2, rfl, _, hg2, l⟩ := h2.at (by simp [sentX])
  have k0 := k 0 _ rfl
  have k1 := k 1 _ rfl
  have l0 := l 0 _ rfl
  have l1 := l 1 _ rfl
  have l2 := l 2 _ rfl
  simp only [sentX, Nat.add_zero, List.length_singleton] at k0 l0 k1 l1 l2 ⊢
  unfold hookX at HX
  clear h1 h2 hx h4 k l hc1 hc2
  have q1 : ((⟨#[97]⟩ : ByteArray).toList.isEmpty) = false := by decide +kernel
  have q2 : ((⟨#[]⟩ : ByteArray).toList.isEmpty) = true := by decide +kernel
  go_enter Tryd.func18, Tryd.ntmps18
  go_wp2_with fail
  refine wp_loop_rounds 2 ?_
  rw [rounds_succ]
  go_wp2_with fail
  refine wp_loop_rounds 2 ?_
  rw [rounds_succ]
  go_wp2_with fail
  refine (HX.out _ ((((Below.refl _ _).alloc (Nat.le_refl _) _).alloc (by simp) _).alloc (by simp; omega) _)).mono ?_
  rintro e w2 ⟨rfl, hh⟩
  have HH := Lib.hid hh
  clear hh k0 k1 l0 l1 l2
  go_wp2_with fail
  rw [rounds_succ]
  go_wp2_with fail
  rw [rounds_succ]
  go_wp2_with fail
  refine bodyPost_end (v := .tuple #[]) (by simp [results, Tryd.results18, go_sem]) rfl ?_
  exact ⟨rfl, HH.out⟩
end Go.Proofs.YtllhlmdhnmdihaaDoor

/- An index: the law's model in memory, by the general contracts' words. Written by tools/genindex3.py. -/
namespace Go.Proofs.YtllhlmdhnmdihaaDoor
open Go Go.RowKit Go.Deep Go.Shelf
set_option linter.unusedVariables false
set_option linter.unusedSimpArgs false

def AnyG : Nat → Prop := fun _ => True
def itB : IT := .mk ⟨#[98]⟩ ⟨#[]⟩ 1 [sentX] [] ⟨#[]⟩ ⟨#[]⟩ ⟨#[]⟩ false false 0 [] [] []
def itP : IT := .mk ⟨#[112]⟩ ⟨#[]⟩ 0 [] [] ⟨#[]⟩ ⟨#[]⟩ ⟨#[]⟩ false false 0 [] [itB] []
def modI : MT := ⟨⟨#[]⟩, ⟨#[]⟩, [], itP⟩
theorem okI0 : okIG 2 0 modI.plan ∧ cntI 2 modI.plan ≤ 260 := by
  constructor
  · simp [okIG, modI, itP, itB, IT.entry, IT.exit, IT.roles, IT.kids, IT.table]
  · simp [cntI, modI, itP, itB, IT.kids, IT.table]
theorem flat0 : (flatIG 2 modI.plan).map bare = [bare itP, itB] := by rfl
theorem first0 : firstI ⟨#[112]⟩ 2 modI.plan = some itP := by
  unfold firstI
  rw [show flatIG 2 modI.plan = [itP, itB] from rfl, List.find?_cons_of_pos (by simp [itP, IT.id])]
theorem okTB : OkT itB := ⟨by decide, by decide, by decide, by decide, by decide, by decide, by decide⟩
theorem okTP : OkT itP := ⟨by decide, by decide, by decide, by decide, by decide, by decide, by decide⟩
theorem boxesX (w : World) (o1 o2 o3 o4 : Obj) (w0 : World) (hw : w0 = (((w.alloc o1).alloc o2).alloc o3).alloc o4) :
    w0.heap[w.heap.size]? = some o1 ∧ w0.heap[w.heap.size + 1]? = some o2 ∧ w0.heap[w.heap.size + 2]? = some o3 ∧ w0.heap[w.heap.size + 3]? = some o4 ∧ w0.heap.size = w.heap.size + 4 ∧ Below w.heap.size w w0 := by
  subst hw
  have h4 : ∀ k, k < w.heap.size + 3 → ((((w.alloc o1).alloc o2).alloc o3).alloc o4).heap[k]? = (((w.alloc o1).alloc o2).alloc o3).heap[k]? := fun k hk => Below.heap_alloc _ _ _ (by simp; omega)
  have h3 : ∀ k, k < w.heap.size + 2 → (((w.alloc o1).alloc o2).alloc o3).heap[k]? = ((w.alloc o1).alloc o2).heap[k]? := fun k hk => Below.heap_alloc _ _ _ (by simp; omega)
  refine ⟨(h4 _ (by omega)).trans ((h3 _ (by omega)).trans (two_old w _ _)), (h4 _ (by omega)).trans ((h3 _ (by omega)).trans (two_new w _ _)), (h4 _ (by omega)).trans (by simpa using heap_alloc_new ((w.alloc o1).alloc o2) o3), by simpa using heap_alloc_new (((w.alloc o1).alloc o2).alloc o3) o4, by simp, ((((Below.refl _ _).alloc (Nat.le_refl _) _).alloc (by simp) _).alloc (by simp; omega) _).alloc (by simp; omega) _⟩
abbrev cellsB (s : Nat) : Array Value := #[.string ⟨#[98]⟩, .string ⟨#[]⟩, .int .i64 1, .slice (some ⟨s, 0, none⟩) 1 1, .slice none 0 0, .string ⟨#[]⟩, .string ⟨#[]⟩, .string ⟨#[]⟩, .bool false, .bool false, .int .i64 0, .slice none 0 0, .slice none 0 0, .slice none 0 0]
abbrev cellsM (s : Nat) : Array Value := #[.string ⟨#[]⟩, .string ⟨#[]⟩, .slice none 0 0, .slice none 0 0, .string ⟨#[112]⟩, .string ⟨#[]⟩, .int .i64 0, .slice none 0 0, .slice none 0 0, .string ⟨#[]⟩, .string ⟨#[]⟩, .string ⟨#[]⟩, .bool false, .bool false, .int .i64 0, .slice none 0 0, .slice (some ⟨s, 0, none⟩) 1 1, .slice none 0 0]
theorem row1 {w : World} {b n : Nat} {cs : Array Value} {T : TypeId} (h : w.heap[b]? = some (.cells cs T (0, 0))) (hs : cs.size = n) (h1 : ∀ u ∈ cs.toList, u.oneCell' = true) : RdN AnyG w (.slice (some ⟨b, 0, none⟩) 1 1) 1 n cs.toList :=
  ⟨by simp [hs], h1, _, 1, rfl, Nat.le_refl _, by unfold maxLen; omega, by simp, fun _ => ⟨b, 0, rfl, trivial, (Array.getElem?_eq_some_iff.1 h).1, fun j u hu => by
    rw [cell_of_row w b (0 + j) _ _ _ h, Nat.zero_add, ← hu]
    simp⟩⟩
/-- It lies in memory so. -/
theorem modI_in (w w0 : World) (hw0 : w0 = (((w.alloc (.cells #[.string ⟨#[97]⟩, .string ⟨#[]⟩, .int .i64 7] 57)).alloc (.cells #[.slice (some ⟨w.heap.size, 0, none⟩) 1 1, .string ⟨#[]⟩] 60)).alloc (.cells (cellsB (w.heap.size + 1)) 36)).alloc (.cells (cellsM (w.heap.size + 1 + 1)) 38)) :
    ModelV AnyG w0 2 (cellsM (w.heap.size + 1 + 1)).toList modI ∧ Below w.heap.size w w0 ∧ w0.heap[w.heap.size + 3]? = some (.cells (cellsM (w.heap.size + 1 + 1)) 38 (0, 0)) := by
  obtain ⟨q0, q1, q2, q3, hz, hb⟩ := boxesX w _ _ _ _ w0 hw0
  have r0 := row1 q0 rfl (by simp [Value.oneCell'])
  have r1 := row1 q1 rfl (by simp [Value.oneCell'])
  have r2 := row1 q2 rfl (by simp [cellsB, Value.oneCell'])
  have hs : SentsD AnyG w0 (.slice (some ⟨w.heap.size + 1, 0, none⟩) 1 1) [sentX] := ⟨[(.slice (some ⟨w.heap.size, 0, none⟩) 1 1, sentX)], rfl, r1, by simp, fun p hp => by
    simp only [List.mem_singleton] at hp
    subst hp
    exact ⟨r0, by simp [sentX]⟩⟩
  refine ⟨⟨none, 0, none, 0, 0, _, rfl, TextsD.nil _ _, okTP, .slice none 0 0, .slice none 0 0, .slice none 0 0, .slice (some ⟨w.heap.size + 1 + 1, 0, none⟩) 1 1, .slice none 0 0, rfl, SentsD.nil _ _, SentsD.nil _ _, TextsD.nil _ _, ?_, ItemsD.nil _ _ _⟩, hb, q3⟩
  exact ⟨[((cellsB (w.heap.size + 1)).toList, itB)], rfl, r2, by simp, fun p hp => by
    simp only [List.mem_singleton] at hp
    subst hp
    exact ⟨okTB, .slice (some ⟨w.heap.size + 1, 0, none⟩) 1 1, .slice none 0 0, .slice none 0 0, .slice none 0 0, .slice none 0 0, rfl, hs, SentsD.nil _ _, TextsD.nil _ _, ItemsD.nil _ _ _, ItemsD.nil _ _ _⟩⟩
end Go.Proofs.YtllhlmdhnmdihaaDoor
