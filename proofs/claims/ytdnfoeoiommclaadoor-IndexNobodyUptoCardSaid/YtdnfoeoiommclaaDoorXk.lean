/- An index at constants: addSide. -/
import Derived.Test.YtdnfoeoiommclaaDoorXi
namespace Go.Proofs.YtdnfoeoiommclaaDoor
open Go Go.RowKit Go.Shelf Go.ChangeMaps
set_option linter.unusedVariables false
set_option linter.unusedSimpArgs false

theorem HungB.back {w W : World} {M : Nat} {w' : World} (hb : Below w.heap.size w W) (hM : M < w.heap.size) (h : HungB W M w') : HungB w M w' := by
  obtain ⟨v, h1, h2, h3, h4⟩ := h
  have := hb.size
  exact ⟨v, h1, h2.mono hb.size, fun k hk kM => (h3 k (by omega) kM).trans (hb.block k hk), fun B w0 h0 hB => h4 B w0 (h0.trans (hb.mono (by omega))) hB⟩
/-- An index that has no hook yet. -/
def IdxAt (w : World) (X M : Nat) (kids : Value) : Prop := w.heap[X]? = some (.cells (indexX kids M) 41 (0, 0)) ∧ w.heap[M]? = some (.map #[] 0)
theorem IdxAt.below {w W : World} {X M : Nat} {kids : Value} (h : IdxAt w X M kids) (hb : Below w.heap.size w W) : IdxAt W X M kids :=
  ⟨(hb.block X (Array.getElem?_eq_some_iff.1 h.1).1).trans h.1, (hb.block M (Array.getElem?_eq_some_iff.1 h.2).1).trans h.2⟩

set_option maxRecDepth 100000 in
theorem addSide_nil (w : World) (X : Nat) (id : ByteArray) (en : Bool) : Calls Tryd.prog 33 #[.pointer (some ⟨X, 0, none⟩), .string id, .bool en, .slice none 0 0] w fun e w' => e = .returned (.tuple #[]) ∧ w' = w := by
  go_enter Tryd.func33, Tryd.ntmps33
  go_wp2_with fail
  refine wp_loop_rounds 1 ?_
  rw [rounds_succ]
  go_wp2_with fail
  refine bodyPost_end (v := .tuple #[]) (by simp [results, Tryd.results33, go_sem]) rfl ?_
  exact ⟨rfl, rfl⟩

theorem Row.at {B : Nat} {w : World} {g off n c size : Nat} {xs : List Value} (h : Row B w (.slice (some ⟨g, off, none⟩) n c) n size xs) : ∀ j u, xs[j]? = some u → w.cell? ⟨g, off + j, none⟩ = some u := by
  obtain ⟨g', off', c', hv, _, _, _, _, _, h4, _⟩ := h
  simp only [Value.slice.injEq, Option.some.injEq, Addr.mk.injEq, true_and, and_true] at hv
  obtain ⟨⟨rfl, rfl⟩, rfl⟩ := hv
  exact h4
theorem Row.lt {B : Nat} {w : World} {g off n c size : Nat} {xs : List Value} (h : Row B w (.slice (some ⟨g, off, none⟩) n c) n size xs) : g < w.heap.size := by
  obtain ⟨g', off', c', hv, _, _, _, _, hg, _⟩ := h
  simp only [Value.slice.injEq, Option.some.injEq, Addr.mk.injEq, true_and, and_true] at hv
  obtain ⟨⟨rfl, rfl⟩, rfl⟩ := hv
  exact hg

set_option maxRecDepth 100000 in
set_option maxHeartbeats 1000000 in
theorem addSide_x (w : World) (X M B : Nat) (kids v : Value) (hx : IdxAt w X M kids) (hs : SentIs B w v) :
    Calls Tryd.prog 33 #[.pointer (some ⟨X, 0, none⟩), .string ⟨#[98]⟩, .bool true, v] w fun e w' => e = .returned (.tuple #[]) ∧ HungB w M w' := by
  obtain ⟨vOn, h1, h2⟩ := hs
  have HM := Lib.hid (Array.getElem?_eq_some_iff.1 hx.2).1
  have HX := Lib.hid (fun (W : World) (hb : Below w.heap.size w W) => (hang_x W X M kids (hx.below hb).1 (hx.below hb).2).mono fun _ _ hh => And.intro hh.1 (HungB.back hb HM.out hh.2))
  obtain ⟨g, o, c, hv⟩ := rowX_form h1
  subst hv
  obtain ⟨g2, o2, c2, hv2⟩ := rowX_form h2
  subst hv2
  have k0 := h1.at 0 _ rfl
  have k1 := h1.at 1 _ rfl
  have l0 := h2.at 0 _ rfl
  have l1 := h2.at 1 _ rfl
  have l2 := h2.at 2 _ rfl
  simp only [Nat.add_zero] at k0 l0
  have hg := h1.lt
  have hg2 := h2.lt
  unfold hookX at HX
  clear h1 h2 hx
  have q1 : ((⟨#[97]⟩ : ByteArray).toList.isEmpty) = false := by decide +kernel
  have q2 : ((⟨#[]⟩ : ByteArray).toList.isEmpty) = true := by decide +kernel
  go_enter Tryd.func33, Tryd.ntmps33
  go_wp2_with fail
  refine wp_loop_rounds 2 ?_
  rw [rounds_succ]
  go_wp2_with fail
  refine wp_loop_rounds 2 ?_
  rw [rounds_succ]
  go_wp2_with fail
  refine (HX.out _ ((((Below.refl _ _).alloc (Nat.le_refl _) _).alloc (by simp) _).alloc (by simp; omega) _)).mono ?_
  rintro e w2 ⟨rfl, hh⟩
  have HH := Lib.hid hh
  clear hh k0 k1 l0 l1 l2
  go_wp2_with fail
  rw [rounds_succ]
  go_wp2_with fail
  rw [rounds_succ]
  go_wp2_with fail
  refine bodyPost_end (v := .tuple #[]) (by simp [results, Tryd.results33, go_sem]) rfl ?_
  exact ⟨rfl, HH.out⟩
end Go.Proofs.YtdnfoeoiommclaaDoor

/- An index at constants: add. -/
namespace Go.Proofs.YtdnfoeoiommclaaDoor
open Go Go.RowKit Go.Shelf Go.ChangeMaps
set_option linter.unusedVariables false
set_option linter.unusedSimpArgs false

set_option maxRecDepth 100000 in
set_option maxHeartbeats 1000000 in
/-- The item b is added: its entry's hook. -/
theorem addB_x (w : World) (X M B : Nat) (kids : Value) (a : Option Addr) (n c : Nat) (hx : IdxAt w X M kids) (hs : SentIs B w (.slice a n c)) :
    Calls Tryd.prog 17 #[.pointer (some ⟨X, 0, none⟩), .agg (itemX ⟨#[98]⟩ 1 (.slice a n c) (.slice none 0 0))] w fun e w' => e = .returned (.tuple #[]) ∧ HungB w M w' := by
  have HM := Lib.hid (Array.getElem?_eq_some_iff.1 hx.2).1
  have HA := Lib.hid (fun (W : World) (hb : Below w.heap.size w W) => addSide_x W X M B kids (.slice a n c) (hx.below hb) (hs.below hb))
  have HN := Lib.hid addSide_nil
  have hxl := (Array.getElem?_eq_some_iff.1 hx.1).1
  clear hx hs
  have i0 : ∀ W : World, (Instr.index 98 (.agg #[.slice none 0 0, .slice none 0 0]) (.int .i64 0)).run Tryd.prog W = .ok (.slice none 0 0) W := fun _ => by kernel_rfl
  have i1 : ∀ W : World, (Instr.index 98 (.agg #[.slice none 0 0, .slice none 0 0]) (.int .i64 1)).run Tryd.prog W = .ok (.slice none 0 0) W := fun _ => by kernel_rfl
  unfold itemX
  go_enter Tryd.func17, Tryd.ntmps17
  go_wp2_with fail
  refine (HA.out _ ((Below.refl _ _).alloc (Nat.le_refl _) _)).mono ?_
  rintro e w2 ⟨rfl, hh⟩
  have HH := Lib.hid (HungB.back ((Below.refl _ _).alloc (Nat.le_refl _) _) HM.out hh)
  obtain ⟨_, _, _, hk, _⟩ := hh
  obtain ⟨f0, f1, f2, f3, f4, f5, f6, f7, f8, f9, f10, f11, f12, f13, fz⟩ := cells14 ((hk w.heap.size (by simp) (by have := HM.out; omega)).trans (heap_alloc_new w _))
  clear hk
  go_wp2_with (go_at_call 33; refine (HN.out _ _ _ _).mono ?_; rintro e w' ⟨rfl, rfl⟩)
  refine wp_loop_rounds 3 ?_
  rw [rounds_succ]
  go_wp2_with fail
  refine wp_loop_rounds 1 ?_
  rw [rounds_succ]
  go_wp2_with fail
  rw [rounds_succ]
  go_wp2_with fail
  refine wp_loop_rounds 1 ?_
  rw [rounds_succ]
  go_wp2_with fail
  rw [rounds_succ]
  go_wp2_with fail
  refine bodyPost_end (v := .tuple #[]) (by simp [results, Tryd.results17, go_sem]) rfl ?_
  exact ⟨rfl, HH.out⟩
end Go.Proofs.YtdnfoeoiommclaaDoor
