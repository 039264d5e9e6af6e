/- An index at constants: the copy of a list of one item. Written by tools/genxd.py. -/
import Derived.Test.YtdnfoeoiommclaaDoorXc
namespace Go.Proofs.YtdnfoeoiommclaaDoor
open Go Go.RowKit Go.Shelf
set_option linter.unusedVariables false
set_option linter.unusedSimpArgs false

/-- An item stored into a row. -/
abbrev putO (w : World) (b off : Nat) (c0 c1 c2 c3 c4 c5 c6 c7 c8 c9 c10 c11 c12 c13 : Value) : World := ((((((((((((((w.setCell ⟨b, off, none⟩ c0).setCell ⟨b, off + 1, none⟩ c1).setCell ⟨b, off + 2, none⟩ c2).setCell ⟨b, off + 3, none⟩ c3).setCell ⟨b, off + 4, none⟩ c4).setCell ⟨b, off + 5, none⟩ c5).setCell ⟨b, off + 6, none⟩ c6).setCell ⟨b, off + 7, none⟩ c7).setCell ⟨b, off + 8, none⟩ c8).setCell ⟨b, off + 9, none⟩ c9).setCell ⟨b, off + 10, none⟩ c10).setCell ⟨b, off + 11, none⟩ c11).setCell ⟨b, off + 12, none⟩ c12).setCell ⟨b, off + 13, none⟩ c13)
theorem putO_own {w : World} {b off : Nat} {E : TypeId} {c : Nat} {xs : List Value} (h : Own1 w b off E 1 14 c xs) (c0 c1 c2 c3 c4 c5 c6 c7 c8 c9 c10 c11 c12 c13 : Value) : Own1 (putO w b off c0 c1 c2 c3 c4 c5 c6 c7 c8 c9 c10 c11 c12 c13) b off E 1 14 c [c0, c1, c2, c3, c4, c5, c6, c7, c8, c9, c10, c11, c12, c13] := by
  have hl : xs.length = 14 := by obtain ⟨_, _, hl, _⟩ := h; omega
  have := ((((((((((((((h.set 0 (by simp [hl]) c0).set 1 (by simp [hl]) c1).set 2 (by simp [hl]) c2).set 3 (by simp [hl]) c3).set 4 (by simp [hl]) c4).set 5 (by simp [hl]) c5).set 6 (by simp [hl]) c6).set 7 (by simp [hl]) c7).set 8 (by simp [hl]) c8).set 9 (by simp [hl]) c9).set 10 (by simp [hl]) c10).set 11 (by simp [hl]) c11).set 12 (by simp [hl]) c12).set 13 (by simp [hl]) c13)
  match xs, hl with
  | [x0, x1, x2, x3, x4, x5, x6, x7, x8, x9, x10, x11, x12, x13], _ => exact this
theorem putO_below {w0 w : World} {B b off : Nat} (h : Below B w0 w) (hb : B ≤ b) (c0 c1 c2 c3 c4 c5 c6 c7 c8 c9 c10 c11 c12 c13 : Value) : Below B w0 (putO w b off c0 c1 c2 c3 c4 c5 c6 c7 c8 c9 c10 c11 c12 c13) := ((((((((((((((h.setCell (p := ⟨b, _, none⟩) hb c0).setCell (p := ⟨b, _, none⟩) hb c1).setCell (p := ⟨b, _, none⟩) hb c2).setCell (p := ⟨b, _, none⟩) hb c3).setCell (p := ⟨b, _, none⟩) hb c4).setCell (p := ⟨b, _, none⟩) hb c5).setCell (p := ⟨b, _, none⟩) hb c6).setCell (p := ⟨b, _, none⟩) hb c7).setCell (p := ⟨b, _, none⟩) hb c8).setCell (p := ⟨b, _, none⟩) hb c9).setCell (p := ⟨b, _, none⟩) hb c10).setCell (p := ⟨b, _, none⟩) hb c11).setCell (p := ⟨b, _, none⟩) hb c12).setCell (p := ⟨b, _, none⟩) hb c13)
theorem putO_keeps {w : World} {B b off : Nat} (hb : b < B) (c0 c1 c2 c3 c4 c5 c6 c7 c8 c9 c10 c11 c12 c13 : Value) : Keeps B w (putO w b off c0 c1 c2 c3 c4 c5 c6 c7 c8 c9 c10 c11 c12 c13) := (((((((((((((((Keeps.refl _ _).trans (Keeps.setCell _ _ hb _)).trans (Keeps.setCell _ _ hb _)).trans (Keeps.setCell _ _ hb _)).trans (Keeps.setCell _ _ hb _)).trans (Keeps.setCell _ _ hb _)).trans (Keeps.setCell _ _ hb _)).trans (Keeps.setCell _ _ hb _)).trans (Keeps.setCell _ _ hb _)).trans (Keeps.setCell _ _ hb _)).trans (Keeps.setCell _ _ hb _)).trans (Keeps.setCell _ _ hb _)).trans (Keeps.setCell _ _ hb _)).trans (Keeps.setCell _ _ hb _)).trans (Keeps.setCell _ _ hb _))
theorem putO_far (w : World) {b off g : Nat} (h : g ≠ b) (c0 c1 c2 c3 c4 c5 c6 c7 c8 c9 c10 c11 c12 c13 : Value) : (putO w b off c0 c1 c2 c3 c4 c5 c6 c7 c8 c9 c10 c11 c12 c13).heap[g]? = w.heap[g]? := by
  unfold putO
  simp [World.setCell, Array.getElem?_modify, Ne.symm h]

/-- A list of one item, b, with its sentry. -/
def KidIs (B : Nat) (w : World) (v : Value) : Prop := ∃ a n c, Row B w v 1 14 (itemX ⟨#[98]⟩ 1 (.slice a n c) (.slice none 0 0)).toList ∧ SentIs B w (.slice a n c)
theorem KidIs.keep {B : Nat} {w w' : World} {v : Value} (h : KidIs B w v) (hb : Keeps B w w') : KidIs B w' v := by
  obtain ⟨a, n, c, h1, h2⟩ := h
  exact ⟨a, n, c, h1.keep hb, h2.keep hb⟩
theorem KidIs.mono {B B' : Nat} {w : World} {v : Value} (h : KidIs B w v) (hb : B' ≤ B) : KidIs B' w v := by
  obtain ⟨a, n, c, h1, h2⟩ := h
  exact ⟨a, n, c, h1.mono hb, h2.mono hb⟩
def NilIs (B : Nat) (w : World) (v : Value) : Prop := v = .slice none 0 0
/-- The copy of b. -/
theorem copiedB_x (w : World) (a : Option Addr) (n c B : Nat) (h : SentIs B w (.slice a n c)) : Calls Tryd.prog 32 #[.agg (itemX ⟨#[98]⟩ 1 (.slice a n c) (.slice none 0 0))] w (ItemC SentIs NilIs ⟨#[98]⟩ 1 w) :=
  copiedX_c w ⟨#[98]⟩ 1 a none n c 0 0 SentIs NilIs (fun W hb => copiedSent_c W _ B (h.below hb))
    (fun W hb => (copiedItems_nil W).mono fun e w' he => ⟨none, 0, 0, he.1, rfl, by rw [he.2]; exact Below.refl _ _⟩)
    (fun _ _ _ _ h k => h.keep k) (fun _ _ _ _ h k => h.mono k) (fun _ _ _ _ h _ => h) (fun _ _ _ _ h _ => h)

set_option maxRecDepth 100000 in
set_option maxHeartbeats 1000000 in
theorem copiedItems_x (w : World) (v : Value) (B : Nat) (h : KidIs B w v) : Calls Tryd.prog 46 #[v] w (Copied KidIs w) := by
  obtain ⟨ea, el, ec, h1, h2⟩ := h
  have HC := Lib.hid (cloneItem_c w v 1 _ B h1 (by omega))
  have HD := Lib.hid (fun (W : World) (hb : Below w.heap.size w W) => copiedB_x W ea el ec B (h2.below hb))
  unfold itemX at HC HD
  clear h1 h2
  go_enter Tryd.func46, Tryd.ntmps46
  go_wp2_with (go_at_call 60; refine HC.out.mono ?_; rintro e w1 ⟨v1, rfl, ho1, hb1⟩; obtain ⟨g1, o1, c1, hv1, hg1, hl1, ow1⟩ := ho1.own1 (by omega); subst hv1; have HO1 := Lib.hid ow1; have HB1 := Lib.hid hb1; have HG1 := Lib.hid hg1; have k0 := ow1.cell 0 _ rfl; have k1 := ow1.cell 1 _ rfl; have k2 := ow1.cell 2 _ rfl; have k3 := ow1.cell 3 _ rfl; have k4 := ow1.cell 4 _ rfl; have k5 := ow1.cell 5 _ rfl; have k6 := ow1.cell 6 _ rfl; have k7 := ow1.cell 7 _ rfl; have k8 := ow1.cell 8 _ rfl; have k9 := ow1.cell 9 _ rfl; have k10 := ow1.cell 10 _ rfl; have k11 := ow1.cell 11 _ rfl; have k12 := ow1.cell 12 _ rfl; have k13 := ow1.cell 13 _ rfl; simp only [Nat.add_zero] at k0; clear ho1 ow1 hb1 hg1)
  refine wp_loop_rounds 2 ?_
  rw [rounds_succ]
  have hw1 := HB1.out.size
  go_wp2_with fail
  refine (HD.out _ (HB1.out.alloc hw1 _)).mono ?_
  rintro e w2 ⟨a2, n2, c2, a3, n3, c3, rfl, hp2, hk2, hb2⟩
  have HP2 := Lib.hid hp2
  have HK2 := Lib.hid hk2
  have HB2 := Lib.hid ((HB1.out.alloc hw1 _).trans (hb2.mono (by simp; omega)))
  have ow2 : Own1 w2 g1 o1 _ _ _ _ _ := (HO1.out.keep (Below.heap_alloc w1 _ g1 hl1)).keep (hb2.block g1 (by simp; omega))
  have q0 := ow2.cell 0 _ rfl
  have q1 := ow2.cell 1 _ rfl
  have q2 := ow2.cell 2 _ rfl
  have q3 := ow2.cell 3 _ rfl
  have q4 := ow2.cell 4 _ rfl
  have q5 := ow2.cell 5 _ rfl
  have q6 := ow2.cell 6 _ rfl
  have q7 := ow2.cell 7 _ rfl
  have q8 := ow2.cell 8 _ rfl
  have q9 := ow2.cell 9 _ rfl
  have q10 := ow2.cell 10 _ rfl
  have q11 := ow2.cell 11 _ rfl
  have q12 := ow2.cell 12 _ rfl
  have q13 := ow2.cell 13 _ rfl
  have q20 := ow2.frozen
  simp only [Nat.add_zero] at q0
  have HO2 := Lib.hid ow2
  clear k0 k1 k2 k3 k4 k5 k6 k7 k8 k9 k10 k11 k12 k13 hb2 ow2 hp2 hk2
  unfold itemX
  go_wp2_with fail
  rw [rounds_succ]
  go_wp2_with fail
  go_ret
  have hz : Value.slice a3 n3 c3 = .slice none 0 0 := HK2.out
  simp only [Value.slice.injEq] at hz
  obtain ⟨rfl, rfl, rfl⟩ := hz
  exact ⟨_, _, _, rfl, ⟨a2, n2, c2, (putO_own HO2.out _ _ _ _ _ _ _ _ _ _ _ _ _ _).row (by simp [Value.oneCell']) _ HG1.out, (HP2.out.keep (putO_keeps (by simp; omega) _ _ _ _ _ _ _ _ _ _ _ _ _ _)).mono (by simp; omega)⟩, putO_below HB2.out HG1.out _ _ _ _ _ _ _ _ _ _ _ _ _ _⟩
end Go.Proofs.YtdnfoeoiommclaaDoor
