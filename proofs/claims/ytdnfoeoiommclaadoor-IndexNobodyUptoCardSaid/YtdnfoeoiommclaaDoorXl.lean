/- An index at constants: add of the plan, New. Written by tools/genxl.py. -/
import Derived.Test.YtdnfoeoiommclaaDoorXk
import Derived.Maps.Own
namespace Go.Proofs.YtdnfoeoiommclaaDoor
open Go Go.RowKit Go.Shelf Go.ChangeMaps
set_option linter.unusedVariables false
set_option linter.unusedSimpArgs false

set_option maxRecDepth 100000 in
set_option maxHeartbeats 1000000 in
/-- The plan is added. -/
theorem addP_x (w : World) (X M B : Nat) (kids : Value) (a : Option Addr) (n c : Nat) (hx : IdxAt w X M kids) (hs : KidIs B w (.slice a n c)) :
    Calls Tryd.prog 17 #[.pointer (some ⟨X, 0, none⟩), .agg (itemX ⟨#[112]⟩ 0 (.slice none 0 0) (.slice a n c))] w fun e w' => e = .returned (.tuple #[]) ∧ HungB w M w' := by
  have HM := Lib.hid (Array.getElem?_eq_some_iff.1 hx.2).1
  obtain ⟨ea, el, ec, hr, hsn⟩ := hs
  have HB := Lib.hid (fun (W : World) (hb : Below w.heap.size w W) => (addB_x W X M B kids ea el ec (hx.below hb) (hsn.below hb)).mono fun _ _ hh => And.intro hh.1 (HungB.back hb HM.out hh.2))
  obtain ⟨g, o, cc, hv⟩ := rowX_form hr
  simp only [Value.slice.injEq] at hv
  obtain ⟨rfl, rfl, rfl⟩ := hv
  unfold itemX at HB hr
  have k0 := hr.at 0 _ rfl
  have k1 := hr.at 1 _ rfl
  have k2 := hr.at 2 _ rfl
  have k3 := hr.at 3 _ rfl
  have k4 := hr.at 4 _ rfl
  have k5 := hr.at 5 _ rfl
  have k6 := hr.at 6 _ rfl
  have k7 := hr.at 7 _ rfl
  have k8 := hr.at 8 _ rfl
  have k9 := hr.at 9 _ rfl
  have k10 := hr.at 10 _ rfl
  have k11 := hr.at 11 _ rfl
  have k12 := hr.at 12 _ rfl
  have k13 := hr.at 13 _ rfl
  simp only [Nat.add_zero] at k0
  have hg := hr.lt
  have HN := Lib.hid addSide_nil
  clear hx hr hsn
  have i0 : ∀ W : World, (Instr.index 98 (.agg #[.slice (some ⟨g, o, none⟩) 1 c, .slice none 0 0]) (.int .i64 0)).run Tryd.prog W = .ok (.slice (some ⟨g, o, none⟩) 1 c) W := fun _ => by kernel_rfl
  have i1 : ∀ W : World, (Instr.index 98 (.agg #[.slice (some ⟨g, o, none⟩) 1 c, .slice none 0 0]) (.int .i64 1)).run Tryd.prog W = .ok (.slice none 0 0) W := fun _ => by kernel_rfl
  unfold itemX
  go_enter Tryd.func17, Tryd.ntmps17
  go_wp2_with (go_at_call 33; refine (HN.out _ _ _ _).mono ?_; rintro e w' ⟨rfl, rfl⟩)
  refine wp_loop_rounds 3 ?_
  rw [rounds_succ]
  go_wp2_with fail
  refine wp_loop_rounds 2 ?_
  rw [rounds_succ]
  go_wp2_with fail
  refine (HB.out _ (((Below.refl _ _).alloc (Nat.le_refl _) _).alloc (by simp) _)).mono ?_
  rintro e w2 ⟨rfl, hh⟩
  have HH := Lib.hid hh
  clear hh k0 k1 k2 k3 k4 k5 k6 k7 k8 k9 k10 k11 k12 k13
  go_wp2_with fail
  rw [rounds_succ]
  go_wp2_with fail
  rw [rounds_succ]
  go_wp2_with fail
  refine wp_loop_rounds 1 ?_
  rw [rounds_succ]
  go_wp2_with fail
  rw [rounds_succ]
  go_wp2_with fail
  refine bodyPost_end (v := .tuple #[]) (by simp [results, Tryd.results17, go_sem]) rfl ?_
  exact ⟨rfl, HH.out⟩

theorem boxes3 (w : World) (o1 o2 o3 : Obj) : (((w.alloc o1).alloc o2).alloc o3).heap[w.heap.size + 1 + 1]? = some o3 ∧ (((w.alloc o1).alloc o2).alloc o3).heap[w.heap.size + 1]? = some o2 ∧ Below w.heap.size w (((w.alloc o1).alloc o2).alloc o3) ∧ (((w.alloc o1).alloc o2).alloc o3).heap.size = w.heap.size + 3 := by
  refine ⟨by simpa using heap_alloc_new ((w.alloc o1).alloc o2) o3, (Below.heap_alloc _ _ _ (by simp)).trans (two_new w _ _), (((Below.refl _ _).alloc (Nat.le_refl _) _).alloc (by simp) _).alloc (by simp; omega) _, by simp⟩
/-- An index that New made. -/
def NewC (w : World) (e : Ending) (w' : World) : Prop :=
  ∃ X M kids v, e = .returned (.pointer (some ⟨X, 0, none⟩)) ∧ w'.heap[X]? = some (.cells (indexX kids M) 41 (0, 0)) ∧ w'.heap[M]? = some (.map #[⟨keyA, v, 0⟩] 1) ∧ Row w.heap.size w' v 1 4 hookX ∧ Below w.heap.size w w'
set_option maxRecDepth 100000 in
set_option maxHeartbeats 1000000 in
theorem new_x (w : World) (B : Nat) (a : Option Addr) (n c : Nat) (hk : KidIs B w (.slice a n c)) : Calls Tryd.prog 9 #[.agg (modelX (.slice a n c))] w (NewC w) := by
  have HF := Lib.hid (fun (W : World) (hb : Below w.heap.size w W) => findM_x W B a n c (hk.keep (.ofBelow B hb)))
  have HI := Lib.hid infoM18
  have HQ := Lib.hid (heap_alloc_new w (.cells (modelX (.slice a n c)) 38))
  have hmm := @run_makeMap Tryd.prog
  clear hk
  unfold modelX at HF HQ ⊢
  go_enter Tryd.func9, Tryd.ntmps9
  go_wp2_with (refine wpList_load_row rfl 38 (Operand.tmp 1) rfl w.heap.size rfl 38 _ (0, 0) _ HQ.out Tryd.underlying38 rfl HI.out ?_)
  refine (HF.out _ ((Below.refl _ _).alloc (Nat.le_refl _) _)).mono ?_
  rintro e w2 ⟨a2, n2, c2, rfl, hk2, hb2⟩
  have HK2 := Lib.hid hk2
  have HB2 := Lib.hid (((Below.refl w.heap.size w).alloc (Nat.le_refl _) _).trans (hb2.mono (by simp)))
  clear hk2 hb2
  unfold itemX
  go_wp2_with fail
  have HZ := Lib.hid (boxes3 w2 (.cells (itemX ⟨#[112]⟩ 0 (.slice none 0 0) (.slice a2 n2 c2)) 36) (.map #[] 0) (.cells (indexX (.slice a2 n2 c2) (w2.heap.size + 1)) 41))
  refine (addP_x _ _ _ _ (.slice a2 n2 c2) a2 n2 c2 ⟨HZ.out.1, HZ.out.2.1⟩ (HK2.out.keep (.ofBelow _ HZ.out.2.2.1))).mono ?_
  rintro e w3 ⟨rfl, hh⟩
  have HH := Lib.hid hh
  clear hh
  go_wp2_with fail
  go_ret
  obtain ⟨v, h1, h2, h3, h4⟩ := HH.out
  have hs := HB2.out.size
  have hz := HZ.out.2.2.2
  exact ⟨_, _, _, _, rfl, (h3 _ (by omega) (by omega)).trans HZ.out.1, h1, h2.mono (by omega), h4 _ w (HB2.out.trans (HZ.out.2.2.1.mono hs)) (by omega)⟩
end Go.Proofs.YtdnfoeoiommclaaDoor
