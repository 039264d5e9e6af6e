/- An index: the law's awake. -/
import Derived.Test.YtdnfoeoiommclaaDoorXn
namespace Go.Proofs.YtdnfoeoiommclaaDoor
open Go Go.RowKit Go.Shelf Go.ChangeMaps
set_option linter.unusedVariables false
set_option linter.unusedSimpArgs false

theorem lastX_a : pairV (lastB ⟨#[112, 46, 49, 47, 97, 46, 49]⟩) = .tuple #[.string ⟨#[97]⟩, .int .i64 1] := by
  rw [show lastB ⟨#[112, 46, 49, 47, 97, 46, 49]⟩ = ([97], 1) from by decide +kernel]
  rfl
def ForC (w : World) (e : Ending) (w' : World) : Prop := ∃ g off c, e = .returned (.slice (some ⟨g, off, none⟩) 1 c) ∧ Row w.heap.size w' (.slice (some ⟨g, off, none⟩) 1 c) 1 4 hookX ∧ Below w.heap.size w w'
set_option maxRecDepth 100000 in
theorem for_one (w : World) (X M B : Nat) (kids v : Value) (hx : w.heap[X]? = some (.cells (indexX kids M) 41 (0, 0))) (hm : w.heap[M]? = some (.map #[⟨keyA, v, 0⟩] 1)) (hr : Row B w v 1 4 hookX) :
    Calls Tryd.prog 7 #[.pointer (some ⟨X, 0, none⟩), .agg #[.string ⟨#[112, 46, 49, 47, 97, 46, 49]⟩, .bool false, .int .i64 7]] w (ForC w) := by
  have HK := Lib.hid (fun W => keyOf_item W ⟨#[112, 46, 49, 47, 97, 46, 49]⟩ ⟨#[97]⟩ 7 1 (by decide) lastX_a)
  have HL := Lib.hid (fun W h => lookX_one W M v h)
  have HC := Lib.hid (fun (W : World) (hb : Below w.heap.size w W) => cloneHook_c W v 1 _ B (hr.below hb) (by omega))
  have hXl := (Array.getElem?_eq_some_iff.1 hx).1
  have HMl := Lib.hid (Array.getElem?_eq_some_iff.1 hm).1
  have x18 : w.cell? ⟨X, 18, none⟩ = some (.map (some M)) := by simp [World.cell?, hx, indexX]
  have HM := Lib.hid hm
  obtain ⟨g, o, c, hv⟩ := rowX_form hr
  subst hv
  clear hx hm hr
  go_enter Tryd.func7, Tryd.ntmps7
  go_wp2_with fail
  go_region_law (first
    | (go_simp; go_at_call 13; refine (HK.out _).mono ?_
       rintro e w2 ⟨rfl, hb2⟩
       have HB2 := Lib.hid ((((Below.refl w.heap.size w).alloc (Nat.le_refl _) _).drew).trans (hb2.mono (by simp)))
       have y18 : w2.cell? ⟨X, 18, none⟩ = some (.map (some M)) := (HB2.out.cell (p := ⟨X, 18, none⟩) hXl).trans x18
       have hlk := HL.out w2 ((HB2.out.block M HMl.out).trans HM.out)
       clear hb2)
    | (go_simp; go_at_call 12; refine (HC.out _ HB2.out).mono ?_; rintro e w3 ⟨v3, rfl, ho3, hb3⟩; obtain ⟨g3, o3, c3, hv3, hg3, hl3, ow3⟩ := ho3.own1 (by omega); subst hv3; have HR3 := Lib.hid (ow3.row (by simp [hookX, Value.oneCell']) w.heap.size (by have := HB2.out.size; omega)); have HB3 := Lib.hid (HB2.out.trans (hb3.mono HB2.out.size)); clear ho3 hb3 ow3 hg3 hl3)
    | fail "no arm")
  all_goals
    go_wp2_with fail
    go_ret
    exact ⟨_, _, _, rfl, HR3.out, HB3.out⟩

theorem row_block {W : World} {g n size : Nat} {cs : Array Value} {T : TypeId} (h : W.heap[g]? = some (.cells cs T (0, 0))) (hs : cs.size = n * size) (hn : n ≤ 1000) (h1 : ∀ u ∈ cs.toList, u.oneCell' = true) : Row 0 W (.slice (some ⟨g, 0, none⟩) n n) n size cs.toList := by
  refine ⟨g, 0, n, rfl, Nat.zero_le _, by simpa using hs, Nat.le_refl _, by unfold maxLen; omega, (Array.getElem?_eq_some_iff.1 h).1, fun j u hu => ?_, h1⟩
  rw [cell_of_row W g (0 + j) _ _ _ h, Nat.zero_add, ← hu]
  simp

set_option maxRecDepth 100000 in
set_option maxHeartbeats 1000000 in
theorem awake_c (w : World) : Calls Tryd.prog 5 #[] w fun e w' => e = .returned (.bool true) ∧ Below w.heap.size w w' := by
  obtain ⟨w0, hw0⟩ : ∃ x, x = (((w.alloc (.cells #[.string ⟨#[97]⟩, .string ⟨#[]⟩, .int .i64 7] 57)).alloc (.cells #[.slice (some ⟨w.heap.size, 0, none⟩) 1 1, .string ⟨#[]⟩] 60)).alloc (.cells (itemX ⟨#[98]⟩ 1 (.slice (some ⟨w.heap.size + 1, 0, none⟩) 1 1) (.slice none 0 0)) 36)).alloc (.cells (modelX (.slice (some ⟨w.heap.size + 1 + 1, 0, none⟩) 1 1)) 38) := ⟨_, rfl⟩
  obtain ⟨q0, q1, q2, q3, hz, hb⟩ := boxesX w _ _ _ _ w0 hw0
  have hk : KidIs 0 w0 (.slice (some ⟨w.heap.size + 1 + 1, 0, none⟩) 1 1) := ⟨_, _, _, row_block q2 rfl (by omega) (by simp [itemX, Value.oneCell']), _, row_block q1 rfl (by omega) (by simp [Value.oneCell']), row_block q0 rfl (by omega) (by simp [Value.oneCell'])⟩
  have HN := Lib.hid (new_x w0 0 _ _ _ hk)
  have HI := Lib.hid infoM18
  have HQ := Lib.hid q3
  have HB := Lib.hid hb
  unfold itemX modelX at hw0
  unfold modelX at HN HQ
  have HW0 := Lib.hid hw0
  have hq : ((⟨#[98]⟩ : ByteArray).toList == [98]) = true := by decide +kernel
  clear q0 q1 q2 q3 hz hb hk hw0
  go_enter Tryd.func5, Tryd.ntmps5
  go_upto_region 3 with (fail)
  rw [← HW0.out]
  go_wp2_with (refine wpList_load_row rfl 38 (Operand.tmp 2) rfl (w.heap.size + 3) rfl 38 _ (0, 0) _ HQ.out Tryd.underlying38 rfl HI.out ?_)
  refine HN.out.mono ?_
  rintro e w1 ⟨X, M, kids, v, rfl, hx, hm, hr, hb1⟩
  have HF := Lib.hid (for_one w1 X M _ kids v hx hm hr)
  have HB1 := Lib.hid (HB.out.trans (hb1.mono HB.out.size))
  clear hx hm hr hb1
  go_wp2_with fail
  refine HF.out.mono ?_
  rintro e w2 ⟨g, o, c, rfl, hr2, hb2⟩
  have HB2 := Lib.hid (HB1.out.trans (hb2.mono HB1.out.size))
  unfold hookX at hr2
  have k0 := hr2.at 0 _ rfl
  have k1 := hr2.at 1 _ rfl
  simp only [Nat.add_zero] at k0
  clear hr2 hb2
  go_wp2_with fail
  go_ret
  exact ⟨rfl, HB2.out⟩
end Go.Proofs.YtdnfoeoiommclaaDoor
