/- Proved: for every operator op, all values a and b and all kinds k and l, the law ValueDoes returns true: Do and Kind answer as the reference does. Conditions: the decoder's two tables of unicode/utf8 hold what Go's text lays (the card ties them). -/
import Derived.Test.YtjablobdiglnpaaDoorKw
import Derived.Test.YtjablobdiglnpaaDoorKj
import Derived.Test.YtjablobdiglnpaaDoorKo
import Derived.Test.YtjablobdiglnpaaDoorTb
import Derived.ShutString
import Derived.ChangeOld
namespace Go.Proofs.YtjablobdiglnpaaDoor.valueDoes
open Go.ChangeShapes Go.WideShapes Go.ChangeAt Go.RowKit
open Go.ChangeMaps (open_string shut_string)
set_option linter.unusedVariables false

set_option maxRecDepth 100000 in
set_option maxHeartbeats 1000000 in
theorem walk (op : Int) (a b : Vl) (k l : Int) (w : World) (hT : Tabs w) (wo : (Lit.int .i64 op).wf = true) (ha : a.Ok) (hb : b.Ok) (wk : (Lit.int .i64 k).wf = true) (wl : (Lit.int .i64 l).wf = true) :
    Calls Tryd.prog 4 #[.int .i64 op, a.val, b.val, .int .i64 k, .int .i64 l] w fun e w' => e = .returned (.bool true) ∧ Below w.heap.size w w' := by
  have HQ := fun (w : World) (hT : Tabs w) => do_c w hT op a b ha hb
  have HP := fun (w : World) => rdo_c w op a b ha hb
  obtain ⟨⟨⟨rk, rn, ry, rs⟩, rb⟩, hR⟩ : ∃ R, R = doF op a b := ⟨_, rfl⟩
  rw [← hR] at HQ HP
  have HN := fun w => kind_c w op k l
  have HM := fun w => rkind_c w op k l
  obtain ⟨⟨kk, kb⟩, hK⟩ : ∃ R, R = kindF op k l := ⟨_, rfl⟩
  rw [← hK] at HN HM
  have HN' := Lib.hid HN
  have HM' := Lib.hid HM
  have HW := Lib.hid (fun (w : World) (hT : Tabs w) => awake_c w hT)
  have HT := Lib.hid hT
  clear hT wo ha hb hR wk wl hK HN HM
  obtain ⟨ak, an, ay, sa⟩ := a
  obtain ⟨bk, bn, b3, sb⟩ := b
  simp only [Vl.val] at HQ HP
  have HQ' := Lib.hid HQ
  have HP' := Lib.hid HP
  clear HQ HP
  have HB := Lib.hid (show Below w.heap.size w ((w.alloc (.cells #[.int .i64 ak, .int .i64 an, .bool ay, .string sa] 23)).alloc (.cells #[.int .i64 bk, .int .i64 bn, .bool b3, .string sb] 23)) from (box_below _ _).alloc (by simp) _)
  unfold Vl.val
  dsimp only
  go_enter Tryd.func4, Tryd.ntmps4
  go_wp2_with fail
  refine (HQ'.out _ (HT.out.below HB.out)).mono ?_
  rintro e w3 ⟨rfl, hb⟩
  have ra := (hb.block w.heap.size (by simp; omega)).trans (heap_at2a _ _ _)
  have rb1 := (hb.block (w.heap.size + 1) (by simp)).trans (heap_at2b _ _ _)
  obtain ⟨⟨p0, p1, p2, p3⟩, _⟩ := box4 ra
  obtain ⟨⟨q0, q1, q2, q3⟩, _⟩ := box4 rb1
  have hz3 : w.heap.size + 1 < w3.heap.size := by have := hb.size; simp at this; omega
  have hz3' : w.heap.size < w3.heap.size := by omega
  have HX := Lib.hid (HB.out.trans (hb.mono (by simp; omega)))
  clear hb ra rb1
  go_wp2_with fail
  refine (HP'.out _).mono ?_
  rintro e w5 ⟨rfl, hb⟩
  have rr := (hb.block w3.heap.size (by simp)).trans (heap_alloc_new w3 _)
  obtain ⟨⟨k0, k1, k2, k3⟩, _⟩ := box4 rr
  have hz5 : w3.heap.size < w5.heap.size := by have := hb.size; simp at this; omega
  have HY := Lib.hid ((HX.out.alloc HX.out.size _).trans (hb.mono (by have := HX.out.size; simp; omega)))
  clear hb rr
  go_wp2_with (first
    | (go_at_call 24; refine (HN'.out _).mono ?_; rintro e w' ⟨rfl, rfl⟩)
    | (go_at_call 25; refine (HM'.out _).mono ?_; rintro e w' ⟨rfl, rfl⟩))
  refine (HW.out _ (HT.out.below (HY.out.alloc HY.out.size _))).mono ?_
  rintro e w6 ⟨rfl, hb⟩
  have HZ := Lib.hid ((HY.out.alloc HY.out.size _).trans (hb.mono (by have := HY.out.size; simp; omega)))
  clear hb
  go_wp2_with fail
  go_ret
  exact ⟨rfl, HZ.out⟩

-- FRAME
theorem own : ownKnob Tryd.prog.godebug = none := by kernel_rfl
theorem laidOut : laidOutB Tryd.prog = true := by kernel_rfl

theorem laid_met (os : Os) : laidMet Tryd.prog Rows.valueDoesRow.laid ((laidWorld os).forCall (fun _ _ => 0) ⟨#[], #[.int .i64 0, .agg #[.int .i64 0, .int .i64 0, .bool false, .string ByteArray.empty], .agg #[.int .i64 0, .int .i64 0, .bool false, .string ByteArray.empty], .int .i64 0, .int .i64 0], []⟩).memory :=
  laidMet_of_run' 8 (by kernel_rfl) (by kernel_rfl)
theorem reads (os : Os) {H : Type} (enc : TypeId × Value → H) : ∃ places, DataW.whole enc Tryd.prog ((laidWorld os).forCall (fun _ _ => 0) ⟨#[], #[.int .i64 0, .agg #[.int .i64 0, .int .i64 0, .bool false, .string ByteArray.empty], .agg #[.int .i64 0, .int .i64 0, .bool false, .string ByteArray.empty], .int .i64 0, .int .i64 0], []⟩).memory Tryd.f4.params.toList Rows.valueDoesSpec.vars false (#[.int .i64 0, .agg #[.int .i64 0, .int .i64 0, .bool false, .string ByteArray.empty], .agg #[.int .i64 0, .int .i64 0, .bool false, .string ByteArray.empty], .int .i64 0, .int .i64 0] : Array Value).toList 8 = some ([.lit (.int .i64 0), .agg [.lit (.int .i64 0), .lit (.int .i64 0), .lit (.bool false), .lit (.string [])], .agg [.lit (.int .i64 0), .lit (.int .i64 0), .lit (.bool false), .lit (.string [])], .lit (.int .i64 0), .lit (.int .i64 0)], [], places) :=
  ⟨[], by kernel_rfl⟩

set_option maxRecDepth 100000 in
theorem lifted (os : Os) (started : os.Started) (H : Type) (enc : TypeId × Value → H) (F : Stop.Interp) :
    ReturnsInHanded {} Tryd.checked os 4 .any ((OpenSpec.ofChange Rows.valueDoesSpec).preRow enc Tryd.prog Tryd.f4 Rows.valueDoesRow.domain false Rows.valueDoesRow.laid) (((OpenSpec.ofChange Rows.valueDoesSpec).at F).post enc Tryd.prog Tryd.f4 false true false false) := by
  obtain ⟨places, hx⟩ := reads os enc
  refine returnsInHanded_of_row (C := Tryd.checked) (s := OpenSpec.ofChange Rows.valueDoesSpec) own started (by kernel_rfl) Tryd.func4
    (witness_row_at (enc := enc) (C := Tryd.checked) false (laidWorld os) #[.int .i64 0, .agg #[.int .i64 0, .int .i64 0, .bool false, .string ByteArray.empty], .agg #[.int .i64 0, .int .i64 0, .bool false, .string ByteArray.empty], .int .i64 0, .int .i64 0] rfl (by kernel_rfl) (by kernel_rfl) (by kernel_rfl)
      (OpenSpec.preRow_of_cond 8 hx (by kernel_rfl) (fun k hk => by cases hk) (by kernel_rfl) (laid_met os))) ?_
  intro W base args ds gs before hval0 hW hcnd hcond hsz0 hL _ _
  have hT := tabs_of hL
  have hsz : (DataW.weightsEach Tryd.prog (Tryd.f4.params.toList ++ Rows.valueDoesSpec.plain.varTypes Tryd.prog) (ds ++ gs)).all (· ≤ reachBytes) = true := hsz0
  have hval : ∀ (j : Nat) t v, Tryd.f4.params[j]? = some t → args[j]? = some v → Value.okWide Tryd.prog W .any base t v := hval0
  have hW' := hW
  obtain ⟨p, q, hA0, hV, rfl, hfz, hnd⟩ := hW
  have hA : DataW.TrodAll enc Tryd.prog W 0 (fun _ => true) true Tryd.f4.params.toList args.toList ds p := hA0
  rw [Tryd.params4] at hA hval hsz
  obtain ⟨v0, vs0, d0, ds0, p0, q0, hargs, rfl, rfl, h0, r0⟩ := trodAll_cons hA
  obtain ⟨v1, vs1, d1, ds1, p1, q1, rfl, rfl, rfl, h1, r1⟩ := trodAll_cons r0
  obtain ⟨v2, vs2, d2, ds2, p2, q2, rfl, rfl, rfl, h2, r2⟩ := trodAll_cons r1
  obtain ⟨v3, vs3, d3, ds3, p3, q3, rfl, rfl, rfl, h3, r3⟩ := trodAll_cons r2
  obtain ⟨v4, vs4, d4, ds4, p4, q4, rfl, rfl, rfl, h4, r4⟩ := trodAll_cons r3
  obtain ⟨rfl, rfl, rfl⟩ := trodAll_nil r4
  obtain rfl : args = #[v0, v1, v2, v3, v4] := by cases args; simp_all
  obtain ⟨rfl, rfl⟩ := trodVars_none hV
  obtain ⟨a0, rfl, rfl, rfl, w0⟩ := open_int Tryd.underlying3 (hval 0 3 v0 rfl rfl) h0
  have k1 := h1
  have lt1 : ∀ x ∈ p1, x.block < W.heap.size := by obtain ⟨m, hm⟩ := k1; exact DataW.trod_lt m _ _ _ hm
  obtain ⟨x1, rfl, o1⟩ := value_open (hval 1 23 v1 rfl rfl) h1
  have k2 := h2
  have lt2 : ∀ x ∈ p2, x.block < W.heap.size := by obtain ⟨m, hm⟩ := k2; exact DataW.trod_lt m _ _ _ hm
  obtain ⟨x2, rfl, o2⟩ := value_open (hval 2 23 v2 rfl rfl) h2
  obtain ⟨a3, rfl, rfl, rfl, w3⟩ := open_int Tryd.underlying3 (hval 3 3 v3 rfl rfl) h3
  obtain ⟨a4, rfl, rfl, rfl, w4⟩ := open_int Tryd.underlying3 (hval 4 3 v4 rfl rfl) h4
  clear hA0 hval0
  refine (walk a0 x1 x2 a3 a4 W hT w0 o1 o2 w3 w4).mono fun e W' ⟨he, bel⟩ => ?_
  subst he
  exact ⟨_, rfl, _, _, _, [], _, [], hW', trodAll_mk1 (shut_bool Tryd.underlying4 _), (trodAll_cons_mk (shut_int Tryd.underlying3 w0) (trodAll_cons_mk (Below.trod laidOut (by kernel_rfl) (of_decide_eq_true (by kernel_rfl)) k1 bel lt1) (trodAll_cons_mk (Below.trod laidOut (by kernel_rfl) (of_decide_eq_true (by kernel_rfl)) k2 bel lt2) (trodAll_cons_mk (shut_int Tryd.underlying3 w3) (trodAll_cons_mk (shut_int Tryd.underlying3 w4) trodAll_mk0))))), rfl, bel.frame _, fun h => by cases h⟩

theorem said : Rows.ValueDoesSaid :=
  OpenClaim.holds_of_cond 4 Tryd.f4 rfl rfl rfl rfl rfl rfl rfl ⟨rfl, rfl, rfl, rfl, rfl⟩ rfl rfl rfl rfl rfl (by kernel_rfl) Tryd.func4 (by kernel_rfl)
    (of_decide_eq_true (by kernel_rfl)) (by unfold Func.isWrapper; first | (rw [if_pos (by decide +kernel)]; kernel_rfl) | (rw [if_neg (by decide +kernel)]; exact ⟨rfl, rfl⟩))
    (fun os started H enc _ F => by rw [OpenClaim.pre_eq_preRow]; exact lifted os started H enc F)

theorem plain (f : FuncId) (fn : Func) (hf : Tryd.pinned.checked.prog.funcNamed "dossier/dossierlaw07.ValueDoes" = some f) (hfn : Tryd.pinned.checked.prog.funcs[f]? = some fn) :
    false = Tryd.pinned.checked.prog.looks [] ∧ ∀ (j : Nat) t, fn.params[j]? = some t → Tryd.pinned.checked.prog.wantsStandIn t = false := by
  obtain rfl : f = 4 := Option.some.inj ((show Tryd.prog.funcNamed "dossier/dossierlaw07.ValueDoes" = some 4 by kernel_rfl).symm.trans hf) |>.symm
  obtain rfl : fn = Tryd.f4 := (Option.some.inj (Tryd.func4.symm.trans hfn)).symm
  refine ⟨by kernel_rfl, fun j t ht => ?_⟩
  rw [Tryd.params4] at ht
  have hm := Array.mem_of_getElem? ht
  simp only [Array.mem_def, List.mem_cons, List.not_mem_nil, or_false] at hm
  rcases hm with rfl | rfl | rfl | rfl | rfl
  · exact (show Tryd.prog.wantsStandIn 3 = false by kernel_rfl)
  · exact (show Tryd.prog.wantsStandIn 23 = false by kernel_rfl)
  · exact (show Tryd.prog.wantsStandIn 23 = false by kernel_rfl)
  · exact (show Tryd.prog.wantsStandIn 3 = false by kernel_rfl)
  · exact (show Tryd.prog.wantsStandIn 3 = false by kernel_rfl)

/-- The statement: the card. -/
theorem proved : Rows.ValueDoesCardSaid :=
  Claim7.holds_tied_plain_at .later [] _ _ _ _ said (fun _ h => by cases h) (by kernel_rfl) (fun _ h => by cases h) valueDoes_row_tie rfl ⟨rfl, rfl⟩ (by kernel_rfl) rfl plain (by kernel_rfl)
end Go.Proofs.YtjablobdiglnpaaDoor.valueDoes
