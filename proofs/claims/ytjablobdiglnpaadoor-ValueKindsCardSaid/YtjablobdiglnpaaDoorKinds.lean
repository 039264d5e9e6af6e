/- Proved: for every operator op and all values a and b, the law ValueKinds returns true: what Do makes is of the kind that Kind says and may be, or it is no value. Conditions: the decoder's two tables of unicode/utf8 hold what Go's text lays (the card ties them). -/
import Derived.Test.YtjablobdiglnpaaDoorKw
import Derived.Test.YtjablobdiglnpaaDoorKo
import Derived.Test.YtjablobdiglnpaaDoorTb
import Derived.ShutString
import Derived.ChangeOld
namespace Go.Proofs.YtjablobdiglnpaaDoor.valueKinds
open Go.ChangeShapes Go.WideShapes Go.ChangeAt Go.RowKit
open Go.ChangeMaps (open_string shut_string)
set_option linter.unusedVariables false

set_option maxRecDepth 100000 in
set_option maxHeartbeats 1000000 in
theorem walk (op : Int) (a b : Vl) (w : World) (hT : Tabs w) (wo : (Lit.int .i64 op).wf = true) (ha : a.Ok) (hb : b.Ok) :
    Calls Tryd.prog 5 #[.int .i64 op, a.val, b.val] w fun e w' => e = .returned (.bool true) ∧ Below w.heap.size w w' := by
  have HK := Lib.hid (doF_kind op a b)
  have HQ := fun (w : World) (hT : Tabs w) => do_c w hT op a b ha hb
  obtain ⟨⟨⟨rk, rn, ry, rs⟩, rb⟩, hR⟩ : ∃ R, R = doF op a b := ⟨_, rfl⟩
  rw [← hR] at HQ HK
  simp only at HK HQ
  have HN := Lib.hid (fun w => kind_c w op a.k b.k)
  have HW := Lib.hid (fun (w : World) (hT : Tabs w) => awake_c w hT)
  have HT := Lib.hid hT
  clear hT wo ha hb hR
  obtain ⟨ak, an, ay, sa⟩ := a
  obtain ⟨bk, bn, b3, sb⟩ := b
  simp only [Vl.val] at HQ
  simp only at HN
  have HQ' := Lib.hid HQ
  clear HQ
  have HB := Lib.hid (show Below w.heap.size w ((w.alloc (.cells #[.int .i64 ak, .int .i64 an, .bool ay, .string sa] 23)).alloc (.cells #[.int .i64 bk, .int .i64 bn, .bool b3, .string sb] 23)) from (box_below _ _).alloc (by simp) _)
  unfold Vl.val
  dsimp only
  rcases HK.out with ⟨rfl, h2⟩ | ⟨rfl, h2, h3, h4⟩
  · simp only [noV, Vl.mk.injEq] at h2
    obtain ⟨rfl, rfl, rfl, rfl⟩ := h2
    clear HK
    go_enter Tryd.func5, Tryd.ntmps5
    go_wp2_with fail
    refine (HQ'.out _ (HT.out.below HB.out)).mono ?_
    rintro e w3 ⟨rfl, hb⟩
    have HX := Lib.hid (HB.out.trans (hb.mono (by simp; omega)))
    clear hb
    go_wp2_with fail
    refine (HW.out _ (HT.out.below (HX.out.alloc HX.out.size _))).mono ?_
    rintro e w4 ⟨rfl, hb⟩
    have HY := Lib.hid ((HX.out.alloc HX.out.size _).trans (hb.mono (by have := HX.out.size; simp; omega)))
    clear hb
    go_wp2_with fail
    go_ret
    exact ⟨rfl, HY.out⟩
  · have HC := fun (w : World) (hT : Tabs w) => can_c w hT ⟨rk, rn, ry, rs⟩
    simp only [h4, Vl.val] at HC
    simp only [h2] at HN
    simp only at h3
    rw [← h3] at HN
    have HC' := Lib.hid HC
    have HN' := Lib.hid HN.out
    clear HC h2 h3 h4 HK HN
    go_enter Tryd.func5, Tryd.ntmps5
    go_wp2_with fail
    refine (HQ'.out _ (HT.out.below HB.out)).mono ?_
    rintro e w3 ⟨rfl, hb⟩
    have ra := (hb.block w.heap.size (by simp; omega)).trans (heap_at2a _ _ _)
    have rb := (hb.block (w.heap.size + 1) (by simp)).trans (heap_at2b _ _ _)
    obtain ⟨⟨p0, p1, p2, p3⟩, _⟩ := box4 ra
    obtain ⟨⟨q0, q1, q2, q3⟩, _⟩ := box4 rb
    have hz3 : w.heap.size + 1 < w3.heap.size := by have := hb.size; simp at this; omega
    have hz3' : w.heap.size < w3.heap.size := by omega
    have HX := Lib.hid (HB.out.trans (hb.mono (by simp; omega)))
    clear hb ra rb
    go_wp2_with (go_at_call 24; refine (HN'.out _).mono ?_; rintro e w' ⟨rfl, rfl⟩)
    refine (HC'.out _ (HT.out.below (HX.out.alloc HX.out.size _))).mono ?_
    rintro e w4 ⟨rfl, hb⟩
    have HY := Lib.hid ((HX.out.alloc HX.out.size _).trans (hb.mono (by have := HX.out.size; simp; omega)))
    clear hb
    go_wp2_with fail
    refine (HW.out _ (HT.out.below HY.out)).mono ?_
    rintro e w5 ⟨rfl, hb⟩
    have HZ := Lib.hid (HY.out.trans (hb.mono HY.out.size))
    clear hb
    go_wp2_with fail
    go_ret
    exact ⟨rfl, HZ.out⟩

-- FRAME
theorem own : ownKnob Tryd.prog.godebug = none := by kernel_rfl
theorem laidOut : laidOutB Tryd.prog = true := by kernel_rfl

theorem laid_met (os : Os) : laidMet Tryd.prog Rows.valueKindsRow.laid ((laidWorld os).forCall (fun _ _ => 0) ⟨#[], #[.int .i64 0, .agg #[.int .i64 0, .int .i64 0, .bool false, .string ByteArray.empty], .agg #[.int .i64 0, .int .i64 0, .bool false, .string ByteArray.empty]], []⟩).memory :=
  laidMet_of_run' 8 (by kernel_rfl) (by kernel_rfl)
theorem reads (os : Os) {H : Type} (enc : TypeId × Value → H) : ∃ places, DataW.whole enc Tryd.prog ((laidWorld os).forCall (fun _ _ => 0) ⟨#[], #[.int .i64 0, .agg #[.int .i64 0, .int .i64 0, .bool false, .string ByteArray.empty], .agg #[.int .i64 0, .int .i64 0, .bool false, .string ByteArray.empty]], []⟩).memory Tryd.f5.params.toList Rows.valueKindsSpec.vars false (#[.int .i64 0, .agg #[.int .i64 0, .int .i64 0, .bool false, .string ByteArray.empty], .agg #[.int .i64 0, .int .i64 0, .bool false, .string ByteArray.empty]] : Array Value).toList 8 = some ([.lit (.int .i64 0), .agg [.lit (.int .i64 0), .lit (.int .i64 0), .lit (.bool false), .lit (.string [])], .agg [.lit (.int .i64 0), .lit (.int .i64 0), .lit (.bool false), .lit (.string [])]], [], places) :=
  ⟨[], by kernel_rfl⟩

set_option maxRecDepth 100000 in
theorem lifted (os : Os) (started : os.Started) (H : Type) (enc : TypeId × Value → H) (F : Stop.Interp) :
    ReturnsInHanded {} Tryd.checked os 5 .any ((OpenSpec.ofChange Rows.valueKindsSpec).preRow enc Tryd.prog Tryd.f5 Rows.valueKindsRow.domain false Rows.valueKindsRow.laid) (((OpenSpec.ofChange Rows.valueKindsSpec).at F).post enc Tryd.prog Tryd.f5 false true false false) := by
  obtain ⟨places, hx⟩ := reads os enc
  refine returnsInHanded_of_row (C := Tryd.checked) (s := OpenSpec.ofChange Rows.valueKindsSpec) own started (by kernel_rfl) Tryd.func5
    (witness_row_at (enc := enc) (C := Tryd.checked) false (laidWorld os) #[.int .i64 0, .agg #[.int .i64 0, .int .i64 0, .bool false, .string ByteArray.empty], .agg #[.int .i64 0, .int .i64 0, .bool false, .string ByteArray.empty]] rfl (by kernel_rfl) (by kernel_rfl) (by kernel_rfl)
      (OpenSpec.preRow_of_cond 8 hx (by kernel_rfl) (fun k hk => by cases hk) (by kernel_rfl) (laid_met os))) ?_
  intro W base args ds gs before hval0 hW hcnd hcond hsz0 hL _ _
  have hT := tabs_of hL
  have hsz : (DataW.weightsEach Tryd.prog (Tryd.f5.params.toList ++ Rows.valueKindsSpec.plain.varTypes Tryd.prog) (ds ++ gs)).all (· ≤ reachBytes) = true := hsz0
  have hval : ∀ (j : Nat) t v, Tryd.f5.params[j]? = some t → args[j]? = some v → Value.okWide Tryd.prog W .any base t v := hval0
  have hW' := hW
  obtain ⟨p, q, hA0, hV, rfl, hfz, hnd⟩ := hW
  have hA : DataW.TrodAll enc Tryd.prog W 0 (fun _ => true) true Tryd.f5.params.toList args.toList ds p := hA0
  rw [Tryd.params5] at hA hval hsz
  obtain ⟨v0, vs0, d0, ds0, p0, q0, hargs, rfl, rfl, h0, r0⟩ := trodAll_cons hA
  obtain ⟨v1, vs1, d1, ds1, p1, q1, rfl, rfl, rfl, h1, r1⟩ := trodAll_cons r0
  obtain ⟨v2, vs2, d2, ds2, p2, q2, rfl, rfl, rfl, h2, r2⟩ := trodAll_cons r1
  obtain ⟨rfl, rfl, rfl⟩ := trodAll_nil r2
  obtain rfl : args = #[v0, v1, v2] := by cases args; simp_all
  obtain ⟨rfl, rfl⟩ := trodVars_none hV
  obtain ⟨a0, rfl, rfl, rfl, w0⟩ := open_int Tryd.underlying3 (hval 0 3 v0 rfl rfl) h0
  have k1 := h1
  have lt1 : ∀ x ∈ p1, x.block < W.heap.size := by obtain ⟨m, hm⟩ := k1; exact DataW.trod_lt m _ _ _ hm
  obtain ⟨x1, rfl, o1⟩ := value_open (hval 1 23 v1 rfl rfl) h1
  have k2 := h2
  have lt2 : ∀ x ∈ p2, x.block < W.heap.size := by obtain ⟨m, hm⟩ := k2; exact DataW.trod_lt m _ _ _ hm
  obtain ⟨x2, rfl, o2⟩ := value_open (hval 2 23 v2 rfl rfl) h2
  clear hA0 hval0
  refine (walk a0 x1 x2 W hT w0 o1 o2).mono fun e W' ⟨he, bel⟩ => ?_
  subst he
  exact ⟨_, rfl, _, _, _, [], _, [], hW', trodAll_mk1 (shut_bool Tryd.underlying4 _), (trodAll_cons_mk (shut_int Tryd.underlying3 w0) (trodAll_cons_mk (Below.trod laidOut (by kernel_rfl) (of_decide_eq_true (by kernel_rfl)) k1 bel lt1) (trodAll_cons_mk (Below.trod laidOut (by kernel_rfl) (of_decide_eq_true (by kernel_rfl)) k2 bel lt2) trodAll_mk0))), rfl, bel.frame _, fun h => by cases h⟩

theorem said : Rows.ValueKindsSaid :=
  OpenClaim.holds_of_cond 5 Tryd.f5 rfl rfl rfl rfl rfl rfl rfl ⟨rfl, rfl, rfl, rfl, rfl⟩ rfl rfl rfl rfl rfl (by kernel_rfl) Tryd.func5 (by kernel_rfl)
    (of_decide_eq_true (by kernel_rfl)) (by unfold Func.isWrapper; first | (rw [if_pos (by decide +kernel)]; kernel_rfl) | (rw [if_neg (by decide +kernel)]; exact ⟨rfl, rfl⟩))
    (fun os started H enc _ F => by rw [OpenClaim.pre_eq_preRow]; exact lifted os started H enc F)

theorem plain (f : FuncId) (fn : Func) (hf : Tryd.pinned.checked.prog.funcNamed "dossier/dossierlaw07.ValueKinds" = some f) (hfn : Tryd.pinned.checked.prog.funcs[f]? = some fn) :
    false = Tryd.pinned.checked.prog.looks [] ∧ ∀ (j : Nat) t, fn.params[j]? = some t → Tryd.pinned.checked.prog.wantsStandIn t = false := by
  obtain rfl : f = 5 := Option.some.inj ((show Tryd.prog.funcNamed "dossier/dossierlaw07.ValueKinds" = some 5 by kernel_rfl).symm.trans hf) |>.symm
  obtain rfl : fn = Tryd.f5 := (Option.some.inj (Tryd.func5.symm.trans hfn)).symm
  refine ⟨by kernel_rfl, fun j t ht => ?_⟩
  rw [Tryd.params5] at ht
  have hm := Array.mem_of_getElem? ht
  simp only [Array.mem_def, List.mem_cons, List.not_mem_nil, or_false] at hm
  rcases hm with rfl | rfl | rfl
  · exact (show Tryd.prog.wantsStandIn 3 = false by kernel_rfl)
  · exact (show Tryd.prog.wantsStandIn 23 = false by kernel_rfl)
  · exact (show Tryd.prog.wantsStandIn 23 = false by kernel_rfl)

/-- The statement: the card. -/
theorem proved : Rows.ValueKindsCardSaid :=
  Claim7.holds_tied_plain_at .later [] _ _ _ _ said (fun _ h => by cases h) (by kernel_rfl) (fun _ h => by cases h) valueKinds_row_tie rfl ⟨rfl, rfl⟩ (by kernel_rfl) rfl plain (by kernel_rfl)
end Go.Proofs.YtjablobdiglnpaaDoor.valueKinds
