/- Proved: for all texts a, b and c of at most 1048576 bytes, the law ShapeWay returns true: where all three are instances' paths, the order of the first and the last follows from that of the first two and that of the last two, and a path stands ahead of one below it. Conditions: the card's (the texts' size). -/
import Derived.Test.YtjbkepjkmihojaaDoorRq
import Derived.Test.YtjbkepjkmihojaaDoorTb
import Derived.Test.YtjbkepjkmihojaaDoorBulk
import Derived.ShutString
import Derived.ChangeOld
namespace Go.Proofs.YtjbkepjkmihojaaDoor.shapeWay
open Go.ChangeShapes Go.WideShapes Go.ChangeAt Go.RowKit
open Go.ChangeMaps (open_string shut_string)
set_option linter.unusedVariables false

def abc (a b c : ByteArray) (k : Nat) : ByteArray := if k = 0 then a else if k = 1 then b else c
theorem abc_size (a b c : ByteArray) (k : Nat) (ha : a.size ≤ 1048576) (hb : b.size ≤ 1048576) (hc : c.size ≤ 1048576) : (abc a b c k).size ≤ 2097152 := by
  unfold abc
  split
  · omega
  · split
    · omega
    · omega
theorem abc_cells (w : World) (a b c : ByteArray) : ∀ k, k < 3 → (w.alloc (.cells #[.string a, .string b, .string c] 9)).cell? ⟨w.heap.size, k, none⟩ = some (.string (abc a b c k)) := by
  intro k hk
  simp only [World.cell?, heap_alloc_new]
  rcases (by omega : k = 0 ∨ k = 1 ∨ k = 2) with rfl | rfl | rfl <;> rfl

set_option maxRecDepth 100000 in
set_option maxHeartbeats 4000000 in
theorem walk (a b c : ByteArray) (w : World) (hT : Tabs w) (ha : a.size ≤ 1048576) (hb : b.size ≤ 1048576) (hc : c.size ≤ 1048576) :
    Calls Tryd.prog 5 #[.string a, .string b, .string c] w fun e w' => e = .returned (.bool true) ∧ Below w.heap.size w w' := by
  have HW := Lib.hid (fun w => awake_c w)
  have HAB := Lib.hid (abc_cells w a b c)
  have HBA := Lib.hid (fun k (w : World) => rbase_c w (abc a b c k) (abc_size a b c k ha hb hc))
  have HB0 := Lib.hid (box_bel w (.cells #[.string a, .string b, .string c] 9))
  clear hT
  obtain ⟨wa, hwa⟩ : ∃ wa, w.alloc (.cells #[.string a, .string b, .string c] 9) = wa := ⟨_, rfl⟩
  have hws : w.heap.size < wa.heap.size := by rw [← hwa]; simp
  rw [hwa] at HAB HB0
  have HWA := Lib.hid hwa
  have HWS := Lib.hid hws
  clear hwa hws
  go_enter Tryd.func5, Tryd.ntmps5
  go_wp2_with fail
  rw [HWA.out]
  go_loopw [16] (fun i wr => ∃ k : Nat, i = .int .i64 k ∧ k ≤ 3 ∧ Below wa.heap.size wa wr ∧ ∀ j, j < k → (readF (abc a b c j).data.toList).isSome = true) (fun i _ => 3 - (intOf i).toNat)
  case atStart => exact ⟨0, rfl, by omega, Below.refl _ _, fun j h => by omega⟩
  case round =>
    obtain ⟨k, rfl, hk, hB, hr⟩ := hrel
    have HB := Lib.hid hB
    have HR := Lib.hid hr
    clear hB hr
    by_cases hlt : k < 3
    · have hcl : wr.cell? ⟨w.heap.size, k, none⟩ = some (.string (abc a b c k)) := (HB.out.cell (p := ⟨w.heap.size, k, none⟩) HWS.out).trans (HAB.out k hlt)
      have HX := HBA.out k
      cases hx : readF (abc a b c k).data.toList with
      | none =>
        rw [baseV_none _ hx] at HX
        have HX' := Lib.hid HX
        clear HX hx
        generalize abc a b c k = X at hcl HX'
        go_wp2_with (first
          | (go_at_call 7; refine (HX'.out _).mono ?_; rintro e w1 ⟨rfl, hb1⟩; have H1 := Lib.hid (HB.out.trans (hb1.mono HB.out.size)); clear hb1)
          | (go_at_call 14; refine (HW.out _).mono ?_; rintro e w2 ⟨rfl, hb2⟩; have H2 := Lib.hid (H1.out.trans (hb2.mono H1.out.size)); clear hb2))
        go_ret
        exact ⟨rfl, HB0.out.trans (H2.out.mono HB0.out.size)⟩
      | some x =>
        rw [baseV_some _ x hx] at HX
        have HX' := Lib.hid HX
        have HN := Lib.hid (show ∀ j, j < k + 1 → (readF (abc a b c j).data.toList).isSome = true from by
          intro j hj
          by_cases hjk : j = k
          · rw [hjk, hx]; rfl
          · exact HR.out j (by omega))
        clear HX hx
        generalize abc a b c k = X at hcl HX'
        go_wp2_with (go_at_call 7; refine (HX'.out _).mono ?_; rintro e w1 ⟨rfl, hb1⟩; have H1 := Lib.hid (HB.out.trans (hb1.mono HB.out.size)); clear hb1)
        go_roundw
        case rel => exact ⟨k + 1, by go_num, by omega, H1.out, HN.out⟩
        case measure => simp [intOf]; omega
    · have hke : k = 3 := by omega
      subst hke
      obtain ⟨x, hx⟩ := Option.isSome_iff_exists.1 (HR.out 0 (by omega))
      obtain ⟨y, hy⟩ := Option.isSome_iff_exists.1 (HR.out 1 (by omega))
      obtain ⟨z, hz⟩ := Option.isSome_iff_exists.1 (HR.out 2 (by omega))
      have hx' : readF a.data.toList = some x := hx
      have hy' : readF b.data.toList = some y := hy
      have hz' : readF c.data.toList = some z := hz
      have O1 := fun w => order_c w a b (by omega) (by omega)
      have O2 := fun w => order_c w b c (by omega) (by omega)
      have O3 := fun w => order_c w a c (by omega) (by omega)
      have e1 : orderF a.data.toList b.data.toList = cmpQ x y := by unfold orderF; rw [hx', hy']
      have e2 : orderF b.data.toList c.data.toList = cmpQ y z := by unfold orderF; rw [hy', hz']
      have e3 : orderF a.data.toList c.data.toList = cmpQ x z := by unfold orderF; rw [hx', hz']
      rw [e1] at O1
      rw [e2] at O2
      rw [e3] at O3
      have htr := cmpQ_trans x y z
      -- the path below
      have HJ := fun w => join_c w a ⟨#[120]⟩ 1 (by omega) (by decide) (by omega) (by omega)
      obtain ⟨J, hJ⟩ : ∃ J : ByteArray, J = ⟨(joinF a.data.toList (⟨#[120]⟩ : ByteArray).data.toList 1).toArray⟩ := ⟨_, rfl⟩
      rw [← hJ] at HJ
      have hJl : J.data.toList = joinF a.data.toList [120] 1 := by rw [hJ]
      have hJr : readF J.data.toList = some (x ++ [([120], 1)]) := by rw [hJl]; exact readF_join _ _ _ _ hx' (by decide) (by omega) (by omega)
      have hJs : J.size ≤ 2097152 := by
        rw [← size_list, hJl]
        unfold joinF
        have h1 : (txt 1).length = 1 := by decide
        have h2 := size_list a
        split <;> simp [h1] <;> omega
      have O4 := fun w => order_c w a J (by omega) hJs
      have e4 : orderF a.data.toList J.data.toList = -1 := by unfold orderF; rw [hx', hJr]; exact cmpQ_more x _
      rw [e4] at O4
      generalize cmpQ x y = o1 at O1 htr
      generalize cmpQ y z = o2 at O2 htr
      generalize cmpQ x z = o3 at O3 htr
      have HO1 := Lib.hid O1
      have HO2 := Lib.hid O2
      have HO3 := Lib.hid O3
      have HO4 := Lib.hid O4
      have HJJ := Lib.hid HJ
      have HB := Lib.hid (HB0.out.trans (HB.out.mono HB0.out.size))
      clear O1 O2 O3 O4 HJ e1 e2 e3 e4 hJ hJl hJr hJs hx hy hz hx' hy' hz' hk hlt
      by_cases g1 : o1 ≤ 0
      · by_cases g2 : o2 ≤ 0
        · have g3 := htr g1 g2
          have d3 : decide (0 < o3) = false := decide_eq_false (by omega)
          clear htr
          go_wp2_with (first
            | (go_at_call 15; with_reducible refine (HO1.out _).mono ?_; rintro e w1 ⟨rfl, hb1⟩; have HB := Lib.hid (HB.out.trans (hb1.mono HB.out.size)); clear hb1)
            | (go_at_call 15; with_reducible refine (HO2.out _).mono ?_; rintro e w1 ⟨rfl, hb1⟩; have HB := Lib.hid (HB.out.trans (hb1.mono HB.out.size)); clear hb1)
            | (go_at_call 15; with_reducible refine (HO3.out _).mono ?_; rintro e w1 ⟨rfl, hb1⟩; have HB := Lib.hid (HB.out.trans (hb1.mono HB.out.size)); clear hb1)
            | (go_at_call 15; with_reducible refine (HO4.out _).mono ?_; rintro e w1 ⟨rfl, hb1⟩; have HB := Lib.hid (HB.out.trans (hb1.mono HB.out.size)); clear hb1)
            | (go_at_call 12; with_reducible refine (HJJ.out _).mono ?_; rintro e w1 ⟨rfl, hb1⟩; have HB := Lib.hid (HB.out.trans (hb1.mono HB.out.size)); clear hb1)
            | (go_at_call 14; refine (HW.out _).mono ?_; rintro e w1 ⟨rfl, hb1⟩; have HB := Lib.hid (HB.out.trans (hb1.mono HB.out.size)); clear hb1))
          go_ret
          exact ⟨rfl, HB.out⟩
        · have d2 : decide (o2 ≤ 0) = false := decide_eq_false g2
          clear htr
          go_wp2_with (first
            | (go_at_call 15; with_reducible refine (HO1.out _).mono ?_; rintro e w1 ⟨rfl, hb1⟩; have HB := Lib.hid (HB.out.trans (hb1.mono HB.out.size)); clear hb1)
            | (go_at_call 15; with_reducible refine (HO2.out _).mono ?_; rintro e w1 ⟨rfl, hb1⟩; have HB := Lib.hid (HB.out.trans (hb1.mono HB.out.size)); clear hb1)
            | (go_at_call 15; with_reducible refine (HO4.out _).mono ?_; rintro e w1 ⟨rfl, hb1⟩; have HB := Lib.hid (HB.out.trans (hb1.mono HB.out.size)); clear hb1)
            | (go_at_call 12; with_reducible refine (HJJ.out _).mono ?_; rintro e w1 ⟨rfl, hb1⟩; have HB := Lib.hid (HB.out.trans (hb1.mono HB.out.size)); clear hb1)
            | (go_at_call 14; refine (HW.out _).mono ?_; rintro e w1 ⟨rfl, hb1⟩; have HB := Lib.hid (HB.out.trans (hb1.mono HB.out.size)); clear hb1))
          go_ret
          exact ⟨rfl, HB.out⟩
      · have d1 : decide (o1 ≤ 0) = false := decide_eq_false g1
        clear htr
        go_wp2_with (first
            | (go_at_call 15; with_reducible refine (HO1.out _).mono ?_; rintro e w1 ⟨rfl, hb1⟩; have HB := Lib.hid (HB.out.trans (hb1.mono HB.out.size)); clear hb1)
            | (go_at_call 15; with_reducible refine (HO4.out _).mono ?_; rintro e w1 ⟨rfl, hb1⟩; have HB := Lib.hid (HB.out.trans (hb1.mono HB.out.size)); clear hb1)
            | (go_at_call 12; with_reducible refine (HJJ.out _).mono ?_; rintro e w1 ⟨rfl, hb1⟩; have HB := Lib.hid (HB.out.trans (hb1.mono HB.out.size)); clear hb1)
            | (go_at_call 14; refine (HW.out _).mono ?_; rintro e w1 ⟨rfl, hb1⟩; have HB := Lib.hid (HB.out.trans (hb1.mono HB.out.size)); clear hb1))
        go_ret
        exact ⟨rfl, HB.out⟩

-- FRAME
theorem own : ownKnob Tryd.prog.godebug = none := by kernel_rfl
theorem laidOut : laidOutB Tryd.prog = true := by kernel_rfl

theorem laid_met (os : Os) : laidMet Tryd.prog Rows.shapeWayUptoRow.laid ((laidWorld os).forCall (fun _ _ => 0) ⟨#[], #[.string ByteArray.empty, .string ByteArray.empty, .string ByteArray.empty], []⟩).memory :=
  laidMet_of_run' 8 (by kernel_rfl) (by kernel_rfl)
theorem reads (os : Os) {H : Type} (enc : TypeId × Value → H) : ∃ places, DataW.whole enc Tryd.prog ((laidWorld os).forCall (fun _ _ => 0) ⟨#[], #[.string ByteArray.empty, .string ByteArray.empty, .string ByteArray.empty], []⟩).memory Tryd.f5.params.toList Rows.shapeWaySpec.vars false (#[.string ByteArray.empty, .string ByteArray.empty, .string ByteArray.empty] : Array Value).toList 8 = some ([.lit (.string []), .lit (.string []), .lit (.string [])], [], places) :=
  ⟨[], by kernel_rfl⟩

set_option maxRecDepth 100000 in
theorem lifted (os : Os) (started : os.Started) (H : Type) (enc : TypeId × Value → H) (F : Stop.Interp) :
    ReturnsInHanded {} Tryd.checked os 5 .any ((Rows.OpenSpec.upto Rows.shapeWaySpec).preRow enc Tryd.prog Tryd.f5 Rows.shapeWayUptoRow.domain false Rows.shapeWayUptoRow.laid) (((Rows.OpenSpec.upto Rows.shapeWaySpec).at F).post enc Tryd.prog Tryd.f5 false true false false) := by
  obtain ⟨places, hx⟩ := reads os enc
  refine returnsInHanded_of_row (C := Tryd.checked) (s := Rows.OpenSpec.upto Rows.shapeWaySpec) own started (by kernel_rfl) Tryd.func5
    (witness_row_at (enc := enc) (C := Tryd.checked) false (laidWorld os) #[.string ByteArray.empty, .string ByteArray.empty, .string ByteArray.empty] rfl (by kernel_rfl) (by kernel_rfl) (by kernel_rfl)
      (OpenSpec.preRow_of_cond 8 hx (by kernel_rfl) (fun k hk => by cases hk; kernel_rfl) (by kernel_rfl) (laid_met os))) ?_
  intro W base args ds gs before hval0 hW hcnd hcond hsz0 hL _ _
  have hT := tabs_of hL
  have hk0 := hcond _ rfl
  have hval : ∀ (j : Nat) t v, Tryd.f5.params[j]? = some t → args[j]? = some v → Value.okWide Tryd.prog W .any base t v := hval0
  have hW' := hW
  obtain ⟨p, q, hA0, hV, rfl, hfz, hnd⟩ := hW
  have hA : DataW.TrodAll enc Tryd.prog W 0 (fun _ => true) true Tryd.f5.params.toList args.toList ds p := hA0
  rw [Tryd.params5] at hA hval
  obtain ⟨v0, vs0, d0, ds0, p0, q0, hargs, rfl, rfl, h0, r0⟩ := trodAll_cons hA
  obtain ⟨v1, vs1, d1, ds1, p1, q1, rfl, rfl, rfl, h1, r1⟩ := trodAll_cons r0
  obtain ⟨v2, vs2, d2, ds2, p2, q2, rfl, rfl, rfl, h2, r2⟩ := trodAll_cons r1
  obtain ⟨rfl, rfl, rfl⟩ := trodAll_nil r2
  obtain rfl : args = #[v0, v1, v2] := by cases args; simp_all
  obtain ⟨rfl, rfl⟩ := trodVars_none hV
  have hk := bulk_bound hk0
  simp only [List.append_nil] at hk
  obtain ⟨a0, rfl, rfl, rfl, w0⟩ := open_string Tryd.underlying9 (hval 0 9 v0 rfl rfl) h0
  have s0 : a0.size ≤ 1048576 := by have := bulk_string _ _ hk (by simp : DataW.lit (.string a0.data.toList) ∈ _); simpa using this
  obtain ⟨a1, rfl, rfl, rfl, w1⟩ := open_string Tryd.underlying9 (hval 1 9 v1 rfl rfl) h1
  have s1 : a1.size ≤ 1048576 := by have := bulk_string _ _ hk (by simp : DataW.lit (.string a1.data.toList) ∈ _); simpa using this
  obtain ⟨a2, rfl, rfl, rfl, w2⟩ := open_string Tryd.underlying9 (hval 2 9 v2 rfl rfl) h2
  have s2 : a2.size ≤ 1048576 := by have := bulk_string _ _ hk (by simp : DataW.lit (.string a2.data.toList) ∈ _); simpa using this
  clear hA0 hval0
  refine (walk a0 a1 a2 W hT s0 s1 s2).mono fun e W' ⟨he, bel⟩ => ?_
  subst he
  exact ⟨_, rfl, _, _, _, [], _, [], hW', trodAll_mk1 (shut_bool Tryd.underlying4 _), (trodAll_cons_mk (shut_string Tryd.underlying9 w0) (trodAll_cons_mk (shut_string Tryd.underlying9 w1) (trodAll_cons_mk (shut_string Tryd.underlying9 w2) trodAll_mk0))), rfl, bel.frame _, fun h => by cases h⟩

theorem said : Rows.ShapeWayUptoSaid :=
  OpenClaim.holds_of_cond 5 Tryd.f5 rfl rfl rfl rfl rfl rfl rfl ⟨rfl, rfl, rfl, rfl, rfl⟩ rfl rfl rfl rfl rfl (by kernel_rfl) Tryd.func5 (by kernel_rfl)
    (of_decide_eq_true (by kernel_rfl)) (by unfold Func.isWrapper; first | (rw [if_pos (by decide +kernel)]; kernel_rfl) | (rw [if_neg (by decide +kernel)]; exact ⟨rfl, rfl⟩))
    (fun os started H enc _ F => by rw [OpenClaim.pre_eq_preRow]; exact lifted os started H enc F)

theorem plain (f : FuncId) (fn : Func) (hf : Tryd.pinned.checked.prog.funcNamed "dossier/dossierlaw12.ShapeWay" = some f) (hfn : Tryd.pinned.checked.prog.funcs[f]? = some fn) :
    false = Tryd.pinned.checked.prog.looks [] ∧ ∀ (j : Nat) t, fn.params[j]? = some t → Tryd.pinned.checked.prog.wantsStandIn t = false := by
  obtain rfl : f = 5 := Option.some.inj ((show Tryd.prog.funcNamed "dossier/dossierlaw12.ShapeWay" = some 5 by kernel_rfl).symm.trans hf) |>.symm
  obtain rfl : fn = Tryd.f5 := (Option.some.inj (Tryd.func5.symm.trans hfn)).symm
  refine ⟨by kernel_rfl, fun j t ht => ?_⟩
  rw [Tryd.params5] at ht
  have hm := Array.mem_of_getElem? ht
  simp only [Array.mem_def, List.mem_cons, List.not_mem_nil, or_false] at hm
  rcases hm with rfl | rfl | rfl
  · exact (show Tryd.prog.wantsStandIn 9 = false by kernel_rfl)
  · exact (show Tryd.prog.wantsStandIn 9 = false by kernel_rfl)
  · exact (show Tryd.prog.wantsStandIn 9 = false by kernel_rfl)

/-- The statement: the card. -/
theorem proved : Rows.ShapeWayUptoCardSaid :=
  Claim7.holds_tied_plain_at .later [] _ _ _ _ said (fun _ h => by cases h) (by kernel_rfl) (fun _ h => by cases h) shapeWayUpto_row_tie rfl ⟨rfl, rfl⟩ (by kernel_rfl) rfl plain (by kernel_rfl)
end Go.Proofs.YtjbkepjkmihojaaDoor.shapeWay
