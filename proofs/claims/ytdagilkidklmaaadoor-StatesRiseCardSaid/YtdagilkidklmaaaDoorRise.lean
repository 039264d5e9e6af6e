/- states: THE LAW StatesRise: of any kind, root, state and before: starting, enabling, completing, occurring, exiting and the parent's stop raise the rank wherever they are possible. Conditions: none but that the arguments are ints and the table of ranks lies as its initialiser lays it. -/
import Derived.Test.YtdagilkidklmaaaDoorUo
import Derived.Test.YtdagilkidklmaaaDoorCards
import Derived.Test.YtdagilkidklmaaaDoorTie
import Derived.ProofKit
import Derived.Deep.DeepHandedRow
import Derived.Lib.LaidU8
import Derived.PinnedBridge
import Derived.MakeChecks
import Derived.SizedLaws
import Derived.ShutString
import Derived.ChangeOld
namespace Go.Proofs.YtdagilkidklmaaaDoor.statesRise
open Go.ChangeShapes Go.WideShapes Go.ChangeAt Go.RowKit Go.Lib
set_option linter.unusedVariables false
set_option linter.unusedSimpArgs false

/-- The table of ranks. -/
def rkL : List Int := [0, 1, 2, 3, 5, 6, 4, 7, 8, 9]
def Tabs (w : World) : Prop := 0 < w.heap.size ∧ ∀ i u, (rkL.map (Value.int .i64))[i]? = some u → w.cell? ⟨0, i, none⟩ = some u
theorem Tabs.below {w w' : World} (h : Tabs w) (hb : Below w.heap.size w w') : Tabs w' :=
  ⟨Nat.lt_of_lt_of_le h.1 hb.size, fun i u hu => (hb.cell (p := ⟨0, i, none⟩) h.1).trans (h.2 i u hu)⟩

theorem rank_cases (s : Int) : s = 1 ∨ s = 2 ∨ s = 3 ∨ s = 4 ∨ s = 5 ∨ s = 6 ∨ s = 7 ∨ s = 8 ∨ s = 9 ∨ (inS 1022 s = false ∧ rankM s = 0) := by
  by_cases h : 1 ≤ s ∧ s ≤ 9
  · omega
  · have h2 : inS 1022 s = false ∧ rankM s = 0 := by
      refine ⟨?_, ?_⟩
      · by_cases h0 : s = 0
        · subst h0; rfl
        · exact inS_far (by omega) (by omega)
      · unfold rankM; repeat rw [if_neg (by omega)]
    simp only [h2, and_self, or_true]

set_option maxRecDepth 100000 in
set_option maxHeartbeats 1000000 in
theorem rank_c (w : World) (hT : Tabs w) (s : Int) : Calls Tryd.prog 5 #[.int .i64 s] w fun x w' => x = .returned (.int .i64 (rankM s)) ∧ w = w' := by
  have HH := Lib.hid (fun w => has_c w 1022 (by omega) s)
  have HT := Lib.hid hT.2
  rcases rank_cases s with rfl | rfl | rfl | rfl | rfl | rfl | rfl | rfl | rfl | ⟨h1, h2⟩
  · have hc := HT.out 1 (.int .i64 1) rfl
    rw [show inS 1022 1 = true from rfl] at HH
    clear hT HT
    go_enter Tryd.func5, Tryd.ntmps5
    go_wp2_with (go_at_call 10; refine (HH.out _).mono ?_; rintro e w' ⟨rfl, rfl⟩)
    go_ret
    exact ⟨rfl, rfl⟩
  · have hc := HT.out 2 (.int .i64 2) rfl
    rw [show inS 1022 2 = true from rfl] at HH
    clear hT HT
    go_enter Tryd.func5, Tryd.ntmps5
    go_wp2_with (go_at_call 10; refine (HH.out _).mono ?_; rintro e w' ⟨rfl, rfl⟩)
    go_ret
    exact ⟨rfl, rfl⟩
  · have hc := HT.out 3 (.int .i64 3) rfl
    rw [show inS 1022 3 = true from rfl] at HH
    clear hT HT
    go_enter Tryd.func5, Tryd.ntmps5
    go_wp2_with (go_at_call 10; refine (HH.out _).mono ?_; rintro e w' ⟨rfl, rfl⟩)
    go_ret
    exact ⟨rfl, rfl⟩
  · have hc := HT.out 4 (.int .i64 5) rfl
    rw [show inS 1022 4 = true from rfl] at HH
    clear hT HT
    go_enter Tryd.func5, Tryd.ntmps5
    go_wp2_with (go_at_call 10; refine (HH.out _).mono ?_; rintro e w' ⟨rfl, rfl⟩)
    go_ret
    exact ⟨rfl, rfl⟩
  · have hc := HT.out 5 (.int .i64 6) rfl
    rw [show inS 1022 5 = true from rfl] at HH
    clear hT HT
    go_enter Tryd.func5, Tryd.ntmps5
    go_wp2_with (go_at_call 10; refine (HH.out _).mono ?_; rintro e w' ⟨rfl, rfl⟩)
    go_ret
    exact ⟨rfl, rfl⟩
  · have hc := HT.out 6 (.int .i64 4) rfl
    rw [show inS 1022 6 = true from rfl] at HH
    clear hT HT
    go_enter Tryd.func5, Tryd.ntmps5
    go_wp2_with (go_at_call 10; refine (HH.out _).mono ?_; rintro e w' ⟨rfl, rfl⟩)
    go_ret
    exact ⟨rfl, rfl⟩
  · have hc := HT.out 7 (.int .i64 7) rfl
    rw [show inS 1022 7 = true from rfl] at HH
    clear hT HT
    go_enter Tryd.func5, Tryd.ntmps5
    go_wp2_with (go_at_call 10; refine (HH.out _).mono ?_; rintro e w' ⟨rfl, rfl⟩)
    go_ret
    exact ⟨rfl, rfl⟩
  · have hc := HT.out 8 (.int .i64 8) rfl
    rw [show inS 1022 8 = true from rfl] at HH
    clear hT HT
    go_enter Tryd.func5, Tryd.ntmps5
    go_wp2_with (go_at_call 10; refine (HH.out _).mono ?_; rintro e w' ⟨rfl, rfl⟩)
    go_ret
    exact ⟨rfl, rfl⟩
  · have hc := HT.out 9 (.int .i64 9) rfl
    rw [show inS 1022 9 = true from rfl] at HH
    clear hT HT
    go_enter Tryd.func5, Tryd.ntmps5
    go_wp2_with (go_at_call 10; refine (HH.out _).mono ?_; rintro e w' ⟨rfl, rfl⟩)
    go_ret
    exact ⟨rfl, rfl⟩
  · have HR := Lib.hid h2
    rw [h1] at HH
    clear h1 h2 hT
    go_enter Tryd.func5, Tryd.ntmps5
    go_wp2_with (go_at_call 10; refine (HH.out _).mono ?_; rintro e w' ⟨rfl, rfl⟩)
    go_ret
    exact ⟨by rw [HR.out]; rfl, rfl⟩

theorem gRk : Tryd.prog.globalNamed "dossier/states.ranks" = some 0 := by kernel_rfl
theorem gRkT : (Tryd.prog.globals[0]?).map (·.type) = some 36 := by kernel_rfl
theorem cellsInt : Tryd.prog.cellsOf 3 = 1 := by kernel_rfl
theorem rk_is : (Rows.laid_dossier_states_ranks : DataW Unit) = DataW.agg (rkL.map fun n => .lit (.int .i64 n)) := rfl
def tabList : List (String × DataW Unit) := [("dossier/states.ranks", Rows.laid_dossier_states_ranks)]
theorem tabs_of {W : World} (h : laidMetH Tryd.prog tabList W) : Tabs W := by
  rw [MakeChecks.laidMetH_plain _ _ _ (by kernel_rfl)] at h
  have h3 : VarReads Tryd.prog W "dossier/states.ranks" Rows.laid_dossier_states_ranks := laidMet.reads h (by simp [tabList])
  obtain ⟨g, t, cs, fuel, p, hg, hty, hvar, hd⟩ := h3
  obtain rfl := Option.some.inj (gRk.symm.trans hg)
  obtain rfl := Option.some.inj (gRkT.symm.trans hty)
  rw [rk_is] at hd
  have hcell : ∀ i u, (rkL.map (Value.int .i64))[i]? = some u → W.cell? ⟨0, i, none⟩ = some u := by
    intro i u hu
    have hi : i < 10 := by
      have := (List.getElem?_eq_some_iff.1 hu).1
      simpa [rkL] using this
    obtain ⟨fuel', d, q, hdi, hx⟩ := array_elem Tryd.underlying36 hd i hi
    obtain ⟨n, hn, hx2, _⟩ := DataW.trod_int Tryd.underlying3 hx
    simp only [Prod.mk.injEq] at hx2
    obtain ⟨rfl, _⟩ := hx2
    rw [World.var?_cell hg hvar i, ← Array.getElem?_toList]
    rw [cellsInt, Nat.mul_one] at hn
    have h0 := congrArg (·[0]?) hn
    simp only [List.getElem?_take, List.getElem?_drop, Nat.add_zero] at h0
    rw [List.getElem?_map] at hdi hu
    cases hr : rkL[i]? with
    | none => rw [hr] at hu; cases hu
    | some m =>
      rw [hr] at hu hdi
      simp only [Option.map_some, Option.some.injEq, DataW.lit.injEq, Lit.int.injEq, true_and] at hu hdi
      subst hdi
      rw [← hu]
      simpa using h0
  refine ⟨?_, hcell⟩
  have h0 := hcell 0 (.int .i64 0) rfl
  by_cases hlt : 0 < W.heap.size
  · exact hlt
  · simp [World.cell?, Array.getElem?_eq_none (Nat.le_of_not_lt hlt)] at h0

/-- A block with other cells. -/
def recells (cs : Array Value) : Obj → Obj
  | .cells _ t fz => .cells cs t fz
  | o => o
/-- A world for the witness: the settled one, the table as its initialiser lays it. -/
noncomputable def laidWorld (os : Os) : World :=
  { World.holding Tryd.prog os ⟨#[], #[], []⟩ with heap := (World.holding Tryd.prog os ⟨#[], #[], []⟩).heap.modify 0 (recells (rkL.map (Value.int .i64)).toArray) }

theorem bel_tr {w x w' : World} (h1 : Below w.heap.size w x) (h2 : Below x.heap.size x w') : Below w.heap.size w w' := h1.trans (h2.mono h1.size)

theorem awake_c (w : World) : Calls Tryd.prog 6 #[] w fun x w' => x = .returned (.bool true) ∧ Below w.heap.size w w' := by
  have HN := Lib.hid (fun w => next_c w 1 false 2 0 6)
  rw [show nextM 1 false 2 0 6 = (4, true) from by decide +kernel] at HN
  dsimp only at HN
  go_enter Tryd.func6, Tryd.ntmps6
  go_wp2_with (go_at_call 4; refine (HN.out _).mono ?_; rintro e w' ⟨rfl, hb⟩; have HB := Lib.hid hb; clear hb)
  go_ret
  exact ⟨rfl, HB.out⟩

/-- The events of the law, as a block. -/
def evL : List Int := [2, 5, 7, 17, 13, 14]
def Evs (b : Nat) (w : World) : Prop := b < w.heap.size ∧ ∀ i u, (evL.map (Value.int .i64))[i]? = some u → w.cell? ⟨b, i, none⟩ = some u
theorem evs_new (w : World) : Evs w.heap.size (w.alloc (.cells #[.int .i64 2, .int .i64 5, .int .i64 7, .int .i64 17, .int .i64 13, .int .i64 14] 3)) := by
  refine ⟨by simp, fun i u hu => ?_⟩
  have hi : i < 6 := by
    have := (List.getElem?_eq_some_iff.1 hu).1
    simpa [evL] using this
  simp only [World.cell?, heap_alloc_new]
  rcases (by omega : i = 0 ∨ i = 1 ∨ i = 2 ∨ i = 3 ∨ i = 4 ∨ i = 5) with rfl | rfl | rfl | rfl | rfl | rfl <;> simpa [evL] using hu
theorem Evs.below {b : Nat} {w w' : World} (h : Evs b w) (hb : Below w.heap.size w w') : Evs b w' :=
  ⟨Nat.lt_of_lt_of_le h.1 hb.size, fun i u hu => (hb.cell (p := ⟨b, i, none⟩) h.1).trans (h.2 i u hu)⟩
theorem Evs.at {b : Nat} {w : World} (h : Evs b w) {i : Nat} (hi : i < 6) : ∃ e, e ∈ [2, 5, 7, 17, 13, 14] ∧ w.cell? ⟨b, i, none⟩ = some (.int .i64 e) := by
  refine ⟨evL[i]'(by simpa [evL] using hi), List.getElem_mem _, h.2 i _ ?_⟩
  rw [List.getElem?_map, List.getElem?_eq_getElem (by simpa [evL] using hi)]; rfl

set_option maxRecDepth 100000 in
set_option maxHeartbeats 1000000 in
theorem walk (k : Int) (r : Bool) (s b : Int) (w : World) (hT : Tabs w) (wk : (Lit.int .i64 k).wf = true) (ws : (Lit.int .i64 s).wf = true) (wb : (Lit.int .i64 b).wf = true) :
    Calls Tryd.prog 3 #[.int .i64 k, .bool r, .int .i64 s, .int .i64 b] w fun x w' => x = .returned (.bool true) ∧ Below w.heap.size w w' := by
  have hb : -9223372036854775808 ≤ b ∧ b ≤ 9223372036854775807 := by simpa [Lit.wf, IntKind.min, IntKind.max, IntKind.signed, IntKind.bits] using wb
  have HN := Lib.hid (fun w e => next_c w k r s b e)
  have HR := Lib.hid (fun e he h2 => @rise_all b hb k r s e he h2)
  have HK := Lib.hid (fun w hT s => rank_c w hT s)
  have HA := Lib.hid awake_c
  have HTB := Lib.hid hT
  have HE := Lib.hid (evs_new w)
  have HBn := Lib.hid (fun (o : Obj) => box_bel' w o)
  clear wk ws wb hb hT
  go_enter Tryd.func3, Tryd.ntmps3
  go_wp2_with fail
  go_loopw [15] (fun i wr => ∃ j : Nat, j ≤ 6 ∧ i = .int .i64 j ∧ Below w.heap.size w wr ∧ Evs w.heap.size wr) (fun i _ => 6 - (RowKit.intOf i).toNat)
  case atStart => exact ⟨0, by omega, rfl, HBn.out _, HE.out⟩
  case round =>
    obtain ⟨j, hj, rfl, hbr, hev⟩ := hrel
    have HBT := Lib.hid (And.intro hbr hev)
    clear hbr hev
    by_cases hlt : j < 6
    · obtain ⟨e, he, hcl⟩ := HBT.out.2.at hlt
      have HN1 := Lib.hid (fun w => HN.out w e)
      have HR1 := Lib.hid (HR.out e he)
      obtain ⟨p, hp⟩ : ∃ p, nextM k r s b e = p := ⟨_, rfl⟩
      rw [hp] at HN1 HR1
      clear hp he
      obtain ⟨P, q⟩ := p
      dsimp only at HN1 HR1
      cases q
      · clear HR1
        go_wp2_with (go_at_call 4; refine (HN1.out _).mono ?_; rintro e w' ⟨rfl, hb⟩; have HB1 := Lib.hid (And.intro (bel_tr HBT.out.1 hb) (HBT.out.2.below hb)); clear hb)
        exact ⟨⟨j + 1, by omega, by go_num, HB1.out.1, HB1.out.2⟩, by simp [RowKit.intOf]; omega⟩
      · have h7 := HR1.out rfl
        have HK1 := Lib.hid (fun x hx => HK.out x hx P)
        have HK2 := Lib.hid (fun x hx => HK.out x hx s)
        generalize rankM P = R1 at h7 HK1
        generalize rankM s = R2 at h7 HK2
        have h8 : decide (R1 ≤ R2) = false := decide_eq_false (by omega)
        clear h7 HR1
        go_wp2_with (first
          | (go_at_call 5; with_reducible refine (HK2.out _ (HTB.out.below HB1.out.1)).mono ?_; rintro e w' ⟨rfl, rfl⟩)
          | (go_at_call 5; with_reducible refine (HK1.out _ (HTB.out.below HB1.out.1)).mono ?_; rintro e w' ⟨rfl, rfl⟩)
          | (go_at_call 4; refine (HN1.out _).mono ?_; rintro e w' ⟨rfl, hb⟩; have HB1 := Lib.hid (And.intro (bel_tr HBT.out.1 hb) (HBT.out.2.below hb)); clear hb))
        exact ⟨⟨j + 1, by omega, by go_num, HB1.out.1, HB1.out.2⟩, by simp [RowKit.intOf]; omega⟩
    · have hj6 : j = 6 := by omega
      subst hj6
      go_wp2_with (go_at_call 6; refine (HA.out _).mono ?_; rintro e w' ⟨rfl, hb⟩; have HB3 := Lib.hid (bel_tr HBT.out.1 hb); clear hb)
      go_ret
      exact ⟨rfl, HB3.out⟩

-- FRAME
theorem own : ownKnob Tryd.prog.godebug = none := by kernel_rfl
theorem laidOut : laidOutB Tryd.prog = true := by kernel_rfl

theorem laid_met (os : Os) : laidMet Tryd.prog Rows.statesRiseRow.laid ((laidWorld os).forCall (fun _ _ => 0) ⟨#[], #[.int .i64 0, .bool false, .int .i64 0, .int .i64 0], []⟩).memory :=
  laidMet_of_run' 8 (by kernel_rfl) (by kernel_rfl)
theorem reads (os : Os) {H : Type} (enc : TypeId × Value → H) : ∃ places, DataW.whole enc Tryd.prog ((laidWorld os).forCall (fun _ _ => 0) ⟨#[], #[.int .i64 0, .bool false, .int .i64 0, .int .i64 0], []⟩).memory Tryd.f3.params.toList Rows.statesRiseSpec.vars false (#[.int .i64 0, .bool false, .int .i64 0, .int .i64 0] : Array Value).toList 8 = some ([.lit (.int .i64 0), .lit (.bool false), .lit (.int .i64 0), .lit (.int .i64 0)], [], places) :=
  ⟨[], by kernel_rfl⟩

set_option maxRecDepth 100000 in
theorem lifted (os : Os) (started : os.Started) (H : Type) (enc : TypeId × Value → H) (F : Stop.Interp) :
    ReturnsInHanded {} Tryd.checked os 3 .any ((OpenSpec.ofChange Rows.statesRiseSpec).preRow enc Tryd.prog Tryd.f3 Rows.statesRiseRow.domain false Rows.statesRiseRow.laid) (((OpenSpec.ofChange Rows.statesRiseSpec).at F).post enc Tryd.prog Tryd.f3 false true false false) := by
  obtain ⟨places, hx⟩ := reads os enc
  refine returnsInHanded_of_row (C := Tryd.checked) (s := OpenSpec.ofChange Rows.statesRiseSpec) own started (by kernel_rfl) Tryd.func3
    (witness_row_at (enc := enc) (C := Tryd.checked) false (laidWorld os) #[.int .i64 0, .bool false, .int .i64 0, .int .i64 0] rfl (by kernel_rfl) (by kernel_rfl) (by kernel_rfl)
      (OpenSpec.preRow_of_cond 8 hx (by kernel_rfl) (fun k hk => by cases hk) (by kernel_rfl) (laid_met os))) ?_
  intro W base args ds gs before hval0 hW hcnd hcond hsz0 hL _ _
  have hT := tabs_of hL
  have hsz : (DataW.weightsEach Tryd.prog (Tryd.f3.params.toList ++ Rows.statesRiseSpec.plain.varTypes Tryd.prog) (ds ++ gs)).all (· ≤ reachBytes) = true := hsz0
  have hval : ∀ (j : Nat) t v, Tryd.f3.params[j]? = some t → args[j]? = some v → Value.okWide Tryd.prog W .any base t v := hval0
  have hW' := hW
  obtain ⟨p, q, hA0, hV, rfl, hfz, hnd⟩ := hW
  have hA : DataW.TrodAll enc Tryd.prog W 0 (fun _ => true) true Tryd.f3.params.toList args.toList ds p := hA0
  rw [Tryd.params3] at hA hval hsz
  obtain ⟨v0, vs0, d0, ds0, p0, q0, hargs, rfl, rfl, h0, r0⟩ := trodAll_cons hA
  obtain ⟨v1, vs1, d1, ds1, p1, q1, rfl, rfl, rfl, h1, r1⟩ := trodAll_cons r0
  obtain ⟨v2, vs2, d2, ds2, p2, q2, rfl, rfl, rfl, h2, r2⟩ := trodAll_cons r1
  obtain ⟨v3, vs3, d3, ds3, p3, q3, rfl, rfl, rfl, h3, r3⟩ := trodAll_cons r2
  obtain ⟨rfl, rfl, rfl⟩ := trodAll_nil r3
  obtain rfl : args = #[v0, v1, v2, v3] := by cases args; simp_all
  obtain ⟨rfl, rfl⟩ := trodVars_none hV
  obtain ⟨a0, rfl, rfl, rfl, w0⟩ := open_int Tryd.underlying3 (hval 0 3 v0 rfl rfl) h0
  obtain ⟨a1, rfl, rfl, rfl⟩ := open_bool Tryd.underlying4 (hval 1 4 v1 rfl rfl) h1
  obtain ⟨a2, rfl, rfl, rfl, w2⟩ := open_int Tryd.underlying3 (hval 2 3 v2 rfl rfl) h2
  obtain ⟨a3, rfl, rfl, rfl, w3⟩ := open_int Tryd.underlying3 (hval 3 3 v3 rfl rfl) h3
  clear hA0 hval0
  refine (walk a0 a1 a2 a3 W hT w0 w2 w3).mono fun e W' ⟨he, bel⟩ => ?_
  subst he
  exact ⟨_, rfl, _, _, _, [], _, [], hW', trodAll_mk1 (shut_bool Tryd.underlying4 _), (trodAll_cons_mk (shut_int Tryd.underlying3 w0) (trodAll_cons_mk (shut_bool Tryd.underlying4 _) (trodAll_cons_mk (shut_int Tryd.underlying3 w2) (trodAll_cons_mk (shut_int Tryd.underlying3 w3) trodAll_mk0)))), rfl, bel.frame _, fun h => by cases h⟩

theorem said : Rows.StatesRiseSaid :=
  OpenClaim.holds_of_cond 3 Tryd.f3 rfl rfl rfl rfl rfl rfl rfl ⟨rfl, rfl, rfl, rfl, rfl⟩ rfl rfl rfl rfl rfl (by kernel_rfl) Tryd.func3 (by kernel_rfl)
    (of_decide_eq_true (by kernel_rfl)) (by unfold Func.isWrapper; first | (rw [if_pos (by decide +kernel)]; kernel_rfl) | (rw [if_neg (by decide +kernel)]; exact ⟨rfl, rfl⟩))
    (fun os started H enc _ F => by rw [OpenClaim.pre_eq_preRow]; exact lifted os started H enc F)

theorem plain (f : FuncId) (fn : Func) (hf : Tryd.pinned.checked.prog.funcNamed "dossier/dossierlaw17.StatesRise" = some f) (hfn : Tryd.pinned.checked.prog.funcs[f]? = some fn) :
    false = Tryd.pinned.checked.prog.looks [] ∧ ∀ (j : Nat) t, fn.params[j]? = some t → Tryd.pinned.checked.prog.wantsStandIn t = false := by
  obtain rfl : f = 3 := Option.some.inj ((show Tryd.prog.funcNamed "dossier/dossierlaw17.StatesRise" = some 3 by kernel_rfl).symm.trans hf) |>.symm
  obtain rfl : fn = Tryd.f3 := (Option.some.inj (Tryd.func3.symm.trans hfn)).symm
  refine ⟨by kernel_rfl, fun j t ht => ?_⟩
  rw [Tryd.params3] at ht
  have hm := Array.mem_of_getElem? ht
  simp only [Array.mem_def, List.mem_cons, List.not_mem_nil, or_false] at hm
  rcases hm with rfl | rfl | rfl | rfl
  · exact (show Tryd.prog.wantsStandIn 3 = false by kernel_rfl)
  · exact (show Tryd.prog.wantsStandIn 4 = false by kernel_rfl)
  · exact (show Tryd.prog.wantsStandIn 3 = false by kernel_rfl)
  · exact (show Tryd.prog.wantsStandIn 3 = false by kernel_rfl)

/-- The statement: the card. -/
theorem proved : Rows.StatesRiseCardSaid :=
  Claim7.holds_tied_plain_at .later [] _ _ _ _ said (fun _ h => by cases h) (by kernel_rfl) (fun _ h => by cases h) statesRise_row_tie rfl ⟨rfl, rfl⟩ (by kernel_rfl) rfl plain (by kernel_rfl)
end Go.Proofs.YtdagilkidklmaaaDoor.statesRise
