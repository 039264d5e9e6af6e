/- Proved: for every string s and int n, the law LexerBlanks returns true: blanks between the words, ahead of them and behind play no part. Conditions: the decoder's two tables of unicode/utf8 hold what Go's text lays (the card ties them). -/
import Derived.Test.YtejffaidbnodhaaDoorLblka
import Derived.Test.YtejffaidbnodhaaDoorLblkc
import Derived.Test.YtejffaidbnodhaaDoorMx
import Derived.Test.YtejffaidbnodhaaDoorLn
import Derived.Test.YtejffaidbnodhaaDoorTb
import Derived.Deep.RegionHeld3
import Derived.ShutString
import Derived.ChangeOld
namespace Go.Proofs.YtejffaidbnodhaaDoor.lexerBlanks
open Go.ChangeShapes Go.WideShapes Go.ChangeAt Go.RowKit
open Go.ChangeMaps (open_string shut_string)
set_option linter.unusedVariables false

set_option maxRecDepth 100000 in
set_option maxHeartbeats 2000000 in
theorem walk (s : ByteArray) (n : Int) (w : World) (hT : Tabs w) (s1 : s.size ≤ 140737488351232) (wn : (Lit.int .i64 n).wf = true) :
    Calls Tryd.prog 5 #[.string s, .int .i64 n] w fun e w' => e = .returned (.bool true) ∧ Below w.heap.size w w' := by
  have HT := Lib.hid hT
  have HQ := fun (w : World) (hT : Tabs w) => words_c w hT s s1
  obtain ⟨⟨L, a, e⟩, hR⟩ : ∃ R, R = wordsOf s.data.toList := ⟨_, rfl⟩
  rw [← hR] at HQ
  have HQ' := Lib.hid HQ
  have HAW := Lib.hid (fun (w : World) (hT : Tabs w) => awake_c w hT)
  clear HQ hT s1 wn
  by_cases he : e = 0
  · subst he
    obtain ⟨M, rfl, rfl, hx, hM, hl⟩ := wordsOf_ok _ _ _ hR.symm
    have HS := Lib.hid (fun (w : World) (base : Nat) (v : Value) (ho : OwnS w base 31 3 v (M ++ [noW]).length (wcells (M ++ [noW]))) => spell_c w base v M ho hx hM (by omega))
    have hj := wordsOf_join [32, 10] [9, 13, 32] (by decide) (by decide) M hx
    obtain ⟨X, hX⟩ : ∃ X : ByteArray, X = (⟨#[32, 10]⟩ : ByteArray) ++ ⟨(joinM M).toArray⟩ ++ ⟨#[9, 13, 32]⟩ := ⟨_, rfl⟩
    have hXl : X.data.toList = [32, 10] ++ (joinM M ++ [9, 13, 32]) := by rw [hX]; simp [ByteArray.data_append]
    have hXs : X.size = (joinM M).length + 5 := by rw [← size_list, hXl]; simp
    have hYs : (⟨(joinM M).toArray⟩ : ByteArray).size = (joinM M).length := List.size_toArray ..
    have HW := fun (w : World) (hT : Tabs w) => words_c w hT X (by omega)
    rw [hXl, hj, show ([32, 10] ++ (joinM M ++ [9, 13, 32]) : List UInt8).length = (joinM M).length + 5 from by simp] at HW
    generalize (⟨(joinM M).toArray⟩ : ByteArray) = t at *
    have HML := Lib.hid (show (M ++ [noW]).length = M.length + 1 from by simp)
    rw [hX] at HW
    clear hR hx hj hXl
    by_cases hbig : 400 < (joinM M).length + 5
    · rw [if_pos hbig] at HW
      have HW' := Lib.hid HW
      have hts : 395 < t.size := by omega
      have htl : t.size ≤ 13200 := by omega
      clear HW hbig hl hX hXs hYs
      go_enter Tryd.func5, Tryd.ntmps5
      go_wp2_with fail
      refine (HQ'.out _ HT.out).mono ?_
      rintro e1 w1 ⟨v1, rfl, ho1, hb1⟩
      have HO1 := Lib.hid ho1
      have HB1 := Lib.hid hb1
      clear ho1 hb1
      go_wp2_with fail
      refine (HS.out _ _ _ HO1.out).mono ?_
      rintro e2 w2 ⟨rfl, hb2⟩
      have HB2 := Lib.hid (HB1.out.trans (hb2.mono HB1.out.size))
      clear hb2
      go_wp2_with fail
      refine (HW'.out _ (HT.out.below HB2.out)).mono ?_
      rintro e3 w3 ⟨v3, rfl, ho3, hb3⟩
      have HB3 := Lib.hid (HB2.out.trans (hb3.mono HB2.out.size))
      clear ho3 hb3
      go_wp2_with fail
      refine (HAW.out _ (HT.out.below HB3.out)).mono ?_
      rintro e4 w4 ⟨rfl, hb4⟩
      have HB4 := Lib.hid (HB3.out.trans (hb4.mono HB3.out.size))
      clear hb4
      go_wp2_with fail
      go_ret
      exact ⟨rfl, HB4.out⟩
    · rw [if_neg hbig] at HW
      have hts : t.size ≤ 395 := by omega
      by_cases hn0 : n < 0
      · exact smallA (M ++ [noW]) s t n w HT.out hts HQ'.out HS.out HW hn0
      by_cases hn1 : ((M ++ [noW]).length : Int) ≤ n
      · exact smallB (M ++ [noW]) s t n w HT.out hts HQ'.out HS.out HW hn1 (by omega)
      · exact smallC (M ++ [noW]) s t n w HT.out hts HQ'.out HS.out HW n.toNat (by omega) (by omega)
  · have t0 : (e != 0) = true := by simpa using he
    clear hR he
    go_enter Tryd.func5, Tryd.ntmps5
    go_wp2_with fail
    refine (HQ'.out _ HT.out).mono ?_
    rintro e1 w1 ⟨v1, rfl, ho1, hb1⟩
    have HB1 := Lib.hid hb1
    clear ho1 hb1
    go_wp2_with fail
    refine (HAW.out _ (HT.out.below HB1.out)).mono ?_
    rintro e4 w4 ⟨rfl, hb4⟩
    have HB4 := Lib.hid (HB1.out.trans (hb4.mono HB1.out.size))
    clear hb4
    go_wp2_with fail
    go_ret
    exact ⟨rfl, HB4.out⟩

-- FRAME
theorem own : ownKnob Tryd.prog.godebug = none := by kernel_rfl
theorem laidOut : laidOutB Tryd.prog = true := by kernel_rfl

theorem laid_met (os : Os) : laidMet Tryd.prog Rows.lexerBlanksRow.laid ((laidWorld os).forCall (fun _ _ => 0) ⟨#[], #[.string ByteArray.empty, .int .i64 0], []⟩).memory :=
  laidMet_of_run' 8 (by kernel_rfl) (by kernel_rfl)
theorem reads (os : Os) {H : Type} (enc : TypeId × Value → H) : ∃ places, DataW.whole enc Tryd.prog ((laidWorld os).forCall (fun _ _ => 0) ⟨#[], #[.string ByteArray.empty, .int .i64 0], []⟩).memory Tryd.f5.params.toList Rows.lexerBlanksSpec.vars false (#[.string ByteArray.empty, .int .i64 0] : Array Value).toList 8 = some ([.lit (.string []), .lit (.int .i64 0)], [], places) :=
  ⟨[], by kernel_rfl⟩

set_option maxRecDepth 100000 in
theorem lifted (os : Os) (started : os.Started) (H : Type) (enc : TypeId × Value → H) (F : Stop.Interp) :
    ReturnsInHanded {} Tryd.checked os 5 .any ((OpenSpec.ofChange Rows.lexerBlanksSpec).preRow enc Tryd.prog Tryd.f5 Rows.lexerBlanksRow.domain false Rows.lexerBlanksRow.laid) (((OpenSpec.ofChange Rows.lexerBlanksSpec).at F).post enc Tryd.prog Tryd.f5 false true false false) := by
  obtain ⟨places, hx⟩ := reads os enc
  refine returnsInHanded_of_row (C := Tryd.checked) (s := OpenSpec.ofChange Rows.lexerBlanksSpec) own started (by kernel_rfl) Tryd.func5
    (witness_row_at (enc := enc) (C := Tryd.checked) false (laidWorld os) #[.string ByteArray.empty, .int .i64 0] rfl (by kernel_rfl) (by kernel_rfl) (by kernel_rfl)
      (OpenSpec.preRow_of_cond 8 hx (by kernel_rfl) (fun k hk => by cases hk) (by kernel_rfl) (laid_met os))) ?_
  intro W base args ds gs before hval0 hW hcnd hcond hsz0 hL _ _
  have hT := tabs_of hL
  have hsz : (DataW.weightsEach Tryd.prog (Tryd.f5.params.toList ++ Rows.lexerBlanksSpec.plain.varTypes Tryd.prog) (ds ++ gs)).all (· ≤ reachBytes) = true := hsz0
  have hval : ∀ (j : Nat) t v, Tryd.f5.params[j]? = some t → args[j]? = some v → Value.okWide Tryd.prog W .any base t v := hval0
  have hW' := hW
  obtain ⟨p, q, hA0, hV, rfl, hfz, hnd⟩ := hW
  have hA : DataW.TrodAll enc Tryd.prog W 0 (fun _ => true) true Tryd.f5.params.toList args.toList ds p := hA0
  rw [Tryd.params5] at hA hval hsz
  obtain ⟨v0, vs0, d0, ds0, p0, q0, hargs, rfl, rfl, h0, r0⟩ := trodAll_cons hA
  obtain ⟨v1, vs1, d1, ds1, p1, q1, rfl, rfl, rfl, h1, r1⟩ := trodAll_cons r0
  obtain ⟨rfl, rfl, rfl⟩ := trodAll_nil r1
  obtain rfl : args = #[v0, v1] := by cases args; simp_all
  obtain ⟨rfl, rfl⟩ := trodVars_none hV
  obtain ⟨a0, rfl, rfl, rfl, w0⟩ := open_string Tryd.underlying9 (hval 0 9 v0 rfl rfl) h0
  have s0 : a0.size ≤ 140737488351232 := by have := sized_string hsz (j := 0) (t := 9) rfl rfl; simpa [reachBytes] using this
  obtain ⟨a1, rfl, rfl, rfl, w1⟩ := open_int Tryd.underlying3 (hval 1 3 v1 rfl rfl) h1
  clear hA0 hval0
  refine (walk a0 a1 W hT s0 w1).mono fun e W' ⟨he, bel⟩ => ?_
  subst he
  exact ⟨_, rfl, _, _, _, [], _, [], hW', trodAll_mk1 (shut_bool Tryd.underlying4 _), (trodAll_cons_mk (shut_string Tryd.underlying9 w0) (trodAll_cons_mk (shut_int Tryd.underlying3 w1) trodAll_mk0)), rfl, bel.frame _, fun h => by cases h⟩

theorem said : Rows.LexerBlanksSaid :=
  OpenClaim.holds_of_cond 5 Tryd.f5 rfl rfl rfl rfl rfl rfl rfl ⟨rfl, rfl, rfl, rfl, rfl⟩ rfl rfl rfl rfl rfl (by kernel_rfl) Tryd.func5 (by kernel_rfl)
    (of_decide_eq_true (by kernel_rfl)) (by unfold Func.isWrapper; first | (rw [if_pos (by decide +kernel)]; kernel_rfl) | (rw [if_neg (by decide +kernel)]; exact ⟨rfl, rfl⟩))
    (fun os started H enc _ F => by rw [OpenClaim.pre_eq_preRow]; exact lifted os started H enc F)

theorem plain (f : FuncId) (fn : Func) (hf : Tryd.pinned.checked.prog.funcNamed "dossier/dossierlaw08.LexerBlanks" = some f) (hfn : Tryd.pinned.checked.prog.funcs[f]? = some fn) :
    true = Tryd.pinned.checked.prog.looks [] ∧ ∀ (j : Nat) t, fn.params[j]? = some t → Tryd.pinned.checked.prog.wantsStandIn t = false := by
  obtain rfl : f = 5 := Option.some.inj ((show Tryd.prog.funcNamed "dossier/dossierlaw08.LexerBlanks" = some 5 by kernel_rfl).symm.trans hf) |>.symm
  obtain rfl : fn = Tryd.f5 := (Option.some.inj (Tryd.func5.symm.trans hfn)).symm
  refine ⟨by kernel_rfl, fun j t ht => ?_⟩
  rw [Tryd.params5] at ht
  have hm := Array.mem_of_getElem? ht
  simp only [Array.mem_def, List.mem_cons, List.not_mem_nil, or_false] at hm
  rcases hm with rfl | rfl
  · exact (show Tryd.prog.wantsStandIn 9 = false by kernel_rfl)
  · exact (show Tryd.prog.wantsStandIn 3 = false by kernel_rfl)

/-- The statement: the card. -/
theorem proved : Rows.LexerBlanksCardSaid :=
  Claim7.holds_tied_plain_at .later [] _ _ _ _ said (fun _ h => by cases h) (by kernel_rfl) (fun _ h => by cases h) lexerBlanks_row_tie rfl ⟨rfl, rfl⟩ (by kernel_rfl) rfl plain (by kernel_rfl)
end Go.Proofs.YtejffaidbnodhaaDoor.lexerBlanks
