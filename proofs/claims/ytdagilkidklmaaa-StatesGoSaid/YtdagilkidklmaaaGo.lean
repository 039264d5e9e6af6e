/- states: THE LAW StatesGo: what its parent suspended, and has go on, is as it was. Conditions: none but that the arguments are ints. -/
import Derived.Test.YtdagilkidklmaaaUo
import Derived.ProofKit
import Derived.SizedLaws
import Derived.ShutString
import Derived.ChangeOld
namespace Go.Proofs.Ytdagilkidklmaaa.statesGo
open Go.ChangeShapes Go.WideShapes Go.ChangeAt Go.RowKit
set_option linter.unusedVariables false
set_option linter.unusedSimpArgs false


theorem awakeG_c (w : World) : Calls Try.prog 8 #[] w fun x w' => x = .returned (.bool true) ∧ Below w.heap.size w w' := by
  have HN := Lib.hid (fun w => next_c w 1 false 2 0 6)
  rw [show nextM 1 false 2 0 6 = (4, true) from by decide +kernel] at HN
  dsimp only at HN
  go_enter Try.func8, Try.ntmps8
  go_wp2_with (go_at_call 6; refine (HN.out _).mono ?_; rintro e w' ⟨rfl, hb⟩; have HB := Lib.hid hb; clear hb)
  go_ret
  exact ⟨rfl, HB.out⟩

theorem bel_trG {w x w' : World} (h1 : Below w.heap.size w x) (h2 : Below x.heap.size x w') : Below w.heap.size w w' := h1.trans (h2.mono h1.size)

set_option maxRecDepth 100000 in
set_option maxHeartbeats 600000 in
theorem walk (k s : Int) (w : World) (wk : (Lit.int .i64 k).wf = true) (ws : (Lit.int .i64 s).wf = true) :
    Calls Try.prog 5 #[.int .i64 k, .int .i64 s] w fun x w' => x = .returned (.bool true) ∧ Below w.heap.size w w' := by
  have HN := Lib.hid (fun w => next_c w k false s 0 15)
  have HA := Lib.hid awakeG_c
  have HG := Lib.hid (go_all k s)
  have HM := Lib.hid (fun w => next_c w k false 6 (s + 10) 16)
  clear wk ws
  obtain ⟨p, hp⟩ : ∃ p, nextM k false s 0 15 = p := ⟨_, rfl⟩
  rw [hp] at HN HG
  clear hp
  obtain ⟨P, q⟩ := p
  dsimp only at HN HG
  cases q
  · clear HM HG
    go_enter Try.func5, Try.ntmps5
    go_wp2_with (first
      | (go_at_call 8; refine (HA.out _).mono ?_; rintro e w' ⟨rfl, hb⟩; have HB3 := Lib.hid (bel_trG HB1.out hb); clear hb)
      | (go_at_call 6; refine (HN.out _).mono ?_; rintro e w' ⟨rfl, hb⟩; have HB1 := Lib.hid hb; clear hb))
    go_ret
    exact ⟨rfl, HB3.out⟩
  · obtain ⟨rfl, h2, h3, h4⟩ := HG.out rfl
    clear HG
    rw [h2] at HM
    clear h2
    dsimp only at HM
    have hwr : RowKit.wrap64 (s + 10) = s + 10 := by unfold RowKit.wrap64; omega
    have HW := Lib.hid hwr
    have hss : (s == s) = true := by simp
    clear h3 h4
    go_enter Try.func5, Try.ntmps5
    go_wp2_with (first
      | (go_at_call 8; refine (HA.out _).mono ?_; rintro e w' ⟨rfl, hb⟩; have HB3 := Lib.hid (bel_trG HB2.out hb); clear hb)
      | (go_at_call 6; with_reducible refine (HM.out _).mono ?_; rintro e w' ⟨rfl, hb⟩; have HB2 := Lib.hid (bel_trG HB1.out hb); clear hb)
      | (go_at_call 6; with_reducible refine (HN.out _).mono ?_; rintro e w' ⟨rfl, hb⟩; have HB1 := Lib.hid hb; clear hb))
    go_ret
    exact ⟨rfl, HB3.out⟩

-- FRAME
theorem own : ownKnob Try.prog.godebug = none := by kernel_rfl
theorem laidOut : laidOutB Try.prog = true := by kernel_rfl

set_option maxRecDepth 100000 in
theorem lifted (os : Os) (started : os.Started) (H : Type) (enc : TypeId × Value → H) :
    ReturnsInHanded {} Try.checked os 5 .any (Rows.statesGoSpec.pre6 enc Try.prog Try.f5 Rows.statesGoRow.domain false) (Rows.statesGoSpec.post enc Try.prog Try.f5 false true false false) := by
  refine returnsInHanded_of_change_sized (C := Try.checked) own started (by kernel_rfl) Try.func5
    (ChangeSpec.witness6 (enc := enc) (C := Try.checked) false ⟨#[], #[.int .i64 0, .int .i64 0], []⟩ 8 (by kernel_rfl) (by kernel_rfl) (by kernel_rfl) (by kernel_rfl)) ?_
  intro W base args ds gs before hval0 hW hcnd hsz0 _
  have hsz : (DataW.weightsEach Try.prog (Try.f5.params.toList ++ Rows.statesGoSpec.plain.varTypes Try.prog) (ds ++ gs)).all (· ≤ reachBytes) = true := hsz0
  have hval : ∀ (j : Nat) t v, Try.f5.params[j]? = some t → args[j]? = some v → Value.okWide Try.prog W .any base t v := hval0
  have hW' := hW
  obtain ⟨p, q, hA0, hV, rfl, hfz, hnd⟩ := hW
  have hA : DataW.TrodAll enc Try.prog W 0 (fun _ => true) true Try.f5.params.toList args.toList ds p := hA0
  rw [Try.params5] at hA hval hsz
  obtain ⟨v0, vs0, d0, ds0, p0, q0, hargs, rfl, rfl, h0, r0⟩ := trodAll_cons hA
  obtain ⟨v1, vs1, d1, ds1, p1, q1, rfl, rfl, rfl, h1, r1⟩ := trodAll_cons r0
  obtain ⟨rfl, rfl, rfl⟩ := trodAll_nil r1
  obtain rfl : args = #[v0, v1] := by cases args; simp_all
  obtain ⟨rfl, rfl⟩ := trodVars_none hV
  obtain ⟨a0, rfl, rfl, rfl, w0⟩ := open_int Try.underlying3 (hval 0 3 v0 rfl rfl) h0
  obtain ⟨a1, rfl, rfl, rfl, w1⟩ := open_int Try.underlying3 (hval 1 3 v1 rfl rfl) h1
  clear hA0 hval0
  refine (walk a0 a1 W w0 w1).mono fun e W' ⟨he, bel⟩ => ?_
  subst he
  exact ⟨_, rfl, _, _, _, [], _, [], hW', trodAll_mk1 (shut_bool Try.underlying4 _), (trodAll_cons_mk (shut_int Try.underlying3 w0) (trodAll_cons_mk (shut_int Try.underlying3 w1) trodAll_mk0)), rfl, bel.frame _, fun h => by cases h⟩

/-- The statement. -/
theorem proved : Rows.StatesGoSaid :=
  OpenClaim.holds_of_wide 5 Try.f5 rfl rfl rfl rfl rfl rfl rfl ⟨rfl, rfl, rfl, rfl, rfl⟩ rfl rfl rfl rfl rfl (by kernel_rfl) Try.func5 (by kernel_rfl)
    (of_decide_eq_true (by kernel_rfl)) (by unfold Func.isWrapper; first | (rw [if_pos (by decide +kernel)]; kernel_rfl) | (rw [if_neg (by decide +kernel)]; exact ⟨rfl, rfl⟩))
    (fun os started H enc _ => lifted os started H enc)
end Go.Proofs.Ytdagilkidklmaaa.statesGo
