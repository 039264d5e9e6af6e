/- states: THE LAW StatesAll: of all kinds, states and events and either root: the program's Next and the reference's give the same, the state behind is one that the kind may be in, and nothing but closing leaves a final one. Conditions: none but that the argument is an int. -/
import Derived.Test.YtdagilkidklmaaaUn
import Derived.ProofKit
import Derived.SizedLaws
import Derived.ShutString
import Derived.ChangeOld
namespace Go.Proofs.Ytdagilkidklmaaa.statesAll
open Go.ChangeShapes Go.WideShapes Go.ChangeAt Go.RowKit
set_option linter.unusedVariables false
set_option linter.unusedSimpArgs false

theorem awake_c (w : World) : Calls Try.prog 8 #[] w fun x w' => x = .returned (.bool true) ∧ Below w.heap.size w w' := by
  have HN := Lib.hid (fun w => next_c w 1 false 2 0 6)
  rw [show nextM 1 false 2 0 6 = (4, true) from by decide +kernel] at HN
  dsimp only at HN
  go_enter Try.func8, Try.ntmps8
  go_wp2_with (go_at_call 6; refine (HN.out _).mono ?_; rintro e w' ⟨rfl, hb⟩; have HB := Lib.hid hb; clear hb)
  go_ret
  exact ⟨rfl, HB.out⟩

theorem cell2 {w : World} {b : Nat} {u v : Value} {T : TypeId} (h : w.heap[b]? = some (.cells #[u, v] T (0, 0))) : w.cell? ⟨b, 0, none⟩ = some u ∧ w.cell? ⟨b, 1, none⟩ = some v := by
  constructor <;> simp [World.cell?, h]
def Two (b : Nat) (w : World) : Prop := b < w.heap.size ∧ w.cell? ⟨b, 0, none⟩ = some (.bool false) ∧ w.cell? ⟨b, 1, none⟩ = some (.bool true)
theorem two_new (w : World) : Two w.heap.size (w.alloc (.cells #[.bool false, .bool true] 4)) := ⟨by simp, cell2 (heap_alloc_new w _)⟩
theorem Two.below {b : Nat} {w w' : World} (h : Two b w) (hb : Below w.heap.size w w') : Two b w' :=
  ⟨Nat.lt_of_lt_of_le h.1 hb.size, (hb.cell (p := ⟨b, 0, none⟩) h.1).trans h.2.1, (hb.cell (p := ⟨b, 1, none⟩) h.1).trans h.2.2⟩

theorem Two.at {b : Nat} {w : World} (h : Two b w) {j : Nat} (hj : j < 2) : ∃ r, w.cell? ⟨b, j, none⟩ = some (.bool r) := by
  rcases (by omega : j = 0 ∨ j = 1) with rfl | rfl
  · exact ⟨_, h.2.1⟩
  · exact ⟨_, h.2.2⟩

/-- What is known of one kind, state, event and root. -/
theorem known (b : Int) (hb : -9223372036854775808 ≤ b ∧ b ≤ 9223372036854775807) (k : Int) (r : Bool) (s e : Int) :
    ∃ P q sp fs, nextM k r s b e = (P, q) ∧ rNext k r s b e = (P, q) ∧ inS (stM k r) P = sp ∧ finalM s = fs ∧ (q = true → sp = true ∧ (fs = true → (e != 18) = false)) := by
  refine ⟨(nextM k r s b e).1, (nextM k r s b e).2, _, _, rfl, by rw [← next_eq hb], rfl, rfl, ?_⟩
  intro hq
  have := good_all hb k r s e
  unfold good at this
  dsimp only at this
  rw [hq] at this
  simp at this
  refine ⟨this.1, fun hf => ?_⟩
  have h2 := this.2
  rw [hf] at h2
  simpa using h2

set_option maxRecDepth 100000 in
set_option maxHeartbeats 2000000 in
theorem walk (b : Int) (w : World) (wb : (Lit.int .i64 b).wf = true) :
    Calls Try.prog 4 #[.int .i64 b] w fun x w' => x = .returned (.bool true) ∧ Below w.heap.size w w' := by
  have hb : -9223372036854775808 ≤ b ∧ b ≤ 9223372036854775807 := by simpa [Lit.wf, IntKind.min, IntKind.max, IntKind.signed, IntKind.bits] using wb
  have HK := Lib.hid (known b hb)
  have HN := Lib.hid (fun w k r s e => next_c w k r s b e)
  have HR := Lib.hid (fun w k r s e => rNext_c w k r s b e hb)
  have HS := Lib.hid (fun w k r s => states_c w k r s)
  have HF := Lib.hid (fun w s => final_c w s)
  have HA := Lib.hid awake_c
  clear wb hb
  go_enter Try.func4, Try.ntmps4
  go_wp2_with fail
  go_loopw [12] (fun i wr => ∃ k : Nat, k ≤ 10 ∧ i = .int .i64 k ∧ Below w.heap.size w wr) (fun i _ => 10 - (intOf i).toNat)
  case atStart => exact ⟨0, by omega, rfl, Below.refl _ _⟩
  case round =>
    obtain ⟨k, hk, rfl, hbr⟩ := hrel
    have HB := Lib.hid hbr
    clear hbr
    by_cases hlt : k < 10
    · have hd1 : decide ((k : Int) < 10) = true := decide_eq_true (by omega)
      go_wp2_with fail
      go_loopw [15] (fun i wr => ∃ k : Nat, k ≤ 11 ∧ i = .int .i64 k ∧ Below w.heap.size w wr) (fun i _ => 11 - (intOf i).toNat)
      case atStart => exact ⟨0, by omega, rfl, HB.out⟩
      case round =>
        obtain ⟨s, hs, rfl, hbr⟩ := hrel
        clear HB
        have HB := Lib.hid hbr
        clear hbr
        by_cases hlt2 : s < 11
        · have hd2 : decide ((s : Int) < 11) = true := decide_eq_true (by omega)
          go_wp2_with fail
          go_loopw [18] (fun i wr => ∃ k : Nat, k ≤ 20 ∧ i = .int .i64 k ∧ Below w.heap.size w wr) (fun i _ => 20 - (intOf i).toNat)
          case atStart => exact ⟨0, by omega, rfl, HB.out⟩
          case round =>
            obtain ⟨e, he, rfl, hbr⟩ := hrel
            clear HB
            have HB := Lib.hid hbr
            clear hbr
            by_cases hlt3 : e < 20
            · have hd3 : decide ((e : Int) < 20) = true := decide_eq_true (by omega)
              have HT := Lib.hid (fun (x : World) => two_new x)
              have HBn := Lib.hid (fun (o : Obj) => HB.out.alloc HB.out.size o)
              go_wp2_with fail
              go_loopw [23] (fun i wq => ∃ j : Nat, j ≤ 2 ∧ i = .int .i64 j ∧ Below w.heap.size w wq ∧ Two wr.heap.size wq) (fun i _ => 2 - (intOf i).toNat)
              case atStart => exact ⟨0, by omega, rfl, HBn.out _, HT.out wr⟩
              case round =>
                obtain ⟨j, hj, rfl, hbq, htw⟩ := hrel
                have HBT := Lib.hid (And.intro hbq htw)
                clear hbq htw
                by_cases hlt4 : j < 2
                · obtain ⟨r, hcl⟩ := HBT.out.2.at hlt4
                  obtain ⟨P, q, sp, fs, h1, h2, h3, h4, h5⟩ := HK.out k r s e
                  have HN1 := Lib.hid (fun w => HN.out w k r s e)
                  have HR1 := Lib.hid (fun w => HR.out w k r s e)
                  have HS1 := Lib.hid (fun w => HS.out w k r P)
                  have HF1 := Lib.hid (fun w => HF.out w s)
                  rw [h1] at HN1
                  rw [h2] at HR1
                  rw [h3] at HS1
                  rw [h4] at HF1
                  dsimp only at HN1 HR1
                  have hPP : (P != P) = false := by simp
                  have hqq : (q != q) = false := by simp
                  clear h1 h2 h3 h4
                  cases q
                  · clear h5
                    go_wp2_with (first
                      | (go_at_call 10; refine (HF1.out _).mono ?_; rintro e w' ⟨rfl, rfl⟩)
                      | (go_at_call 9; refine (HS1.out _).mono ?_; rintro e w' ⟨rfl, rfl⟩)
                      | (go_at_call 7; refine (HR1.out _).mono ?_; rintro e w' ⟨rfl, hb⟩; have HB2 := Lib.hid (And.intro (bel_tr HB1.out.1 hb) (HB1.out.2.below hb)); clear hb)
                      | (go_at_call 6; refine (HN1.out _).mono ?_; rintro e w' ⟨rfl, hb⟩; have HB1 := Lib.hid (And.intro (bel_tr HBT.out.1 hb) (HBT.out.2.below hb)); clear hb))
                    exact ⟨⟨j + 1, by omega, by go_num, HB2.out.1, HB2.out.2⟩, by simp [intOf]; omega⟩
                  · obtain ⟨rfl, h6⟩ := h5 rfl
                    clear h5
                    cases fs
                    · clear h6
                      go_wp2_with (first
                        | (go_at_call 10; refine (HF1.out _).mono ?_; rintro e w' ⟨rfl, rfl⟩)
                        | (go_at_call 9; refine (HS1.out _).mono ?_; rintro e w' ⟨rfl, rfl⟩)
                        | (go_at_call 7; refine (HR1.out _).mono ?_; rintro e w' ⟨rfl, hb⟩; have HB2 := Lib.hid (And.intro (bel_tr HB1.out.1 hb) (HB1.out.2.below hb)); clear hb)
                        | (go_at_call 6; refine (HN1.out _).mono ?_; rintro e w' ⟨rfl, hb⟩; have HB1 := Lib.hid (And.intro (bel_tr HBT.out.1 hb) (HBT.out.2.below hb)); clear hb))
                      exact ⟨⟨j + 1, by omega, by go_num, HB2.out.1, HB2.out.2⟩, by simp [intOf]; omega⟩
                    · have h7 := h6 rfl
                      clear h6
                      go_wp2_with (first
                        | (go_at_call 10; refine (HF1.out _).mono ?_; rintro e w' ⟨rfl, rfl⟩)
                        | (go_at_call 9; refine (HS1.out _).mono ?_; rintro e w' ⟨rfl, rfl⟩)
                        | (go_at_call 7; refine (HR1.out _).mono ?_; rintro e w' ⟨rfl, hb⟩; have HB2 := Lib.hid (And.intro (bel_tr HB1.out.1 hb) (HB1.out.2.below hb)); clear hb)
                        | (go_at_call 6; refine (HN1.out _).mono ?_; rintro e w' ⟨rfl, hb⟩; have HB1 := Lib.hid (And.intro (bel_tr HBT.out.1 hb) (HBT.out.2.below hb)); clear hb))
                      exact ⟨⟨j + 1, by omega, by go_num, HB2.out.1, HB2.out.2⟩, by simp [intOf]; omega⟩
                · have hj2 : j = 2 := by omega
                  go_wp2_with fail
                  exact ⟨⟨e + 1, by omega, by go_num, HBT.out.1⟩, by simp [intOf]; omega⟩
            · go_wp2_with fail
              exact ⟨⟨s + 1, by omega, by go_num, HB.out⟩, by simp [intOf]; omega⟩
        · go_wp2_with fail
          exact ⟨⟨k + 1, by omega, by go_num, HB.out⟩, by simp [intOf]; omega⟩
    · go_wp2_with (go_at_call 8; refine (HA.out _).mono ?_; rintro e w' ⟨rfl, hb⟩; have HB3 := Lib.hid (bel_tr HB.out hb); clear hb)
      go_ret
      exact ⟨rfl, HB3.out⟩

-- FRAME
theorem own : ownKnob Try.prog.godebug = none := by kernel_rfl
theorem laidOut : laidOutB Try.prog = true := by kernel_rfl

set_option maxRecDepth 100000 in
theorem lifted (os : Os) (started : os.Started) (H : Type) (enc : TypeId × Value → H) :
    ReturnsInHanded {} Try.checked os 4 .any (Rows.statesAllSpec.pre6 enc Try.prog Try.f4 Rows.statesAllRow.domain false) (Rows.statesAllSpec.post enc Try.prog Try.f4 false true false false) := by
  refine returnsInHanded_of_change_sized (C := Try.checked) own started (by kernel_rfl) Try.func4
    (ChangeSpec.witness6 (enc := enc) (C := Try.checked) false ⟨#[], #[.int .i64 0], []⟩ 8 (by kernel_rfl) (by kernel_rfl) (by kernel_rfl) (by kernel_rfl)) ?_
  intro W base args ds gs before hval0 hW hcnd hsz0 _
  have hsz : (DataW.weightsEach Try.prog (Try.f4.params.toList ++ Rows.statesAllSpec.plain.varTypes Try.prog) (ds ++ gs)).all (· ≤ reachBytes) = true := hsz0
  have hval : ∀ (j : Nat) t v, Try.f4.params[j]? = some t → args[j]? = some v → Value.okWide Try.prog W .any base t v := hval0
  have hW' := hW
  obtain ⟨p, q, hA0, hV, rfl, hfz, hnd⟩ := hW
  have hA : DataW.TrodAll enc Try.prog W 0 (fun _ => true) true Try.f4.params.toList args.toList ds p := hA0
  rw [Try.params4] at hA hval hsz
  obtain ⟨v0, vs0, d0, ds0, p0, q0, hargs, rfl, rfl, h0, r0⟩ := trodAll_cons hA
  obtain ⟨rfl, rfl, rfl⟩ := trodAll_nil r0
  obtain rfl : args = #[v0] := by cases args; simp_all
  obtain ⟨rfl, rfl⟩ := trodVars_none hV
  obtain ⟨a0, rfl, rfl, rfl, w0⟩ := open_int Try.underlying3 (hval 0 3 v0 rfl rfl) h0
  clear hA0 hval0
  refine (walk a0 W w0).mono fun e W' ⟨he, bel⟩ => ?_
  subst he
  exact ⟨_, rfl, _, _, _, [], _, [], hW', trodAll_mk1 (shut_bool Try.underlying4 _), (trodAll_cons_mk (shut_int Try.underlying3 w0) trodAll_mk0), rfl, bel.frame _, fun h => by cases h⟩

/-- The statement. -/
theorem proved : Rows.StatesAllSaid :=
  OpenClaim.holds_of_wide 4 Try.f4 rfl rfl rfl rfl rfl rfl rfl ⟨rfl, rfl, rfl, rfl, rfl⟩ rfl rfl rfl rfl rfl (by kernel_rfl) Try.func4 (by kernel_rfl)
    (of_decide_eq_true (by kernel_rfl)) (by unfold Func.isWrapper; first | (rw [if_pos (by decide +kernel)]; kernel_rfl) | (rw [if_neg (by decide +kernel)]; exact ⟨rfl, rfl⟩))
    (fun os started H enc _ => lifted os started H enc)
end Go.Proofs.Ytdagilkidklmaaa.statesAll
