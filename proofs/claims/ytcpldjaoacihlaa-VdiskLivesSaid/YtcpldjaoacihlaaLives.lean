/- Proved: for every int room and every list l of steps, the law VdiskLives returns true: whatever is done to a disk, its answers and files are the reference's. Conditions: none. -/
import Derived.Test.YtcpldjaoacihlaaLw
import Derived.Test.YtcpldjaoacihlaaRows
namespace Go.Proofs.Ytcpldjaoacihlaa.vdiskLives
open Go.ChangeShapes Go.WideShapes Go.ChangeAt Go.RowKit
set_option linter.unusedVariables false

set_option maxRecDepth 100000 in
set_option maxHeartbeats 4000000 in
theorem walk (a0 : Int) (v1 : Value) (l : List SV) (w : World) (w0 : (Lit.int .i64 a0).wf = true) (h1 : StepsIs w v1 l) :
    Calls Try.prog 3 #[.int .i64 a0, v1] w fun e w' => e = .returned (.bool true) ∧ Below w.heap.size w w' := by
  have HST := Lib.hid h1
  obtain ⟨a1, c1, rfl, s1, s2, _⟩ := h1
  unfold maxLen at s2
  clear w0
  cases hP : possB a0 with
  | false =>
    have HP := Lib.hid hP
    clear hP
    go_enter Try.func3, Try.ntmps3
    go_wp2_with fail
    refine (new_c _ a0).mono ?_
    rintro e w1 hh
    rw [if_neg (by rw [HP.out]; simp)] at hh
    obtain ⟨rfl, rfl⟩ := hh
    go_wp2_with fail
    refine (new_r _ a0).mono ?_
    rintro e w2 hh
    rw [if_neg (by rw [HP.out]; simp)] at hh
    obtain ⟨rfl, rfl⟩ := hh
    go_wp2_with fail
    refine (awake_c _).mono ?_
    rintro e w3 ⟨rfl, hb⟩
    have HB := Lib.hid hb
    clear hb
    go_wp2_with fail
    go_ret
    exact ⟨rfl, HB.out⟩
  | true =>
  have HP := Lib.hid hP
  clear hP
  go_enter Try.func3, Try.ntmps3
  go_wp2_with fail
  refine (new_c _ a0).mono ?_
  rintro e w1 hh
  rw [if_pos HP.out] at hh
  obtain ⟨foot, rfl, hd, hf, hb1⟩ := hh
  have HD1 := Lib.hid (And.intro hd (And.intro hf hb1))
  clear hd hf hb1
  go_wp2_with fail
  refine (new_r _ a0).mono ?_
  rintro e w2 hh
  rw [if_pos HP.out] at hh
  obtain ⟨m, rfl, hr, hm, hb2⟩ := hh
  have HT := Lib.hid (tw_new (Below.refl _ _) HD1.out.1 HD1.out.2.1 HD1.out.2.2 hr hm hb2)
  clear hr hm hb2 HD1
  go_wp2_with fail
  go_loopw [36] (fun i wr => ∃ (k : Nat) (S : DS), k ≤ l.length ∧ i = .int .i64 k ∧ S.fs.length ≤ k ∧ S.fs.length ≤ 40 ∧ Tw w wr (some ⟨w.heap.size + 1, 0, none⟩) (some ⟨w1.heap.size, 0, none⟩) S S) (fun i _ => l.length - (intOf i).toNat)
  case atStart => exact ⟨0, _, Nat.zero_le _, rfl, by simp [newS], by simp [newS], HT.out⟩
  case round =>
    obtain ⟨k, S, hk, rfl, hl1, hl2, ht⟩ := hrel
    have HS := Lib.hid (And.intro hl1 hl2)
    have HT2 := Lib.hid ht
    clear hl1 hl2 ht
    by_cases hlt : k < l.length
    · obtain ⟨b, o, c, hv, y0, y1, y2, y3, y4, y5, hok⟩ := HST.out.at HT2.out.bel hlt
      simp only [Value.slice.injEq, true_and] at hv
      obtain ⟨hv1, hv2⟩ := hv
      clear hv2
      subst hv1
      obtain ⟨x, hx⟩ : ∃ x, x = l[k] := ⟨_, rfl⟩
      rw [← hx] at y0 y1 y2 y3 y4 y5 hok
      have HX := Lib.hid hok
      obtain ⟨bp, bc, hbv, _⟩ := hok.rb
      obtain ⟨kp, kc, hkv, _⟩ := hok.rk
      rw [hbv] at y4
      rw [hkv] at y5
      have HVAL := Lib.hid (show x.val = .agg #[.int .i64 x.op, .int .i64 x.n, .string x.nm, .string x.tn, .slice bp x.b.length bc, .slice kp (icells x.ks).length kc] from by unfold SV.val; rw [hbv, hkv])
      have i1 : (0 : Int) ≤ (k : Int) := by omega
      have i2 : (k : Int) < (l.length : Int) := by omega
      clear hx hok hbv hkv
      by_cases h40 : k < 40
      · go_wp2_with fail
        rw [← HVAL.out]
        refine (do_any x HX.out (HT2.out.below ((Below.refl _ _).alloc (Nat.le_refl _) _)) (by have := HS.out.2; omega)).mono ?_
        rintro e w3 ⟨rfl, ht3⟩
        have HT3 := Lib.hid ht3
        clear ht3
        have HU3 := Lib.hid (show Calls Try.prog 12 #[.pointer (some ⟨w.heap.size + 1, 0, none⟩), .pointer (some ⟨w1.heap.size, 0, none⟩)] w3 fun e w' => e = .returned (.bool true) ∧ Below w3.heap.size w3 w' from by
          obtain ⟨_, _, _, ht⟩ := HT3.out
          exact same_c ht (by have := act_len x S; have := HS.out.2; omega))
        go_wp2_with fail
        refine HU3.out.mono ?_
        rintro e w4 ⟨rfl, hb4⟩
        have HT4 := Lib.hid (HT3.out.below hb4)
        clear hb4
        go_wp2_with fail
        go_roundw
        case rel =>
          have h1 := act_len x S
          have h2 := HS.out
          exact ⟨k + 1, x.act S, by omega, by go_num, by omega, by omega, HT4.out⟩
        case measure => simp [intOf]; omega
      · go_wp2_with fail
        go_roundw
        case rel => exact ⟨k + 1, S, by omega, by go_num, by have := HS.out.1; omega, HS.out.2, HT2.out.below ((Below.refl _ _).alloc (Nat.le_refl _) _)⟩
        case measure => simp [intOf]; omega
    · go_wp2_with fail
      refine (awake_c _).mono ?_
      rintro e w3 ⟨rfl, hb⟩
      have HB := Lib.hid hb
      clear hb
      go_wp2_with fail
      go_ret
      exact ⟨rfl, HT2.out.bel.trans (HB.out.mono HT2.out.bel.size)⟩

-- FRAME
theorem own : ownKnob Try.prog.godebug = none := by kernel_rfl
theorem laidOut : laidOutB Try.prog = true := by kernel_rfl

set_option maxRecDepth 100000 in
theorem lifted (os : Os) (started : os.Started) (H : Type) (enc : TypeId × Value → H) :
    ReturnsInHanded {} Try.checked os 3 .any (Rows.vdiskLivesSpec.pre6 enc Try.prog Try.f3 Rows.vdiskLivesRow.domain false) (Rows.vdiskLivesSpec.post enc Try.prog Try.f3 false true false false) := by
  refine returnsInHanded_of_change_sized (C := Try.checked) own started (by kernel_rfl) Try.func3
    (ChangeSpec.witness6 (enc := enc) (C := Try.checked) false ⟨#[], #[.int .i64 0, .slice none 0 0], []⟩ 8 (by kernel_rfl) (by kernel_rfl) (by kernel_rfl) (by kernel_rfl)) ?_
  intro W base args ds gs before hval0 hW hcnd hsz0 _
  have hsz : (DataW.weightsEach Try.prog (Try.f3.params.toList ++ Rows.vdiskLivesSpec.plain.varTypes Try.prog) (ds ++ gs)).all (· ≤ reachBytes) = true := hsz0
  have hval : ∀ (j : Nat) t v, Try.f3.params[j]? = some t → args[j]? = some v → Value.okWide Try.prog W .any base t v := hval0
  have hW' := hW
  obtain ⟨p, q, hA0, hV, rfl, hfz, hnd⟩ := hW
  have hA : DataW.TrodAll enc Try.prog W 0 (fun _ => true) true Try.f3.params.toList args.toList ds p := hA0
  rw [Try.params3] at hA hval hsz
  obtain ⟨v0, vs0, d0, ds0, p0, q0, hargs, rfl, rfl, h0, r0⟩ := trodAll_cons hA
  obtain ⟨v1, vs1, d1, ds1, p1, q1, rfl, rfl, rfl, h1, r1⟩ := trodAll_cons r0
  obtain ⟨rfl, rfl, rfl⟩ := trodAll_nil r1
  obtain rfl : args = #[v0, v1] := by cases args; simp_all
  obtain ⟨rfl, rfl⟩ := trodVars_none hV
  obtain ⟨a0, rfl, rfl, rfl, w0⟩ := open_int Try.underlying3 (hval 0 3 v0 rfl rfl) h0
  obtain ⟨a1, len1, cap1, rfl⟩ := okWide_slice Try.underlying22 (hval 1 22 v1 rfl rfl)
  have k1 := h1
  have lt1 : ∀ x ∈ p1, x.block < W.heap.size := by obtain ⟨m, hm⟩ := k1; exact DataW.trod_lt m _ _ _ hm
  obtain ⟨x1, w1⟩ : ∃ l : List SV, StepsIs W (.slice a1 len1 cap1) l := by
    obtain ⟨fuel, hf⟩ := h1
    obtain ⟨v, l, hcs, hl⟩ := steps_open hf (fun n hn => of_decide_eq_true (List.all_eq_true.1 hsz _ (DataW.weights_mem_each (j := 1) rfl rfl n hn)))
    simp [Value.cells] at hcs
    subst hcs
    exact ⟨l, hl⟩
  clear hA0 hval0
  refine (walk a0 _ x1 W w0 w1).mono fun e W' ⟨he, bel⟩ => ?_
  subst he
  exact ⟨_, rfl, _, _, _, [], _, [], hW', trodAll_mk1 (shut_bool Try.underlying4 _), (trodAll_cons_mk (shut_int Try.underlying3 w0) (trodAll_cons_mk (Below.trod laidOut (by kernel_rfl) (of_decide_eq_true (by kernel_rfl)) k1 bel lt1) trodAll_mk0)), rfl, bel.frame _, fun h => by cases h⟩

/-- The statement. -/
theorem proved : Rows.VdiskLivesSaid :=
  OpenClaim.holds_of_wide 3 Try.f3 rfl rfl rfl rfl rfl rfl rfl ⟨rfl, rfl, rfl, rfl, rfl⟩ rfl rfl rfl rfl rfl (by kernel_rfl) Try.func3 (by kernel_rfl)
    (of_decide_eq_true (by kernel_rfl)) (by unfold Func.isWrapper; first | (rw [if_pos (by decide +kernel)]; kernel_rfl) | (rw [if_neg (by decide +kernel)]; exact ⟨rfl, rfl⟩))
    (fun os started H enc _ => lifted os started H enc)
end Go.Proofs.Ytcpldjaoacihlaa.vdiskLives
