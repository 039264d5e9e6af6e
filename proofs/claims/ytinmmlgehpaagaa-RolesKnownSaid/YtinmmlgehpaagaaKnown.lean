/- RolesKnown: a role that the model does not know may nothing, whatever the model, the item and the role: for every input. Written by tools/genknown.py. -/
import Derived.Test.YtinmmlgehpaagaaGp
import Derived.Test.YtinmmlgehpaagaaBulk
import Derived.ProofKit
import Derived.SizedLaws
import Derived.ShutString
import Derived.ChangeOld
namespace Go.Proofs.Ytinmmlgehpaagaa.rolesKnown
open Go Go.RowKit Go.Deep Go.Shelf Go.ChangeShapes Go.WideShapes Go.ChangeAt Go.Proofs.Ytinmmlgehpaagaa
open Go.ChangeMaps (open_string shut_string)
set_option linter.unusedVariables false
set_option linter.unusedSimpArgs false

set_option maxRecDepth 100000 in
set_option maxHeartbeats 4000000 in
theorem walk (cs : List Value) (m : MT) (d : Nat) (item role : ByteArray) (w : World) (hm : ModelF w d cs m) (s1 : item.size ≤ 140737488351232) (s2 : role.size ≤ 140737488351232) :
    Calls Try.prog 5 #[.agg cs.toArray, .string item, .string role] w fun e w' => e = .returned (.bool true) ∧ Below w.heap.size w w' := by
  have HMO := Lib.hid (fun (W : World) (hW : Below w.heap.size w W) => Model_c W cs m (hm.below hW))
  have HKN := Lib.hid (fun (W : World) (hW : Below w.heap.size w W) => known_c W cs m role (hm.v.below hW))
  have HCK := Lib.hid (fun (W : World) (hW : Below w.heap.size w W) (hok : okI d 0 m.plan ∧ cntI d m.plan ≤ 260) => check_c W cs m item role (hm.v.below hW) hok.1 hok.2)
  have HMY := Lib.hid (fun (W : World) (hW : Below w.heap.size w W) (hs : standsB m role = false) => may_no W cs m role (hm.v.below hW) hs)
  have HAW := Lib.hid awake_c
  obtain ⟨q, hq⟩ : ∃ q, q = inB role m.roles := ⟨_, rfl⟩
  have HST := Lib.hid (show ∀ t, role.toList.isEmpty = t → t = false → q = false → standsB m role = false ∧ chkP d m item role = 41 from fun t ht h1 h2 => by
    have hs : standsB m role = false := by
      unfold standsB
      rw [← hq, h2, ht, h1]
      rfl
    exact ⟨hs, by unfold chkP; rw [hs]; rfl⟩)
  rw [← hq] at HKN
  obtain ⟨ok, hokk⟩ : ∃ P : Prop, P = (okI d 0 m.plan ∧ cntI d m.plan ≤ 260) := ⟨_, rfl⟩
  rw [← hokk] at HCK
  have HMO2 := Lib.hid (fun (W : World) (hW : Below w.heap.size w W) => by have := HMO.out W hW; rw [← hokk] at this; exact this)
  obtain ⟨c41, hc41⟩ : ∃ c, c = chkP d m item role := ⟨_, rfl⟩
  rw [← hc41] at HCK HST
  obtain ⟨sB, hsB⟩ : ∃ c, c = standsB m role := ⟨_, rfl⟩
  rw [← hsB] at HMY HST
  obtain ⟨mi, mn, mroles, plan⟩ := m
  obtain ⟨ra, rc, fa, fn, fc, pc, rfl, h1, h2, _⟩ := hm
  simp only at h1 h2 HMO2 HKN HCK HMY HST ⊢
  obtain ⟨i0, i1, i2, a3, n3, q3, a4, n4, q4, i5, i6, i7, i8, i9, i10, a11, n11, q11, a12, n12, q12, a13, n13, q13, rfl⟩ := h2.shape
  generalize mroles.length = rn at *
  clear h1 h2 hq hokk HMO hc41 hsB s1 s2
  simp only [List.cons_append, List.nil_append] at *
  obtain ⟨w0, hw0⟩ : ∃ y, y = w.alloc (.cells #[.string mi, .string mn, .slice ra rn rc, .slice fa fn fc, .string i0, .string i1, .int .i64 i2, .slice a3 n3 q3, .slice a4 n4 q4, .string i5, .string i6, .string i7, .bool i8, .bool i9, .int .i64 i10, .slice a11 n11 q11, .slice a12 n12 q12, .slice a13 n13 q13] 29) := ⟨_, rfl⟩
  have HW0 := Lib.hid hw0
  have HB0 := Lib.hid (show Below w.heap.size w w0 from by rw [hw0]; exact (Below.refl _ _).alloc (Nat.le_refl _) _)
  have h0 : w0.heap[w.heap.size]? = some (.cells #[.string mi, .string mn, .slice ra rn rc, .slice fa fn fc, .string i0, .string i1, .int .i64 i2, .slice a3 n3 q3, .slice a4 n4 q4, .string i5, .string i6, .string i7, .bool i8, .bool i9, .int .i64 i10, .slice a11 n11 q11, .slice a12 n12 q12, .slice a13 n13 q13] 29 (0, 0)) := by rw [hw0]; exact heap_alloc_new w _
  have HQ0 := Lib.hid h0
  have HI := Lib.hid infoGM18
  clear hw0 h0
  go_enter Try.func5, Try.ntmps5
  go_upto_region 1 with (fail)
  rw [← HW0.out]
  go_wp2_with (refine wpList_load_rowG (by rfl) 29 (Operand.tmp 3) rfl w.heap.size rfl 29 _ (0, 0) _ HQ0.out Try.underlying29 rfl HI.out ?_)
  refine (HMO2.out w0 HB0.out).mono ?_
  rintro e w1 ⟨qm, rfl, hb1, hqm⟩
  have HB1 := Lib.hid (HB0.out.trans (hb1.mono HB0.out.size))
  have HQ1 := Lib.hid ((hb1.block _ (Array.getElem?_eq_some_iff.1 HQ0.out).1).trans HQ0.out)
  have HQM := Lib.hid hqm
  clear hb1 hqm
  have fin : ∀ (W : World), Below w.heap.size w W → Calls Try.prog 7 #[] W fun e w' => e = .returned (.bool true) ∧ Below w.heap.size w w' := fun W hW => (HAW.out W).mono fun e w' h => ⟨h.1, hW.trans (h.2.mono hW.size)⟩
  have FIN := Lib.hid fin
  clear fin
  cases qm
  · go_wp2_with fail
    refine (FIN.out w1 HB1.out).mono ?_
    rintro e w2 ⟨rfl, hb2⟩
    have HB2 := Lib.hid hb2
    clear hb2
    go_wp2_with fail
    go_ret
    exact ⟨by rfl, HB2.out⟩
  by_cases ht : role.toList.isEmpty = true
  · go_wp2_with fail
    refine (FIN.out w1 HB1.out).mono ?_
    rintro e w2 ⟨rfl, hb2⟩
    have HB2 := Lib.hid hb2
    clear hb2
    go_wp2_with fail
    go_ret
    exact ⟨by rfl, HB2.out⟩
  have ht2 : role.toList.isEmpty = false := by simpa using ht
  clear ht
  go_wp2_with (refine wpList_load_rowG (by rfl) 29 (Operand.tmp 3) rfl w.heap.size rfl 29 _ (0, 0) _ HQ1.out Try.underlying29 rfl HI.out ?_)
  refine (HKN.out w1 HB1.out).mono ?_
  rintro e w2 ⟨rfl, hb2⟩
  have HB2 := Lib.hid (HB1.out.trans (hb2.mono HB1.out.size))
  have HQ2 := Lib.hid ((hb2.block _ (Array.getElem?_eq_some_iff.1 HQ1.out).1).trans HQ1.out)
  clear hb2
  cases q
  · obtain ⟨hs, hc⟩ := HST.out _ ht2 rfl (by trivial)
    subst hc
    go_wp2_with (refine wpList_load_rowG (by rfl) 29 (Operand.tmp 3) rfl w.heap.size rfl 29 _ (0, 0) _ HQ2.out Try.underlying29 rfl HI.out ?_)
    refine (HCK.out w2 HB2.out (HQM.out (by trivial))).mono ?_
    rintro e w3 ⟨rfl, hb3⟩
    have HB3 := Lib.hid (HB2.out.trans (hb3.mono HB2.out.size))
    have HQ3 := Lib.hid ((hb3.block _ (Array.getElem?_eq_some_iff.1 HQ2.out).1).trans HQ2.out)
    clear hb3
    go_wp2_with (refine wpList_load_rowG (by rfl) 29 (Operand.tmp 3) rfl w.heap.size rfl 29 _ (0, 0) _ HQ3.out Try.underlying29 rfl HI.out ?_)
    refine (HMY.out w3 HB3.out hs).mono ?_
    rintro e w4 ⟨rfl, hb4⟩
    have HB4 := Lib.hid (HB3.out.trans (hb4.mono HB3.out.size))
    clear hb4
    go_wp2_with fail
    refine (FIN.out w4 HB4.out).mono ?_
    rintro e w5 ⟨rfl, hb5⟩
    have HB5 := Lib.hid hb5
    clear hb5
    go_wp2_with fail
    go_ret
    exact ⟨by rfl, HB5.out⟩
  · go_wp2_with fail
    refine (FIN.out w2 HB2.out).mono ?_
    rintro e w3 ⟨rfl, hb3⟩
    have HB3 := Lib.hid hb3
    clear hb3
    go_wp2_with fail
    go_ret
    exact ⟨by rfl, HB3.out⟩

-- FRAME
theorem own : ownKnob Try.prog.godebug = none := by kernel_rfl
theorem laidOut : laidOutB Try.prog = true := by kernel_rfl

set_option maxRecDepth 100000 in
theorem lifted (os : Os) (started : os.Started) (H : Type) (enc : TypeId × Value → H) :
    ReturnsInHanded {} Try.checked os 5 .any (Rows.rolesKnownSpec.pre6 enc Try.prog Try.f5 Rows.rolesKnownRow.domain false) (Rows.rolesKnownSpec.post enc Try.prog Try.f5 false true false false) := by
  refine returnsInHanded_of_change_sized (C := Try.checked) own started (by kernel_rfl) Try.func5
    (ChangeSpec.witness6 (enc := enc) (C := Try.checked) false ⟨#[], #[.agg #[.string ByteArray.empty, .string ByteArray.empty, .slice none 0 0, .slice none 0 0, .string ByteArray.empty, .string ByteArray.empty, .int .i64 0, .slice none 0 0, .slice none 0 0, .string ByteArray.empty, .string ByteArray.empty, .string ByteArray.empty, .bool false, .bool false, .int .i64 0, .slice none 0 0, .slice none 0 0, .slice none 0 0], .string ByteArray.empty, .string ByteArray.empty], []⟩ 8 (by kernel_rfl) (by kernel_rfl) (by kernel_rfl) (by kernel_rfl)) ?_
  intro W base args ds gs before hval0 hW hcnd hsz0 _
  have hsz : (DataW.weightsEach Try.prog (Try.f5.params.toList ++ Rows.rolesKnownSpec.plain.varTypes Try.prog) (ds ++ gs)).all (· ≤ reachBytes) = true := hsz0
  have hval : ∀ (j : Nat) t v, Try.f5.params[j]? = some t → args[j]? = some v → Value.okWide Try.prog W .any base t v := hval0
  have hW' := hW
  obtain ⟨p, q, hA0, hV, rfl, hfz, hnd⟩ := hW
  have hA : DataW.TrodAll enc Try.prog W 0 (fun _ => true) true Try.f5.params.toList args.toList ds p := hA0
  rw [Try.params5] at hA hval hsz
  obtain ⟨v0, vs0, d0, ds0, p0, q0, hargs, rfl, rfl, h0, r0⟩ := trodAll_cons hA
  obtain ⟨v1, vs1, d1, ds1, p1, q1, rfl, rfl, rfl, h1, r1⟩ := trodAll_cons r0
  obtain ⟨v2, vs2, d2, ds2, p2, q2, rfl, rfl, rfl, h2, r2⟩ := trodAll_cons r1
  obtain ⟨rfl, rfl, rfl⟩ := trodAll_nil r2
  obtain rfl : args = #[v0, v1, v2] := by cases args; simp_all
  obtain ⟨rfl, rfl⟩ := trodVars_none hV
  have k0 := h0
  have lt0 : ∀ x ∈ p0, x.block < W.heap.size := by obtain ⟨m, hm⟩ := k0; exact DataW.trod_lt m _ _ _ hm
  obtain ⟨c0, x0, dd0, rfl, o0⟩ := model_open (hval 0 29 v0 rfl rfl) h0 (fun n hn => of_decide_eq_true (List.all_eq_true.1 hsz _ (DataW.weights_mem_each (j := 0) rfl rfl n hn)))
  obtain ⟨a1, rfl, rfl, rfl, w1⟩ := open_string Try.underlying9 (hval 1 9 v1 rfl rfl) h1
  have s1 : a1.size ≤ 140737488351232 := by have := sized_string hsz (j := 1) (t := 9) rfl rfl; simpa [reachBytes] using this
  obtain ⟨a2, rfl, rfl, rfl, w2⟩ := open_string Try.underlying9 (hval 2 9 v2 rfl rfl) h2
  have s2 : a2.size ≤ 140737488351232 := by have := sized_string hsz (j := 2) (t := 9) rfl rfl; simpa [reachBytes] using this
  clear hA0 hval0
  refine (walk c0 x0 dd0 a1 a2 W o0 s1 s2).mono fun e W' ⟨he, bel⟩ => ?_
  subst he
  exact ⟨_, rfl, _, _, _, [], _, [], hW', trodAll_mk1 (shut_bool Try.underlying4 _), (trodAll_cons_mk (Below.trod laidOut (by kernel_rfl) (of_decide_eq_true (by kernel_rfl)) k0 bel lt0) (trodAll_cons_mk (shut_string Try.underlying9 w1) (trodAll_cons_mk (shut_string Try.underlying9 w2) trodAll_mk0))), rfl, bel.frame _, fun h => by cases h⟩

/-- The statement. -/
theorem proved : Rows.RolesKnownSaid :=
  OpenClaim.holds_of_wide 5 Try.f5 rfl rfl rfl rfl rfl rfl rfl ⟨rfl, rfl, rfl, rfl, rfl⟩ rfl rfl rfl rfl rfl (by kernel_rfl) Try.func5 (by kernel_rfl)
    (of_decide_eq_true (by kernel_rfl)) (by unfold Func.isWrapper; first | (rw [if_pos (by decide +kernel)]; kernel_rfl) | (rw [if_neg (by decide +kernel)]; exact ⟨rfl, rfl⟩))
    (fun os started H enc _ => lifted os started H enc)
end Go.Proofs.Ytinmmlgehpaagaa.rolesKnown
