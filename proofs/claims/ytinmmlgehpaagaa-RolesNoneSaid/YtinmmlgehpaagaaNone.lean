/- RolesNone: who may without a role may with each that the model knows; of an item with roles nobody may without: for every input. Written by tools/gennone.py. -/
import Derived.Test.YtinmmlgehpaagaaGr
import Derived.Test.YtinmmlgehpaagaaBulk
import Derived.ProofKit
import Derived.SizedLaws
import Derived.ShutString
import Derived.ChangeOld
namespace Go.Proofs.Ytinmmlgehpaagaa.rolesNone
open Go Go.RowKit Go.Deep Go.Shelf Go.ChangeShapes Go.WideShapes Go.ChangeAt Go.Proofs.Ytinmmlgehpaagaa
open Go.ChangeMaps (open_string shut_string)
set_option linter.unusedVariables false
set_option linter.unusedSimpArgs false

theorem rfindE_shape {W0 : World} {S : Nat → Prop} {r : Option IT} {cs : List Value} (h : match r with | none => cs = zero14 | some y => ∃ d, ItemV S W0 d cs y) : ∃ i0 i1 i2 a3 n3 q3 a4 n4 q4 i5 i6 i7 i8 i9 i10 a11 n11 q11 a12 n12 q12 a13 n13 q13, cs = [.string i0, .string i1, .int .i64 i2, .slice a3 n3 q3, .slice a4 n4 q4, .string i5, .string i6, .string i7, .bool i8, .bool i9, .int .i64 i10, .slice a11 n11 q11, .slice a12 n12 q12, .slice a13 n13 q13] := by
  cases r with
  | none => exact ⟨_, _, _, _, _, _, _, _, _, _, _, _, _, _, _, _, _, _, _, _, _, _, _, _, h⟩
  | some y =>
    obtain ⟨_, hd⟩ := h
    exact hd.shape
theorem roles_in {W0 : World} {d : Nat} {y : IT} {j0 j1 : ByteArray} {j2 : Int} {b3 : Option Addr} {m3 p3 : Nat} {b4 : Option Addr} {m4 p4 : Nat} {j5 j6 j7 : ByteArray} {j8 j9 : Bool} {j10 : Int} {b11 : Option Addr} {m11 p11 : Nat} {b12 : Option Addr} {m12 p12 : Nat} {b13 : Option Addr} {m13 p13 : Nat}
    (h : ItemV AnyG W0 d [.string j0, .string j1, .int .i64 j2, .slice b3 m3 p3, .slice b4 m4 p4, .string j5, .string j6, .string j7, .bool j8, .bool j9, .int .i64 j10, .slice b11 m11 p11, .slice b12 m12 p12, .slice b13 m13 p13] y) : TextsD AnyG W0 (.slice b11 m11 p11) y.roles ∧ m11 = y.roles.length := by
  obtain ⟨_, ev, xv, rv, kv, tv, e, k1, k2, k3, k4, k5⟩ := h
  simp only [item14, List.cons.injEq, and_true] at e
  obtain ⟨_, _, _, _, _, _, _, _, _, _, _, rfl, _, _⟩ := e
  obtain ⟨a, c, hv, _⟩ := k3.form
  simp only [Value.slice.injEq] at hv
  exact ⟨k3, hv.2.1⟩

set_option maxRecDepth 100000 in
set_option maxHeartbeats 4000000 in
theorem walk (cs : List Value) (m : MT) (d : Nat) (item role : ByteArray) (w : World) (hm : ModelF w d cs m) (s1 : item.size ≤ 140737488351232) (s2 : role.size ≤ 140737488351232) :
    Calls Try.prog 4 #[.agg cs.toArray, .string item, .string role] w fun e w' => e = .returned (.bool true) ∧ Below w.heap.size w w' := by
  have HMO := Lib.hid (fun (W : World) (hW : Below w.heap.size w W) => Model_c W cs m (hm.below hW))
  have HKN := Lib.hid (fun (W : World) (hW : Below w.heap.size w W) => known_c W cs m role (hm.v.below hW))
  have HCE := Lib.hid (fun (W : World) (hW : Below w.heap.size w W) (hok : okI d 0 m.plan ∧ cntI d m.plan ≤ 260) => check_c W cs m item ⟨#[]⟩ (hm.v.below hW) hok.1 hok.2)
  have HCK := Lib.hid (fun (W : World) (hW : Below w.heap.size w W) (hok : okI d 0 m.plan ∧ cntI d m.plan ≤ 260) => check_c W cs m item role (hm.v.below hW) hok.1 hok.2)
  have HRF := Lib.hid (fun (W : World) (hW : Below w.heap.size w W) (hok : okI d 0 m.plan ∧ cntI d m.plan ≤ 260) => rfind_c w W cs m item hm.v hW hok.2)
  have HAW := Lib.hid awake_c
  obtain ⟨q, hq⟩ : ∃ q, q = inB role m.roles := ⟨_, rfl⟩
  rw [← hq] at HKN
  obtain ⟨r, hr⟩ : ∃ r, r = firstI item d m.plan := ⟨_, rfl⟩
  rw [← hr] at HRF
  have hce : chkP d m item ⟨#[]⟩ = chkI true r ⟨#[]⟩ := by
    have he : ((⟨#[]⟩ : ByteArray).toList.isEmpty) = true := by decide +kernel
    unfold chkP standsB
    rw [← hr, he, Bool.true_or]
  rw [hce] at HCE
  have HCR := Lib.hid (show q = true → chkP d m item role = chkI true r role from fun h => by
    unfold chkP standsB
    rw [← hr, ← hq, h, Bool.or_true])
  obtain ⟨c1, hc1⟩ : ∃ c, c = chkP d m item role := ⟨_, rfl⟩
  rw [← hc1] at HCK HCR
  obtain ⟨ok, hokk⟩ : ∃ P : Prop, P = (okI d 0 m.plan ∧ cntI d m.plan ≤ 260) := ⟨_, rfl⟩
  rw [← hokk] at HCK HCE HRF
  have HMO2 := Lib.hid (fun (W : World) (hW : Below w.heap.size w W) => by have := HMO.out W hW; rw [← hokk] at this; exact this)
  obtain ⟨mi, mn, mroles, plan⟩ := m
  obtain ⟨ra, rc, fa, fn, fc, pc, rfl, h1, h2, _⟩ := hm
  simp only at h1 h2 HMO2 HKN HCK HCE HRF ⊢
  obtain ⟨i0, i1, i2, a3, n3, q3, a4, n4, q4, i5, i6, i7, i8, i9, i10, a11, n11, q11, a12, n12, q12, a13, n13, q13, rfl⟩ := h2.shape
  generalize mroles.length = rn at *
  clear h1 h2 hq hokk HMO hc1 hr hce s1 s2
  simp only [List.cons_append, List.nil_append] at *
  obtain ⟨w0, hw0⟩ : ∃ y, y = w.alloc (.cells #[.string mi, .string mn, .slice ra rn rc, .slice fa fn fc, .string i0, .string i1, .int .i64 i2, .slice a3 n3 q3, .slice a4 n4 q4, .string i5, .string i6, .string i7, .bool i8, .bool i9, .int .i64 i10, .slice a11 n11 q11, .slice a12 n12 q12, .slice a13 n13 q13] 29) := ⟨_, rfl⟩
  have HW0 := Lib.hid hw0
  have HB0 := Lib.hid (show Below w.heap.size w w0 from by rw [hw0]; exact (Below.refl _ _).alloc (Nat.le_refl _) _)
  have h0 : w0.heap[w.heap.size]? = some (.cells #[.string mi, .string mn, .slice ra rn rc, .slice fa fn fc, .string i0, .string i1, .int .i64 i2, .slice a3 n3 q3, .slice a4 n4 q4, .string i5, .string i6, .string i7, .bool i8, .bool i9, .int .i64 i10, .slice a11 n11 q11, .slice a12 n12 q12, .slice a13 n13 q13] 29 (0, 0)) := by rw [hw0]; exact heap_alloc_new w _
  have HQ0 := Lib.hid h0
  have HI := Lib.hid infoGM18
  clear hw0 h0
  go_enter Try.func4, Try.ntmps4
  go_upto_region 1 with (fail)
  rw [← HW0.out]
  go_wp2_with (refine wpList_load_rowG (by rfl) 29 (Operand.tmp 3) rfl w.heap.size rfl 29 _ (0, 0) _ HQ0.out Try.underlying29 rfl HI.out ?_)
  refine (HMO2.out w0 HB0.out).mono ?_
  rintro e w1 ⟨qm, rfl, hb1, hqm⟩
  have HB1 := Lib.hid (HB0.out.trans (hb1.mono HB0.out.size))
  have HQ1 := Lib.hid ((hb1.block _ (Array.getElem?_eq_some_iff.1 HQ0.out).1).trans HQ0.out)
  have HQM := Lib.hid hqm
  clear hb1 hqm
  have fin : ∀ (W : World), Below w.heap.size w W → Calls Try.prog 7 #[] W fun e w' => e = .returned (.bool true) ∧ Below w.heap.size w w' := fun W hW => (HAW.out W).mono fun e w' h => ⟨h.1, hW.trans (h.2.mono hW.size)⟩
  have FIN := Lib.hid fin
  clear fin
  cases qm
  · go_wp2_with fail
    refine (FIN.out _ HB1.out).mono ?_
    rintro e wz ⟨rfl, hbz⟩
    have HBZ := Lib.hid hbz
    clear hbz
    go_wp2_with fail
    go_ret
    exact ⟨by rfl, HBZ.out⟩
  have HOK := Lib.hid (HQM.out (by trivial))
  go_wp2_with (refine wpList_load_rowG (by rfl) 29 (Operand.tmp 3) rfl w.heap.size rfl 29 _ (0, 0) _ HQ1.out Try.underlying29 rfl HI.out ?_)
  refine (HRF.out w1 HB1.out HOK.out).mono ?_
  rintro e w3 ⟨xcs, rfl, hb3, hxv⟩
  obtain ⟨j0, j1, j2, b3, m3, p3, b4, m4, p4, j5, j6, j7, j8, j9, j10, b11, m11, p11, b12, m12, p12, b13, m13, p13, rfl⟩ := rfindE_shape hxv
  have HXV := Lib.hid hxv
  have HB3 := Lib.hid (HB1.out.trans (hb3.mono HB1.out.size))
  have HQ3 := Lib.hid ((hb3.block _ (Array.getElem?_eq_some_iff.1 HQ1.out).1).trans HQ1.out)
  obtain ⟨X, hXe⟩ : ∃ X, X = w3.heap.size := ⟨_, rfl⟩
  obtain ⟨w4, hw4⟩ : ∃ y, y = w3.alloc (.cells #[.string j0, .string j1, .int .i64 j2, .slice b3 m3 p3, .slice b4 m4 p4, .string j5, .string j6, .string j7, .bool j8, .bool j9, .int .i64 j10, .slice b11 m11 p11, .slice b12 m12 p12, .slice b13 m13 p13] 27) := ⟨_, rfl⟩
  have HW4 := Lib.hid hw4
  have HXE := Lib.hid hXe
  have HB4 := Lib.hid (show Below w.heap.size w w4 from by rw [hw4]; exact HB3.out.alloc HB3.out.size _)
  have HQ4 := Lib.hid (show w4.heap[w.heap.size]? = some (.cells #[.string mi, .string mn, .slice ra rn rc, .slice fa fn fc, .string i0, .string i1, .int .i64 i2, .slice a3 n3 q3, .slice a4 n4 q4, .string i5, .string i6, .string i7, .bool i8, .bool i9, .int .i64 i10, .slice a11 n11 q11, .slice a12 n12 q12, .slice a13 n13 q13] 29 (0, 0)) from by rw [hw4]; exact (Below.heap_alloc _ _ _ (Array.getElem?_eq_some_iff.1 HQ3.out).1).trans HQ3.out)
  have HX4 := Lib.hid (show w4.heap[X]? = some (.cells #[.string j0, .string j1, .int .i64 j2, .slice b3 m3 p3, .slice b4 m4 p4, .string j5, .string j6, .string j7, .bool j8, .bool j9, .int .i64 j10, .slice b11 m11 p11, .slice b12 m12 p12, .slice b13 m13 p13] 27 (0, 0)) from by rw [hw4, hXe]; exact heap_alloc_new w3 _)
  clear hxv hb3 hw4 hXe
  go_upto_region 4 with (fail)
  rw [← HW4.out, ← HXE.out]
  go_wp2_with (refine wpList_load_rowG (by rfl) 29 (Operand.tmp 3) rfl w.heap.size rfl 29 _ (0, 0) _ HQ4.out Try.underlying29 rfl HI.out ?_)
  refine (HCE.out w4 HB4.out HOK.out).mono ?_
  rintro e w5 ⟨rfl, hb5⟩
  have HB5 := Lib.hid (HB4.out.trans (hb5.mono HB4.out.size))
  have HQ5 := Lib.hid ((hb5.block _ (Array.getElem?_eq_some_iff.1 HQ4.out).1).trans HQ4.out)
  have HX5 := Lib.hid ((hb5.block _ (Array.getElem?_eq_some_iff.1 HX4.out).1).trans HX4.out)
  clear hb5
  cases r with
  | none =>
    have hc : chkI true none ⟨#[]⟩ = 33 := rfl
    rw [hc]
    go_wp2_with fail
    refine (FIN.out _ HB5.out).mono ?_
    rintro e wz ⟨rfl, hbz⟩
    have HBZ := Lib.hid hbz
    clear hbz
    go_wp2_with fail
    go_ret
    exact ⟨by rfl, HBZ.out⟩
  | some y =>
    obtain ⟨dd, hiv⟩ := HXV.out
    obtain ⟨hrt, hrl⟩ := roles_in hiv
    have hml : m11 ≤ 9223372036854775807 := by have := hrt.2; omega
    obtain ⟨t0, ht0⟩ : ∃ t, t = openB y ⟨#[]⟩ := ⟨_, rfl⟩
    obtain ⟨ct, hct0⟩ : ∃ t, t = inB ⟨#[]⟩ y.roles := ⟨_, rfl⟩
    have HCT := Lib.hid (fun (W : World) (hW : Below w.heap.size w W) => contains_c W _ y.roles (hrt.keep hW.size (fun k _ hl => hW.block k hl)) ⟨#[]⟩)
    rw [← hct0] at HCT
    have hce : chkI true (some y) ⟨#[]⟩ = if t0 then 0 else 41 := by rw [ht0]; rfl
    have HCR2 := Lib.hid (show q = true → c1 = if openB y role then 0 else 41 from fun h => HCR.out h)
    have hlen : ((m11 : Int) == 0) = (y.roles.length == 0) := by
      rw [hrl, Bool.eq_iff_iff]
      simp only [beq_iff_eq]
      omega
    have HLEN := Lib.hid hlen
    have HTE := Lib.hid (show t0 = (((m11 : Int) == 0) || ct) from by rw [ht0, hct0, hlen]; rfl)
    have HOPR := Lib.hid (show openB y role = false → ((m11 : Int) == 0) = false from fun h => by
      unfold openB at h
      rw [Bool.or_eq_false_iff] at h
      rw [hlen]
      exact h.1)
    obtain ⟨opr, hopr⟩ : ∃ t, t = openB y role := ⟨_, rfl⟩
    rw [← hopr] at HCR2 HOPR
    rw [hce]
    clear hiv hrt hrl ht0 hct0 hce hlen hopr
    cases t0
    · obtain ⟨hl2, hct⟩ : ((m11 : Int) == 0) = false ∧ ct = false := by
        have := HTE.out.symm
        rwa [Bool.or_eq_false_iff] at this
      subst hct
      have f11 : w5.cell? ⟨X, 11, none⟩ = some (.slice b11 m11 p11) := by simp [World.cell?, HX5.out]
      simp only [if_false, Bool.false_eq_true]
      go_wp2_with fail
      refine (HCT.out w5 HB5.out).mono ?_
      rintro e wq ⟨rfl, rfl⟩
      go_wp2_with fail
      refine (FIN.out _ HB5.out).mono ?_
      rintro e wz ⟨rfl, hbz⟩
      have HBZ := Lib.hid hbz
      clear hbz
      go_wp2_with fail
      go_ret
      exact ⟨by rfl, HBZ.out⟩
    · have HT0 := Lib.hid (show ((m11 : Int) == 0) = false → ct = true from fun h => by
        have := HTE.out.symm
        rwa [h, Bool.false_or] at this)
      simp only [if_true]
      go_wp2_with (refine wpList_load_rowG (by rfl) 29 (Operand.tmp 3) rfl w.heap.size rfl 29 _ (0, 0) _ HQ5.out Try.underlying29 rfl HI.out ?_)
      refine (HKN.out w5 HB5.out).mono ?_
      rintro e w6 ⟨rfl, hb6⟩
      have HB6 := Lib.hid (HB5.out.trans (hb6.mono HB5.out.size))
      have HQ6 := Lib.hid ((hb6.block _ (Array.getElem?_eq_some_iff.1 HQ5.out).1).trans HQ5.out)
      have HX6 := Lib.hid ((hb6.block _ (Array.getElem?_eq_some_iff.1 HX5.out).1).trans HX5.out)
      clear hb6
      cases q
      ·
        have f11 : w6.cell? ⟨X, 11, none⟩ = some (.slice b11 m11 p11) := by simp [World.cell?, HX6.out]
        by_cases hl : ((m11 : Int) == 0) = true
        · go_wp2_with fail
          refine (FIN.out _ HB6.out).mono ?_
          rintro e wz ⟨rfl, hbz⟩
          have HBZ := Lib.hid hbz
          clear hbz
          go_wp2_with fail
          go_ret
          exact ⟨by rfl, HBZ.out⟩
        · have hl2 : ((m11 : Int) == 0) = false := by simpa using hl
          have hct := HT0.out hl2
          subst hct
          clear hl
          go_wp2_with fail
          refine (HCT.out w6 HB6.out).mono ?_
          rintro e wq ⟨rfl, rfl⟩
          go_wp2_with fail
          refine (FIN.out _ HB6.out).mono ?_
          rintro e wz ⟨rfl, hbz⟩
          have HBZ := Lib.hid hbz
          clear hbz
          go_wp2_with fail
          go_ret
          exact ⟨by rfl, HBZ.out⟩
      · go_wp2_with (refine wpList_load_rowG (by rfl) 29 (Operand.tmp 3) rfl w.heap.size rfl 29 _ (0, 0) _ HQ6.out Try.underlying29 rfl HI.out ?_)
        refine (HCK.out w6 HB6.out HOK.out).mono ?_
        rintro e w7 ⟨rfl, hb7⟩
        have HB7 := Lib.hid (HB6.out.trans (hb7.mono HB6.out.size))
        have HX7 := Lib.hid ((hb7.block _ (Array.getElem?_eq_some_iff.1 HX6.out).1).trans HX6.out)
        clear hb7
        have hc1 := HCR2.out (by trivial)
        cases opr
        · have hc1' : c1 = 41 := hc1
          subst hc1'
          have hl2 := HOPR.out (by trivial)
          have hct := HT0.out hl2
          subst hct
          have f11 : w7.cell? ⟨X, 11, none⟩ = some (.slice b11 m11 p11) := by simp [World.cell?, HX7.out]
          clear hc1
          go_wp2_with fail
          refine (HCT.out w7 HB7.out).mono ?_
          rintro e wq ⟨rfl, rfl⟩
          go_wp2_with fail
          refine (FIN.out _ HB7.out).mono ?_
          rintro e wz ⟨rfl, hbz⟩
          have HBZ := Lib.hid hbz
          clear hbz
          go_wp2_with fail
          go_ret
          exact ⟨by rfl, HBZ.out⟩
        · have hc1' : c1 = 0 := hc1
          subst hc1'
          clear hc1
          have f11 : w7.cell? ⟨X, 11, none⟩ = some (.slice b11 m11 p11) := by simp [World.cell?, HX7.out]
          by_cases hl : ((m11 : Int) == 0) = true
          · go_wp2_with fail
            refine (FIN.out _ HB7.out).mono ?_
            rintro e wz ⟨rfl, hbz⟩
            have HBZ := Lib.hid hbz
            clear hbz
            go_wp2_with fail
            go_ret
            exact ⟨by rfl, HBZ.out⟩
          · have hl2 : ((m11 : Int) == 0) = false := by simpa using hl
            have hct := HT0.out hl2
            subst hct
            clear hl
            go_wp2_with fail
            refine (HCT.out w7 HB7.out).mono ?_
            rintro e wq ⟨rfl, rfl⟩
            go_wp2_with fail
            refine (FIN.out _ HB7.out).mono ?_
            rintro e wz ⟨rfl, hbz⟩
            have HBZ := Lib.hid hbz
            clear hbz
            go_wp2_with fail
            go_ret
            exact ⟨by rfl, HBZ.out⟩

-- FRAME
theorem own : ownKnob Try.prog.godebug = none := by kernel_rfl
theorem laidOut : laidOutB Try.prog = true := by kernel_rfl

set_option maxRecDepth 100000 in
theorem lifted (os : Os) (started : os.Started) (H : Type) (enc : TypeId × Value → H) :
    ReturnsInHanded {} Try.checked os 4 .any (Rows.rolesNoneSpec.pre6 enc Try.prog Try.f4 Rows.rolesNoneRow.domain false) (Rows.rolesNoneSpec.post enc Try.prog Try.f4 false true false false) := by
  refine returnsInHanded_of_change_sized (C := Try.checked) own started (by kernel_rfl) Try.func4
    (ChangeSpec.witness6 (enc := enc) (C := Try.checked) false ⟨#[], #[.agg #[.string ByteArray.empty, .string ByteArray.empty, .slice none 0 0, .slice none 0 0, .string ByteArray.empty, .string ByteArray.empty, .int .i64 0, .slice none 0 0, .slice none 0 0, .string ByteArray.empty, .string ByteArray.empty, .string ByteArray.empty, .bool false, .bool false, .int .i64 0, .slice none 0 0, .slice none 0 0, .slice none 0 0], .string ByteArray.empty, .string ByteArray.empty], []⟩ 8 (by kernel_rfl) (by kernel_rfl) (by kernel_rfl) (by kernel_rfl)) ?_
  intro W base args ds gs before hval0 hW hcnd hsz0 _
  have hsz : (DataW.weightsEach Try.prog (Try.f4.params.toList ++ Rows.rolesNoneSpec.plain.varTypes Try.prog) (ds ++ gs)).all (· ≤ reachBytes) = true := hsz0
  have hval : ∀ (j : Nat) t v, Try.f4.params[j]? = some t → args[j]? = some v → Value.okWide Try.prog W .any base t v := hval0
  have hW' := hW
  obtain ⟨p, q, hA0, hV, rfl, hfz, hnd⟩ := hW
  have hA : DataW.TrodAll enc Try.prog W 0 (fun _ => true) true Try.f4.params.toList args.toList ds p := hA0
  rw [Try.params4] at hA hval hsz
  obtain ⟨v0, vs0, d0, ds0, p0, q0, hargs, rfl, rfl, h0, r0⟩ := trodAll_cons hA
  obtain ⟨v1, vs1, d1, ds1, p1, q1, rfl, rfl, rfl, h1, r1⟩ := trodAll_cons r0
  obtain ⟨v2, vs2, d2, ds2, p2, q2, rfl, rfl, rfl, h2, r2⟩ := trodAll_cons r1
  obtain ⟨rfl, rfl, rfl⟩ := trodAll_nil r2
  obtain rfl : args = #[v0, v1, v2] := by cases args; simp_all
  obtain ⟨rfl, rfl⟩ := trodVars_none hV
  have k0 := h0
  have lt0 : ∀ x ∈ p0, x.block < W.heap.size := by obtain ⟨m, hm⟩ := k0; exact DataW.trod_lt m _ _ _ hm
  obtain ⟨c0, x0, dd0, rfl, o0⟩ := model_open (hval 0 29 v0 rfl rfl) h0 (fun n hn => of_decide_eq_true (List.all_eq_true.1 hsz _ (DataW.weights_mem_each (j := 0) rfl rfl n hn)))
  obtain ⟨a1, rfl, rfl, rfl, w1⟩ := open_string Try.underlying9 (hval 1 9 v1 rfl rfl) h1
  have s1 : a1.size ≤ 140737488351232 := by have := sized_string hsz (j := 1) (t := 9) rfl rfl; simpa [reachBytes] using this
  obtain ⟨a2, rfl, rfl, rfl, w2⟩ := open_string Try.underlying9 (hval 2 9 v2 rfl rfl) h2
  have s2 : a2.size ≤ 140737488351232 := by have := sized_string hsz (j := 2) (t := 9) rfl rfl; simpa [reachBytes] using this
  clear hA0 hval0
  refine (walk c0 x0 dd0 a1 a2 W o0 s1 s2).mono fun e W' ⟨he, bel⟩ => ?_
  subst he
  exact ⟨_, rfl, _, _, _, [], _, [], hW', trodAll_mk1 (shut_bool Try.underlying4 _), (trodAll_cons_mk (Below.trod laidOut (by kernel_rfl) (of_decide_eq_true (by kernel_rfl)) k0 bel lt0) (trodAll_cons_mk (shut_string Try.underlying9 w1) (trodAll_cons_mk (shut_string Try.underlying9 w2) trodAll_mk0))), rfl, bel.frame _, fun h => by cases h⟩

/-- The statement. -/
theorem proved : Rows.RolesNoneSaid :=
  OpenClaim.holds_of_wide 4 Try.f4 rfl rfl rfl rfl rfl rfl rfl ⟨rfl, rfl, rfl, rfl, rfl⟩ rfl rfl rfl rfl rfl (by kernel_rfl) Try.func4 (by kernel_rfl)
    (of_decide_eq_true (by kernel_rfl)) (by unfold Func.isWrapper; first | (rw [if_pos (by decide +kernel)]; kernel_rfl) | (rw [if_neg (by decide +kernel)]; exact ⟨rfl, rfl⟩))
    (fun os started H enc _ => lifted os started H enc)
end Go.Proofs.Ytinmmlgehpaagaa.rolesNone
