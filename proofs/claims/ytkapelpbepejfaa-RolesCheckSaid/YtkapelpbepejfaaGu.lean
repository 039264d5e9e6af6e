/- dossierref27: Known, Check. Written by tools/genguu.py. -/
import Derived.Test.YtkapelpbepejfaaGr
namespace Go.Proofs.Ytkapelpbepejfaa
open Go Go.RowKit Go.Deep Go.Shelf
set_option linter.unusedVariables false
set_option linter.unusedSimpArgs false

set_option maxRecDepth 100000 in
set_option maxHeartbeats 1000000 in
theorem rknown_c {S : Nat → Prop} {d : Nat} (w : World) (cs : List Value) (m : MT) (s : ByteArray) (hm : ModelV S w d cs m) : Calls Try.prog 11 #[.agg cs.toArray, .string s] w fun e w' => e = .returned (.bool (inB s m.roles)) ∧ Below w.heap.size w w' := by
  obtain ⟨mi, mn, mroles, plan⟩ := m
  obtain ⟨ra, rc, fa, fn, fc, pc, rfl, h1, h2⟩ := hm
  simp only at h1 h2 ⊢
  have HH := Lib.hid (fun (W : World) (hW : Below w.heap.size w W) => rhas_c W _ mroles (h1.keep hW.size (fun k _ hl => hW.block k hl)) s)
  obtain ⟨i0, i1, i2, a3, n3, q3, a4, n4, q4, i5, i6, i7, i8, i9, i10, a11, n11, q11, a12, n12, q12, a13, n13, q13, rfl⟩ := h2.shape
  generalize mroles.length = rn at *
  clear h1 h2
  simp only [List.cons_append, List.nil_append] at *
  obtain ⟨w0, hw0⟩ : ∃ y, y = w.alloc (.cells #[.string mi, .string mn, .slice ra rn rc, .slice fa fn fc, .string i0, .string i1, .int .i64 i2, .slice a3 n3 q3, .slice a4 n4 q4, .string i5, .string i6, .string i7, .bool i8, .bool i9, .int .i64 i10, .slice a11 n11 q11, .slice a12 n12 q12, .slice a13 n13 q13] 29) := ⟨_, rfl⟩
  have HW0 := Lib.hid hw0
  have HB0 := Lib.hid (show Below w.heap.size w w0 from by rw [hw0]; exact (Below.refl _ _).alloc (Nat.le_refl _) _)
  have h0 : w0.heap[w.heap.size]? = some (.cells #[.string mi, .string mn, .slice ra rn rc, .slice fa fn fc, .string i0, .string i1, .int .i64 i2, .slice a3 n3 q3, .slice a4 n4 q4, .string i5, .string i6, .string i7, .bool i8, .bool i9, .int .i64 i10, .slice a11 n11 q11, .slice a12 n12 q12, .slice a13 n13 q13] 29 (0, 0)) := by rw [hw0]; exact heap_alloc_new w _
  obtain ⟨e0, e1, e2, e3, e4, e5, e6, e7, e8, e9, e10, e11, e12, e13, e14, e15, e16, e17⟩ := cellsG18 h0
  clear hw0 h0
  go_enter Try.func11, Try.ntmps11
  go_upto_region 1 with (fail)
  rw [← HW0.out]
  go_wp2_with fail
  refine (HH.out w0 HB0.out).mono ?_
  rintro e w1 ⟨rfl, rfl⟩
  go_wp2_with fail
  go_ret
  exact ⟨by rfl, HB0.out⟩

theorem rfindE_shape0 {W0 : World} {S : Nat → Prop} {r : Option IT} {cs : List Value} (h : match r with | none => cs = zero14 | some y => ∃ d, ItemV S W0 d cs y) : ∃ i0 i1 i2 a3 n3 q3 a4 n4 q4 i5 i6 i7 i8 i9 i10 a11 n11 q11 a12 n12 q12 a13 n13 q13, cs = [.string i0, .string i1, .int .i64 i2, .slice a3 n3 q3, .slice a4 n4 q4, .string i5, .string i6, .string i7, .bool i8, .bool i9, .int .i64 i10, .slice a11 n11 q11, .slice a12 n12 q12, .slice a13 n13 q13] := by
  cases r with
  | none => exact ⟨_, _, _, _, _, _, _, _, _, _, _, _, _, _, _, _, _, _, _, _, _, _, _, _, h⟩
  | some y =>
    obtain ⟨_, hd⟩ := h
    exact hd.shape
theorem roles_in0 {W0 : World} {d : Nat} {y : IT} {j0 j1 : ByteArray} {j2 : Int} {b3 : Option Addr} {m3 p3 : Nat} {b4 : Option Addr} {m4 p4 : Nat} {j5 j6 j7 : ByteArray} {j8 j9 : Bool} {j10 : Int} {b11 : Option Addr} {m11 p11 : Nat} {b12 : Option Addr} {m12 p12 : Nat} {b13 : Option Addr} {m13 p13 : Nat}
    (h : ItemV AnyG W0 d [.string j0, .string j1, .int .i64 j2, .slice b3 m3 p3, .slice b4 m4 p4, .string j5, .string j6, .string j7, .bool j8, .bool j9, .int .i64 j10, .slice b11 m11 p11, .slice b12 m12 p12, .slice b13 m13 p13] y) : TextsD AnyG W0 (.slice b11 m11 p11) y.roles ∧ m11 = y.roles.length := by
  obtain ⟨_, ev, xv, rv, kv, tv, e, k1, k2, k3, k4, k5⟩ := h
  simp only [item14, List.cons.injEq, and_true] at e
  obtain ⟨_, _, _, _, _, _, _, _, _, _, _, rfl, _, _⟩ := e
  obtain ⟨a, c, hv, _⟩ := k3.form
  simp only [Value.slice.injEq] at hv
  exact ⟨k3, hv.2.1⟩

set_option maxRecDepth 100000 in
set_option maxHeartbeats 4000000 in
theorem rcheck_c (W0 : World) {d : Nat} (w : World) (cs : List Value) (m : MT) (item role : ByteArray) (hm : ModelV AnyG W0 d cs m) (hb0 : Below W0.heap.size W0 w) (hbud : cntI d m.plan ≤ 260) :
    Calls Try.prog 9 #[.agg cs.toArray, .string item, .string role] w fun e w' => e = .returned (.int .i64 (chkP d m item role)) ∧ Below w.heap.size w w' := by
  have hmw := hm.below hb0
  have HKN := Lib.hid (fun (W : World) (hW : Below w.heap.size w W) => rknown_c W cs m role (hmw.below hW))
  have HRF := Lib.hid (fun (W : World) (hW : Below w.heap.size w W) => rfind_c w W cs m item hmw hW hbud)
  obtain ⟨r, hr⟩ : ∃ r, r = firstI item d m.plan := ⟨_, rfl⟩
  obtain ⟨q, hq⟩ : ∃ q, q = inB role m.roles := ⟨_, rfl⟩
  have HC := Lib.hid (show ∀ t, role.toList.isEmpty = t → chkP d m item role = chkI (t || q) r role from fun t ht => by
    unfold chkP standsB
    rw [hq, hr, ← ht])
  rw [← hr] at HRF
  rw [← hq] at HKN
  obtain ⟨mi, mn, mroles, plan⟩ := m
  obtain ⟨ra, rc, fa, fn, fc, pc, rfl, h1, h2⟩ := hm
  simp only at h1 h2 HKN HRF HC ⊢
  obtain ⟨i0, i1, i2, a3, n3, q3, a4, n4, q4, i5, i6, i7, i8, i9, i10, a11, n11, q11, a12, n12, q12, a13, n13, q13, rfl⟩ := h2.shape
  generalize mroles.length = rn at *
  clear h1 h2 hbud hr hq hmw
  simp only [List.cons_append, List.nil_append] at *
  obtain ⟨w0, hw0⟩ : ∃ y, y = w.alloc (.cells #[.string mi, .string mn, .slice ra rn rc, .slice fa fn fc, .string i0, .string i1, .int .i64 i2, .slice a3 n3 q3, .slice a4 n4 q4, .string i5, .string i6, .string i7, .bool i8, .bool i9, .int .i64 i10, .slice a11 n11 q11, .slice a12 n12 q12, .slice a13 n13 q13] 29) := ⟨_, rfl⟩
  have HW0 := Lib.hid hw0
  have HB0 := Lib.hid (show Below w.heap.size w w0 from by rw [hw0]; exact (Below.refl _ _).alloc (Nat.le_refl _) _)
  have h0 : w0.heap[w.heap.size]? = some (.cells #[.string mi, .string mn, .slice ra rn rc, .slice fa fn fc, .string i0, .string i1, .int .i64 i2, .slice a3 n3 q3, .slice a4 n4 q4, .string i5, .string i6, .string i7, .bool i8, .bool i9, .int .i64 i10, .slice a11 n11 q11, .slice a12 n12 q12, .slice a13 n13 q13] 29 (0, 0)) := by rw [hw0]; exact heap_alloc_new w _
  have HQ0 := Lib.hid h0
  have HI := Lib.hid infoGM18
  clear hw0 h0 hb0
  have HREST := Lib.hid trivial
  by_cases ht : role.toList.isEmpty = true
  · go_enter Try.func9, Try.ntmps9
    go_upto_region 1 with (fail)
    rw [← HW0.out]
    have HC2 := Lib.hid (HC.out true ht)
    have HQ1 := HQ0
    have HB1 := HB0
    go_wp2_with (refine wpList_load_rowG (by rfl) 29 (Operand.tmp 3) rfl w.heap.size rfl 29 _ (0, 0) _ HQ1.out Try.underlying29 rfl HI.out ?_)
    refine (HRF.out w0 HB1.out).mono ?_
    rintro e w3 ⟨xcs, rfl, hb3, hxv⟩
    obtain ⟨j0, j1, j2, b3, m3, p3, b4, m4, p4, j5, j6, j7, j8, j9, j10, b11, m11, p11, b12, m12, p12, b13, m13, p13, rfl⟩ := rfindE_shape0 hxv
    have HXV := Lib.hid hxv
    have HB3 := Lib.hid (HB1.out.trans (hb3.mono HB1.out.size))
    obtain ⟨X, hXe⟩ : ∃ X, X = w3.heap.size := ⟨_, rfl⟩
    obtain ⟨w4, hw4⟩ : ∃ y, y = w3.alloc (.cells #[.string j0, .string j1, .int .i64 j2, .slice b3 m3 p3, .slice b4 m4 p4, .string j5, .string j6, .string j7, .bool j8, .bool j9, .int .i64 j10, .slice b11 m11 p11, .slice b12 m12 p12, .slice b13 m13 p13] 27) := ⟨_, rfl⟩
    have HW4 := Lib.hid hw4
    have HXE := Lib.hid hXe
    have HB4 := Lib.hid (show Below w.heap.size w w4 from by rw [hw4]; exact HB3.out.alloc HB3.out.size _)
    have hx4 : w4.heap[X]? = some (.cells #[.string j0, .string j1, .int .i64 j2, .slice b3 m3 p3, .slice b4 m4 p4, .string j5, .string j6, .string j7, .bool j8, .bool j9, .int .i64 j10, .slice b11 m11 p11, .slice b12 m12 p12, .slice b13 m13 p13] 27 (0, 0)) := by rw [hw4, hXe]; exact heap_alloc_new w3 _
    have f11 : w4.cell? ⟨X, 11, none⟩ = some (.slice b11 m11 p11) := by simp [World.cell?, hx4]
    clear hxv hb3 hw4 hXe hx4
    go_upto_region 4 with (fail)
    rw [← HW4.out, ← HXE.out]
    cases r with
    | none =>
      go_wp2_with fail
      go_ret
      exact ⟨by rw [HC2.out]; rfl, HB4.out⟩
    | some y =>
      obtain ⟨dd, hiv⟩ := HXV.out
      obtain ⟨hrt, hrl⟩ := roles_in0 hiv
      have hml : m11 ≤ 9223372036854775807 := by have := hrt.2; omega
      have HCT := Lib.hid (fun (W : World) (hW : Below w.heap.size w W) => rhas_c W _ y.roles (hrt.keep hW.size (fun k _ hl => hW.block k hl)) role)
      obtain ⟨ct, hct⟩ : ∃ t, t = inB role y.roles := ⟨_, rfl⟩
      have HOP := Lib.hid (show openB y role = (decide (m11 = 0) || ct) from by
        rw [hct]
        unfold openB
        congr 1
        rw [← hrl, Bool.eq_iff_iff]
        simp)
      rw [← hct] at HCT
      clear hiv hrt hrl hct
      by_cases hl : m11 = 0
      · subst hl
        go_wp2_with fail
        go_ret
        exact ⟨by rw [HC2.out]; simp only [chkI, HOP.out]; rfl, HB4.out⟩
      · have hl2 : decide ((0 : Int) < (m11 : Int)) = true := decide_eq_true (by omega)
        have HOP2 := Lib.hid (show openB y role = ct from by rw [HOP.out]; simp [hl])
        go_wp2_with fail
        refine (HCT.out w4 HB4.out).mono ?_
        rintro e wq ⟨rfl, rfl⟩
        cases ct
        · go_wp2_with fail
          go_ret
          exact ⟨by rw [HC2.out]; simp only [chkI, HOP2.out]; rfl, HB4.out⟩
        · go_wp2_with fail
          go_ret
          exact ⟨by rw [HC2.out]; simp only [chkI, HOP2.out]; rfl, HB4.out⟩
  · have ht2 : role.toList.isEmpty = false := by simpa using ht
    clear ht
    go_enter Try.func9, Try.ntmps9
    go_upto_region 1 with (fail)
    rw [← HW0.out]
    have HC2 := Lib.hid (HC.out false ht2)
    go_wp2_with (refine wpList_load_rowG (by rfl) 29 (Operand.tmp 3) rfl w.heap.size rfl 29 _ (0, 0) _ HQ0.out Try.underlying29 rfl HI.out ?_)
    refine (HKN.out w0 HB0.out).mono ?_
    rintro e w1 ⟨rfl, hb1⟩
    have HB1 := Lib.hid (HB0.out.trans (hb1.mono HB0.out.size))
    have HQ1 := Lib.hid ((hb1.block _ (Array.getElem?_eq_some_iff.1 HQ0.out).1).trans HQ0.out)
    clear hb1
    cases q
    · go_wp2_with fail
      go_ret
      exact ⟨by rw [HC2.out]; rfl, HB1.out⟩
    ·
      go_wp2_with (refine wpList_load_rowG (by rfl) 29 (Operand.tmp 3) rfl w.heap.size rfl 29 _ (0, 0) _ HQ1.out Try.underlying29 rfl HI.out ?_)
      refine (HRF.out w1 HB1.out).mono ?_
      rintro e w3 ⟨xcs, rfl, hb3, hxv⟩
      obtain ⟨j0, j1, j2, b3, m3, p3, b4, m4, p4, j5, j6, j7, j8, j9, j10, b11, m11, p11, b12, m12, p12, b13, m13, p13, rfl⟩ := rfindE_shape0 hxv
      have HXV := Lib.hid hxv
      have HB3 := Lib.hid (HB1.out.trans (hb3.mono HB1.out.size))
      obtain ⟨X, hXe⟩ : ∃ X, X = w3.heap.size := ⟨_, rfl⟩
      obtain ⟨w4, hw4⟩ : ∃ y, y = w3.alloc (.cells #[.string j0, .string j1, .int .i64 j2, .slice b3 m3 p3, .slice b4 m4 p4, .string j5, .string j6, .string j7, .bool j8, .bool j9, .int .i64 j10, .slice b11 m11 p11, .slice b12 m12 p12, .slice b13 m13 p13] 27) := ⟨_, rfl⟩
      have HW4 := Lib.hid hw4
      have HXE := Lib.hid hXe
      have HB4 := Lib.hid (show Below w.heap.size w w4 from by rw [hw4]; exact HB3.out.alloc HB3.out.size _)
      have hx4 : w4.heap[X]? = some (.cells #[.string j0, .string j1, .int .i64 j2, .slice b3 m3 p3, .slice b4 m4 p4, .string j5, .string j6, .string j7, .bool j8, .bool j9, .int .i64 j10, .slice b11 m11 p11, .slice b12 m12 p12, .slice b13 m13 p13] 27 (0, 0)) := by rw [hw4, hXe]; exact heap_alloc_new w3 _
      have f11 : w4.cell? ⟨X, 11, none⟩ = some (.slice b11 m11 p11) := by simp [World.cell?, hx4]
      clear hxv hb3 hw4 hXe hx4
      go_upto_region 4 with (fail)
      rw [← HW4.out, ← HXE.out]
      cases r with
      | none =>
        go_wp2_with fail
        go_ret
        exact ⟨by rw [HC2.out]; rfl, HB4.out⟩
      | some y =>
        obtain ⟨dd, hiv⟩ := HXV.out
        obtain ⟨hrt, hrl⟩ := roles_in0 hiv
        have hml : m11 ≤ 9223372036854775807 := by have := hrt.2; omega
        have HCT := Lib.hid (fun (W : World) (hW : Below w.heap.size w W) => rhas_c W _ y.roles (hrt.keep hW.size (fun k _ hl => hW.block k hl)) role)
        obtain ⟨ct, hct⟩ : ∃ t, t = inB role y.roles := ⟨_, rfl⟩
        have HOP := Lib.hid (show openB y role = (decide (m11 = 0) || ct) from by
          rw [hct]
          unfold openB
          congr 1
          rw [← hrl, Bool.eq_iff_iff]
          simp)
        rw [← hct] at HCT
        clear hiv hrt hrl hct
        by_cases hl : m11 = 0
        · subst hl
          go_wp2_with fail
          go_ret
          exact ⟨by rw [HC2.out]; simp only [chkI, HOP.out]; rfl, HB4.out⟩
        · have hl2 : decide ((0 : Int) < (m11 : Int)) = true := decide_eq_true (by omega)
          have HOP2 := Lib.hid (show openB y role = ct from by rw [HOP.out]; simp [hl])
          go_wp2_with fail
          refine (HCT.out w4 HB4.out).mono ?_
          rintro e wq ⟨rfl, rfl⟩
          cases ct
          · go_wp2_with fail
            go_ret
            exact ⟨by rw [HC2.out]; simp only [chkI, HOP2.out]; rfl, HB4.out⟩
          · go_wp2_with fail
            go_ret
            exact ⟨by rw [HC2.out]; simp only [chkI, HOP2.out]; rfl, HB4.out⟩
end Go.Proofs.Ytkapelpbepejfaa
