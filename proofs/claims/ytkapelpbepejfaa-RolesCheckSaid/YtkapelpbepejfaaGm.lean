/- roles.Check. Written by tools/gengm.py. -/
import Derived.Test.YtkapelpbepejfaaGl
namespace Go.Proofs.Ytkapelpbepejfaa
open Go Go.RowKit Go.Deep Go.Shelf
set_option linter.unusedVariables false
set_option linter.unusedSimpArgs false

/-- What is wrong with a role that works at an item. -/
def chkI (q : Bool) (r : Option IT) (role : ByteArray) : Int := if q then (match r with | none => 33 | some y => if openB y role then 0 else 41) else 41
def chkP (d : Nat) (m : MT) (item role : ByteArray) : Int := chkI (standsB m role) (firstI item d m.plan) role
theorem findE_shape {S : Nat → Prop} {w' : World} {r : Option IT} {cs : List Value} (h : match r with | none => cs = zero14 | some y => ∃ d, ItemV S w' d cs y) : ∃ i0 i1 i2 a3 n3 q3 a4 n4 q4 i5 i6 i7 i8 i9 i10 a11 n11 q11 a12 n12 q12 a13 n13 q13, cs = [.string i0, .string i1, .int .i64 i2, .slice a3 n3 q3, .slice a4 n4 q4, .string i5, .string i6, .string i7, .bool i8, .bool i9, .int .i64 i10, .slice a11 n11 q11, .slice a12 n12 q12, .slice a13 n13 q13] := by
  cases r with
  | none => exact ⟨_, _, _, _, _, _, _, _, _, _, _, _, _, _, _, _, _, _, _, _, _, _, _, _, h⟩
  | some y =>
    obtain ⟨_, hd⟩ := h
    exact hd.shape

set_option maxRecDepth 100000 in
set_option maxHeartbeats 2000000 in
theorem check_c {S : Nat → Prop} {d : Nat} (w : World) (cs : List Value) (m : MT) (item role : ByteArray) (hm : ModelV S w d cs m) (hok : okI d 0 m.plan) (hbud : cntI d m.plan ≤ 260) :
    Calls Try.prog 8 #[.agg cs.toArray, .string item, .string role] w fun e w' => e = .returned (.int .i64 (chkP d m item role)) ∧ Below w.heap.size w w' := by
  have HF := Lib.hid (fun (W : World) (hW : Below w.heap.size w W) => find_c d W cs m item (hm.below hW) hok hbud)
  have HSD := Lib.hid (fun (W : World) (hW : Below w.heap.size w W) => stands_c W cs m role (hm.below hW))
  obtain ⟨r, hr⟩ : ∃ r, r = firstI item d m.plan := ⟨_, rfl⟩
  obtain ⟨q, hq⟩ : ∃ q, q = standsB m role := ⟨_, rfl⟩
  have HC := Lib.hid (show chkP d m item role = chkI q r role from by rw [hq, hr]; rfl)
  rw [← hr] at HF
  rw [← hq] at HSD
  obtain ⟨mi, mn, mroles, plan⟩ := m
  obtain ⟨ra, rc, fa, fn, fc, pc, rfl, h1, h2⟩ := hm
  simp only at h1 h2 HF HSD HC ⊢
  obtain ⟨i0, i1, i2, a3, n3, q3, a4, n4, q4, i5, i6, i7, i8, i9, i10, a11, n11, q11, a12, n12, q12, a13, n13, q13, rfl⟩ := h2.shape
  generalize mroles.length = rn at *
  clear h1 h2 hok hbud hr hq
  simp only [List.cons_append, List.nil_append] at *
  obtain ⟨w0, hw0⟩ : ∃ y, y = w.alloc (.cells #[.string mi, .string mn, .slice ra rn rc, .slice fa fn fc, .string i0, .string i1, .int .i64 i2, .slice a3 n3 q3, .slice a4 n4 q4, .string i5, .string i6, .string i7, .bool i8, .bool i9, .int .i64 i10, .slice a11 n11 q11, .slice a12 n12 q12, .slice a13 n13 q13] 29) := ⟨_, rfl⟩
  have HW0 := Lib.hid hw0
  have HB0 := Lib.hid (show Below w.heap.size w w0 from by rw [hw0]; exact (Below.refl _ _).alloc (Nat.le_refl _) _)
  have h0 : w0.heap[w.heap.size]? = some (.cells #[.string mi, .string mn, .slice ra rn rc, .slice fa fn fc, .string i0, .string i1, .int .i64 i2, .slice a3 n3 q3, .slice a4 n4 q4, .string i5, .string i6, .string i7, .bool i8, .bool i9, .int .i64 i10, .slice a11 n11 q11, .slice a12 n12 q12, .slice a13 n13 q13] 29 (0, 0)) := by rw [hw0]; exact heap_alloc_new w _
  have HQ0 := Lib.hid h0
  have HI := Lib.hid infoGM18
  clear hw0 h0
  go_enter Try.func8, Try.ntmps8
  go_upto_region 1 with (fail)
  rw [← HW0.out]
  go_wp2_with (refine wpList_load_row rfl 29 (Operand.tmp 3) rfl w.heap.size rfl 29 _ (0, 0) _ HQ0.out Try.underlying29 rfl HI.out ?_)
  refine (HF.out _ HB0.out).mono ?_
  rintro e w1 ⟨fcs, rfl, hfl, hb1, hfv⟩
  obtain ⟨j0, j1, j2, b3, m3, p3, b4, m4, p4, j5, j6, j7, j8, j9, j10, b11, m11, p11, b12, m12, p12, b13, m13, p13, rfl⟩ := findE_shape hfv
  have HFV := Lib.hid hfv
  have hB1 := HB0.out.trans (hb1.mono HB0.out.size)
  have HBX := Lib.hid hb1
  obtain ⟨w2, hw2⟩ : ∃ y, y = w1.alloc (.cells #[.string j0, .string j1, .int .i64 j2, .slice b3 m3 p3, .slice b4 m4 p4, .string j5, .string j6, .string j7, .bool j8, .bool j9, .int .i64 j10, .slice b11 m11 p11, .slice b12 m12 p12, .slice b13 m13 p13] 27) := ⟨_, rfl⟩
  have HW2 := Lib.hid hw2
  have HB2 := Lib.hid (show Below w.heap.size w w2 ∧ Below w1.heap.size w1 w2 from by rw [hw2]; exact ⟨hB1.alloc hB1.size _, (Below.refl _ _).alloc (Nat.le_refl _) _⟩)
  have HQ2 := Lib.hid (show w2.heap[w.heap.size]? = some (.cells #[.string mi, .string mn, .slice ra rn rc, .slice fa fn fc, .string i0, .string i1, .int .i64 i2, .slice a3 n3 q3, .slice a4 n4 q4, .string i5, .string i6, .string i7, .bool i8, .bool i9, .int .i64 i10, .slice a11 n11 q11, .slice a12 n12 q12, .slice a13 n13 q13] 29 (0, 0)) from by
    have hl := (Array.getElem?_eq_some_iff.1 HQ0.out).1
    rw [hw2]
    exact (Below.heap_alloc _ _ _ (Nat.lt_of_lt_of_le hl hb1.size)).trans ((hb1.block _ hl).trans HQ0.out))
  have HX2 := Lib.hid (show w2.heap[w1.heap.size]? = some (.cells #[.string j0, .string j1, .int .i64 j2, .slice b3 m3 p3, .slice b4 m4 p4, .string j5, .string j6, .string j7, .bool j8, .bool j9, .int .i64 j10, .slice b11 m11 p11, .slice b12 m12 p12, .slice b13 m13 p13] 27 (0, 0)) from by rw [hw2]; exact heap_alloc_new w1 _)
  clear hfv hfl hb1 hB1 hw2
  go_upto_region 2 with (fail)
  rw [← HW2.out]
  go_wp2_with (refine wpList_load_row rfl 29 (Operand.tmp 3) rfl w.heap.size rfl 29 _ (0, 0) _ HQ2.out Try.underlying29 rfl HI.out ?_)
  refine (HSD.out _ HB2.out.1).mono ?_
  rintro e w3 ⟨rfl, hb3⟩
  have HB3 := Lib.hid (HB2.out.1.trans (hb3.mono HB2.out.1.size))
  have HB3' := Lib.hid hb3
  have hx3 := (hb3.block _ (Array.getElem?_eq_some_iff.1 HX2.out).1).trans HX2.out
  have HX3 := Lib.hid hx3
  clear hb3
  cases q
  · clear hx3
    go_wp2_with fail
    go_ret
    exact ⟨by rw [HC.out]; rfl, HB3.out⟩
  cases r with
  | none =>
    clear hx3
    go_wp2_with fail
    go_ret
    exact ⟨by rw [HC.out]; rfl, HB3.out⟩
  | some y =>
    obtain ⟨dd, hiv⟩ := HFV.out
    have HO := Lib.hid (open_c w3 _ y role ((hiv.below HB2.out.2).below HB3'.out))
    obtain ⟨d0, d1, d2, d3, d4, d5, d6, d7, d8, d9, d10, d11, d12, d13, dz⟩ := cellsG14 hx3
    obtain ⟨t, ht⟩ : ∃ t, t = openB y role := ⟨_, rfl⟩
    rw [← ht] at HO
    have HT := Lib.hid ht
    clear hx3 hiv ht
    go_wp2_with fail
    refine HO.out.mono ?_
    rintro e w4 ⟨rfl, hb4⟩
    have HB4 := Lib.hid (HB3.out.trans (hb4.mono HB3.out.size))
    clear hb4 d0 d1 d2 d3 d4 d5 d6 d7 d8 d9 d10 d11 d12 d13 dz
    cases t
    · go_wp2_with fail
      go_ret
      exact ⟨by rw [HC.out]; simp only [chkI, if_true, ← HT.out]; rfl, HB4.out⟩
    · go_wp2_with fail
      go_ret
      exact ⟨by rw [HC.out]; simp only [chkI, if_true, ← HT.out]; rfl, HB4.out⟩
end Go.Proofs.Ytkapelpbepejfaa
