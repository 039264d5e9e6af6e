/- dossierref13.Items, dossierref13.Find. Written by tools/gengr.py. -/
import Derived.Test.YtkapelpbepejfaaGq
namespace Go.Proofs.Ytkapelpbepejfaa
open Go Go.RowKit Go.Deep Go.Shelf
set_option linter.unusedVariables false
set_option linter.unusedSimpArgs false

set_option maxRecDepth 100000 in
set_option maxHeartbeats 1000000 in
theorem ritems_c (W0 : World) {S : Nat → Prop} {d : Nat} (w : World) (cs : List Value) (m : MT) (hm : ModelV S W0 d cs m) (hb0 : Below W0.heap.size W0 w) (hbud : cntI d m.plan ≤ 260) : Calls Try.prog 25 #[.agg cs.toArray] w (ItsE W0 S d m.plan w) := by
  obtain ⟨mi, mn, mroles, plan⟩ := m
  obtain ⟨ra, rc, fa, fn, fc, pc, rfl, h1, h2⟩ := hm
  simp only at h1 h2 hbud ⊢
  have HC := Lib.hid (fun (W : World) (hW : Below W0.heap.size W0 W) => items_c W0 S d W pc plan h2 hW hbud)
  obtain ⟨i0, i1, i2, a3, n3, q3, a4, n4, q4, i5, i6, i7, i8, i9, i10, a11, n11, q11, a12, n12, q12, a13, n13, q13, rfl⟩ := h2.shape
  generalize mroles.length = rn at *
  clear h1 h2 hbud
  simp only [List.cons_append, List.nil_append] at *
  obtain ⟨w0, hw0⟩ : ∃ y, y = w.alloc (.cells #[.string mi, .string mn, .slice ra rn rc, .slice fa fn fc, .string i0, .string i1, .int .i64 i2, .slice a3 n3 q3, .slice a4 n4 q4, .string i5, .string i6, .string i7, .bool i8, .bool i9, .int .i64 i10, .slice a11 n11 q11, .slice a12 n12 q12, .slice a13 n13 q13] 29) := ⟨_, rfl⟩
  have HW0 := Lib.hid hw0
  have HB0 := Lib.hid (show Below w.heap.size w w0 from by rw [hw0]; exact (Below.refl _ _).alloc (Nat.le_refl _) _)
  have HB00 := Lib.hid hb0
  have h0 : w0.heap[w.heap.size]? = some (.cells #[.string mi, .string mn, .slice ra rn rc, .slice fa fn fc, .string i0, .string i1, .int .i64 i2, .slice a3 n3 q3, .slice a4 n4 q4, .string i5, .string i6, .string i7, .bool i8, .bool i9, .int .i64 i10, .slice a11 n11 q11, .slice a12 n12 q12, .slice a13 n13 q13] 29 (0, 0)) := by rw [hw0]; exact heap_alloc_new w _
  obtain ⟨e0, e1, e2, e3, e4, e5, e6, e7, e8, e9, e10, e11, e12, e13, e14, e15, e16, e17⟩ := cellsG18 h0
  clear hw0 h0 hb0
  go_enter Try.func25, Try.ntmps25
  go_upto_region 1 with (fail)
  rw [← HW0.out]
  go_wp2_with fail
  refine (HC.out w0 (HB00.out.trans (HB0.out.mono HB00.out.size))).mono ?_
  rintro e w1 ⟨L, v, rfl, hL, hown, hall, hb1⟩
  have HR := Lib.hid (show L.map (·.2) = flatI d plan ∧ OwnS w1 w.heap.size 27 14 v L.length (rowsI L) ∧ (∀ p ∈ L, ∃ d', ItemV S W0 d' p.1 p.2) ∧ Below w.heap.size w w1 from ⟨hL, hown.weak HB0.out.size, hall, HB0.out.trans (hb1.mono HB0.out.size)⟩)
  obtain ⟨va, vc, hv, _⟩ := hown.form
  subst hv
  clear hL hown hall hb1
  go_wp2_with fail
  go_ret
  exact ⟨L, _, by rfl, HR.out⟩

/-- A row's cells. -/
theorem rows_at {W0 : World} {S : Nat → Prop} {w : World} {base : Nat} {v : Value} {L : List (List Value × IT)} (h : OwnS w base 27 14 v L.length (rowsI L)) (hall : ∀ p ∈ L, ∃ d', ItemV S W0 d' p.1 p.2) (j : Nat) (hj : j < L.length) :
    ∃ g off c, v = .slice (some ⟨g, off, none⟩) L.length c ∧ g < w.heap.size ∧ ∀ k u, (L[j].1)[k]? = some u → w.cell? ⟨g, off + j * 14 + k, none⟩ = some u := by
  have h14 : ∀ p ∈ L, p.1.length = 14 := fun p hp => by
    obtain ⟨d', hd⟩ := hall p hp
    exact hd.len
  rcases h.2 with ⟨_, h0⟩ | ⟨g, off, cap, cur, rfl, hb, hg, k1, k2, k3, k4⟩
  · omega
  · refine ⟨g, off, cap, rfl, (Array.getElem?_eq_some_iff.1 hg).1, fun k u hu => ?_⟩
    have hk : k < 14 := by
      have := (List.getElem?_eq_some_iff.1 hu).1
      rwa [h14 _ (List.getElem_mem hj)] at this
    rw [Nat.add_assoc]
    refine h.cell rfl _ u ?_
    unfold rowsI
    rw [flat_at h14 j hj k hk]
    exact hu
/-- What the reference's search gives: the first item of the ID, where it lies. -/
def FindRE (W0 : World) (S : Nat → Prop) (w : World) (r : Option IT) (e : Ending) (w' : World) : Prop :=
  ∃ cs : List Value, e = .returned (.tuple #[.agg cs.toArray, .bool r.isSome]) ∧ Below w.heap.size w w' ∧ match r with
    | none => cs = zero14
    | some y => ∃ d, ItemV S W0 d cs y
theorem results_rfind (tm : Array Value) (V : World) (b1 : Nat) (cs : Array Value) (c : Value) (h4 : tm.getD 4 undef = .pointer (some ⟨b1, 0, none⟩)) (h5 : tm.getD 5 undef = c) (hcs : cs.size = 14) (hb1 : V.heap[b1]? = some (.cells cs 27 (0, 0))) :
    (results Try.f15 tm).run Try.prog V = .ok (.tuple #[.agg cs, c]) V := by
  have e := run_loadVar_row (P := Try.prog) V b1 27 27 cs (0, 0) _ hb1 Try.underlying27 rfl (by rw [hcs]; exact infoGI14)
  have h4' : tm[4]?.getD undef = .pointer (some ⟨b1, 0, none⟩) := by simpa using h4
  have h5' : tm[5]?.getD undef = c := by simpa using h5
  simp [results, Try.results15, asAddr, h4', h5', e, Sem.run_bind]
theorem find_snoc {f : IT → Bool} {l : List IT} {j : Nat} (hj : j < l.length) (h : (l.take j).find? f = none) : (f l[j] = true → l.find? f = some l[j]) ∧ (f l[j] = false → (l.take (j + 1)).find? f = none) := by
  constructor
  · intro hf
    have e : l = l.take j ++ (l[j] :: l.drop (j + 1)) := by rw [← List.drop_eq_getElem_cons hj, List.take_append_drop]
    rw [show l.find? f = (l.take j ++ (l[j] :: l.drop (j + 1))).find? f from congrArg (List.find? f) e, List.find?_append, h, Option.none_or, List.find?_cons, hf]
  · intro hf
    rw [← List.take_append_getElem hj, List.find?_append, h]
    simp [hf]

set_option maxRecDepth 100000 in
set_option maxHeartbeats 4000000 in
theorem rfind_c (W0 : World) {S : Nat → Prop} {d : Nat} (w : World) (cs : List Value) (m : MT) (id : ByteArray) (hm : ModelV S W0 d cs m) (hb0 : Below W0.heap.size W0 w) (hbud : cntI d m.plan ≤ 260) :
    Calls Try.prog 15 #[.agg cs.toArray, .string id] w (FindRE W0 S w (firstI id d m.plan)) := by
  have HIT := Lib.hid (fun (W : World) (hW : Below W0.heap.size W0 W) => ritems_c W0 W cs m hm hW hbud)
  obtain ⟨r, hr⟩ : ∃ r, r = firstI id d m.plan := ⟨_, rfl⟩
  rw [← hr]
  obtain ⟨mi, mn, mroles, plan⟩ := m
  obtain ⟨ra, rc, fa, fn, fc, pc, rfl, h1, h2⟩ := hm
  simp only at h1 h2 HIT hr ⊢
  have HFR := Lib.hid hr
  obtain ⟨i0, i1, i2, a3, n3, q3, a4, n4, q4, i5, i6, i7, i8, i9, i10, a11, n11, q11, a12, n12, q12, a13, n13, q13, rfl⟩ := h2.shape
  generalize mroles.length = rn at *
  clear h1 h2 hbud hr
  simp only [List.cons_append, List.nil_append] at *
  obtain ⟨w0, hw0⟩ : ∃ y, y = (w.alloc (.cells #[.string mi, .string mn, .slice ra rn rc, .slice fa fn fc, .string i0, .string i1, .int .i64 i2, .slice a3 n3 q3, .slice a4 n4 q4, .string i5, .string i6, .string i7, .bool i8, .bool i9, .int .i64 i10, .slice a11 n11 q11, .slice a12 n12 q12, .slice a13 n13 q13] 29)).alloc (.cells #[.string ⟨#[]⟩, .string ⟨#[]⟩, .int .i64 0, .slice none 0 0, .slice none 0 0, .string ⟨#[]⟩, .string ⟨#[]⟩, .string ⟨#[]⟩, .bool false, .bool false, .int .i64 0, .slice none 0 0, .slice none 0 0, .slice none 0 0] 27) := ⟨_, rfl⟩
  have HW0 := Lib.hid hw0
  have HB0 := Lib.hid (show Below w.heap.size w w0 from by rw [hw0]; exact ((Below.refl _ _).alloc (Nat.le_refl _) _).alloc (by simp) _)
  have HB00 := Lib.hid hb0
  have h0 : w0.heap[w.heap.size]? = some (.cells #[.string mi, .string mn, .slice ra rn rc, .slice fa fn fc, .string i0, .string i1, .int .i64 i2, .slice a3 n3 q3, .slice a4 n4 q4, .string i5, .string i6, .string i7, .bool i8, .bool i9, .int .i64 i10, .slice a11 n11 q11, .slice a12 n12 q12, .slice a13 n13 q13] 29 (0, 0)) := by rw [hw0]; exact (Below.heap_alloc _ _ _ (by simp)).trans (heap_alloc_new w _)
  have h01 : w0.heap[w.heap.size + 1]? = some (.cells #[.string ⟨#[]⟩, .string ⟨#[]⟩, .int .i64 0, .slice none 0 0, .slice none 0 0, .string ⟨#[]⟩, .string ⟨#[]⟩, .string ⟨#[]⟩, .bool false, .bool false, .int .i64 0, .slice none 0 0, .slice none 0 0, .slice none 0 0] 27 (0, 0)) := by rw [hw0]; simpa using heap_alloc_new (w.alloc (.cells #[.string mi, .string mn, .slice ra rn rc, .slice fa fn fc, .string i0, .string i1, .int .i64 i2, .slice a3 n3 q3, .slice a4 n4 q4, .string i5, .string i6, .string i7, .bool i8, .bool i9, .int .i64 i10, .slice a11 n11 q11, .slice a12 n12 q12, .slice a13 n13 q13] 29)) (.cells #[.string ⟨#[]⟩, .string ⟨#[]⟩, .int .i64 0, .slice none 0 0, .slice none 0 0, .string ⟨#[]⟩, .string ⟨#[]⟩, .string ⟨#[]⟩, .bool false, .bool false, .int .i64 0, .slice none 0 0, .slice none 0 0, .slice none 0 0] 27)
  have HQ0 := Lib.hid h0
  have HZ0 := Lib.hid h01
  have HI := Lib.hid infoGM18
  clear hw0 h0 hb0 h01
  go_enter Try.func15, Try.ntmps15
  go_upto_region 1 with (fail)
  rw [← HW0.out]
  go_wp2_with (refine wpList_load_rowG (by rfl) 29 (Operand.tmp 2) rfl w.heap.size rfl 29 _ (0, 0) _ HQ0.out Try.underlying29 rfl HI.out ?_)
  refine (HIT.out w0 (HB00.out.trans (HB0.out.mono HB00.out.size))).mono ?_
  rintro e w1 ⟨L, v, rfl, hL, hown, hall, hb1⟩
  have HB1 := Lib.hid (HB0.out.trans (hb1.mono HB0.out.size))
  have HZ1 := Lib.hid ((hb1.block _ (Array.getElem?_eq_some_iff.1 HZ0.out).1).trans HZ0.out)
  have HOW := Lib.hid hown
  have HAL := Lib.hid hall
  have HLL := Lib.hid hL
  obtain ⟨va, vc, hv, hvl, hvm, _⟩ := hown.form
  subst hv
  have hnl : L.length ≤ 9223372036854775807 := by unfold maxLen at hvm; omega
  obtain ⟨N, hN⟩ : ∃ N, N = L.length := ⟨_, rfl⟩
  rw [← hN] at hnl hvl ⊢
  have HN := Lib.hid hN
  clear hL hown hall hb1 hN
  go_wp2_with fail
  go_loopw [11] (fun i wr => ∃ (j : Nat), j ≤ N ∧ i = .int .i64 j ∧ Below w1.heap.size w1 wr ∧ Hid (((flatI d plan).take j).find? (fun y => y.id.toList == id.toList) = none)) (fun i _ => N - (intOf i).toNat)
  case atStart => exact ⟨0, by omega, rfl, Below.refl _ _, Lib.hid (by simp)⟩
  case round =>
    obtain ⟨j, hj, rfl, hbw, HF⟩ := hrel
    have HBW := Lib.hid hbw
    have hz := (hbw.block _ (Array.getElem?_eq_some_iff.1 HZ1.out).1).trans HZ1.out
    have HZ := Lib.hid hz
    have hzl : w.heap.size + 1 < wr.heap.size := (Array.getElem?_eq_some_iff.1 hz).1
    by_cases hjl : j < N
    · have hjl2 : j < L.length := by have := HN.out; omega
      obtain ⟨g, off, c, hv, hgl, hcell⟩ := rows_at HOW.out HAL.out j hjl2
      simp only [Value.slice.injEq] at hv
      obtain ⟨rfl, hx9, rfl⟩ := hv
      clear hx9
      have hjf : j < (flatI d plan).length := by rw [← HLL.out, List.length_map]; exact hjl2
      have hyj : (flatI d plan)[j] = L[j].2 := by
        have : (L.map (·.2))[j]'(by rw [List.length_map]; exact hjl2) = L[j].2 := List.getElem_map ..
        rw [← this]
        congr 1
        exact HLL.out.symm
      have hsn := find_snoc (f := fun y => y.id.toList == id.toList) hjf HF.out
      rw [hyj] at hsn
      obtain ⟨dj, hivj⟩ := HAL.out L[j] (List.getElem_mem hjl2)
      have hcell2 : ∀ k u, (L[j].1)[k]? = some u → wr.cell? ⟨g, off + j * 14 + k, none⟩ = some u := fun k u hu => (hbw.cell (p := ⟨g, off + j * 14 + k, none⟩) hgl).trans (hcell k u hu)
      generalize L[j] = yy at *
      obtain ⟨yc, y⟩ := yy
      simp only at hsn hivj hcell2
      have HSN := Lib.hid hsn
      have HIV := Lib.hid hivj
      obtain ⟨y0, y1, y2, yen, yex, y5, y6, y7, y8, y9, y10, yro, yki, ytb⟩ := y
      obtain ⟨_, ev, xv, rv, kv, tv, rfl, k1, k2, k3, k4, k5⟩ := hivj
      dsimp only [IT.entry, IT.exit, IT.roles, IT.kids, IT.table] at k1 k2 k3 k4 k5
      obtain ⟨b3, p3, rfl, _⟩ := k1.form
      obtain ⟨b4, p4, rfl, _⟩ := k2.form
      obtain ⟨b11, p11, rfl, _⟩ := k3.form
      obtain ⟨b12, p12, rfl, _⟩ := k4.form
      obtain ⟨b13, p13, rfl, _⟩ := k5.form
      simp only [item14, IT.id, IT.nm, IT.kind, IT.man, IT.req, IT.rep, IT.auto, IT.free, IT.after] at hcell2 HIV HSN
      generalize yen.length = m3 at *
      generalize yex.length = m4 at *
      generalize yro.length = m11 at *
      generalize yki.length = m12 at *
      generalize ytb.length = m13 at *
      have e0 := hcell2 0 _ rfl
      have e1 := hcell2 1 _ rfl
      have e2 := hcell2 2 _ rfl
      have e3 := hcell2 3 _ rfl
      have e4 := hcell2 4 _ rfl
      have e5 := hcell2 5 _ rfl
      have e6 := hcell2 6 _ rfl
      have e7 := hcell2 7 _ rfl
      have e8 := hcell2 8 _ rfl
      have e9 := hcell2 9 _ rfl
      have e10 := hcell2 10 _ rfl
      have e11 := hcell2 11 _ rfl
      have e12 := hcell2 12 _ rfl
      have e13 := hcell2 13 _ rfl
      simp only [Nat.add_zero] at e0
      obtain ⟨q, hq⟩ : ∃ q, (y0.toList == id.toList) = q := ⟨_, rfl⟩
      rw [hq] at HSN
      clear hcell hcell2 hsn hyj k1 k2 k3 k4 k5 hz hbw
      cases q
      · have HNX := Lib.hid (HSN.out.2 rfl)
        go_wp2_with fail
        go_roundw
        case rel => exact ⟨j + 1, by omega, by go_num, HBW.out.alloc HBW.out.size _, HNX⟩
        case measure => simp [intOf]; omega
      · have HHT := Lib.hid (HSN.out.1 rfl)
        obtain ⟨d0, d1, d2, d3, d4, d5, d6, d7, d8, d9, d10, d11, d12, d13, dz⟩ := cellsG14 HZ.out
        go_wp2_with fail
        refine bodyPost_ret (results_rfind _ _ (w.heap.size + 1) _ (.bool true) rfl rfl rfl ((Below.heap_alloc _ _ _ (by rw [putG14_size]; exact hzl)).trans (putG14_at HZ.out _ _ _ _ _ _ _ _ _ _ _ _ _ _))) rfl ?_
        have hrr : r = some (.mk y0 y1 y2 yen yex y5 y6 y7 y8 y9 y10 yro yki ytb) := by
          rw [HFR.out]
          exact HHT.out
        rw [hrr]
        refine ⟨_, rfl, Below.alloc (putG14_below (HB1.out.trans (HBW.out.mono HB1.out.size)) (by omega) _ _ _ _ _ _ _ _ _ _ _ _ _ _) ?_ _, dj, HIV.out⟩
        rw [putG14_size]
        omega
    · have hje : j = N := by omega
      have hrn : r = none := by
        rw [HFR.out]
        have := HF.out
        rwa [List.take_of_length_le (by rw [← HLL.out, List.length_map]; have := HN.out; omega)] at this
      obtain ⟨d0, d1, d2, d3, d4, d5, d6, d7, d8, d9, d10, d11, d12, d13, dz⟩ := cellsG14 hz
      clear hz hbw
      subst hje
      go_wp2_with fail
      refine bodyPost_ret (results_rfind _ _ (w.heap.size + 1) _ (.bool false) rfl rfl rfl (putG14_at HZ.out _ _ _ _ _ _ _ _ _ _ _ _ _ _)) rfl ?_
      rw [hrn]
      exact ⟨zero14, rfl, putG14_below (HB1.out.trans (HBW.out.mono HB1.out.size)) (by omega) _ _ _ _ _ _ _ _ _ _ _ _ _ _, rfl⟩
end Go.Proofs.Ytkapelpbepejfaa
