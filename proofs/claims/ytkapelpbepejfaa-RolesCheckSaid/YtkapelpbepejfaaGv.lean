/- dossierref27.May. Written by tools/genv.py. -/
import Derived.Test.YtkapelpbepejfaaGu
namespace Go.Proofs.Ytkapelpbepejfaa
open Go Go.RowKit Go.Deep Go.Shelf
set_option linter.unusedVariables false
set_option linter.unusedSimpArgs false

/-- The items that a role may work at. -/
def mayF (d : Nat) (m : MT) (role : ByteArray) (l : List IT) : List ByteArray := (l.filter fun x => chkP d m x.id role == 0).map (·.id)
def onlyIf (b : Bool) (s : ByteArray) : List ByteArray := match b with
  | true => [s]
  | false => []
theorem mayF_snoc (d : Nat) (m : MT) (role : ByteArray) (l : List IT) (y : IT) : mayF d m role (l ++ [y]) = mayF d m role l ++ onlyIf (chkP d m y.id role == 0) y.id := by
  unfold mayF
  rw [List.filter_append, List.map_append]
  congr 1
  cases h : (chkP d m y.id role == 0)
  · simp [h, onlyIf]
  · simp [h, onlyIf]
theorem mayF_len (d : Nat) (m : MT) (role : ByteArray) (l : List IT) : (mayF d m role l).length ≤ l.length := by
  unfold mayF
  rw [List.length_map]
  exact List.length_filter_le _ _
/-- What lists them. -/
def MayE (w : World) (l : List ByteArray) (e : Ending) (w' : World) : Prop := ∃ v, e = .returned v ∧ OwnS w' w.heap.size 9 1 v l.length (tcells l) ∧ Below w.heap.size w w'

set_option maxRecDepth 100000 in
set_option maxHeartbeats 8000000 in
theorem rmay_c (W0 : World) {d : Nat} (w : World) (cs : List Value) (m : MT) (role : ByteArray) (hm : ModelV AnyG W0 d cs m) (hb0 : Below W0.heap.size W0 w) (hbud : cntI d m.plan ≤ 260) :
    Calls Try.prog 14 #[.agg cs.toArray, .string role] w (MayE w (mayF d m role (flatI d m.plan))) := by
  have hmw := hm.below hb0
  have HIT := Lib.hid (fun (W : World) (hW : Below w.heap.size w W) => ritems_c w W cs m hmw hW hbud)
  have HCK := Lib.hid (fun (W : World) (hW : Below w.heap.size w W) (id : ByteArray) => rcheck_c w W cs m id role hmw hW hbud)
  have HFL := Lib.hid (show (flatI d m.plan).length ≤ 260 from by rw [flatI_len]; exact hbud)
  obtain ⟨ck, hck⟩ : ∃ f : ByteArray → Int, f = fun id => chkP d m id role := ⟨_, rfl⟩
  obtain ⟨mf, hmf⟩ : ∃ f : List IT → List ByteArray, f = mayF d m role := ⟨_, rfl⟩
  have HSNOC := Lib.hid (show ∀ l y, mf (l ++ [y]) = mf l ++ onlyIf (ck y.id == 0) y.id from fun l y => by rw [hmf, hck]; exact mayF_snoc d m role l y)
  have HLEN := Lib.hid (show ∀ l, (mf l).length ≤ l.length from fun l => by rw [hmf]; exact mayF_len d m role l)
  have hnil : mf [] = [] := by rw [hmf]; rfl
  have HCK2 := Lib.hid (show ∀ (W : World) (hW : Below w.heap.size w W) (id : ByteArray), Calls Try.prog 9 #[.agg cs.toArray, .string id, .string role] W fun e w' => e = .returned (.int .i64 (ck id)) ∧ Below W.heap.size W w' from fun W hW id => by rw [hck]; exact HCK.out W hW id)
  rw [← hmf]
  obtain ⟨mi, mn, mroles, plan⟩ := m
  obtain ⟨ra, rc, fa, fn, fc, pc, rfl, h1, h2⟩ := hm
  simp only at h1 h2 HIT HCK2 HFL ⊢
  obtain ⟨i0, i1, i2, a3, n3, q3, a4, n4, q4, i5, i6, i7, i8, i9, i10, a11, n11, q11, a12, n12, q12, a13, n13, q13, rfl⟩ := h2.shape
  generalize mroles.length = rn at *
  clear h1 h2 hbud hmw HCK hck hmf
  simp only [List.cons_append, List.nil_append] at *
  obtain ⟨w0, hw0⟩ : ∃ y, y = w.alloc (.cells #[.string mi, .string mn, .slice ra rn rc, .slice fa fn fc, .string i0, .string i1, .int .i64 i2, .slice a3 n3 q3, .slice a4 n4 q4, .string i5, .string i6, .string i7, .bool i8, .bool i9, .int .i64 i10, .slice a11 n11 q11, .slice a12 n12 q12, .slice a13 n13 q13] 29) := ⟨_, rfl⟩
  have HW0 := Lib.hid hw0
  have HB0 := Lib.hid (show Below w.heap.size w w0 from by rw [hw0]; exact (Below.refl _ _).alloc (Nat.le_refl _) _)
  have h0 : w0.heap[w.heap.size]? = some (.cells #[.string mi, .string mn, .slice ra rn rc, .slice fa fn fc, .string i0, .string i1, .int .i64 i2, .slice a3 n3 q3, .slice a4 n4 q4, .string i5, .string i6, .string i7, .bool i8, .bool i9, .int .i64 i10, .slice a11 n11 q11, .slice a12 n12 q12, .slice a13 n13 q13] 29 (0, 0)) := by rw [hw0]; exact heap_alloc_new w _
  have HQ0 := Lib.hid h0
  have HI := Lib.hid infoGM18
  clear hw0 h0 hb0
  go_enter Try.func14, Try.ntmps14
  go_upto_region 2 with (fail)
  rw [← HW0.out]
  go_wp2_with (refine wpList_load_rowG (by rfl) 29 (Operand.tmp 2) rfl w.heap.size rfl 29 _ (0, 0) _ HQ0.out Try.underlying29 rfl HI.out ?_)
  refine (HIT.out w0 HB0.out).mono ?_
  rintro e w1 ⟨L, v, rfl, hL, hown, hall, hb1⟩
  have HB1 := Lib.hid (HB0.out.trans (hb1.mono HB0.out.size))
  have HQ1 := Lib.hid ((hb1.block _ (Array.getElem?_eq_some_iff.1 HQ0.out).1).trans HQ0.out)
  have HOW := Lib.hid hown
  have HAL := Lib.hid hall
  have HLL := Lib.hid hL
  obtain ⟨va, vc, hv, hvl, hvm, _⟩ := hown.form
  subst hv
  have hnl : L.length ≤ 9223372036854775807 := by unfold maxLen at hvm; omega
  obtain ⟨N, hN⟩ : ∃ N, N = L.length := ⟨_, rfl⟩
  rw [← hN] at hnl hvl ⊢
  have HN := Lib.hid hN
  have HNIL := Lib.hid hnil
  clear hL hown hall hb1 hN hnil
  go_wp2_with fail
  go_loopw [5, 11] (fun v i wr => ∃ (j : Nat), j ≤ N ∧ i = .int .i64 j ∧ Below w1.heap.size w1 wr ∧ Hid (OwnS wr w1.heap.size 9 1 v (mf ((flatI d plan).take j)).length (tcells (mf ((flatI d plan).take j))))) (fun _ i _ => N - (intOf i).toNat)
  case atStart => exact ⟨0, by omega, rfl, Below.refl _ _, Lib.hid (by rw [List.take_zero, HNIL.out]; exact OwnS.nil _ _ _ _)⟩
  case round =>
    obtain ⟨j, hj, rfl, hbw, HO⟩ := hrel
    have HBW := Lib.hid hbw
    obtain ⟨ua, uc, hu, _⟩ := HO.out.form
    subst hu
    have HQW := Lib.hid ((hbw.block _ (Array.getElem?_eq_some_iff.1 HQ1.out).1).trans HQ1.out)
    by_cases hjl : j < N
    · have hjl2 : j < L.length := by have := HN.out; omega
      obtain ⟨g, off, c, hv, hgl, hcell⟩ := rows_at HOW.out HAL.out j hjl2
      simp only [Value.slice.injEq] at hv
      obtain ⟨rfl, hx9, rfl⟩ := hv
      clear hx9
      have hjf : j < (flatI d plan).length := by rw [← HLL.out, List.length_map]; exact hjl2
      have hyj : (flatI d plan)[j] = L[j].2 := by
        have : (L.map (·.2))[j]'(by rw [List.length_map]; exact hjl2) = L[j].2 := List.getElem_map ..
        rw [← this]
        congr 1
        exact HLL.out.symm
      have hsn := HSNOC.out ((flatI d plan).take j) (flatI d plan)[j]
      rw [List.take_append_getElem hjf, hyj] at hsn
      have hlj : (mf ((flatI d plan).take j)).length + 1 ≤ 261 := by
        have h1 := HLEN.out ((flatI d plan).take j)
        rw [List.length_take] at h1
        have h2 := HFL.out
        omega
      obtain ⟨dj, hivj⟩ := HAL.out L[j] (List.getElem_mem hjl2)
      have hcell2 : ∀ k u, (L[j].1)[k]? = some u → wr.cell? ⟨g, off + j * 14 + k, none⟩ = some u := fun k u hu => (hbw.cell (p := ⟨g, off + j * 14 + k, none⟩) hgl).trans (hcell k u hu)
      generalize L[j] = yy at *
      obtain ⟨yc, y⟩ := yy
      simp only at hsn hivj hcell2
      obtain ⟨y0, y1, y2, yen, yex, y5, y6, y7, y8, y9, y10, yro, yki, ytb⟩ := y
      obtain ⟨_, ev, xv, rv, kv, tv, rfl, k1, k2, k3, k4, k5⟩ := hivj
      dsimp only [IT.entry, IT.exit, IT.roles, IT.kids, IT.table] at k1 k2 k3 k4 k5
      obtain ⟨b3, p3, rfl, _⟩ := k1.form
      obtain ⟨b4, p4, rfl, _⟩ := k2.form
      obtain ⟨b11, p11, rfl, _⟩ := k3.form
      obtain ⟨b12, p12, rfl, _⟩ := k4.form
      obtain ⟨b13, p13, rfl, _⟩ := k5.form
      simp only [item14, IT.id, IT.nm, IT.kind, IT.man, IT.req, IT.rep, IT.auto, IT.free, IT.after] at hcell2 hsn
      generalize yen.length = m3 at *
      generalize yex.length = m4 at *
      generalize yro.length = m11 at *
      generalize yki.length = m12 at *
      generalize ytb.length = m13 at *
      have e0 := hcell2 0 _ rfl
      have e1 := hcell2 1 _ rfl
      have e2 := hcell2 2 _ rfl
      have e3 := hcell2 3 _ rfl
      have e4 := hcell2 4 _ rfl
      have e5 := hcell2 5 _ rfl
      have e6 := hcell2 6 _ rfl
      have e7 := hcell2 7 _ rfl
      have e8 := hcell2 8 _ rfl
      have e9 := hcell2 9 _ rfl
      have e10 := hcell2 10 _ rfl
      have e11 := hcell2 11 _ rfl
      have e12 := hcell2 12 _ rfl
      have e13 := hcell2 13 _ rfl
      simp only [Nat.add_zero] at e0
      have HSN := Lib.hid hsn
      have HLJ := Lib.hid hlj
      obtain ⟨M, hM⟩ : ∃ M, M = (mf ((flatI d plan).take j)).length := ⟨_, rfl⟩
      rw [← hM] at HO HLJ ⊢
      have HM := Lib.hid hM
      have hm9 : M ≤ 9223372036854775807 := by have := HLJ.out; omega
      clear hcell hcell2 hsn hyj k1 k2 k3 k4 k5 hbw hlj hM
      obtain ⟨wb, hwb⟩ : ∃ y, y = wr.alloc (.cells #[.string y0, .string y1, .int .i64 y2, .slice b3 m3 p3, .slice b4 m4 p4, .string y5, .string y6, .string y7, .bool y8, .bool y9, .int .i64 y10, .slice b11 m11 p11, .slice b12 m12 p12, .slice b13 m13 p13] 27) := ⟨_, rfl⟩
      have HWB := Lib.hid hwb
      have hyb : wb.heap[wr.heap.size]? = some (.cells #[.string y0, .string y1, .int .i64 y2, .slice b3 m3 p3, .slice b4 m4 p4, .string y5, .string y6, .string y7, .bool y8, .bool y9, .int .i64 y10, .slice b11 m11 p11, .slice b12 m12 p12, .slice b13 m13 p13] 27 (0, 0)) := by rw [hwb]; exact heap_alloc_new wr _
      have HYB := Lib.hid hyb
      have HBWB := Lib.hid (show Below w1.heap.size w1 wb ∧ Below wr.heap.size wr wb from by rw [hwb]; exact ⟨HBW.out.alloc HBW.out.size _, (Below.refl _ _).alloc (Nat.le_refl _) _⟩)
      have HQB := Lib.hid (show wb.heap[w.heap.size]? = some (.cells #[.string mi, .string mn, .slice ra rn rc, .slice fa fn fc, .string i0, .string i1, .int .i64 i2, .slice a3 n3 q3, .slice a4 n4 q4, .string i5, .string i6, .string i7, .bool i8, .bool i9, .int .i64 i10, .slice a11 n11 q11, .slice a12 n12 q12, .slice a13 n13 q13] 29 (0, 0)) from (HBWB.out.2.block _ (Array.getElem?_eq_some_iff.1 HQW.out).1).trans HQW.out)
      have hid0 : wb.cell? ⟨wr.heap.size, 0, none⟩ = some (.string y0) := by simp [World.cell?, hyb]
      clear hwb hyb
      go_upto_region 5 with (fail)
      rw [← HWB.out]
      go_wp2_with (refine wpList_load_rowG (by rfl) 29 (Operand.tmp 2) rfl w.heap.size rfl 29 _ (0, 0) _ HQB.out Try.underlying29 rfl HI.out ?_)
      refine (HCK2.out wb (HB1.out.trans (HBWB.out.1.mono HB1.out.size)) y0).mono ?_
      rintro e w3 ⟨rfl, hb3⟩
      have HB3 := Lib.hid (HBWB.out.1.trans (hb3.mono HBWB.out.1.size))
      have hy3 := (hb3.block _ (Array.getElem?_eq_some_iff.1 HYB.out).1).trans HYB.out
      have hid3 : w3.cell? ⟨wr.heap.size, 0, none⟩ = some (.string y0) := by simp [World.cell?, hy3]
      have HO3 := Lib.hid (show OwnS w3 w1.heap.size 9 1 (.slice ua M uc) M (tcells (mf ((flatI d plan).take j))) from (HO.out.belowG HBWB.out.2).belowG hb3)
      clear hb3 hy3 hid0
      obtain ⟨t, ht⟩ : ∃ t, (ck y0 == 0) = t := ⟨_, rfl⟩
      rw [ht] at HSN
      cases t
      · have HNX := Lib.hid (show OwnS w3 w1.heap.size 9 1 (.slice ua M uc) (mf ((flatI d plan).take (j + 1))).length (tcells (mf ((flatI d plan).take (j + 1)))) from by
          rw [HSN.out, onlyIf, List.append_nil, ← HM.out]
          exact HO3.out)
        go_wp2_with fail
        go_roundw
        case rel => exact ⟨j + 1, by omega, by go_num, HB3.out, HNX⟩
        case measure => simp [intOf]; omega
      · obtain ⟨z0, hz, hz0, hz1, hz2⟩ := infoG1
        have HSRC := Lib.hid (show Src Try.prog 1 22 (.slice (some ⟨w3.heap.size, 0, none⟩) 1 1) 1 [.string y0] (w3.alloc (.cells #[.string y0] 9)) from
          Src.ofSlice _ Try.underlying22 ⟨w3.heap.size, 0, none⟩ 1 1 [.string y0] rfl (fun j u hu => by
            have hj0 : j = 0 := by
              have := (List.getElem?_eq_some_iff.1 hu).1
              simpa using this
            subst hj0
            rw [Addr.add_lit, cell_of_row _ w3.heap.size (0 + 0) _ _ _ (heap_alloc_new w3 _), ← hu]
            rfl) (by simp [Value.oneCell']))
        go_wp2_with (at_builtin; refine wpList_append_S rfl _ _ 22 22 rfl w1.heap.size 9 z0 _ 1 16 Try.underlying22 hz hz0 hz1 hz2 rfl (Nat.succ_pos _) (.slice ua M uc) M (tcells (mf ((flatI d plan).take j))) rfl (HO3.out.belowG ((Below.refl _ _).alloc (Nat.le_refl _) _)) (.slice (some ⟨w3.heap.size, 0, none⟩) 1 1) 1 [.string y0] rfl HSRC.out ?c1 ?c2 ?c3 ?_)
        case c1 => have := HLJ.out; unfold maxLen; omega
        case c2 => have := HLJ.out; omega
        case c3 => have := HB3.out.size; simp; omega
        intro v4 w4 hown4 hgrow4 hl4
        have HB4 := Lib.hid (show Below w1.heap.size w1 w4 from (HB3.out.alloc HB3.out.size _).grown hgrow4 (by have := HB3.out.size; simp; omega) (fun k hk => HO3.out.baseG k hk))
        have HNX := Lib.hid (show OwnS w4 w1.heap.size 9 1 v4 (mf ((flatI d plan).take (j + 1))).length (tcells (mf ((flatI d plan).take (j + 1)))) from by
          rw [HSN.out, onlyIf, List.length_append, ← HM.out]
          simpa [tcells] using hown4)
        obtain ⟨za, zc, hz4, _⟩ := hown4.form
        subst hz4
        clear hown4 hgrow4 hl4 hz hz0 hz1 hz2
        go_wp2_with fail
        go_roundw
        case rel => exact ⟨j + 1, by omega, by go_num, HB4.out, HNX⟩
        case measure => simp [intOf]; omega
    · have hje : j = N := by omega
      have HR := Lib.hid (show OwnS wr w.heap.size 9 1 (.slice ua (mf ((flatI d plan).take j)).length uc) (mf (flatI d plan)).length (tcells (mf (flatI d plan))) ∧ Below w.heap.size w wr from by
        have := HO.out
        rw [List.take_of_length_le (by rw [← HLL.out, List.length_map]; have := HN.out; omega)] at this ⊢
        exact ⟨this.weak HB1.out.size, HB1.out.trans (hbw.mono HB1.out.size)⟩)
      clear hbw
      subst hje
      go_wp2_with fail
      go_ret
      exact ⟨_, by rfl, HR.out.1, HR.out.2⟩
end Go.Proofs.Ytkapelpbepejfaa
