/- roles.May. Written by tools/genz2.py. -/
import Derived.Test.YtkapelpbepejfaaGy
import Derived.Test.YtkapelpbepejfaaGx
namespace Go.Proofs.Ytkapelpbepejfaa
open Go Go.RowKit Go.Deep Go.Shelf
set_option linter.unusedVariables false
set_option linter.unusedSimpArgs false

theorem srcOne (w : World) (s : ByteArray) : Src Try.prog 1 22 (.slice (some ⟨w.heap.size, 0, none⟩) 1 1) 1 [.string s] (w.alloc (.cells #[.string s] 9)) :=
  Src.ofSlice _ Try.underlying22 ⟨w.heap.size, 0, none⟩ 1 1 [.string s] rfl (fun j u hu => by
    have hj0 : j = 0 := by
      have := (List.getElem?_eq_some_iff.1 hu).1
      simpa using this
    subst hj0
    rw [Addr.add_lit, cell_of_row _ w.heap.size (0 + 0) _ _ _ (heap_alloc_new w _), ← hu]
    rfl) (by simp [Value.oneCell'])
theorem rows_at2 {w : World} {base : Nat} {v : Value} {L : List (List Value × IT)} {S : Nat → Prop} (h : OwnS w base 27 14 v L.length (rowsI L)) (hall : ∀ p ∈ L, ∃ d', ItemV S w d' p.1 p.2) (j : Nat) (hj : j < L.length) :
    ∃ g off c, v = .slice (some ⟨g, off, none⟩) L.length c ∧ g < w.heap.size ∧ ∀ k u, (L[j].1)[k]? = some u → w.cell? ⟨g, off + j * 14 + k, none⟩ = some u := rows_at h hall j hj
set_option maxRecDepth 100000 in
set_option maxHeartbeats 8000000 in
theorem may_yes {S : Nat → Prop} {d : Nat} (w : World) (cs : List Value) (m : MT) (role : ByteArray) (hm : ModelV S w d cs m) (hs : standsB m role = true) (hok : okI d 0 m.plan) (hbud : cntI d m.plan ≤ 260) :
    Calls Try.prog 13 #[.agg cs.toArray, .string role] w (MayE w (mayF d m role (flatI d m.plan))) := by
  have HK := Lib.hid (fun (W : World) (hW : Below w.heap.size w W) => stands_c W cs m role (hm.below hW))
  rw [hs] at HK
  have HFC := Lib.hid (fun (W : World) (hW : Below w.heap.size w W) => flat_c d W cs m (hm.below hW) hok hbud)
  have hmm := mayB_mayF d m role hs
  have hfl : ((flatI d m.plan).map bare).length ≤ 260 := by rw [List.length_map, flatI_len]; exact hbud
  obtain ⟨F, hF⟩ : ∃ F, F = (flatI d m.plan).map bare := ⟨_, rfl⟩
  rw [← hF] at HFC hmm hfl
  rw [← hmm]
  have HFL := Lib.hid hfl
  obtain ⟨mi, mn, mroles, plan⟩ := m
  obtain ⟨ra, rc, fa, fn, fc, pc, rfl, h1, h2⟩ := hm
  simp only at h1 h2 HK HFC ⊢
  obtain ⟨i0, i1, i2, a3, n3, q3, a4, n4, q4, i5, i6, i7, i8, i9, i10, a11, n11, q11, a12, n12, q12, a13, n13, q13, rfl⟩ := h2.shape
  generalize mroles.length = rn at *
  clear h1 h2 hs hok hbud hmm hfl hF
  simp only [List.cons_append, List.nil_append] at *
  obtain ⟨w0, hw0⟩ : ∃ y, y = w.alloc (.cells #[.string mi, .string mn, .slice ra rn rc, .slice fa fn fc, .string i0, .string i1, .int .i64 i2, .slice a3 n3 q3, .slice a4 n4 q4, .string i5, .string i6, .string i7, .bool i8, .bool i9, .int .i64 i10, .slice a11 n11 q11, .slice a12 n12 q12, .slice a13 n13 q13] 29) := ⟨_, rfl⟩
  have HW0 := Lib.hid hw0
  have HB0 := Lib.hid (show Below w.heap.size w w0 from by rw [hw0]; exact (Below.refl _ _).alloc (Nat.le_refl _) _)
  have h0 : w0.heap[w.heap.size]? = some (.cells #[.string mi, .string mn, .slice ra rn rc, .slice fa fn fc, .string i0, .string i1, .int .i64 i2, .slice a3 n3 q3, .slice a4 n4 q4, .string i5, .string i6, .string i7, .bool i8, .bool i9, .int .i64 i10, .slice a11 n11 q11, .slice a12 n12 q12, .slice a13 n13 q13] 29 (0, 0)) := by rw [hw0]; exact heap_alloc_new w _
  have HQ0 := Lib.hid h0
  have HI := Lib.hid infoGM18
  have hmk := @run_makeMap Try.prog
  clear hw0 h0
  go_enter Try.func13, Try.ntmps13
  go_upto_region 1 with (fail)
  rw [← HW0.out]
  go_wp2_with (refine wpList_load_rowG (by rfl) 29 (Operand.tmp 2) rfl w.heap.size rfl 29 _ (0, 0) _ HQ0.out Try.underlying29 rfl HI.out ?_)
  refine (HK.out _ HB0.out).mono ?_
  rintro e w1 ⟨rfl, hb1⟩
  have HB1 := Lib.hid (HB0.out.trans (hb1.mono HB0.out.size))
  have HQ1 := Lib.hid ((hb1.block _ (Array.getElem?_eq_some_iff.1 HQ0.out).1).trans HQ0.out)
  clear hb1
  obtain ⟨w2, hw2⟩ : ∃ y, y = w1.alloc (.map #[] 0) := ⟨_, rfl⟩
  obtain ⟨M, hM⟩ : ∃ y, y = w1.heap.size := ⟨_, rfl⟩
  have HW2 := Lib.hid hw2
  have HM := Lib.hid hM
  have HMI2 := Lib.hid (show MapIs w2 M [] from by rw [hw2, hM]; exact MapIs.made w1)
  have HB2 := Lib.hid (show Below w.heap.size w w2 from by rw [hw2]; exact HB1.out.alloc HB1.out.size _)
  have HQ2 := Lib.hid (show w2.heap[w.heap.size]? = some (.cells #[.string mi, .string mn, .slice ra rn rc, .slice fa fn fc, .string i0, .string i1, .int .i64 i2, .slice a3 n3 q3, .slice a4 n4 q4, .string i5, .string i6, .string i7, .bool i8, .bool i9, .int .i64 i10, .slice a11 n11 q11, .slice a12 n12 q12, .slice a13 n13 q13] 29 (0, 0)) from by rw [hw2]; exact (Below.heap_alloc _ _ _ (Array.getElem?_eq_some_iff.1 HQ1.out).1).trans HQ1.out)
  have HMW := Lib.hid (show w.heap.size ≤ M ∧ M < w2.heap.size from ⟨by rw [hM]; exact HB1.out.size, by rw [hw2, hM]; simp⟩)
  clear hw2 hM
  go_upto_region 5 with (fail)
  rw [← HW2.out, ← HM.out]
  go_wp2_with (refine wpList_load_rowG (by rfl) 29 (Operand.tmp 2) rfl w.heap.size rfl 29 _ (0, 0) _ HQ2.out Try.underlying29 rfl HI.out ?_)
  refine (HFC.out w2 HB2.out).mono ?_
  rintro e w3 ⟨L, v, rfl, hL, hown, hall, hb3⟩
  have HB3 := Lib.hid (HB2.out.trans (hb3.mono HB2.out.size))
  have HMI3 := Lib.hid (HMI2.out.keep (hb3.block M HMW.out.2))
  have HS3 := Lib.hid hb3.size
  have HOW := Lib.hid hown
  have HAL := Lib.hid hall
  have HLL := Lib.hid hL
  obtain ⟨va, vc, hv, hvl, hvm, _⟩ := hown.form
  subst hv
  have hnl : L.length ≤ 9223372036854775807 := by unfold maxLen at hvm; omega
  obtain ⟨N, hN⟩ : ∃ N, N = L.length := ⟨_, rfl⟩
  rw [← hN] at hnl hvl ⊢
  have HN := Lib.hid hN
  clear hL hown hall hb3 hN
  go_wp2_with fail
  go_loopw [5, 19] (fun v i wr => ∃ (j : Nat) (V : List (List UInt8 × Value)), j ≤ N ∧ i = .int .i64 j ∧ Below w.heap.size w wr ∧ KeepX M w3 wr ∧ MapIs wr M V ∧ Hid (MapOK V L j) ∧ Hid (OwnS wr w3.heap.size 9 1 v (mayB F role (F.take j)).length (tcells (mayB F role (F.take j))))) (fun _ i _ => N - (intOf i).toNat)
  case atStart => exact ⟨0, [], by omega, rfl, HB3.out, KeepX.refl _ _, HMI3.out, Lib.hid (MapOK.nil L), Lib.hid (by rw [List.take_zero]; exact OwnS.nil _ _ _ _)⟩
  case round =>
    obtain ⟨j, V, hj, rfl, hbw, hkx, hmi, HMO, HO⟩ := hrel
    have HBW := Lib.hid hbw
    have HKX := Lib.hid hkx
    have HMI := Lib.hid hmi
    obtain ⟨ua, uc, hu, _⟩ := HO.out.form
    subst hu
    by_cases hjl : j < N
    · have hjl2 : j < L.length := by have := HN.out; omega
      obtain ⟨g, off, c, hv, hgl, hcell⟩ := rows_at2 HOW.out HAL.out j hjl2
      simp only [Value.slice.injEq] at hv
      obtain ⟨rfl, hx9, rfl⟩ := hv
      clear hx9
      have hgM : g ≠ M := by have := HOW.out.baseG g rfl; have := HMW.out.2; omega
      have hcell2 : ∀ k u, (L[j].1)[k]? = some u → wr.cell? ⟨g, off + j * 14 + k, none⟩ = some u := fun k u hu => by
        rw [← hcell k u hu]
        simp [World.cell?, hkx.2 g hgl hgM]
      have hjf : j < F.length := by rw [← HLL.out, List.length_map]; exact hjl2
      have hyj : F[j] = L[j].2 := by
        have : (L.map (·.2))[j]'(by rw [List.length_map]; exact hjl2) = L[j].2 := List.getElem_map ..
        rw [← this]
        congr 1
        exact HLL.out.symm
      have hsn := mayB_snoc F role (F.take j) F[j]
      rw [List.take_append_getElem hjf, hyj] at hsn
      have hlj : (mayB F role (F.take j)).length + 1 ≤ 261 := by
        have h1 := mayB_len F role (F.take j)
        rw [List.length_take] at h1
        have h2 := HFL.out
        omega
      obtain ⟨dj, hivj⟩ := HAL.out L[j] (List.getElem_mem hjl2)
      have HMET := Lib.hid (fun (c : Value) (hc : getA (L[j].2.id).data.toList V = some c) => HMO.out.met hjl2 hc)
      have HPUT := Lib.hid (fun (hc : getA (L[j].2.id).data.toList V = none) => HMO.out.put hjl2 hc)
      generalize L[j] = yy at *
      obtain ⟨yc, y⟩ := yy
      simp only at hsn hivj hcell2 HMET HPUT
      have hys : y.id.size ≤ 9223372036854775807 := hivj.1.id
      have hokb : ∀ V' j' c, MapOK V' L j' → getA y.id.data.toList V' = some c → ∃ p ∈ L, c = .agg p.1.toArray ∧ okB F role y = openB p.2 role := fun V' j' c hm hc => by
        obtain ⟨p, hp, hc2, hf⟩ := hm.first y.id hc
        rw [HLL.out] at hf
        exact ⟨p, hp, hc2, by unfold okB; rw [hf]⟩
      have HOKB := Lib.hid hokb
      obtain ⟨_, ev, xv, rv, kv, tv, rfl, k1, k2, k3, k4, k5⟩ := hivj
      obtain ⟨b3, p3, e3', _⟩ := k1.form
      obtain ⟨b4, p4, e4', _⟩ := k2.form
      obtain ⟨b11, p11, e11', _⟩ := k3.form
      obtain ⟨b12, p12, e12', _⟩ := k4.form
      obtain ⟨b13, p13, e13', _⟩ := k5.form
      subst e3' e4' e11' e12' e13'
      unfold item14 at hcell2 HPUT
      have e0 := hcell2 0 _ rfl
      have e1 := hcell2 1 _ rfl
      have e2 := hcell2 2 _ rfl
      have e3 := hcell2 3 _ rfl
      have e4 := hcell2 4 _ rfl
      have e5 := hcell2 5 _ rfl
      have e6 := hcell2 6 _ rfl
      have e7 := hcell2 7 _ rfl
      have e8 := hcell2 8 _ rfl
      have e9 := hcell2 9 _ rfl
      have e10 := hcell2 10 _ rfl
      have e11 := hcell2 11 _ rfl
      have e12 := hcell2 12 _ rfl
      have e13 := hcell2 13 _ rfl
      simp only [Nat.add_zero] at e0
      have HLJ := Lib.hid hlj
      obtain ⟨U, hU⟩ : ∃ U, U = (mayB F role (F.take j)).length := ⟨_, rfl⟩
      rw [← hU] at HO HLJ ⊢
      have HU := Lib.hid hU
      have hu9 : U ≤ 9223372036854775807 := by have := HLJ.out; omega
      obtain ⟨wb, hwb⟩ : ∃ z, z = wr.alloc (.cells #[.string y.id, .string y.nm, .int .i64 y.kind, .slice b3 y.entry.length p3, .slice b4 y.exit.length p4, .string y.man, .string y.req, .string y.rep, .bool y.auto, .bool y.free, .int .i64 y.after, .slice b11 y.roles.length p11, .slice b12 y.kids.length p12, .slice b13 y.table.length p13] 27) := ⟨_, rfl⟩
      obtain ⟨X8, hX8⟩ : ∃ z, z = wr.heap.size := ⟨_, rfl⟩
      have HWB := Lib.hid hwb
      have HX8 := Lib.hid hX8
      have HBB := Lib.hid (show Below w.heap.size w wb from by rw [hwb]; exact HBW.out.alloc HBW.out.size _)
      have HKB := Lib.hid (show KeepX M w3 wb from by rw [hwb]; exact HKX.out.alloc _)
      have HMB := Lib.hid (show MapIs wb M V from by rw [hwb]; exact HMI.out.keep (Below.heap_alloc _ _ M HMI.out.lt))
      have HYB := Lib.hid (show wb.heap[X8]? = some (.cells #[.string y.id, .string y.nm, .int .i64 y.kind, .slice b3 y.entry.length p3, .slice b4 y.exit.length p4, .string y.man, .string y.req, .string y.rep, .bool y.auto, .bool y.free, .int .i64 y.after, .slice b11 y.roles.length p11, .slice b12 y.kids.length p12, .slice b13 y.table.length p13] 27 (0, 0)) from by rw [hwb, hX8]; exact heap_alloc_new wr _)
      have HOB := Lib.hid (show OwnS wb w3.heap.size 9 1 (.slice ua U uc) U (tcells (mayB F role (F.take j))) from by rw [hwb]; exact HO.out.belowG ((Below.refl _ _).alloc (Nat.le_refl _) _))
      have hid0 : wb.cell? ⟨X8, 0, none⟩ = some (.string y.id) := by simp [World.cell?, HYB.out]
      have HSNX := Lib.hid hsn
      clear hwb hX8 hcell hcell2 hyj k1 k2 k3 k4 k5 hbw hkx hmi hlj hU hokb
      go_upto_region 8 with (fail)
      rw [← HWB.out, ← HX8.out]
      clear e0 e1 e2 e3 e4 e5 e6 e7 e8 e9 e10 e11 e12 e13
      have hlk := HMB.out.lookOk Try.underlying46 (zeroItemG wb) y.id (by unfold maxLen; omega)
      cases hg : getA y.id.data.toList V with
      | some c =>
        rw [hg] at hlk
        simp only [Option.getD_some, Option.isSome_some] at hlk
        obtain ⟨p0, hp0, rfl, hokp⟩ := HOKB.out V j c HMO.out hg
        have HMOV := Lib.hid (HMET.out _ hg)
        obtain ⟨pc, py⟩ := p0
        obtain ⟨d0, h0p⟩ := HAL.out _ hp0
        simp only at h0p hokp hg hlk
        obtain ⟨k0, k1, k2, l3, n3', r3, l4, n4', r4, k5, k6, k7, k8, k9, k10, l11, n11', r11, l12, n12', r12, l13, n13', r13, rfl⟩ := h0p.shape
        obtain ⟨w9, hw9⟩ : ∃ z, z = wb.alloc (.cells #[.string k0, .string k1, .int .i64 k2, .slice l3 n3' r3, .slice l4 n4' r4, .string k5, .string k6, .string k7, .bool k8, .bool k9, .int .i64 k10, .slice l11 n11' r11, .slice l12 n12' r12, .slice l13 n13' r13] 27) := ⟨_, rfl⟩
        have HW9 := Lib.hid hw9
        have HBWW := Lib.hid (show Below w.heap.size w w9 from by rw [hw9]; exact HBB.out.alloc HBB.out.size _)
        have HKW := Lib.hid (show KeepX M w3 w9 from by rw [hw9]; exact HKB.out.alloc _)
        have HMIW := Lib.hid (show MapIs w9 M V from by rw [hw9]; exact HMB.out.keep (Below.heap_alloc _ _ M HMB.out.lt))
        have HYW := Lib.hid (show w9.heap[X8]? = some (.cells #[.string y.id, .string y.nm, .int .i64 y.kind, .slice b3 y.entry.length p3, .slice b4 y.exit.length p4, .string y.man, .string y.req, .string y.rep, .bool y.auto, .bool y.free, .int .i64 y.after, .slice b11 y.roles.length p11, .slice b12 y.kids.length p12, .slice b13 y.table.length p13] 27 (0, 0)) from by rw [hw9]; exact (Below.heap_alloc _ _ _ (Array.getElem?_eq_some_iff.1 HYB.out).1).trans HYB.out)
        have HOW9 := Lib.hid (show OwnS w9 w3.heap.size 9 1 (.slice ua U uc) U (tcells (mayB F role (F.take j))) from by rw [hw9]; exact HOB.out.belowG ((Below.refl _ _).alloc (Nat.le_refl _) _))
        have hgV := hg
        have HGG := Lib.hid hg
        clear hw9 hg
        go_upto_region 11 with (fail)
        rw [← HW9.out]
        clear hlk hid0
        have hlk2 := HMIW.out.look Try.underlying46 (zeroItemG w9) y.id (by unfold maxLen; omega)
        rw [hgV] at hlk2
        simp only [Option.getD_some] at hlk2
        have hidW : w9.cell? ⟨X8, 0, none⟩ = some (.string y.id) := by simp [World.cell?, HYW.out]
        have HGV := Lib.hid hgV
        have HOP := Lib.hid (open_c w9 _ py role (h0p.keep HKW.out.1 (fun k hS hl => HKW.out.2 k hl (by have := HMW.out.2; omega))))
        obtain ⟨t, ht⟩ : ∃ t, t = openB py role := ⟨_, rfl⟩
        rw [← ht] at HOP
        have HSN := Lib.hid (show mayB F role (F.take (j + 1)) = mayB F role (F.take j) ++ onlyIf t y.id from by rw [hsn, hokp, ht])
        clear hgV ht
        go_wp2_with fail
        refine HOP.out.mono ?_
        rintro e w11 ⟨rfl, hb11⟩
        have HB11 := Lib.hid (HBWW.out.trans (hb11.mono HBWW.out.size))
        have HK11 := Lib.hid (show KeepX M w3 w11 from HKW.out.trans ⟨hb11.size, fun k hk _ => hb11.block k hk⟩)
        have HM11 := Lib.hid (HMIW.out.keep (hb11.block M HMIW.out.lt))
        have hy11 := (hb11.block _ (Array.getElem?_eq_some_iff.1 HYW.out).1).trans HYW.out
        have hid11 : w11.cell? ⟨X8, 0, none⟩ = some (.string y.id) := by simp [World.cell?, hy11]
        have HO11 := Lib.hid (HOW9.out.belowG hb11)
        clear hb11 hy11 hlk2 hidW
        cases t
        · have HNX := Lib.hid (show OwnS w11 w3.heap.size 9 1 (.slice ua U uc) (mayB F role (F.take (j + 1))).length (tcells (mayB F role (F.take (j + 1)))) from by
            rw [HSN.out, onlyIf, List.append_nil, ← HU.out]
            exact HO11.out)
          go_wp2_with fail
          go_roundw
          case rel => exact ⟨j + 1, V, by omega, by go_num, HB11.out, HK11.out, HM11.out, HMOV, HNX⟩
          case measure => simp [intOf]; omega
        · obtain ⟨z0, hz, hz0, hz1, hz2⟩ := infoG1
          have HSRC := Lib.hid (srcOne w11 y.id)
          go_wp2_with (at_builtin; refine wpList_append_S rfl _ _ 22 22 rfl w3.heap.size 9 z0 _ 1 16 Try.underlying22 hz hz0 hz1 hz2 rfl (Nat.succ_pos _) (.slice ua U uc) U (tcells (mayB F role (F.take j))) rfl (HO11.out.belowG ((Below.refl _ _).alloc (Nat.le_refl _) _)) (.slice (some ⟨w11.heap.size, 0, none⟩) 1 1) 1 [.string y.id] rfl HSRC.out ?c1 ?c2 ?c3 ?_)
          case c1 => have := HLJ.out; unfold maxLen; omega
          case c2 => have := HLJ.out; omega
          case c3 => have := HK11.out.1; simp; omega
          intro v4 w4 hown4 hgrow4 hl4
          have hbk : ∀ k, (Value.slice ua U uc).ownBlock = some k → w3.heap.size ≤ k := fun k hk => HO11.out.baseG k hk
          have HB4 := Lib.hid (show Below w.heap.size w w4 from (HB11.out.alloc HB11.out.size _).grown hgrow4 (by have := HB11.out.size; simp; omega) (fun k hk => by have := hbk k hk; have := HB3.out.size; omega))
          have HK4 := Lib.hid (show KeepX M w3 w4 from ⟨Nat.le_trans (Nat.le_trans HK11.out.1 (by simp)) hgrow4.size, fun k hk hkM => (hgrow4.block k (by have := HK11.out.1; simp; omega) (fun e => by have := hbk k e.symm; omega)).trans ((Below.heap_alloc _ _ k (by have := HK11.out.1; omega)).trans (HK11.out.2 k hk hkM))⟩)
          have HM4 := Lib.hid (HM11.out.keep ((hgrow4.block M (by have := HM11.out.lt; simp; omega) (fun e => by have := hbk M e.symm; have := HMW.out.2; have := HS3.out; omega)).trans (Below.heap_alloc _ _ M HM11.out.lt)))
          have HNX := Lib.hid (show OwnS w4 w3.heap.size 9 1 v4 (mayB F role (F.take (j + 1))).length (tcells (mayB F role (F.take (j + 1)))) from by
            rw [HSN.out, onlyIf, List.length_append, ← HU.out]
            simpa [tcells] using hown4)
          obtain ⟨za, zc, hz4, _⟩ := hown4.form
          subst hz4
          clear hown4 hgrow4 hl4 hz hz0 hz1 hz2 hbk
          go_wp2_with fail
          go_roundw
          case rel => exact ⟨j + 1, V, by omega, by go_num, HB4.out, HK4.out, HM4.out, HMOV, HNX⟩
          case measure => simp [intOf]; omega
      | none =>
        rw [hg] at hlk
        simp only [Option.getD_none, Option.isSome_none, zero14] at hlk
        have HMOV := Lib.hid (HPUT.out hg)
        obtain ⟨w9, hw9⟩ : ∃ z, z = wb.alloc (.cells #[.string ⟨#[]⟩, .string ⟨#[]⟩, .int .i64 0, .slice none 0 0, .slice none 0 0, .string ⟨#[]⟩, .string ⟨#[]⟩, .string ⟨#[]⟩, .bool false, .bool false, .int .i64 0, .slice none 0 0, .slice none 0 0, .slice none 0 0] 27) := ⟨_, rfl⟩
        have HW9 := Lib.hid hw9
        have HB9 := Lib.hid (show Below w.heap.size w w9 from by rw [hw9]; exact HBB.out.alloc HBB.out.size _)
        have HK9 := Lib.hid (show KeepX M w3 w9 from by rw [hw9]; exact HKB.out.alloc _)
        have HM9 := Lib.hid (show MapIs w9 M V from by rw [hw9]; exact HMB.out.keep (Below.heap_alloc _ _ M HMB.out.lt))
        have HY9 := Lib.hid (show w9.heap[X8]? = some (.cells #[.string y.id, .string y.nm, .int .i64 y.kind, .slice b3 y.entry.length p3, .slice b4 y.exit.length p4, .string y.man, .string y.req, .string y.rep, .bool y.auto, .bool y.free, .int .i64 y.after, .slice b11 y.roles.length p11, .slice b12 y.kids.length p12, .slice b13 y.table.length p13] 27 (0, 0)) from by rw [hw9]; exact (Below.heap_alloc _ _ _ (Array.getElem?_eq_some_iff.1 HYB.out).1).trans HYB.out)
        have HO9 := Lib.hid (show OwnS w9 w3.heap.size 9 1 (.slice ua U uc) U (tcells (mayB F role (F.take j))) from by rw [hw9]; exact HOB.out.belowG ((Below.refl _ _).alloc (Nat.le_refl _) _))
        clear hw9 hg
        go_upto_region 10 with (fail)
        rw [← HW9.out]
        clear hlk hid0
        obtain ⟨d0', d1', d2', d3', d4', d5', d6', d7', d8', d9', d10', d11', d12', d13', dz'⟩ := cellsG14 HY9.out
        go_wp2_with (refine wpList_put rfl _ _ _ 46 27 rfl Try.underlying46 M V rfl HM9.out (by have := HMO.out.2.1; unfold maxLen; omega) y.id (by unfold maxLen; omega) (.agg #[.string y.id, .string y.nm, .int .i64 y.kind, .slice b3 y.entry.length p3, .slice b4 y.exit.length p4, .string y.man, .string y.req, .string y.rep, .bool y.auto, .bool y.free, .int .i64 y.after, .slice b11 y.roles.length p11, .slice b12 y.kids.length p12, .slice b13 y.table.length p13]) rfl rfl ?_)
        intro w10 hm10 hc10
        have hXM : X8 ≠ M := by have := HX8.out; have := HMI.out.lt; omega
        have HBWW := Lib.hid (show Below w.heap.size w w10 from (((Chg.of_below (S := [M]) HB9.out)).trans hc10).below (Nat.le_refl _) (fun i hi => by simp only [List.mem_singleton] at hi; have := HMW.out.1; omega))
        have HKW := Lib.hid (show KeepX M w3 w10 from HK9.out.trans ⟨hc10.size, fun k hk hkM => hc10.block k hk (by simpa using hkM)⟩)
        have HMIW := Lib.hid hm10
        have HYW := Lib.hid ((hc10.block X8 (Array.getElem?_eq_some_iff.1 HY9.out).1 (by simpa using hXM)).trans HY9.out)
        have HOW9 := Lib.hid (show OwnS w10 w3.heap.size 9 1 (.slice ua U uc) U (tcells (mayB F role (F.take j))) from HO9.out.keep (fun k hk => hc10.block k (HO9.out.lt k hk) (by have := HO9.out.baseG k hk; have := HMW.out.2; have := HS3.out; simp; omega)))
        have hgV := getA_putA_same y.id.data.toList (Value.agg #[.string y.id, .string y.nm, .int .i64 y.kind, .slice b3 y.entry.length p3, .slice b4 y.exit.length p4, .string y.man, .string y.req, .string y.rep, .bool y.auto, .bool y.free, .int .i64 y.after, .slice b11 y.roles.length p11, .slice b12 y.kids.length p12, .slice b13 y.table.length p13]) V
        obtain ⟨p0, hp0, hpe, hokp⟩ := HOKB.out _ (j + 1) _ HMOV hgV
        obtain ⟨pc, py⟩ := p0
        obtain ⟨d0, h0p⟩ := HAL.out _ hp0
        simp only at h0p hokp hpe
        have hpe2 : pc = (#[.string y.id, .string y.nm, .int .i64 y.kind, .slice b3 y.entry.length p3, .slice b4 y.exit.length p4, .string y.man, .string y.req, .string y.rep, .bool y.auto, .bool y.free, .int .i64 y.after, .slice b11 y.roles.length p11, .slice b12 y.kids.length p12, .slice b13 y.table.length p13] : Array Value).toList := by
          simp only [Value.agg.injEq] at hpe
          rw [hpe]
        subst hpe2
        clear hm10 hc10 d0' d1' d2' d3' d4' d5' d6' d7' d8' d9' d10' d11' d12' d13' dz' hpe
        go_upto_region 11 with (fail)
        have hlk2 := HMIW.out.look Try.underlying46 (zeroItemG w10) y.id (by unfold maxLen; omega)
        rw [hgV] at hlk2
        simp only [Option.getD_some] at hlk2
        have hidW : w10.cell? ⟨X8, 0, none⟩ = some (.string y.id) := by simp [World.cell?, HYW.out]
        have HGV := Lib.hid hgV
        have HOP := Lib.hid (open_c w10 _ py role (h0p.keep HKW.out.1 (fun k hS hl => HKW.out.2 k hl (by have := HMW.out.2; omega))))
        obtain ⟨t, ht⟩ : ∃ t, t = openB py role := ⟨_, rfl⟩
        rw [← ht] at HOP
        have HSN := Lib.hid (show mayB F role (F.take (j + 1)) = mayB F role (F.take j) ++ onlyIf t y.id from by rw [hsn, hokp, ht])
        clear hgV ht
        go_wp2_with fail
        refine HOP.out.mono ?_
        rintro e w11 ⟨rfl, hb11⟩
        have HB11 := Lib.hid (HBWW.out.trans (hb11.mono HBWW.out.size))
        have HK11 := Lib.hid (show KeepX M w3 w11 from HKW.out.trans ⟨hb11.size, fun k hk _ => hb11.block k hk⟩)
        have HM11 := Lib.hid (HMIW.out.keep (hb11.block M HMIW.out.lt))
        have hy11 := (hb11.block _ (Array.getElem?_eq_some_iff.1 HYW.out).1).trans HYW.out
        have hid11 : w11.cell? ⟨X8, 0, none⟩ = some (.string y.id) := by simp [World.cell?, hy11]
        have HO11 := Lib.hid (HOW9.out.belowG hb11)
        clear hb11 hy11 hlk2 hidW
        cases t
        · have HNX := Lib.hid (show OwnS w11 w3.heap.size 9 1 (.slice ua U uc) (mayB F role (F.take (j + 1))).length (tcells (mayB F role (F.take (j + 1)))) from by
            rw [HSN.out, onlyIf, List.append_nil, ← HU.out]
            exact HO11.out)
          go_wp2_with fail
          go_roundw
          case rel => exact ⟨j + 1, _, by omega, by go_num, HB11.out, HK11.out, HM11.out, HMOV, HNX⟩
          case measure => simp [intOf]; omega
        · obtain ⟨z0, hz, hz0, hz1, hz2⟩ := infoG1
          have HSRC := Lib.hid (srcOne w11 y.id)
          go_wp2_with (at_builtin; refine wpList_append_S rfl _ _ 22 22 rfl w3.heap.size 9 z0 _ 1 16 Try.underlying22 hz hz0 hz1 hz2 rfl (Nat.succ_pos _) (.slice ua U uc) U (tcells (mayB F role (F.take j))) rfl (HO11.out.belowG ((Below.refl _ _).alloc (Nat.le_refl _) _)) (.slice (some ⟨w11.heap.size, 0, none⟩) 1 1) 1 [.string y.id] rfl HSRC.out ?c1 ?c2 ?c3 ?_)
          case c1 => have := HLJ.out; unfold maxLen; omega
          case c2 => have := HLJ.out; omega
          case c3 => have := HK11.out.1; simp; omega
          intro v4 w4 hown4 hgrow4 hl4
          have hbk : ∀ k, (Value.slice ua U uc).ownBlock = some k → w3.heap.size ≤ k := fun k hk => HO11.out.baseG k hk
          have HB4 := Lib.hid (show Below w.heap.size w w4 from (HB11.out.alloc HB11.out.size _).grown hgrow4 (by have := HB11.out.size; simp; omega) (fun k hk => by have := hbk k hk; have := HB3.out.size; omega))
          have HK4 := Lib.hid (show KeepX M w3 w4 from ⟨Nat.le_trans (Nat.le_trans HK11.out.1 (by simp)) hgrow4.size, fun k hk hkM => (hgrow4.block k (by have := HK11.out.1; simp; omega) (fun e => by have := hbk k e.symm; omega)).trans ((Below.heap_alloc _ _ k (by have := HK11.out.1; omega)).trans (HK11.out.2 k hk hkM))⟩)
          have HM4 := Lib.hid (HM11.out.keep ((hgrow4.block M (by have := HM11.out.lt; simp; omega) (fun e => by have := hbk M e.symm; have := HMW.out.2; have := HS3.out; omega)).trans (Below.heap_alloc _ _ M HM11.out.lt)))
          have HNX := Lib.hid (show OwnS w4 w3.heap.size 9 1 v4 (mayB F role (F.take (j + 1))).length (tcells (mayB F role (F.take (j + 1)))) from by
            rw [HSN.out, onlyIf, List.length_append, ← HU.out]
            simpa [tcells] using hown4)
          obtain ⟨za, zc, hz4, _⟩ := hown4.form
          subst hz4
          clear hown4 hgrow4 hl4 hz hz0 hz1 hz2 hbk
          go_wp2_with fail
          go_roundw
          case rel => exact ⟨j + 1, _, by omega, by go_num, HB4.out, HK4.out, HM4.out, HMOV, HNX⟩
          case measure => simp [intOf]; omega
    · have hje : j = N := by omega
      have HR := Lib.hid (show OwnS wr w.heap.size 9 1 (.slice ua (mayB F role (F.take j)).length uc) (mayB F role F).length (tcells (mayB F role F)) ∧ Below w.heap.size w wr from by
        have := HO.out
        rw [List.take_of_length_le (by rw [← HLL.out, List.length_map]; have := HN.out; omega)] at this ⊢
        exact ⟨this.weak HB3.out.size, hbw⟩)
      clear hbw hkx hmi
      subst hje
      go_wp2_with fail
      go_ret
      exact ⟨_, by rfl, HR.out.1, HR.out.2⟩
end Go.Proofs.Ytkapelpbepejfaa
