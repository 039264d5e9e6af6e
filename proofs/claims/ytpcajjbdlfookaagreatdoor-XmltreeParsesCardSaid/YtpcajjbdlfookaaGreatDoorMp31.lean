/- xmltree: the reference: Parse. -/
import Derived.Test.YtpcajjbdlfookaaGreatDoorMp30
import Derived.Test.YtpcajjbdlfookaaGreatDoorHh
import Derived.Test.YtpcajjbdlfookaaGreatDoorMp09
namespace Go.Proofs.YtpcajjbdlfookaaGreatDoor
open Go Go.RowKit Go.Deep Go.Shelf
set_option linter.unusedVariables false
set_option linter.unusedSimpArgs false

theorem rp_put {w W V : World} (hb : Below w.heap.size w W) (hz : W.heap[w.heap.size]? = some ZE) (c0 c1 c2 c3 c4 : Value) (hv : Below (put5 W w.heap.size c0 c1 c2 c3 c4).heap.size (put5 W w.heap.size c0 c1 c2 c3 c4) V) :
    V.heap[w.heap.size]? = some (.cells #[c0, c1, c2, c3, c4] 27 (0, 0)) ∧ Below w.heap.size w V := by
  have h5 := put5_at hz c0 c1 c2 c3 c4
  have hc := put5_chg W w.heap.size c0 c1 c2 c3 c4
  have h6 := hb.trans (hc.below hb.size (fun i hi => by simp at hi; omega))
  exact ⟨(hv.block _ (Array.getElem?_eq_some_iff.1 h5).1).trans h5, h6.trans (hv.mono h6.size)⟩
set_option maxRecDepth 100000 in
set_option maxHeartbeats 16000000 in
theorem rparse_c {w : World} {v : Value} {xs : List UInt8} (hr : Rd w v xs) (hxs : xs.length ≤ 140737488351232) :
    Calls Tryz.prog 7 #[v] w (RpE w (parseM xs)) := by
  obtain ⟨p, c, rfl⟩ := rd_form hr
  obtain ⟨n, hn⟩ : ∃ n, n = xs.length := ⟨_, rfl⟩
  rw [← hn] at hr ⊢
  have HN := Lib.hid hn
  obtain ⟨R, hR⟩ : ∃ R, parseM xs = R := ⟨_, rfl⟩
  rw [hR]
  have HR := Lib.hid hR
  obtain ⟨W0, hW0⟩ : ∃ W0, W0 = w.alloc ZE := ⟨_, rfl⟩
  have hb0 : Below w.heap.size w W0 := hW0 ▸ box_belT w ZE
  have hz0 : W0.heap[w.heap.size]? = some ZE := hW0 ▸ heap_alloc_new w ZE
  have HRD := Lib.hid (fun (W : World) (hb : Below w.heap.size w W) => hr.below hb)
  have HB0 := Lib.hid hb0
  have HZ0 := Lib.hid hz0
  have HW0 := Lib.hid hW0
  obtain ⟨z0, z1, z2, z3, z4, zz⟩ := cellsE5 hz0
  clear hb0 hz0 hW0 hn hR hr
  by_cases hbig : 65536 < n
  · have HRE := Lib.hid (show R = .error (0, 4) from by rw [← HR.out]; unfold parseM; rw [if_pos (by rw [← HN.out]; exact hbig)])
    have hq : decide ((65536 : Int) < (n : Int)) = true := decide_eq_true (by omega)
    go_enter Tryz.func7, Tryz.ntmps7
    go_upto_region 1 with (fail)
    rw [← HW0.out]
    go_wp2_with fail
    have hend := rp_put HB0.out HZ0.out (.string ⟨#[]⟩) (.string ⟨#[]⟩) (.slice none 0 0) (.slice none 0 0) (.string ⟨#[]⟩) (Below.refl _ _)
    refine bodyPost_ret (results_rpar _ _ w.heap.size _ _ _ _ _ _ _ rfl rfl rfl hend.1) rfl ?_
    rw [HRE.out]
    exact ⟨rfl, hend.2⟩
  have hn16 : n ≤ 65536 := by omega
  have hq : decide ((65536 : Int) < (n : Int)) = false := decide_eq_false (by omega)
  have HWR0 := Lib.hid (rwrong_c W0 _ xs (HRD.out _ HB0.out) (by have := HN.out; omega))
  obtain ⟨z, hz⟩ : ∃ z, wrong (xs.length + 1) xs 0 = z := ⟨_, rfl⟩
  rw [hz] at HWR0
  have HZ := Lib.hid hz
  clear hz
  by_cases hzn : 0 ≤ z
  · obtain ⟨zn, rfl⟩ : ∃ zn : Nat, z = zn := ⟨z.toNat, by omega⟩
    have HRE := Lib.hid (show R = .error (zn, 10) from by
      rw [← HR.out]
      unfold parseM
      rw [if_neg (by rw [← HN.out]; exact hbig), if_pos (by rw [HZ.out]; omega), HZ.out]
      rfl)
    clear hzn
    go_enter Tryz.func7, Tryz.ntmps7
    go_upto_region 1 with (fail)
    rw [← HW0.out]
    go_wp2_with fail
    refine HWR0.out.mono ?_
    rintro e w1 ⟨rfl, hb1⟩
    have hz1 := (hb1.block _ (Array.getElem?_eq_some_iff.1 HZ0.out).1).trans HZ0.out
    have HZ1 := Lib.hid hz1
    have HB1 := Lib.hid (HB0.out.trans (hb1.mono HB0.out.size))
    clear z0 z1 z2 z3 z4 zz hb1
    obtain ⟨z0, z1, z2, z3, z4, zz⟩ := cellsE5 hz1
    clear hz1
    go_wp2_with fail
    have hend := rp_put HB1.out HZ1.out (.string ⟨#[]⟩) (.string ⟨#[]⟩) (.slice none 0 0) (.slice none 0 0) (.string ⟨#[]⟩) (Below.refl _ _)
    refine bodyPost_ret (results_rpar _ _ w.heap.size _ _ _ _ _ _ _ rfl rfl rfl hend.1) rfl ?_
    rw [HRE.out]
    exact ⟨rfl, hend.2⟩
  have hq2 : decide (0 ≤ z) = false := decide_eq_false hzn
  have HRE := Lib.hid (show docM xs (xs.length + 2) (xs.length + 2) none 0 = R from by
    rw [← HR.out]
    unfold parseM
    rw [if_neg (by rw [← HN.out]; exact hbig), if_neg (by rw [HZ.out]; exact hzn)])
  go_enter Tryz.func7, Tryz.ntmps7
  go_upto_region 1 with (fail)
  rw [← HW0.out]
  go_wp2_with fail
  refine HWR0.out.mono ?_
  rintro e w1 ⟨rfl, hb1⟩
  have hz1 := (hb1.block _ (Array.getElem?_eq_some_iff.1 HZ0.out).1).trans HZ0.out
  have hb1w := HB0.out.trans (hb1.mono HB0.out.size)
  obtain ⟨W2, hW2⟩ : ∃ W, W = (w1.alloc (.cells #[.slice p n c, .int .i64 0] 49)).alloc ZE := ⟨_, rfl⟩
  have hba := box_belT w1 (.cells #[.slice p n c, .int .i64 0] 49)
  have hbb := box_belT (w1.alloc (.cells #[.slice p n c, .int .i64 0] 49)) ZE
  have hzl1 := (Array.getElem?_eq_some_iff.1 hz1).1
  have hI0 : RoI w1 w w1.heap.size (w1.heap.size + 1) (.slice p n c) none 0 W2 := by
    subst hW2
    have hnew := heap_alloc_new (w1.alloc (.cells #[.slice p n c, .int .i64 0] 49)) ZE
    rw [World.size_alloc] at hnew
    exact ⟨⟨hba.trans (hbb.mono hba.size), Nat.le_refl _, (hbb.block _ (by rw [World.size_alloc]; omega)).trans (heap_alloc_new w1 _)⟩, (hbb.block _ (by rw [World.size_alloc]; omega)).trans ((hba.block _ hzl1).trans hz1), hnew, hb1w, by omega, by omega⟩
  have HI0 := Lib.hid hI0
  have HW2 := Lib.hid hW2
  have HNX := Lib.hid (fun (W : World) (a : Nat) (hx : RX w1 w1.heap.size (.slice p n c) a W) (ha : a ≤ xs.length) => rrnext_c (HRD.out _ hb1w) (by have := HN.out; omega) hx ha)
  have HWH := Lib.hid (fun (W : World) (t' : Tk) (q' k' : Nat) (s' : Value) (hx' : RX w1 w1.heap.size (.slice p n c) k' W) (hat : AtsIs W s' t'.attrs) (hbk : TkB xs.length t') (hao : AtsOk t'.attrs) (hk' : k' ≤ xs.length) =>
    wholeW_c (c := fun L' o' nm' h' k' => contM xs (xs.length + 2) L' o' nm' h' [] [] k') hx' (RB.nil W) 0 (by omega) (by simp) t' q' s' hat hao (Nat.le_trans hbk.name (by have := HN.out; omega)) (fun x hx => Nat.le_trans (hbk.ats x hx) (by have := HN.out; omega)) (fun W' h' L' v' av' N' hp1 hp2 hp3 hp4 hp5 hp6 => inside_c (HRD.out _ hb1w) (by have := HN.out; omega) (xs.length + 2) hp1 hp2 0 (by omega) hp3 t'.name h' av' N' hp4 hp5 hp6 hk' (by omega)))
  clear z0 z1 z2 z3 z4 zz hb1 hz1 hba hbb hI0 hW2 hb1w hzl1
  go_wp2_with fail
  rw [← HW2.out]
  go_loopg [8] (xs.length + 2) (fun m vd wr => ∃ r a, vd = .bool r.isSome ∧ RoI w1 w w1.heap.size (w1.heap.size + 1) (.slice p n c) r a wr ∧ docM xs (xs.length + 2) m r a = R ∧ xs.length < m + a ∧ a ≤ xs.length)
  case atStart => exact ⟨none, 0, rfl, HI0.out, HRE.out, by omega, Nat.zero_le _⟩
  case round =>
    obtain ⟨r, a, rfl, hI, hM, hfa, hax⟩ := hrel
    obtain ⟨m, rfl⟩ : ∃ m, gk = m + 1 := ⟨gk - 1, by omega⟩
    have HNR := Lib.hid (HNX.out _ _ hI.rx hax)
    have HI := Lib.hid hI
    have HM := Lib.hid hM
    clear hI hM
    go_wp2_with fail
    refine HNR.out.mono ?_
    rintro e w3 hn
    unfold RnxE at hn
    cases htk : tokM xs a with
    | error x =>
      rw [htk] at hn
      obtain ⟨t', vt, rfl, ⟨s', rfl, hat⟩, hb1, hne⟩ := hn
      obtain ⟨ps1, cs1, hsv1, -⟩ := hat.form
      obtain ⟨N1, hN1⟩ : ∃ N1, N1 = t'.attrs.length := ⟨_, rfl⟩
      obtain ⟨S1, hS1⟩ : ∃ S : ByteArray, S = ⟨t'.name.toArray⟩ := ⟨_, rfl⟩
      obtain ⟨U1, hU1⟩ : ∃ U : ByteArray, U = ⟨t'.text.toArray⟩ := ⟨_, rfl⟩
      obtain ⟨TK1, hTK1⟩ : ∃ TK : Int, TK = (t'.kind : Nat) := ⟨_, rfl⟩
      obtain ⟨TE1, hTE1⟩ : ∃ TE, TE = t'.empty := ⟨_, rfl⟩
      rw [← hN1] at hsv1
      subst hsv1
      dsimp only
      rw [← hS1, ← hU1, ← hTK1, ← hTE1]
      have hRe := HM.out
      rw [docM_bad htk] at hRe
      have HF2 := Lib.hid hRe.symm
      have HI1 := Lib.hid (HI.out.below hb1)
      have tz1 : ((x.2 : Int) == 0) = false := by rw [beq_eq_false_iff_ne]; omega
      have tz2 : ((x.2 : Int) != 0) = true := by simp only [bne, tz1]; rfl
      obtain ⟨z0, z1, z2, z3, z4, zz⟩ := cellsE5 HI1.out.res
      have hzl := (Array.getElem?_eq_some_iff.1 HI1.out.res).1
      clear hRe hat hb1 hne hN1 hS1 hU1 hTK1 hTE1 htk
      go_wp2_with fail
      have hbd := HI1.out.bad (box_belT _ (.cells #[.int .i64 TK1, .string S1, .slice ps1 N1 cs1, .bool TE1, .string U1] 52))
      refine bodyPost_ret (results_rpar _ _ w.heap.size _ _ _ _ _ _ _ rfl rfl rfl hbd.1) rfl ?_
      rw [HF2.out]
      exact ⟨rfl, hbd.2⟩

    | ok x =>
      obtain ⟨t', q', k'⟩ := x
      rw [htk] at hn
      obtain ⟨vt, rfl, ⟨s', rfl, hat⟩, hx1, hc1⟩ := hn
      dsimp only at hat hx1
      have hI1 := HI.out.on hx1 hc1
      have hTB := tokM_lenB htk
      have hkl := tokM_le htk
      have hgo := tokM_goes htk hax
      have hao := tokM_ats htk
      obtain ⟨ps1, cs1, hsv1, -⟩ := hat.form
      obtain ⟨N1, hN1⟩ : ∃ N1, N1 = t'.attrs.length := ⟨_, rfl⟩
      obtain ⟨S1, hS1⟩ : ∃ S : ByteArray, S = ⟨t'.name.toArray⟩ := ⟨_, rfl⟩
      obtain ⟨U1, hU1⟩ : ∃ U : ByteArray, U = ⟨t'.text.toArray⟩ := ⟨_, rfl⟩
      obtain ⟨TK1, hTK1⟩ : ∃ TK : Int, TK = (t'.kind : Nat) := ⟨_, rfl⟩
      obtain ⟨TE1, hTE1⟩ : ∃ TE, TE = t'.empty := ⟨_, rfl⟩
      rw [← hN1] at hsv1
      subst hsv1
      dsimp only
      rw [← hS1, ← hU1, ← hTK1, ← hTE1]
      have hbb := box_belT w3 (.cells #[.int .i64 TK1, .string S1, .slice ps1 N1 cs1, .bool TE1, .string U1] 52)
      have hI2 := hI1.below hbb
      obtain ⟨g0, g1, g2, g3, g4, gz⟩ := cellsX5 (heap_alloc_new w3 (.cells #[.int .i64 TK1, .string S1, .slice ps1 N1 cs1, .bool TE1, .string U1] 52))
      obtain ⟨z0, z1, z2, z3, z4, zz⟩ := cellsE5 hI1.res
      have hzl := (Array.getElem?_eq_some_iff.1 hI1.res).1
      have HI1 := Lib.hid hI1
      have HI2 := Lib.hid hI2
      have HGO := Lib.hid hgo
      have HTK := Lib.hid htk
      have HTK1 := Lib.hid hTK1
      have hUs : U1.size ≤ 140737488355328 := by
        have h8 := hTB.text
        have h9 : (⟨t'.text.toArray⟩ : ByteArray).size = t'.text.length := ba_size _
        have h7 := HN.out
        rw [hU1, h9]
        omega
      have HBL := Lib.hid (fun W => rblank_c W U1 hUs)
      rw [show blankB U1 = blankL t'.text from by rw [hU1]; rfl] at HBL
      have HK := Lib.hid (HWH.out (w3.alloc (.cells #[.int .i64 TK1, .string S1, .slice ps1 N1 cs1, .bool TE1, .string U1] 52)) t' q' k' (.slice ps1 N1 cs1) hI2.rx (hat.below hbb) hTB hao hkl)
      rw [← hS1, ← hU1, ← hTE1, ← hTK1] at HK
      have HDM := Lib.hid (show docM xs (xs.length + 2) (m + 1) r a = R from HM.out)
      have tz : ((0 : Int) != 0) = false := by decide
      clear hat hx1 hc1 hI1 hbb hI2 hgo hTB htk hUs hS1 hU1 hTE1 hN1 hao
      by_cases h0 : t'.kind = 0 ∧ r.isSome = true
      · obtain ⟨h0, hs⟩ := h0
        obtain rfl : TK1 = 0 := by rw [hTK1, h0]; rfl
        cases r with
        | none => cases hs
        | some x =>
          have hRe := HDM.out
          rw [docM_end HTK.out h0] at hRe
          have HRX := Lib.hid hRe
          obtain ⟨av, kv, ⟨p1, c1, n1, rfl⟩, ⟨p2, c2, n2, rfl⟩, hb1, hgv⟩ := HI1.out.give
          have HGV := Lib.hid (hgv (.cells #[.int .i64 0, .string S1, .slice ps1 N1 cs1, .bool TE1, .string U1] 52))
          obtain ⟨r0, r1, r2, r3, r4, rz⟩ := cellsE5 hb1
          have hal5 := (Array.getElem?_eq_some_iff.1 hb1).1
          clear hTK1 hRe hb1 hgv
          go_wp2_with fail
          refine bodyPost_ret (results_rpar _ _ w.heap.size _ _ _ _ _ _ _ rfl rfl rfl HGV.out.1) rfl ?_
          rw [← HRX.out]
          exact HGV.out.2
      by_cases h3 : t'.kind = 3 ∧ blankL t'.text = true
      · obtain ⟨h3, hbl⟩ := h3
        obtain rfl : TK1 = 3 := by rw [hTK1, h3]; rfl
        have hgk := (HGO.out (by omega)).2
        rw [hbl] at HBL
        have HEQ := Lib.hid (show docM xs (xs.length + 2) m r k' = R from by rw [← HDM.out, docM_blank HTK.out h3 hbl])
        clear hTK1 hbl h0
        go_wp2_with fail
        refine (HBL.out _).mono ?_
        rintro e w5 ⟨rfl, rfl⟩
        go_wp2_with fail
        go_roundg m
        case measure => omega
        case rel => exact ⟨r, k', rfl, HI2.out, HEQ.out, by omega, hkl⟩
      by_cases h1 : t'.kind = 1 ∧ r = none
      · obtain ⟨h1, rfl⟩ := h1
        obtain rfl : TK1 = 1 := by rw [hTK1, h1]; rfl
        have hgk := (HGO.out (by omega)).2
        obtain ⟨RK, hRK⟩ : ∃ RK, elemM xs (xs.length + 2) [] 0 t' q' k' = RK := ⟨_, rfl⟩
        have hRK2 : elemW (fun L' o' nm' h' k' => contM xs (xs.length + 2) L' o' nm' h' [] [] k') [] 0 t' q' k' = RK := hRK
        rw [hRK2] at HK
        have HRSI := Lib.hid HI2.out.res
        have HK2 := Lib.hid (show Calls Tryz.prog 22 #[.pointer (some ⟨w1.heap.size, 0, none⟩), .agg #[.int .i64 1, .string S1, .slice ps1 N1 cs1, .bool TE1, .string U1], .int .i64 (q' : Nat), .slice none 0 0, .int .i64 1] (w3.alloc (.cells #[.int .i64 1, .string S1, .slice ps1 N1 cs1, .bool TE1, .string U1] 52)) (WhE w1 (w3.alloc (.cells #[.int .i64 1, .string S1, .slice ps1 N1 cs1, .bool TE1, .string U1] 52)) w1.heap.size (.slice p n c) (w3.alloc (.cells #[.int .i64 1, .string S1, .slice ps1 N1 cs1, .bool TE1, .string U1] 52)).heap.size 0 RK) from HK.out)
        clear HK hRK2
        cases RK with
        | error y =>
          have hRe := HDM.out
          rw [docM_openE HTK.out h1 hRK] at hRe
          have HF2 := Lib.hid hRe.symm
          clear hTK1 hRe hRK h0 h3
          go_wp2_with fail
          refine HK2.out.mono ?_
          rintro e w5 ⟨vv, rfl, ⟨S1', S2', q2, m2, d2, q3, m3, d3, S3', rfl⟩, hne, hc⟩
          have hr3 := (hc.block _ (Array.getElem?_eq_some_iff.1 HRSI.out).1 (by have := HI2.out.lt; simp; omega)).trans HRSI.out
          have HR3 := Lib.hid hr3
          have hbw5 : Below w.heap.size w w5 := (HI2.out.all).trans (hc.below HI2.out.all.size (fun i hi => by have := HI2.out.lt; simp at hi; omega))
          have HBW5 := Lib.hid hbw5
          have tz1 : ((y.2 : Int) == 0) = false := by rw [beq_eq_false_iff_ne]; omega
          have tz2 : ((y.2 : Int) != 0) = true := by simp only [bne, tz1]; rfl
          clear z0 z1 z2 z3 z4 zz hzl
          obtain ⟨z0, z1, z2, z3, z4, zz⟩ := cellsE5 hr3
          have hzl := (Array.getElem?_eq_some_iff.1 hr3).1
          clear hr3 hc hne hbw5
          dsimp only
          go_wp2_with fail
          have hend := rp_put HBW5.out HR3.out (.string ⟨#[]⟩) (.string ⟨#[]⟩) (.slice none 0 0) (.slice none 0 0) (.string ⟨#[]⟩) (box_belT _ (.cells #[.string S1', .string S2', .slice q2 m2 d2, .slice q3 m3 d3, .string S3'] 27))
          refine bodyPost_ret (results_rpar _ _ w.heap.size _ _ _ _ _ _ _ rfl rfl rfl hend.1) rfl ?_
          rw [HF2.out]
          exact ⟨rfl, hend.2⟩
        | ok y =>
          have hRe := HDM.out
          rw [docM_open HTK.out h1 hRK] at hRe
          have hxg := elem_goes hkl (show elemM xs (xs.length + 2) [] 0 t' q' k' = .ok (y.1, y.2) from hRK)
          have HRX := Lib.hid hRe
          clear hTK1 hRe hRK h0 h3
          go_wp2_with fail
          refine HK2.out.mono ?_
          rintro e w5 ⟨vv, rfl, ⟨av2, kv2, rfl, hp2, hk2⟩, hx2, hc⟩
          have hI3 := HI2.out.on hx2 hc
          have hrt : (w3.alloc (.cells #[.int .i64 1, .string S1, .slice ps1 N1 cs1, .bool TE1, .string U1] 52)).heap[w1.heap.size + 1]? = some ZE := HI2.out.root
          have hrl := (Array.getElem?_eq_some_iff.1 hrt).1
          obtain ⟨q2, d2, hf1, -⟩ := hp2.form
          obtain ⟨q3, d3, hf2, -⟩ := hk2.form
          obtain ⟨m2, hm1⟩ : ∃ m, m = y.1.attrs.length := ⟨_, rfl⟩
          obtain ⟨m3, hm2⟩ : ∃ m, m = y.1.kids.length := ⟨_, rfl⟩
          rw [← hm1] at hf1
          rw [← hm2] at hf2
          subst hf1 hf2
          have HI3 := Lib.hid (hI3.put (x := y.1) (hp2.mono (fun b hb _ => by omega)) (hk2.mono (fun b hb _ => by omega)))
          have hrt3 : w5.heap[w1.heap.size + 1]? = some ZE := hI3.root
          clear z0 z1 z2 z3 z4 zz hzl
          obtain ⟨z0, z1, z2, z3, z4, zz⟩ := cellsE5 hrt3
          have hzl := (Array.getElem?_eq_some_iff.1 hrt3).1
          have HOM := Lib.hid (show xs.length < m + y.2 ∧ y.2 ≤ xs.length ∧ m < m + 1 from ⟨by omega, hxg.2, by omega⟩)
          have HI4 := Lib.hid (HI3.out.below (box_belT _ (.cells #[.string y.1.space, .string y.1.name, .slice q2 m2 d2, .slice q3 m3 d3, .string y.1.text] 27)))
          clear hI3 hp2 hk2 hx2 hc hrt hrl hrt3 hm1 hm2
          dsimp only
          go_wp2_with fail
          go_roundg m
          case measure => exact HOM.out.2.2
          case rel => exact ⟨some y.1, y.2, rfl, HI4.out, HRX.out, HOM.out.1, HOM.out.2.1⟩
      have HF2 := Lib.hid (show R = .error (q', 14) from by rw [← HDM.out, docM_nest HTK.out (by rintro ⟨h9, h8⟩; exact h1 ⟨h9, by cases r with | none => rfl | some x => cases h8⟩) h3 h0])
      by_cases hk3 : t'.kind = 3
      · obtain rfl : TK1 = 3 := by rw [hTK1, hk3]; rfl
        have hbl : blankL t'.text = false := by
          cases hb9 : blankL t'.text with
          | false => rfl
          | true => exact absurd ⟨hk3, hb9⟩ h3
        rw [hbl] at HBL
        clear hTK1 h0 h1 h3 hbl
        go_wp2_with fail
        refine (HBL.out _).mono ?_
        rintro e w5 ⟨rfl, rfl⟩
        go_wp2_with fail
        have hbd := HI1.out.bad (box_belT _ (.cells #[.int .i64 3, .string S1, .slice ps1 N1 cs1, .bool TE1, .string U1] 52))
        refine bodyPost_ret (results_rpar _ _ w.heap.size _ _ _ _ _ _ _ rfl rfl rfl hbd.1) rfl ?_
        rw [HF2.out]
        exact ⟨rfl, hbd.2⟩

      have n3 : (TK1 == 3) = false := by rw [beq_eq_false_iff_ne]; omega
      by_cases hk1 : t'.kind = 1
      · obtain rfl : TK1 = 1 := by rw [hTK1, hk1]; rfl
        obtain ⟨x, rfl⟩ : ∃ x, r = some x := by cases r with | none => exact absurd ⟨hk1, rfl⟩ h1 | some x => exact ⟨x, rfl⟩
        clear hTK1 h1 h0 h3 n3
        go_wp2_with fail
        have hbd := HI1.out.bad (box_belT _ (.cells #[.int .i64 1, .string S1, .slice ps1 N1 cs1, .bool TE1, .string U1] 52))
        refine bodyPost_ret (results_rpar _ _ w.heap.size _ _ _ _ _ _ _ rfl rfl rfl hbd.1) rfl ?_
        rw [HF2.out]
        exact ⟨rfl, hbd.2⟩

      have n1 : (TK1 == 1) = false := by rw [beq_eq_false_iff_ne]; omega
      have m1 : (TK1 != 1) = true := by simp only [bne, n1]; rfl
      by_cases hk0 : t'.kind = 0
      · obtain rfl : TK1 = 0 := by rw [hTK1, hk0]; rfl
        obtain rfl : r = none := by cases r with | none => rfl | some x => exact absurd ⟨hk0, rfl⟩ h0
        clear hTK1 h1 h0 h3 n3 n1 m1
        go_wp2_with fail
        have hbd := HI1.out.bad (box_belT _ (.cells #[.int .i64 0, .string S1, .slice ps1 N1 cs1, .bool TE1, .string U1] 52))
        refine bodyPost_ret (results_rpar _ _ w.heap.size _ _ _ _ _ _ _ rfl rfl rfl hbd.1) rfl ?_
        rw [HF2.out]
        exact ⟨rfl, hbd.2⟩

      have n0 : (TK1 == 0) = false := by rw [beq_eq_false_iff_ne]; omega
      clear hTK1 h1 h0 h3
      go_wp2_with fail
      have hbd := HI1.out.bad (box_belT _ (.cells #[.int .i64 TK1, .string S1, .slice ps1 N1 cs1, .bool TE1, .string U1] 52))
      refine bodyPost_ret (results_rpar _ _ w.heap.size _ _ _ _ _ _ _ rfl rfl rfl hbd.1) rfl ?_
      rw [HF2.out]
      exact ⟨rfl, hbd.2⟩

end Go.Proofs.YtpcajjbdlfookaaGreatDoor

/- xmltree: the test that the laws run first. -/
namespace Go.Proofs.YtpcajjbdlfookaaGreatDoor
open Go Go.RowKit Go.Deep Go.Shelf
set_option linter.unusedVariables false
set_option linter.unusedSimpArgs false

abbrev awX : List UInt8 := [60, 97, 62, 98, 60, 47, 97, 62]
theorem aw_s0 : skA insP awX ((0 : Nat) : Int) = (0, 0) := by kernel_rfl
theorem aw_n0 : nxt insP opnP cloP awX ((0 : Nat) : Int) = (⟨1, [97], [], false, []⟩, 3, 0) := by kernel_rfl
theorem aw_s1 : skA insP awX ((3 : Nat) : Int) = (3, 0) := by kernel_rfl
theorem aw_n1 : nxt insP opnP cloP awX ((3 : Nat) : Int) = (⟨3, [], [], false, [98]⟩, 4, 0) := by kernel_rfl
theorem aw_s2 : skA insP awX ((4 : Nat) : Int) = (4, 0) := by kernel_rfl
theorem aw_n2 : nxt insP opnP cloP awX ((4 : Nat) : Int) = (⟨2, [97], [], false, []⟩, 8, 0) := by kernel_rfl
theorem aw_s3 : skA insP awX ((8 : Nat) : Int) = (8, 0) := by kernel_rfl
theorem aw_n3 : nxt insP opnP cloP awX ((8 : Nat) : Int) = (⟨0, [], [], false, []⟩, 8, 0) := by kernel_rfl
theorem aw_w : wrong (awX.length + 1) awX 0 = -1 := by kernel_rfl
set_option maxRecDepth 100000 in
theorem awake_c (w : World) (hw : BW w) : Calls Tryz.prog 10 #[] w fun e w' => e = .returned (.bool true) ∧ Below w.heap.size w w' := by
  have kc := fun (w : World) (C : Array Value) (n c : Nat) => Lib.run_convert_bytes_const (P := Tryz.prog) w 22 5 C n c Tryz.underlying22 Tryz.underlying5
  have b1 := box_belT w (.cells #[.int .u8 60, .int .u8 97, .int .u8 62, .int .u8 98, .int .u8 60, .int .u8 47, .int .u8 97, .int .u8 62] 5 (8, 9))
  have HQ := parse0_c (hw.below b1) (rd_new w awX #[.int .u8 60, .int .u8 97, .int .u8 62, .int .u8 98, .int .u8 60, .int .u8 47, .int .u8 97, .int .u8 62] 5 8 9 8 rfl rfl (by omega)) rfl (by decide) aw_w aw_s0 aw_n0 aw_s1 aw_n1 aw_s2 aw_n2 aw_s3 aw_n3 (by decide) (by decide) (by decide)
  have HQ' := Lib.hid HQ
  have HB1 := Lib.hid b1
  clear HQ hw b1
  go_enter Tryz.func10, Tryz.ntmps10
  go_wp2_with fail
  trace_state
  refine (HQ'.out).mono ?_
  rintro e w2 ⟨rfl, hb⟩
  have HB := Lib.hid (HB1.out.trans (hb.mono HB1.out.size))
  clear hb
  go_wp2_with fail
  go_ret
  exact ⟨rfl, HB.out.alloc HB.out.size _⟩
end Go.Proofs.YtpcajjbdlfookaaGreatDoor

/- xmltree: any bytes as an element: the law's walk. -/
namespace Go.Proofs.YtpcajjbdlfookaaGreatDoor
open Go Go.RowKit Go.Deep Go.Shelf
set_option linter.unusedVariables false
set_option linter.unusedSimpArgs false

theorem clone_c (w : World) (v : Value) (xs : List UInt8) (h : Rd w v xs) (hn : xs.length ≤ 140737488355328) :
    Calls Tryz.prog 5 #[v] w fun e w' => ∃ v', e = .returned v' ∧ w'.ownsRow w.heap.size 5 1 v' xs.length (bcells xs) ∧ Below w.heap.size w w' := by
  have HR := Lib.hid h
  have HN := Lib.hid hn
  obtain ⟨i0, hi, hz0, hz1, hz2⟩ := info_parts info8
  obtain ⟨p, c, rfl, h1, h2, h3, h4⟩ := h
  clear h4 hn
  cases p with
  | none =>
    have h0 : xs.length = 0 := by have := h3 rfl; omega
    have H0 := Lib.hid (List.eq_nil_of_length_eq_zero h0)
    have hc := h3 rfl
    clear h0 h1 h2 h3
    obtain rfl := H0.out
    subst hc
    have hnil := @Lib.run_eql_slice_nil Tryz.prog
    go_enter Tryz.func5, Tryz.ntmps5
    go_wp2
    go_ret
    exact ⟨_, rfl, World.ownsRow_nil _ _ _ _, Below.refl _ _⟩
  | some a =>
    clear h3
    have hnil := @Lib.run_eql_slice_nil Tryz.prog
    go_enter Tryz.func5, Tryz.ntmps5
    go_wp2_with (at_builtin; refine wpList_append_src rfl _ _ 22 22 rfl w.heap.size 5 i0 (.int .u8 0) 1 Tryz.underlying22 hi hz0 hz1 hz2 rfl _ 0 [] rfl (World.ownsRow_made w #[] 0 (Nat.le_refl _) (by unfold maxLen; omega) rfl) _ xs.length (bcells xs) rfl ((HR.out.alloc _).src Tryz.underlying22) (by have := HN.out; unfold maxLen; omega) (by have := HN.out; omega) (by simp) ?_; intro v' w2 hown2 hgrow2; have HO := Lib.hid hown2; have HG := Lib.hid hgrow2; clear hown2 hgrow2)
    go_ret
    have h2 := HO.out
    rw [Nat.zero_add, List.nil_append] at h2
    exact ⟨_, rfl, h2, ((Below.refl _ _).alloc (Nat.le_refl _) _).trans (below_own HG.out (World.ownsRow_made w #[] 0 (Nat.le_refl _) (by unfold maxLen; omega) rfl) (by simp))⟩
/-- What a Parse gives back: the element, the place, the error. -/
def outM : Except (Nat × Nat) ET → ET × Nat × Nat
  | .error x => (.mk ⟨#[]⟩ ⟨#[]⟩ [] [] ⟨#[]⟩, x.1, x.2)
  | .ok t => (t, 0, 0)
theorem zEl_d (w : World) : ElemD Any w 24 zEl (.mk ⟨#[]⟩ ⟨#[]⟩ [] [] ⟨#[]⟩) := ⟨_, _, rfl, PairsR.nil _ _, KidsD.nil _ _ _⟩
theorem ParE.out {w w' : World} {R : Except (Nat × Nat) ET} {e : Ending} (h : ParE w R e w') : ∃ v, e = .returned (.tuple #[v, .int .i64 ((outM R).2.1 : Nat), .int .i64 ((outM R).2.2 : Nat)]) ∧ ElemD Any w' 24 v (outM R).1 ∧ Below w.heap.size w w' := by
  cases R with
  | error x => exact ⟨zEl, h.1, zEl_d _, h.2⟩
  | ok t =>
    obtain ⟨v, h1, h2, h3⟩ := h
    exact ⟨v, h1, h2.mono fun _ _ _ => trivial, h3⟩
theorem RpE.out {w w' : World} {R : Except (Nat × Nat) ET} {e : Ending} (h : RpE w R e w') : ∃ v, e = .returned (.tuple #[v, .int .i64 ((outM R).2.1 : Nat), .int .i64 ((outM R).2.2 : Nat)]) ∧ ElemD Any w' 24 v (outM R).1 ∧ Below w.heap.size w w' := by
  cases R with
  | error x => exact ⟨zEl, h.1, zEl_d _, h.2⟩
  | ok t =>
    obtain ⟨v, h1, h2, h3⟩ := h
    exact ⟨v, h1, h2.mono fun _ _ _ => trivial, h3⟩
set_option maxRecDepth 100000 in
set_option maxHeartbeats 8000000 in
theorem parses_w (v0 : Value) (xs : List UInt8) (w : World) (hw : BW w) (h : Rd w v0 xs) (hl : xs.length ≤ 140737488351232) : Calls Tryz.prog 3 #[v0] w fun e w' => e = .returned (.bool true) ∧ Below w.heap.size w w' := by
  obtain ⟨p, c, rfl⟩ := rd_form h
  have HCL := Lib.hid (clone_c w _ xs h (by omega))
  obtain ⟨⟨t, n, z⟩, hR⟩ : ∃ R, outM (parseM xs) = R := ⟨_, rfl⟩
  have HPX := Lib.hid (fun (wx : World) (hx : Below w.heap.size w wx) (v : Value) (h : Rd wx v xs) => (parse_c (hw.below hx) h hl).mono (R' := fun e w' => ∃ v, e = .returned (.tuple #[v, .int .i64 (n : Nat), .int .i64 (z : Nat)]) ∧ ElemD Any w' 24 v t ∧ Below wx.heap.size wx w') (fun e w' hh => by have := hh.out; rw [hR] at this; exact this))
  have HRX := Lib.hid (fun (wx : World) (hx : Below w.heap.size w wx) => (rparse_c (h.below hx) hl).mono (R' := fun e w' => ∃ v, e = .returned (.tuple #[v, .int .i64 (n : Nat), .int .i64 (z : Nat)]) ∧ ElemD Any w' 24 v t ∧ Below wx.heap.size wx w') (fun e w' hh => by have := hh.out; rw [hR] at this; exact this))
  have HR := Lib.hid h
  have HW := Lib.hid hw
  obtain ⟨S1, hS1⟩ : ∃ S, S = t.space := ⟨_, rfl⟩
  obtain ⟨S2, hS2⟩ : ∃ S, S = t.name := ⟨_, rfl⟩
  obtain ⟨S3, hS3⟩ : ∃ S, S = t.text := ⟨_, rfl⟩
  obtain ⟨N1, hN1⟩ : ∃ N, N = t.attrs.length := ⟨_, rfl⟩
  obtain ⟨N2, hN2⟩ : ∃ N, N = t.kids.length := ⟨_, rfl⟩
  have HF := Lib.hid (And.intro hS1 (And.intro hS2 (And.intro hS3 (And.intro hN1 hN2))))
  obtain ⟨L, hL⟩ : ∃ L, L = xs.length := ⟨_, rfl⟩
  rw [← hL] at HRX HR ⊢
  rw [← hL] at HCL
  have HL := Lib.hid hL
  clear h hw hl hR hS1 hS2 hS3 hN1 hN2 hL
  go_enter Tryz.func3, Tryz.ntmps3
  go_wp2_with fail
  refine HCL.out.mono ?_
  rintro e w1 ⟨g, rfl, hown, hb1⟩
  rw [HL.out] at hown
  have hrg := Rd.of_own hown
  obtain ⟨pg, cg, hgv⟩ := rd_form hrg
  rw [← HL.out] at hgv
  subst hgv
  have HG := Lib.hid hrg
  have HB1 := Lib.hid hb1
  have HPX1 := Lib.hid (HPX.out w1 hb1 _ hrg)
  clear hown hrg hb1
  go_wp2_with fail
  refine HPX1.out.mono ?_
  rintro e w2 ⟨v2, rfl, hv2, hb2⟩
  have HV2 := Lib.hid hv2
  obtain ⟨av, kv, rfl, hp2, hk2⟩ := hv2
  obtain ⟨pa, ca, hva, -⟩ := hp2.form
  obtain ⟨pk, ck, hvk, -⟩ := hk2.form
  rw [← HF.out.2.2.2.1] at hva
  rw [← HF.out.2.2.2.2] at hvk
  subst hva hvk
  rw [← HF.out.1, ← HF.out.2.1, ← HF.out.2.2.1] at HV2 ⊢
  have hbA := HB1.out.trans (hb2.mono HB1.out.size)
  have hbx2 := box_belT w2 (.cells #[.string S1, .string S2, .slice pa N1 ca, .slice pk N2 ck, .string S3] 27)
  have hbB := hbA.trans (hbx2.mono hbA.size)
  have HBB := Lib.hid hbB
  have HRX1 := Lib.hid (HRX.out _ hbB)
  have HG2 := Lib.hid ((HG.out.below hb2).below hbx2)
  clear hp2 hk2 hb2 hbA hbB hbx2
  go_wp2_with fail
  refine HRX1.out.mono ?_
  rintro e w3 ⟨v3, rfl, hv3, hb3⟩
  have HV3 := Lib.hid hv3
  obtain ⟨av3, kv3, rfl, hp3, hk3⟩ := hv3
  obtain ⟨pb, cb, hvb, -⟩ := hp3.form
  obtain ⟨pl, cl, hvl, -⟩ := hk3.form
  rw [← HF.out.2.2.2.1] at hvb
  rw [← HF.out.2.2.2.2] at hvl
  subst hvb hvl
  rw [← HF.out.1, ← HF.out.2.1, ← HF.out.2.2.1] at HV3 ⊢
  have hx4 := (hb3.block w2.heap.size (by rw [World.size_alloc]; omega)).trans (heap_alloc_new w2 (.cells #[.string S1, .string S2, .slice pa N1 ca, .slice pk N2 ck, .string S3] 27))
  have hlt4 : w2.heap.size < w3.heap.size := (Array.getElem?_eq_some_iff.1 hx4).1
  have hbC := HBB.out.trans (hb3.mono HBB.out.size)
  have hbx := box_belT w3 (.cells #[.string S1, .string S2, .slice pb N1 cb, .slice pl N2 cl, .string S3] 27)
  have hbD := hbC.trans (hbx.mono hbC.size)
  have HBD := Lib.hid hbD
  have HSM := Lib.hid (rsameE_c 24 _ _ _ _ (((HV2.out.below (box_belT w2 _)).below hb3).below hbx) (HV3.out.below hbx))
  have hx5 := (hbx.block _ hlt4).trans hx4
  have HG3 := Lib.hid ((HG2.out.below hb3).below hbx)
  have HR3 := Lib.hid (HR.out.below hbD)
  obtain ⟨q0, q1, q2, q3, q4, qz⟩ := cellsE5 hx4
  obtain ⟨y0, y1, y2, y3, y4, yz⟩ := cellsE5 (heap_alloc_new w3 (.cells #[.string S1, .string S2, .slice pb N1 cb, .slice pl N2 cl, .string S3] 27))
  have tn : ((n : Int) == (n : Int)) = true := by simp
  have tz : ((z : Int) == (z : Int)) = true := by simp
  clear hp3 hk3 hb3 hx4 hbC hbx hbD hx5
  dsimp only
  go_wp2_with fail
  refine HSM.out.mono ?_
  rintro e w6 ⟨rfl, hb6⟩
  have hbG := HBD.out.trans (hb6.mono HBD.out.size)
  have HEQ := equal_c w6 _ _ _ _ (HG3.out.below hb6) (HR3.out.below hb6)
  rw [beq_self_eq_true] at HEQ
  have HEQ := Lib.hid HEQ
  have HAW := Lib.hid (awake_c w6 (HW.out.below hbG))
  have HBG := Lib.hid hbG
  clear hb6 hbG q0 q1 q2 q3 q4 qz y0 y1 y2 y3 y4 yz
  go_wp2_with fail
  refine HEQ.out.mono ?_
  rintro e w7 ⟨rfl, rfl⟩
  go_wp2_with fail
  refine HAW.out.mono ?_
  rintro e w8 ⟨rfl, hb8⟩
  have HB8 := Lib.hid (HBG.out.trans (hb8.mono HBG.out.size))
  clear hb8
  go_wp2_with fail
  go_ret
  exact ⟨rfl, HB8.out⟩
end Go.Proofs.YtpcajjbdlfookaaGreatDoor
