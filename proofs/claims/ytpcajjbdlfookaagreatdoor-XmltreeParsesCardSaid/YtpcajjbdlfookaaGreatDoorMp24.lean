/- xmltree: the reference: element. -/
import Derived.Test.YtpcajjbdlfookaaGreatDoorMp23
import Derived.Deep.AppendLies
import Derived.Deep.RegionLaw
namespace Go.Proofs.YtpcajjbdlfookaaGreatDoor
open Go Go.RowKit Go.Deep Go.Shelf
set_option linter.unusedVariables false
set_option linter.unusedSimpArgs false

/-- The element is laid down, to be given back. -/
theorem rel_end {w w4 wp : World} {av v : Value} {ps : List PT} {L : BS} (hb : Below w.heap.size w wp) (hz : wp.heap[w.heap.size + 1]? = some ZE) (hw : w.heap.size + 2 ≤ w4.heap.size) (hp : PairsR (fun b => w4.heap.size ≤ b) wp av ps) (hr : RB wp v L) (c0 c1 c3 c4 : Value) :
    (put5 wp (w.heap.size + 1) c0 c1 av c3 c4).heap[w.heap.size + 1]? = some (.cells #[c0, c1, av, c3, c4] 27 (0, 0)) ∧ PairsR (fun b => w.heap.size ≤ b) (put5 wp (w.heap.size + 1) c0 c1 av c3 c4) av ps ∧ RB (put5 wp (w.heap.size + 1) c0 c1 av c3 c4) v L ∧ Below w.heap.size w (put5 wp (w.heap.size + 1) c0 c1 av c3 c4) := by
  have hc := put5_chg wp (w.heap.size + 1) c0 c1 av c3 c4
  refine ⟨put5_at hz c0 c1 av c3 c4, hp.keep hc.size (fun b h1 h2 => ⟨hc.block b h2 (by simp; omega), by omega⟩), ?_, hb.trans (hc.below hb.size (fun i hi => by simp at hi; omega))⟩
  refine OwnS.keep hr fun g hg => hc.block g (OwnS.lt hr g hg) ?_
  have hr' : OwnS wp 0 142 2 v L.length (dcells L) := hr
  rcases hr'.2 with ⟨rfl, _⟩ | ⟨g', off, cap, cur, rfl, _, h3, _⟩
  · simp [Value.ownBlock] at hg
  · simp [Value.ownBlock] at hg
    subst hg
    simp
    rintro rfl
    rw [hz] at h3
    simp at h3
set_option maxRecDepth 100000 in
set_option maxHeartbeats 16000000 in
theorem relement_c (w : World) (t : Tk) (s v : Value) (hs : AtsIs w s t.attrs) (hok : AtsOk t.attrs) (hnl : t.name.length ≤ 1048576) (hal : ∀ x ∈ t.attrs, x.1.length ≤ 1048576) (L : BS) (hb : RB w v L) (hL : L.length ≤ 900000) :
    Calls Tryz.prog 39 #[.agg #[.int .i64 (t.kind : Nat), .string ⟨t.name.toArray⟩, s, .bool t.empty, .string ⟨t.text.toArray⟩], v] w (RelE w (relM t L)) := by
  obtain ⟨i0, hi, hz0, hz1, hz2⟩ := infoPrX
  obtain ⟨ps0, cs0, hsv, -⟩ := hs.form
  subst hsv
  obtain ⟨pb, cb, hbv, hlb, hmb⟩ := hb.form
  subst hbv
  obtain ⟨N, hN⟩ : ∃ N, N = t.attrs.length := ⟨_, rfl⟩
  obtain ⟨M, hM⟩ : ∃ M, M = L.length := ⟨_, rfl⟩
  obtain ⟨S, hS⟩ : ∃ S : ByteArray, S = ⟨t.name.toArray⟩ := ⟨_, rfl⟩
  obtain ⟨U, hU⟩ : ∃ U : ByteArray, U = ⟨t.text.toArray⟩ := ⟨_, rfl⟩
  obtain ⟨TK, hTK⟩ : ∃ TK : Int, TK = (t.kind : Nat) := ⟨_, rfl⟩
  obtain ⟨TE, hTE⟩ : ∃ TE, TE = t.empty := ⟨_, rfl⟩
  have hSd : S.data.toList = t.name := by rw [hS]
  have hSs : S.size ≤ 140737488355328 := by
    have := size_data S
    rw [hSd] at this
    omega
  have HSP := Lib.hid (fun W => halves_c W S hSs)
  rw [hSd] at HSP
  obtain ⟨P, hP⟩ : ∃ P : ByteArray, P = ⟨(splM t.name).1.toArray⟩ := ⟨_, rfl⟩
  obtain ⟨NM, hNM⟩ : ∃ P : ByteArray, P = ⟨(splM t.name).2.toArray⟩ := ⟨_, rfl⟩
  rw [← hP, ← hNM] at HSP
  have HP := Lib.hid (show P.data.toList = (splM t.name).1 from by rw [hP])
  have HNM := Lib.hid (show NM = ba (splM t.name).2 from hNM)
  obtain ⟨W0, hW0⟩ : ∃ W0, W0 = (w.alloc (.cells #[.int .i64 TK, .string S, .slice ps0 N cs0, .bool TE, .string U] 52)).alloc ZE := ⟨_, rfl⟩
  have hb2 : Below w.heap.size w W0 := hW0 ▸ (box_belT w _).trans ((box_belT _ ZE).mono (by simp))
  have ht0 : W0.heap[w.heap.size]? = some (.cells #[.int .i64 TK, .string S, .slice ps0 N cs0, .bool TE, .string U] 52 (0, 0)) := hW0 ▸ ((box_belT _ ZE).block _ (by simp)).trans (heap_alloc_new w _)
  have hzb : W0.heap[w.heap.size + 1]? = some ZE := by
    have := heap_alloc_new (w.alloc (.cells #[.int .i64 TK, .string S, .slice ps0 N cs0, .bool TE, .string U] 52)) ZE
    rw [World.size_alloc] at this
    rw [hW0]
    exact this
  have hsz0 : W0.heap.size = w.heap.size + 2 := by rw [hW0]; simp
  have HTB := Lib.hid (fun (W : World) (hb : Below W0.heap.size W0 W) => show W.heap[w.heap.size]? = some (.cells #[.int .i64 TK, .string S, .slice ps0 N cs0, .bool TE, .string U] 52 (0, 0)) from (hb.block w.heap.size (by omega)).trans ht0)
  have HZB := Lib.hid (fun (W : World) (hb : Below W0.heap.size W0 W) => show W.heap[w.heap.size + 1]? = some ZE from (hb.block (w.heap.size + 1) (by omega)).trans hzb)
  have HBW := Lib.hid (fun (W : World) (hb : Below W0.heap.size W0 W) => hb2.trans (hb.mono hb2.size))
  have hs' : AtsIs w (.slice ps0 N cs0) t.attrs := by rw [hN]; exact hs
  have hb' : RB w (.slice pb M cb) L := by rw [hM]; exact hb
  have HAT := Lib.hid (fun (W : World) (hb : Below W0.heap.size W0 W) => (hs'.below hb2).below hb)
  have HTW := Lib.hid (fun (W : World) (hb : Below W0.heap.size W0 W) => rtwice_c W (.slice ps0 N cs0) t.attrs ((hs'.below hb2).below hb))
  have HDC := Lib.hid (fun (h9 : ¬ 201 < N) (W : World) (hb : Below W0.heap.size W0 W) => rdeclared_c W (.int .i64 TK) (.string S) (.bool TE) (.string U) (.slice ps0 N cs0) (.slice pb M cb) t.attrs ((hs'.below hb2).below hb) hok hal (by omega) L ((hb'.below hb2).below hb) (by omega))
  obtain ⟨R, hR⟩ : ∃ R, relM t L = R := ⟨_, rfl⟩
  rw [hR, ← hN, ← hM, ← hS, ← hU, ← hTK, ← hTE]
  have HR := Lib.hid hR
  have HN := Lib.hid hN
  have HM := Lib.hid hM
  have HSZ0 := Lib.hid hsz0
  have HW0 := Lib.hid hW0
  have HOK := Lib.hid hok
  have HAL := Lib.hid hal
  have HRF := Lib.hid (Below.refl W0.heap.size W0)
  have HBAD := Lib.hid (fun (W : World) (hb : Below W0.heap.size W0 W) => show (put5 W (w.heap.size + 1) (.string ⟨#[]⟩) (.string ⟨#[]⟩) (.slice none 0 0) (.slice none 0 0) (.string ⟨#[]⟩)).heap[w.heap.size + 1]? = some (.cells #[.string ⟨#[]⟩, .string ⟨#[]⟩, .slice none 0 0, .slice none 0 0, .string ⟨#[]⟩] 27 (0, 0)) ∧ Below w.heap.size w (put5 W (w.heap.size + 1) (.string ⟨#[]⟩) (.string ⟨#[]⟩) (.slice none 0 0) (.slice none 0 0) (.string ⟨#[]⟩)) from by
    have hz9 := (hb.block (w.heap.size + 1) (by omega)).trans hzb
    have hbw := hb2.trans (hb.mono hb2.size)
    exact ⟨put5_at hz9 _ _ _ _ _, hbw.trans ((put5_chg W (w.heap.size + 1) _ _ _ _ _).below hbw.size (fun i hi => by simp at hi; omega))⟩)
  obtain ⟨t0, t1, t2, t3, t4, tz⟩ := cellsX5 ht0
  obtain ⟨z0, z1, z2, z3, z4, zz⟩ := cellsE5 hzb
  clear hS hU hTK hTE hSd hSs hP hNM hb2 ht0 hzb hs hb hs' hb' hR hN hM hok hal hlb hmb
  by_cases h201 : 201 < N
  · have hRe := HR.out
    unfold relM at hRe
    rw [if_pos (by rw [← HN.out]; exact h201)] at hRe
    have HRE := Lib.hid hRe
    have hq : decide ((201 : Int) < (N : Int)) = true := decide_eq_true (by omega)
    clear hRe
    go_enter Tryz.func39, Tryz.ntmps39
    go_upto_region 1 with (fail)
    rw [← HW0.out]
    clear hW0
    go_wp2_with fail
    refine bodyPost_ret (results_rel _ _ (w.heap.size + 1) _ _ _ _ _ _ _ rfl rfl rfl (HBAD.out _ HRF.out).1) rfl ?_
    rw [← HRE.out]
    exact ⟨rfl, (HBAD.out _ HRF.out).2⟩
  have hq : decide ((201 : Int) < (N : Int)) = false := decide_eq_false (by omega)
  have hRb := HR.out
  unfold relM at hRb
  rw [if_neg (by rw [← HN.out]; exact h201)] at hRb
  have HRB := Lib.hid hRb
  clear hRb HR
  have hN2 : N ≤ 1048576 := by omega
  have HDC := Lib.hid (HDC.out h201)
  have HTW0 := Lib.hid (HTW.out _ HRF.out)
  by_cases hnd : ((t.attrs.map fun a => ba a.1).Nodup)
  rotate_left
  · have HRE := Lib.hid (show R = .error 15 from by rw [← HRB.out]; unfold beginM; rw [if_pos hnd])
    rw [decide_eq_false hnd] at HTW0
    go_enter Tryz.func39, Tryz.ntmps39
    go_upto_region 1 with (fail)
    rw [← HW0.out]
    clear hW0
    go_wp2_with fail
    refine HTW0.out.mono ?_
    rintro e w1 ⟨rfl, hb1⟩
    have HB1 := Lib.hid hb1
    clear z0 z1 z2 z3 z4 zz hb1
    obtain ⟨z0, z1, z2, z3, z4, zz⟩ := cellsE5 (HZB.out _ HB1.out)
    go_wp2_with fail
    refine bodyPost_ret (results_rel _ _ (w.heap.size + 1) _ _ _ _ _ _ _ rfl rfl rfl (HBAD.out _ HB1.out).1) rfl ?_
    rw [HRE.out]
    exact ⟨rfl, (HBAD.out _ HB1.out).2⟩
  rw [decide_eq_true hnd] at HTW0
  have HND := Lib.hid hnd
  obtain ⟨RD, hRD⟩ : ∃ RD, declM L t.attrs = RD := ⟨_, rfl⟩
  rw [hRD] at HDC
  have HRD := Lib.hid hRD
  clear hnd hRD
  go_enter Tryz.func39, Tryz.ntmps39
  go_upto_region 1 with (fail)
  rw [← HW0.out]
  clear hW0
  go_wp2_with fail
  refine HTW0.out.mono ?_
  rintro e w1 ⟨rfl, hb1⟩
  have HB1 := Lib.hid hb1
  clear z0 z1 z2 z3 z4 zz t0 t1 t2 t3 t4 tz hb1
  obtain ⟨z0, z1, z2, z3, z4, zz⟩ := cellsE5 (HZB.out _ HB1.out)
  obtain ⟨t0, t1, t2, t3, t4, tz⟩ := cellsX5 (HTB.out _ HB1.out)
  have HDC1 := Lib.hid (HDC.out _ HB1.out)
  cases RD with
  | none =>
    have HRE := Lib.hid (show R = .error 16 from by
      rw [← HRB.out]
      unfold beginM
      rw [if_neg (Classical.not_not.2 HND.out), HRD.out])
    go_wp2_with fail
    refine HDC1.out.mono ?_
    rintro e w2 ⟨rfl, hb2⟩
    have HB2 := Lib.hid (HB1.out.trans (hb2.mono HB1.out.size))
    clear z0 z1 z2 z3 z4 zz hb2
    obtain ⟨z0, z1, z2, z3, z4, zz⟩ := cellsE5 (HZB.out _ HB2.out)
    go_wp2_with fail
    refine bodyPost_ret (results_rel _ _ (w.heap.size + 1) _ _ _ _ _ _ _ rfl rfl rfl (HBAD.out _ HB2.out).1) rfl ?_
    rw [HRE.out]
    exact ⟨rfl, (HBAD.out _ HB2.out).2⟩
  | some L' =>
    have hLl := declM_pre _ _ _ HRD.out
    go_wp2_with fail
    refine HDC1.out.mono ?_
    rintro e w2 ⟨v2, rfl, hrb2, hb2⟩
    have HB2 := Lib.hid (HB1.out.trans (hb2.mono HB1.out.size))
    obtain ⟨p2, c2, hv2, hl2, hm2⟩ := hrb2.form
    obtain ⟨M2, hM2⟩ : ∃ M, M = L'.length := ⟨_, rfl⟩
    have hL2 : L'.length ≤ 1000000 := by
      obtain ⟨MX, rfl, hml⟩ := hLl
      rw [List.length_append]
      have := HN.out
      have := HM.out
      omega
    rw [← hM2] at hv2
    subst hv2
    have HRB2 := Lib.hid hrb2
    have HM2 := Lib.hid hM2
    clear z0 z1 z2 z3 z4 zz t0 t1 t2 t3 t4 tz hb2 hLl hM2
    obtain ⟨z0, z1, z2, z3, z4, zz⟩ := cellsE5 (HZB.out _ HB2.out)
    obtain ⟨t0, t1, t2, t3, t4, tz⟩ := cellsX5 (HTB.out _ HB2.out)
    dsimp only
    go_wp2_with fail
    refine (HSP.out _).mono ?_
    rintro e w3 ⟨rfl, hb3⟩
    have HB3 := Lib.hid (HB2.out.trans (hb3.mono HB2.out.size))
    have HRB3 := Lib.hid (HRB2.out.below hb3)
    have HNM3 := Lib.hid (rnames_c (HRB2.out.below hb3) hL2 P)
    rw [HP.out] at HNM3
    obtain ⟨RS, hRS⟩ : ∃ RS, spcM L' (splM t.name).1 = RS := ⟨_, rfl⟩
    rw [hRS] at HNM3
    have HRS := Lib.hid hRS
    clear z0 z1 z2 z3 z4 zz t0 t1 t2 t3 t4 tz hb3 hRS
    obtain ⟨z0, z1, z2, z3, z4, zz⟩ := cellsE5 (HZB.out _ HB3.out)
    obtain ⟨t0, t1, t2, t3, t4, tz⟩ := cellsX5 (HTB.out _ HB3.out)
    cases RS with
    | none =>
      have HRE := Lib.hid (show R = .error 16 from by
        rw [← HRB.out]
        unfold beginM
        rw [if_neg (Classical.not_not.2 HND.out), HRD.out]
        dsimp only
        rw [HRS.out])
      have HN4 := Lib.hid (HNM3.out.mono (R' := fun e w' => e = .returned (.tuple #[.string ⟨#[]⟩, .bool false]) ∧ w' = w3) (fun e w' hh => hh))
      clear HNM3
      go_wp2_with fail
      refine HN4.out.mono ?_
      rintro e w4 ⟨rfl, rfl⟩
      go_wp2_with fail
      refine bodyPost_ret (results_rel _ _ (w.heap.size + 1) _ _ _ _ _ _ _ rfl rfl rfl (HBAD.out _ HB3.out).1) rfl ?_
      rw [HRE.out]
      exact ⟨rfl, (HBAD.out _ HB3.out).2⟩
    | some sp =>
      obtain ⟨SP, hSP⟩ : ∃ SP : ByteArray, SP = ba sp := ⟨_, rfl⟩
      have HN4 := Lib.hid (HNM3.out.mono (R' := fun e w' => e = .returned (.tuple #[.string SP, .bool true]) ∧ w' = w3) (fun e w' hh => ⟨by rw [hSP]; exact hh.1, hh.2⟩))
      clear HNM3
      go_wp2_with fail
      refine HN4.out.mono ?_
      rintro e w4 ⟨rfl, rfl⟩
      have HSPE := Lib.hid hSP
      have htl : w.heap.size < w4.heap.size := by have := HB3.out.size; omega
      have HI0 := Lib.hid (show RpI w4 L' SP NM t.attrs 0 (.slice none 0 0) [] (w4.alloc (.cells #[.string SP, .string NM, .slice none 0 0, .slice none 0 0, .string ⟨#[]⟩] 27)) from ⟨box_belT w4 _, heap_alloc_new w4 _, World.ownsRow_nil _ _ _ _, by simp, by simp⟩)
      clear hSP
      go_wp2_with fail
      clear t0 t1 t2 t3 t4 tz z0 z1 z2 z3 z4 zz
      go_loopw [62] (fun i wr => ∃ (k : Nat) (av : Value) (ps : List PT), k ≤ N ∧ i = .int .i64 k ∧ Hid (RpI w4 L' SP NM t.attrs k av ps wr)) (fun i _ => N - (intOf i).toNat)
      case atStart => exact ⟨0, _, _, by omega, rfl, HI0⟩
      case round =>
        obtain ⟨k, av, ps, hk, rfl, HI⟩ := hrel
        have hbr := HI.out.bel
        have HWR := Lib.hid (HB3.out.trans (hbr.mono HB3.out.size))
        have HBX := Lib.hid (HBW.out _ HWR.out)
        have HRBR := Lib.hid (HRB3.out.below hbr)
        obtain ⟨pv, cv, hav⟩ := rowT_form HI.out.own
        obtain ⟨ML, hML⟩ : ∃ ML, ML = ps.length := ⟨_, rfl⟩
        rw [← hML] at hav
        subst hav
        have HML := Lib.hid hML
        have hmn : ML ≤ 1048576 := by have := HI.out.len; omega
        clear hbr hML
        by_cases hlt : k < N
        · have hkl : k < t.attrs.length := by rw [← HN.out]; exact hlt
          obtain ⟨b, o, cc, hv2, hbl, e0, e1⟩ := (HAT.out _ HWR.out).at hkl
          rw [← HN.out] at hv2
          cases hv2
          obtain ⟨m, hm⟩ : ∃ m, t.attrs[k].1 = m := ⟨_, rfl⟩
          obtain ⟨vl, hvl2⟩ : ∃ m, t.attrs[k].2 = m := ⟨_, rfl⟩
          have hnm : NmOk m := hm ▸ HOK.out _ (List.getElem_mem hkl)
          have hml : m.length ≤ 1048576 := hm ▸ HAL.out _ (List.getElem_mem hkl)
          obtain ⟨u1, hu1⟩ : ∃ u : ByteArray, u = ba m := ⟨_, rfl⟩
          obtain ⟨u2, hu2⟩ : ∃ u : ByteArray, u = ba vl := ⟨_, rfl⟩
          rw [show strLx t.attrs[k].1 = .string u1 from by rw [hm, hu1]; rfl] at e0
          rw [show strLx t.attrs[k].2 = .string u2 from by rw [hvl2, hu2]; rfl] at e1
          have hd1 : u1.data.toList = m := by rw [hu1, ba_toList]
          have HA := Lib.hid (box_belT wr (.cells #[.string u1, .string u2] 114))
          have HAB := Lib.hid (heap_alloc_new wr (.cells #[.string u1, .string u2] 114))
          have HHV := Lib.hid (fun (W : World) => halves_c W u1 (by
            have := size_data u1
            rw [hd1] at this
            omega))
          rw [hd1] at HHV
          obtain ⟨P1, hP1⟩ : ∃ P : ByteArray, P = ⟨(splM m).1.toArray⟩ := ⟨_, rfl⟩
          obtain ⟨Q1, hQ1⟩ : ∃ P : ByteArray, P = ⟨(splM m).2.toArray⟩ := ⟨_, rfl⟩
          rw [← hP1, ← hQ1] at HHV
          have tl1 : u1.toList = m := by rw [ByteArray.toList_eq, hd1]
          have tlP : P1.toList = (splM m).1 := by rw [ByteArray.toList_eq, hP1]
          have hdP : P1.data.toList = (splM m).1 := by rw [hP1]
          have HM1 := Lib.hid hm
          have HV1 := Lib.hid hvl2
          have HKL := Lib.hid hkl
          have HU2 := Lib.hid hu2
          have HQ1 := Lib.hid (show Q1 = ba (splM m).2 from hQ1)
          have hwl : w4.heap.size < wr.heap.size := (Array.getElem?_eq_some_iff.1 HI.out.box).1
          have HSK := Lib.hid (fun (h9 : (dclM m).2 = true) => pairsM_skip (L := L') (ps := ps) hkl (by rw [hm]; exact h9))
          have HST := Lib.hid (fun (h9 : (dclM m).2 = false) => pairsM_step (L := L') (ps := ps) hkl (by rw [hm]; exact h9))
          have hpm : ∀ a : List UInt8 × List UInt8, a.1 = m → a.2 = vl → pairM L' a = if (splM m).1 = [] then some (ba [], ba (splM m).2, ba vl) else match spcM L' (splM m).1 with | none => none | some s => some (ba s, ba (splM m).2, ba vl) := by
            rintro ⟨_, _⟩ rfl rfl
            rfl
          rw [hpm _ hm hvl2] at HST
          have hq2 : (∃ q, (P1.toList == [120, 109, 108, 110, 115]) = q ∧ ((u1.toList == [120, 109, 108, 110, 115]) = true ∨ q = true) ∧ (dclM m).2 = true) ∨ ((P1.toList == [120, 109, 108, 110, 115]) = false ∧ (u1.toList == [120, 109, 108, 110, 115]) = false ∧ (dclM m).2 = false) := by
            rcases dcl_of hnm with ⟨h1, h2, h3⟩ | ⟨h1, h2, h3, h4⟩ | ⟨h1, h2, h3⟩
            · exact .inl ⟨_, rfl, .inl (by rw [tl1, h1]; exact beq_self_eq_true _), by rw [h3]⟩
            · exact .inl ⟨_, rfl, .inr (by rw [tlP, h2]; exact beq_self_eq_true _), by rw [h3]⟩
            · exact .inr ⟨by rw [tlP]; exact beq_eq_false_iff_ne.2 h2, by rw [tl1]; exact beq_eq_false_iff_ne.2 h1, h3⟩
          clear hm hvl2 hnm hml hu1 hu2 hd1 hP1 hQ1 tl1 hpm
          rcases hq2 with ⟨q, hq, hq1, hd⟩ | ⟨q2, q1, hd⟩
          · have HEQ := Lib.hid (HSK.out hd)
            clear hd tlP hdP HSK HST
            cases q with
            | true =>
              clear hq1
              go_wp2_with fail
              refine (HHV.out _).mono ?_
              rintro e w5 ⟨rfl, hb5⟩
              have HB5 := Lib.hid (HA.out.trans (hb5.mono HA.out.size))
              obtain ⟨a0, a1, az⟩ := box2b HAB.out hb5
              have hal5 : wr.heap.size < w5.heap.size := by have := hb5.size; rw [World.size_alloc] at this; omega
              have HI5 := Lib.hid (HI.out.step HB5.out (Nat.le_succ k) HEQ.out)
              clear hb5
              go_wp2_with fail
              go_roundw
              case rel => exact ⟨k + 1, _, ps, by omega, by go_num, HI5⟩
              case measure => simp [intOf]; omega
            | false =>
              have q1 : (u1.toList == [120, 109, 108, 110, 115]) = true := by rcases hq1 with h9 | h9; exact h9; cases h9
              clear hq1
              go_wp2_with fail
              refine (HHV.out _).mono ?_
              rintro e w5 ⟨rfl, hb5⟩
              have HB5 := Lib.hid (HA.out.trans (hb5.mono HA.out.size))
              obtain ⟨a0, a1, az⟩ := box2b HAB.out hb5
              have hal5 : wr.heap.size < w5.heap.size := by have := hb5.size; rw [World.size_alloc] at this; omega
              have HI5 := Lib.hid (HI.out.step HB5.out (Nat.le_succ k) HEQ.out)
              clear hb5
              go_wp2_with fail
              go_roundw
              case rel => exact ⟨k + 1, _, ps, by omega, by go_num, HI5⟩
              case measure => simp [intOf]; omega
          have HST1 := Lib.hid (HST.out hd)
          clear hd HST HSK
          by_cases hp0 : (splM m).1 = []
          · have q3 : P1.toList.isEmpty = true := by rw [tlP, hp0]; rfl
            have hst := HST1.out
            rw [if_pos hp0] at hst
            have HST2 := Lib.hid hst
            clear hst hp0 tlP hdP HST1
            go_wp2_with fail
            refine (HHV.out _).mono ?_
            rintro e w5 ⟨rfl, hb5⟩
            have HB5 := Lib.hid (HA.out.trans (hb5.mono HA.out.size))
            obtain ⟨a0, a1, az⟩ := box2b HAB.out hb5
            have hal5 : wr.heap.size < w5.heap.size := by have := hb5.size; rw [World.size_alloc] at this; omega
            have HI5 := Lib.hid (HI.out.step HB5.out (Nat.le_refl k) rfl)
            obtain ⟨x0, x1, x2, x3, x4, xz⟩ := cellsE5 HI5.out.box
            have hwl5 : w4.heap.size < w5.heap.size := by omega
            have HA6 := Lib.hid ((box_belT w5 (.cells #[.string ⟨#[]⟩, .string Q1, .string u2] 58)).trans ((box_belT (w5.alloc (.cells #[.string ⟨#[]⟩, .string Q1, .string u2] 58)) (.cells #[.string ⟨#[]⟩, .string Q1, .string u2] 58)).mono (by simp)))
            have HOW := Lib.hid (show w5.ownsRow w4.heap.size 58 3 (.slice pv ML cv) ML (pcells ps) from by
              have h9 := HI5.out.own
              rwa [← HML.out] at h9)
            clear hb5
            go_wp2_with (at_builtin; go_loud (refine wpList_append_lies _ (by rfl) _ _ 24 (by rfl) w4.heap.size 58 i0 (.agg #[.string ⟨#[]⟩, .string ⟨#[]⟩, .string ⟨#[]⟩]) 3 48 Tryz.underlying24 hi hz0 hz1 hz2 rfl (by omega) (.slice pv ML cv) ML (pcells ps) (by rfl) (rowT_below HOW.out (by first | exact HA6.out | exact HA6.out.drew | exact Go.below_drewN HA6.out _)) ⟨w5.heap.size + 1, 0, none⟩ 1 1 [.string ⟨#[]⟩, .string Q1, .string u2] (by rfl) (by simp) (World.news_of_block (by simpa using heap_alloc_new (w5.alloc (.cells #[.string ⟨#[]⟩, .string Q1, .string u2] 58)) (.cells #[.string ⟨#[]⟩, .string Q1, .string u2] 58))) (by simp [Value.oneCell']) (by omega) (by unfold maxLen; omega) (by omega) (by simp; omega) (w5.heap.size + 2) (by simp) ?_))
            intro g6 cap6 w6 hown6 hgrow6 hat6 hlt6
            have hpu := RpI.push HI5.out HA6.out (ba [], ba (splM m).2, ba vl) hgrow6 (by rw [← HQ1.out, ← HU2.out]; exact hown6) (by rw [HML.out]) HST2.out
            have HPU := Lib.hid hpu.1
            clear x0 x1 x2 x3 x4 xz a0 a1 az
            obtain ⟨x0, x1, x2, x3, x4, xz⟩ := cellsE5 hpu.2
            clear hown6 hgrow6 hat6 hpu
            go_wp2_with fail
            go_roundw
            case rel => exact ⟨k + 1, _, _, by omega, by go_num, HPU⟩
            case measure => simp [intOf]; omega
          · have q3 : P1.toList.isEmpty = false := by
              rw [tlP, ← Bool.not_eq_true, List.isEmpty_iff]
              exact hp0
            have hst := HST1.out
            rw [if_neg hp0] at hst
            obtain ⟨RN, hRN⟩ : ∃ RN, spcM L' (splM m).1 = RN := ⟨_, rfl⟩
            rw [hRN] at hst
            have HST2 := Lib.hid hst
            have HNMX := Lib.hid (fun (W : World) (hb : Below wr.heap.size wr W) => rnames_c (HRBR.out.below hb) hL2 P1)
            rw [hdP, hRN] at HNMX
            have HNMY := Lib.hid (fun (W : World) (hb : Below wr.heap.size wr W) => show Calls Tryz.prog 73 #[.slice p2 M2 c2, .string P1] W (NmE W RN) from HNMX.out W hb)
            clear hst hp0 tlP hdP HST1 HNMX hRN
            go_wp2_with fail
            refine (HHV.out _).mono ?_
            rintro e w5 ⟨rfl, hb5⟩
            have HB5 := Lib.hid (HA.out.trans (hb5.mono HA.out.size))
            obtain ⟨a0, a1, az⟩ := box2b HAB.out hb5
            have hal5 : wr.heap.size < w5.heap.size := by have := hb5.size; rw [World.size_alloc] at this; omega
            have HI5 := Lib.hid (HI.out.step HB5.out (Nat.le_refl k) rfl)
            obtain ⟨x0, x1, x2, x3, x4, xz⟩ := cellsE5 HI5.out.box
            have hwl5 : w4.heap.size < w5.heap.size := by omega
            have HN5 := Lib.hid (HNMY.out (w5.alloc (.cells #[.string ⟨#[]⟩, .string Q1, .string u2] 58)) (HB5.out.trans ((box_belT w5 _).mono HB5.out.size)))
            clear hb5
            cases RN with
            | none =>
              have HE := Lib.hid (show R = .error 16 from by
                rw [← HRB.out]
                unfold beginM
                rw [if_neg (Classical.not_not.2 HND.out), HRD.out]
                dsimp only
                rw [HRS.out]
                dsimp only
                rw [HI.out.eq, HST2.out])
              have HN6 := Lib.hid (HN5.out.mono (R' := fun e w' => e = .returned (.tuple #[.string ⟨#[]⟩, .bool false]) ∧ w' = w5.alloc (.cells #[.string ⟨#[]⟩, .string Q1, .string u2] 58)) (fun e w' hh => hh))
              have HW5 := Lib.hid (HWR.out.trans ((HB5.out.trans ((box_belT w5 (.cells #[.string ⟨#[]⟩, .string Q1, .string u2] 58)).mono HB5.out.size)).mono HWR.out.size))
              obtain ⟨z0, z1, z2, z3, z4, zz⟩ := cellsE5 (HZB.out _ (HWR.out.trans (HB5.out.mono HWR.out.size)))
              have hzl : w.heap.size + 1 < w5.heap.size := (Array.getElem?_eq_some_iff.1 (HZB.out _ (HWR.out.trans (HB5.out.mono HWR.out.size)))).1
              have HB9 := Lib.hid (HBAD.out _ (HWR.out.trans (HB5.out.mono HWR.out.size)))
              clear HN5
              go_wp2_with fail
              refine HN6.out.mono ?_
              rintro e w6 ⟨rfl, rfl⟩
              go_wp2_with fail
              have hba := box_belT (put5 w5 (w.heap.size + 1) (.string ⟨#[]⟩) (.string ⟨#[]⟩) (.slice none 0 0) (.slice none 0 0) (.string ⟨#[]⟩)) (.cells #[.string ⟨#[]⟩, .string Q1, .string u2] 58)
              refine bodyPost_ret (results_rel _ _ (w.heap.size + 1) _ _ _ _ _ _ _ rfl rfl rfl ((hba.block _ (Array.getElem?_eq_some_iff.1 HB9.out.1).1).trans HB9.out.1)) rfl ?_
              rw [HE.out]
              exact ⟨rfl, HB9.out.2.trans (hba.mono HB9.out.2.size)⟩
            | some sn =>
              obtain ⟨SN, hSN⟩ : ∃ SN : ByteArray, SN = ba sn := ⟨_, rfl⟩
              have HN6 := Lib.hid (HN5.out.mono (R' := fun e w' => e = .returned (.tuple #[.string SN, .bool true]) ∧ w' = w5.alloc (.cells #[.string ⟨#[]⟩, .string Q1, .string u2] 58)) (fun e w' hh => ⟨by rw [hSN]; exact hh.1, hh.2⟩))
              have HSN := Lib.hid hSN
              have HXB := Lib.hid (heap_alloc_new w5 (.cells #[.string ⟨#[]⟩, .string Q1, .string u2] 58))
              clear HN5 hSN
              go_wp2_with fail
              refine HN6.out.mono ?_
              rintro e w6 ⟨rfl, rfl⟩
              obtain ⟨y0, y1, y2, yz⟩ := box3b HXB.out (Below.refl _ _)
              have HA6 := Lib.hid ((box_belT w5 (.cells #[.string SN, .string Q1, .string u2] 58)).trans ((box_belT (w5.alloc (.cells #[.string SN, .string Q1, .string u2] 58)) (.cells #[.string SN, .string Q1, .string u2] 58)).mono (by simp)))
              have HOW := Lib.hid (show w5.ownsRow w4.heap.size 58 3 (.slice pv ML cv) ML (pcells ps) from by
                have h9 := HI5.out.own
                rwa [← HML.out] at h9)
              go_wp2_with (at_builtin; go_loud (refine wpList_append_lies _ (by rfl) _ _ 24 (by rfl) w4.heap.size 58 i0 (.agg #[.string ⟨#[]⟩, .string ⟨#[]⟩, .string ⟨#[]⟩]) 3 48 Tryz.underlying24 hi hz0 hz1 hz2 rfl (by omega) (.slice pv ML cv) ML (pcells ps) (by rfl) (rowT_below HOW.out (by first | exact HA6.out | exact HA6.out.drew | exact Go.below_drewN HA6.out _)) ⟨w5.heap.size + 1, 0, none⟩ 1 1 [.string SN, .string Q1, .string u2] (by rfl) (by simp) (World.news_of_block (by simpa using heap_alloc_new (w5.alloc (.cells #[.string SN, .string Q1, .string u2] 58)) (.cells #[.string SN, .string Q1, .string u2] 58))) (by simp [Value.oneCell']) (by omega) (by unfold maxLen; omega) (by omega) (by simp; omega) (w5.heap.size + 2) (by simp) ?_))
              intro g6 cap6 w6 hown6 hgrow6 hat6 hlt6
              have hpu := RpI.push HI5.out HA6.out (ba sn, ba (splM m).2, ba vl) hgrow6 (by rw [← HQ1.out, ← HU2.out, ← HSN.out]; exact hown6) (by rw [HML.out]) HST2.out
              have HPU := Lib.hid hpu.1
              clear x0 x1 x2 x3 x4 xz a0 a1 az y0 y1 y2 yz
              obtain ⟨x0, x1, x2, x3, x4, xz⟩ := cellsE5 hpu.2
              clear hown6 hgrow6 hat6 hpu
              go_wp2_with fail
              go_roundw
              case rel => exact ⟨k + 1, _, _, by omega, by go_num, HPU⟩
              case measure => simp [intOf]; omega
        · have hkN : k = N := by omega
          have HPE := Lib.hid (show pairsM L' [] t.attrs = some ps from by rw [HI.out.eq, List.drop_of_length_le (by rw [← HN.out]; omega)]; rfl)
          have H1 := Lib.hid (HI.out.give (w := w) (by have := HB3.out.size; omega) (Below.refl _ _))
          have HKB := Lib.hid (show (if ¬ (keysL ps).Nodup then Except.error 15 else Except.ok ((SP, NM, ps), L')) = R from by
            rw [← HRB.out]
            unfold beginM
            rw [if_neg (Classical.not_not.2 HND.out), HRD.out]
            dsimp only
            rw [HRS.out]
            dsimp only
            rw [HPE.out, HSPE.out, HNM.out])
          have hcm : ML ≤ cv ∧ cv ≤ 9223372036854775807 := by
            obtain ⟨_, _, h8, h9, h10, _⟩ := (OwnS.ofRow HI.out.own).form
            cases h8
            have := HML.out
            unfold maxLen at h10
            omega
          obtain ⟨hcm1, hcm2⟩ := hcm
          obtain ⟨wo, hwo⟩ : ∃ wo, wo = wr := ⟨_, rfl⟩
          subst hwo
          obtain ⟨x0, x1, x2, x3, x4, xz⟩ := cellsE5 HI.out.box
          clear hkN
          go_wp2_with fail
          clear x0 x1 x2 x3 x4 xz
          go_loopw [106] (fun i wr => ∃ k2 : Nat, k2 ≤ ML ∧ i = .int .i64 k2 ∧ Hid ((keysL (ps.take k2)).Nodup) ∧ Below wo.heap.size wo wr) (fun i _ => ML - (intOf i).toNat)
          case atStart => exact ⟨0, by omega, rfl, Lib.hid (by simp [keysL]), Below.refl _ _⟩
          case round =>
            obtain ⟨wp, hwp⟩ : ∃ wp, wp = wr := ⟨_, rfl⟩
            subst hwp
            obtain ⟨k2, hk2, rfl, HK2, hbr⟩ := hrel
            have HBR := Lib.hid hbr
            have hbx2 := (hbr.block _ (Array.getElem?_eq_some_iff.1 HI.out.box).1).trans HI.out.box
            obtain ⟨x0, x1, x2, x3, x4, xz⟩ := cellsE5 hbx2
            have hel2 := (Array.getElem?_eq_some_iff.1 hbx2).1
            have HBX2 := Lib.hid hbx2
            clear hbr hbx2
            by_cases hlt2 : k2 < ML
            · have hkl2 : k2 < ps.length := by rw [← HML.out]; exact hlt2
              obtain ⟨b, o, cc, hv2, hbl, -, c0, c1, c2⟩ := H1.out.at' hkl2
              rw [← HML.out] at hv2
              cases hv2
              have e0 := (HBR.out.cell (p := ⟨b, o + k2 * 3, none⟩) hbl).trans c0
              have e1 := (HBR.out.cell (p := ⟨b, o + k2 * 3 + 1, none⟩) hbl).trans c1
              have e2 := (HBR.out.cell (p := ⟨b, o + k2 * 3 + 2, none⟩) hbl).trans c2
              obtain ⟨x, hx⟩ : ∃ x, ps[k2] = x := ⟨_, rfl⟩
              rw [hx] at e0 e1 e2
              obtain ⟨m1, m2, m3⟩ := x
              dsimp only at e0 e1 e2
              have HKX := Lib.hid (show ps[k2].1 = m1 ∧ ps[k2].2.1 = m2 from by rw [hx]; exact ⟨rfl, rfl⟩)
              have HX3 := Lib.hid (heap_alloc_new wp (.cells #[.string m1, .string m2, .string m3] 58))
              have HZ3 := Lib.hid (box_belT wp (.cells #[.string m1, .string m2, .string m3] 58))
              have HKL2 := Lib.hid hkl2
              have hkc : k2 ≤ cv := by omega
              clear c0 c1 c2 hx
              go_wp2_with fail
              clear e0 e1 e2 x0 x1 x2 x3 x4 xz
              go_loopw [116] (fun i wr2 => ∃ j : Nat, j ≤ k2 ∧ i = .int .i64 j ∧ Hid (keyIn (ps.take j) m1 m2 = false) ∧ Below (wp.alloc (.cells #[.string m1, .string m2, .string m3] 58)).heap.size (wp.alloc (.cells #[.string m1, .string m2, .string m3] 58)) wr2) (fun i _ => k2 - (intOf i).toNat)
              case atStart => exact ⟨0, by omega, rfl, Lib.hid (by simp [keyIn]), Below.refl _ _⟩
              case round =>
                obtain ⟨j, hj, rfl, HKI, hb⟩ := hrel
                have HB4 := Lib.hid hb
                have HW4 := Lib.hid (HBR.out.trans ((HZ3.out.trans (hb.mono HZ3.out.size)).mono HBR.out.size))
                obtain ⟨c0, c1, c2, cz⟩ := box3b HX3.out hb
                have hlb : wp.heap.size < wr.heap.size := by have := hb.size; rw [World.size_alloc] at this; omega
                clear hb
                by_cases hlj : j < k2
                · have hjl : j < ps.length := by rw [← HML.out]; omega
                  obtain ⟨b', o', cc', hv3, hbl', -, g0, g1, g2⟩ := H1.out.at' hjl
                  rw [← HML.out] at hv3
                  cases hv3
                  have e0 := (HW4.out.cell (p := ⟨b, o + j * 3, none⟩) hbl').trans g0
                  have e1 := (HW4.out.cell (p := ⟨b, o + j * 3 + 1, none⟩) hbl').trans g1
                  have e2 := (HW4.out.cell (p := ⟨b, o + j * 3 + 2, none⟩) hbl').trans g2
                  have HNX := Lib.hid (fun hx => keyIn_next hjl HKI.out hx)
                  have HBD := Lib.hid (fun hx => nd_bad HKL2.out hlj HKX.out hx)
                  clear g0 g1 g2
                  obtain ⟨y, hy⟩ : ∃ y, ps[j] = y := ⟨_, rfl⟩
                  rw [hy] at e0 e1 e2 HNX HBD
                  obtain ⟨y1, y2, y3⟩ := y
                  dsimp only at e0 e1 e2 HNX HBD
                  obtain ⟨b8, t8⟩ : ∃ b, (m1.toList == y1.toList) = b := ⟨_, rfl⟩
                  obtain ⟨b9, t9⟩ : ∃ b, (m2.toList == y2.toList) = b := ⟨_, rfl⟩
                  rw [t8, t9] at HNX HBD
                  have HB5 := Lib.hid (HB4.out.alloc HB4.out.size (.cells #[.string y1, .string y2, .string y3] 58))
                  clear hy hjl
                  cases b8
                  · have HE := Lib.hid (HNX.out rfl)
                    go_wp2_with fail
                    go_roundw
                    case rel => exact ⟨j + 1, by omega, by go_num, HE, HB5.out⟩
                    case measure => simp [intOf]; omega
                  · cases b9
                    · have HE := Lib.hid (HNX.out rfl)
                      go_wp2_with fail
                      go_roundw
                      case rel => exact ⟨j + 1, by omega, by go_num, HE, HB5.out⟩
                      case measure => simp [intOf]; omega
                    · have HE := Lib.hid (show R = .error 15 from by
                        rw [← HKB.out, if_pos (of_decide_eq_false (HBD.out rfl))])
                      have HWZ := Lib.hid (HWR.out.trans (HW4.out.mono HWR.out.size))
                      obtain ⟨z0, z1, z2, z3, z4, zz⟩ := cellsE5 (HZB.out _ HWZ.out)
                      have hzl : w.heap.size + 1 < wr.heap.size := (Array.getElem?_eq_some_iff.1 (HZB.out _ HWZ.out)).1
                      have HB9 := Lib.hid (HBAD.out _ HWZ.out)
                      go_wp2_with fail
                      have hba := box_belT (put5 wr (w.heap.size + 1) (.string ⟨#[]⟩) (.string ⟨#[]⟩) (.slice none 0 0) (.slice none 0 0) (.string ⟨#[]⟩)) (.cells #[.string y1, .string y2, .string y3] 58)
                      refine bodyPost_ret (results_rel _ _ (w.heap.size + 1) _ _ _ _ _ _ _ rfl rfl rfl ((hba.block _ (Array.getElem?_eq_some_iff.1 HB9.out.1).1).trans HB9.out.1)) rfl ?_
                      rw [HE.out]
                      exact ⟨rfl, HB9.out.2.trans (hba.mono HB9.out.2.size)⟩
                · have HND2 := Lib.hid (nd_next HKL2.out HKX.out HK2.out (by have := HKI.out; rwa [show j = k2 by omega] at this))
                  go_wp2_with fail
                  go_roundw
                  case rel => exact ⟨k2 + 1, by omega, by go_num, HND2, HW4.out⟩
                  case measure => simp [intOf]; omega
            · have HE := Lib.hid (show R = .ok ((SP, NM, ps), L') from by
                have h9 := HK2.out
                rw [List.take_of_length_le (by rw [← HML.out]; omega)] at h9
                rw [← HKB.out, if_neg (Classical.not_not.2 h9)])
              have HWZ := Lib.hid (HWR.out.trans (HBR.out.mono HWR.out.size))
              obtain ⟨z0, z1, z2, z3, z4, zz⟩ := cellsE5 (HZB.out _ HWZ.out)
              have hzl : w.heap.size + 1 < wp.heap.size := (Array.getElem?_eq_some_iff.1 (HZB.out _ HWZ.out)).1
              have HFN := Lib.hid (rel_end (w := w) (HBW.out _ HWZ.out) (HZB.out _ HWZ.out) (by have := HB3.out.size; omega) (HI.out.give (w := w4) (Nat.le_refl _) HBR.out) (HRBR.out.below HBR.out) (.string SP) (.string NM) (.slice none 0 0) (.string ⟨#[]⟩))
              go_wp2_with fail
              refine bodyPost_ret (results_rel _ _ (w.heap.size + 1) _ _ _ _ _ _ _ rfl rfl rfl HFN.out.1) rfl ?_
              rw [HE.out]
              exact ⟨_, _, rfl, HFN.out.2.1, HFN.out.2.2.1, HFN.out.2.2.2⟩
end Go.Proofs.YtpcajjbdlfookaaGreatDoor
