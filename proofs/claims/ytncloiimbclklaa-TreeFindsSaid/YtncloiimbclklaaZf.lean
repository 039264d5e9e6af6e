/- Cases: a copy of a case (the reference's). Written by tools/genzf.py. -/
import Derived.Test.YtncloiimbclklaaZe
import Derived.Deep.AppendLies
import Derived.Deep.RegionLaw
import Derived.Deep.QuietTactic
namespace Go.Proofs.Ytncloiimbclklaa
open Go Go.RowKit Go.Shelf
set_option linter.unusedVariables false
set_option linter.unusedSimpArgs false

theorem InstsOwn.grow {W W' : World} {base b n s : Nat} {e : TypeId} {v vI : Value} {l : List IV} {xs : List Value} (h : InstsOwn W base vI l) (h1 : e ≠ 30) (h2 : e ≠ 3) (hr : W.ownsRow b e s v n xs) (hg : W.grownBy W' v.ownBlock) : InstsOwn W' base vI l := by
  obtain ⟨l', k1, k2, k3⟩ := h
  exact ⟨l', k1, ownr_keep k2 fun g hb => hg.block g (ownr_lt k2 g hb).2 (own_apart h1 hr (OwnS.ofRow k2) g hb), fun x hx => own_grow h2 hr (k3 x hx) hg⟩
set_option maxRecDepth 100000 in
set_option maxHeartbeats 2000000 in
theorem rcopy_c (w : World) (c : CV) (h : CVok w c) (hs : ∀ x ∈ c.insts, x.ls.length ≤ 40) (hs2 : ∀ x ∈ c.docs, x.rs.length ≤ 40) (hc4 : c.insts.length ≤ 40) (hd4 : c.docs.length ≤ 100) : Calls Try.prog 21 #[c.val] w (CopyC w c) := by
  obtain ⟨i0, hi, hz0, hz1, hz2⟩ := info_parts infoInst
  obtain ⟨i1, hi1, hz10, hz11, hz12⟩ := info_parts infoDoc
  have HI := Lib.hid h.insts
  have HD := Lib.hid h.docs
  have hl := h.insts.1
  have hl2 := h.docs.1
  have HS := Lib.hid hs
  have HS2 := Lib.hid hs2
  obtain ⟨id, mo, iv, dv, cl, is, ds⟩ := c
  dsimp only at HI HD HS HS2 hl hl2 hc4 hd4
  obtain ⟨a, ca, hiv, hn1, hn2, _, _⟩ := hl
  obtain ⟨a2, ca2, hdv, hm1, hm2, _, _⟩ := hl2
  subst hiv hdv
  have HC4 := Lib.hid hc4
  have HD4 := Lib.hid hd4
  have hni : is.length ≤ 9223372036854775807 := by omega
  have hnd : ds.length ≤ 9223372036854775807 := by omega
  unfold CV.val
  dsimp only
  obtain ⟨w0, hw0⟩ : ∃ x, x = (w.alloc (.cells #[.int .i64 id, .string mo, .slice a is.length ca, .slice a2 ds.length ca2, .int .i64 cl] 25)).alloc (.cells #[.int .i64 0, .string ⟨#[]⟩, .slice none 0 0, .slice none 0 0, .int .i64 0] 25) := ⟨_, rfl⟩
  have HBW := Lib.hid (show Below w.heap.size w w0 from by rw [hw0]; exact (box_bel' w _).alloc (box_bel' w _).size _)
  have HQ := Lib.hid (show w0.heap[w.heap.size]? = some (.cells #[.int .i64 id, .string mo, .slice a is.length ca, .slice a2 ds.length ca2, .int .i64 cl] 25 (0, 0)) from by rw [hw0]; exact two_old w _ _)
  have HQ2 := Lib.hid (show w0.heap[w.heap.size + 1]? = some (.cells #[.int .i64 0, .string ⟨#[]⟩, .slice none 0 0, .slice none 0 0, .int .i64 0] 25 (0, 0)) from by rw [hw0]; exact two_new w _ _)
  have HSW := Lib.hid (show w0.heap.size = w.heap.size + 2 from by rw [hw0]; simp)
  have HW0 := Lib.hid hw0
  clear h hs hs2 hn1 hn2 hm1 hm2 hc4 hd4 hw0
  go_enter Try.func21, Try.ntmps21
  go_wp2_with fail
  rw [← HW0.out]
  obtain ⟨d0, d1, d2, d3, d4, dz⟩ := cells5 HQ.out
  go_quiet (fail)
  go_wp2_with fail
  obtain ⟨wS, hwS⟩ : ∃ x, x = ((w0.drewN nq).setCell ⟨w.heap.size, 2, none⟩ (.slice none 0 0)).setCell ⟨w.heap.size, 3, none⟩ (.slice none 0 0) := ⟨_, rfl⟩
  have HBS := Lib.hid (show Below w.heap.size w wS from by rw [hwS]; exact ((below_drewN HBW.out _).setCell (p := ⟨w.heap.size, 2, none⟩) (Nat.le_refl _) _).setCell (p := ⟨w.heap.size, 3, none⟩) (Nat.le_refl _) _)
  have HQS := Lib.hid (show wS.heap[w.heap.size]? = some (.cells #[.int .i64 id, .string mo, .slice none 0 0, .slice none 0 0, .int .i64 cl] 25 (0, 0)) from by rw [hwS]; exact cells5w (w := w0.drewN nq) HQ.out _ _)
  have HQS2 := Lib.hid (show wS.heap[w.heap.size + 1]? = some (.cells #[.int .i64 0, .string ⟨#[]⟩, .slice none 0 0, .slice none 0 0, .int .i64 0] 25 (0, 0)) from by rw [hwS]; exact (set2_far (w := w0.drewN nq) _ _ (by omega)).trans HQ2.out)
  have HSS := Lib.hid (show w.heap.size + 2 ≤ wS.heap.size from by rw [hwS]; have := HSW.out; simp [World.size_setCell]; omega)
  rw [← hwS]
  clear hwS d0 d1 d2 d3 d4 dz
  go_loopw [17] (fun i wr => ∃ (k : Nat) (v : Value), k ≤ is.length ∧ i = .int .i64 k ∧ InstsOwn wr (w.heap.size + 2) v (is.take k) ∧ wr.heap[w.heap.size]? = some (.cells #[.int .i64 id, .string mo, v, .slice none 0 0, .int .i64 cl] 25 (0, 0)) ∧ wr.heap[w.heap.size + 1]? = some (.cells #[.int .i64 0, .string ⟨#[]⟩, .slice none 0 0, .slice none 0 0, .int .i64 0] 25 (0, 0)) ∧ w.heap.size + 2 ≤ wr.heap.size ∧ Below w.heap.size w wr) (fun i _ => is.length - (intOf i).toNat)
  case atStart => exact ⟨0, _, by omega, rfl, InstsOwn.nil _ _, HQS.out, HQS2.out, HSS.out, HBS.out⟩
  case round =>
    obtain ⟨k, v, hk, rfl, hall, hq, hq2, hsz, hbr⟩ := hrel
    have HAL := Lib.hid hall
    have HQR := Lib.hid hq
    have HQR2 := Lib.hid hq2
    have HBR := Lib.hid hbr
    have HSZ := Lib.hid hsz
    obtain ⟨l', hb1, hown, hls⟩ := hall
    obtain ⟨pv, cv, hv, _⟩ := (OwnS.ofRow hown).form
    subst hv
    have HB1 := Lib.hid hb1
    have HOW := Lib.hid hown
    have HLS := Lib.hid hls
    have hll : l'.length ≤ is.length := by
      have := congrArg List.length hb1
      simp only [List.length_map] at this
      rw [List.length_take] at this
      omega
    clear hbr hb1 hown hls hq hq2 hsz
    by_cases hlt : k < is.length
    · obtain ⟨x, hx⟩ : ∃ x, x = is[k] := ⟨_, rfl⟩
      have hrow : rowI is k = x.cells := by unfold rowI; rw [List.getElem?_eq_getElem hlt, ← hx]; rfl
      have hxo := (HI.out.2 x (by rw [hx]; exact List.getElem_mem hlt)).below HBR.out
      have HXO := Lib.hid hxo
      have HX4 := Lib.hid (HS.out x (by rw [hx]; exact List.getElem_mem hlt))
      have HN := Lib.hid (show is.take (k + 1) = is.take k ++ [x] from by rw [List.take_succ_eq_append_getElem hlt, hx])
      have HC := Lib.hid (fun (W : World) (hb : Below wr.heap.size wr W) => rcopied_c W x (HXO.out.below hb) HX4.out)
      obtain ⟨pl, cp, hlv⟩ := hxo.rl.form
      obtain ⟨path, item, st, bf, lv, ls, due⟩ := x
      dsimp only at hlv HX4
      subst hlv
      unfold IV.cells at HC
      dsimp only at HC
      obtain ⟨g, o, ha, hg, c0, c1, c2, c3, c4, c5⟩ := (HI.out.1.below HBR.out).row hlt hrow
      subst ha
      have HBX := Lib.hid (fun o => box_bel' wr o)
      obtain ⟨e0, e1, e2, e3, e4, ez⟩ := cells5 HQR.out
      obtain ⟨f0, f1, f2, f3, f4, f5, fz⟩ := cells6 (heap_alloc_new wr (.cells #[.string path, .string item, .int .i64 st, .int .i64 bf, .slice pl (icells ls).length cp, .int .i64 due] 30))
      have hez : (wr.alloc (.cells #[.string path, .string item, .int .i64 st, .int .i64 bf, .slice pl (icells ls).length cp, .int .i64 due] 30)).cell? ⟨w.heap.size, 2, none⟩ = some (.slice pv l'.length cv) := ((HBX.out _).cell (p := ⟨w.heap.size, 2, none⟩) (Array.getElem?_eq_some_iff.1 HQR.out).1).trans e2
      clear hrow hxo hx
      go_wp2_with fail
      go_region_law (first
        | (go_simp
           go_at_call 31
           refine (HC.out _ ?_).mono ?_
           · first | exact HBX.out _ | exact (HBX.out _).drew | exact below_drewN (HBX.out _) _
           rintro e w3 ⟨v', rfl, hown3, hb3⟩
           dsimp only at hown3
           obtain ⟨pa, cc, hv', _⟩ := hown3.form
           subst hv'
           have hb4 : Below (wr.heap.size + 1) (wr.alloc (.cells #[.string path, .string item, .int .i64 st, .int .i64 bf, .slice pl (icells ls).length cp, .int .i64 due] 30)) w3 := by
             first
               | exact hb3.mono (by simp)
               | exact (Below.refl _ _).drew.trans (hb3.mono (by simp))
               | exact (below_drewN (Below.refl _ _) _).trans (hb3.mono (by simp))
           have hb5 : Below wr.heap.size wr w3 := (HBX.out _).trans (hb4.mono (by omega))
           have HB5 := Lib.hid hb5
           have HO3 := Lib.hid (hown3.up (b' := w.heap.size + 2) (by have := HSZ.out; simp; omega))
           have hq5 := (hb5.block w.heap.size (Array.getElem?_eq_some_iff.1 HQR.out).1).trans HQR.out
           have HQ5 := Lib.hid hq5
           obtain ⟨q0, q1, q2, q3, q4, qz⟩ := cells5 hq5
           have r2 := (((Below.refl w3.heap.size w3).alloc (Nat.le_refl _) (.cells #[.string path, .string item, .int .i64 st, .int .i64 bf, .slice pa ls.length cc, .int .i64 due] 30)).cell (p := ⟨w.heap.size, 2, none⟩) (Array.getElem?_eq_some_iff.1 hq5).1).trans q2
           have HOW3 := Lib.hid (ownr_below HOW.out hb5)
           have HA := Lib.hid ((Below.refl w3.heap.size w3).alloc (Nat.le_refl _) (.cells #[.string path, .string item, .int .i64 st, .int .i64 bf, .slice pa ls.length cc, .int .i64 due] 30))
           clear hown3 hb3 hb4 hb5 hq5)
        | (refine step_append_lies _ (by rfl) _ _ 22 (by rfl) (w.heap.size + 2) 30 i0 (.agg #[.string ⟨#[]⟩, .string ⟨#[]⟩, .int .i64 0, .int .i64 0, .slice none 0 0, .int .i64 0]) 6 80 Try.underlying22 hi hz0 hz1 hz2 rfl (by omega) (.slice pv l'.length cv) l'.length (flatI l') (by rfl) (ownr_below HOW3.out (by first | exact HA.out | exact HA.out.drew | exact below_drewN HA.out _)) ⟨w3.heap.size, 0, none⟩ 1 1 [.string path, .string item, .int .i64 st, .int .i64 bf, .slice pa ls.length cc, .int .i64 due] (by rfl) (by simp) (World.news_of_block (heap_alloc_new w3 _)) (by simp [Value.oneCell']) (by omega) (by have := HC4.out; unfold maxLen; omega) (by have := HC4.out; omega) (by have := HSZ.out; have := HB5.out.size; simp; omega) (w3.heap.size + 1) (by simp) ?_
           intro g6 cap6 w6 hown6 hgrow6 hat6 hlt6
           have HOW6 := Lib.hid hown6
           have HG6 := Lib.hid hgrow6
           have hq6 : w6.heap[w.heap.size]? = some (.cells #[.int .i64 id, .string mo, .slice pv l'.length cv, .slice none 0 0, .int .i64 cl] 25 (0, 0)) := (hgrow6.block w.heap.size (by have := HSZ.out; have := HB5.out.size; simp; omega) (fun e => by have := (ownr_lt HOW.out w.heap.size e.symm).1; omega)).trans (((HA.out.block w.heap.size (by have := HSZ.out; have := HB5.out.size; omega))).trans HQ5.out)
           have HQ6 := Lib.hid hq6
           obtain ⟨t0, t1, t2, t3, t4, tz⟩ := cells5 hq6
           clear hown6 hgrow6 hat6 hlt6 hq6)
        | fail "no arm")
      all_goals
        clear t0 t1 t2 t3 t4 tz q0 q1 q2 q3 q4 qz f0 f1 f2 f3 f4 f5 fz e0 e1 e2 e3 e4 ez c0 c1 c2 c3 c4 c5 r2 hez
        go_wp2_with fail
        go_roundw
        case rel =>
          have hgr : (w3.alloc (.cells #[.string path, .string item, .int .i64 st, .int .i64 bf, .slice pa ls.length cc, .int .i64 due] 30)).grownBy w6 (Value.slice pv l'.length cv).ownBlock := HG6.out
          have hp := InstsOwn.push (y := ⟨path, item, st, bf, .slice pl (icells ls).length cp, ls, due⟩) (x := ⟨path, item, st, bf, .slice pa ls.length cc, ls, due⟩) (l := is.take k) (W1 := w3) HB1.out HOW.out HLS.out HB5.out HO3.out rfl HOW6.out hgr
          rw [← HN.out] at hp
          have hfar : ∀ b, b ≠ w.heap.size → (w6.setCell ⟨w.heap.size, 2, none⟩ (.slice (some ⟨g6, 0, none⟩) (l'.length + 1) cap6)).heap[b]? = w6.heap[b]? := fun b hb => Below.heap_setCell _ _ _ _ hb
          have hs6 : w.heap.size + 2 ≤ w6.heap.size := by have := HSZ.out; have := HB5.out.size; have := hgr.size; simp at this; omega
          have hb6 : Below w.heap.size w w6 := ((HBR.out.trans (HB5.out.mono HBR.out.size)).trans (HA.out.mono (Nat.le_trans HBR.out.size HB5.out.size))).grown hgr (by have := HSZ.out; have := HB5.out.size; simp; omega) (fun g hg => by have := (ownr_lt HOW.out g hg).1; omega)
          refine ⟨k + 1, _, by omega, by go_num, InstsOwn.far hp (by decide) (by decide) HQ6.out hfar, by simp [World.setCell, Array.getElem?_modify, HQ6.out], ?_, by simpa [World.size_setCell] using hs6, hb6.setCell (p := ⟨w.heap.size, 2, none⟩) (Nat.le_refl _) _⟩
          exact (hfar _ (by omega)).trans ((hgr.block (w.heap.size + 1) (by have := HSZ.out; have := HB5.out.size; simp; omega) (fun e => by have := (ownr_lt HOW.out _ e.symm).1; omega)).trans ((HA.out.block (w.heap.size + 1) (by have := HSZ.out; have := HB5.out.size; omega)).trans ((HB5.out.block (w.heap.size + 1) (by have := HSZ.out; omega)).trans HQR2.out)))
        case measure => simp [intOf]; omega
    · have HIO := Lib.hid (show InstsOwn wr (w.heap.size + 2) (.slice pv l'.length cv) is from by have := HAL.out; rwa [List.take_of_length_le (by omega)] at this)
      go_wp2_with fail
      have HQ7 := Lib.hid HQR.out
      have HQ8 := Lib.hid HQR2.out
      have HB7 := Lib.hid HBR.out
      have HS7 := Lib.hid HSZ.out
      clear hlt hll HQR HQR2 HBR HSZ HAL HB1 HOW HLS HBS HQS HQS2 HSS hk
      generalize l'.length = nI at *
      clear l'
      obtain ⟨pI, hpI⟩ : ∃ x, x = pv := ⟨_, rfl⟩
      obtain ⟨cI, hcI⟩ : ∃ x, x = cv := ⟨_, rfl⟩
      subst hpI hcI
      go_loopw [31] (fun i wr => ∃ (k : Nat) (v : Value), k ≤ ds.length ∧ i = .int .i64 k ∧ DocsOwn wr (w.heap.size + 2) v (ds.take k) ∧ InstsOwn wr (w.heap.size + 2) (.slice pI nI cI) is ∧ wr.heap[w.heap.size]? = some (.cells #[.int .i64 id, .string mo, .slice pI nI cI, v, .int .i64 cl] 25 (0, 0)) ∧ wr.heap[w.heap.size + 1]? = some (.cells #[.int .i64 0, .string ⟨#[]⟩, .slice none 0 0, .slice none 0 0, .int .i64 0] 25 (0, 0)) ∧ w.heap.size + 2 ≤ wr.heap.size ∧ Below w.heap.size w wr) (fun i _ => ds.length - (intOf i).toNat)
      case atStart => exact ⟨0, _, by omega, rfl, DocsOwn.nil _ _, HIO.out, HQ7.out, HQ8.out, HS7.out, HB7.out⟩
      case round =>
        obtain ⟨k, v, hk, rfl, hall, hio, hq, hq2, hsz, hbr⟩ := hrel
        have HIR := Lib.hid hio
        have HAL := Lib.hid hall
        have HQR := Lib.hid hq
        have HQR2 := Lib.hid hq2
        have HBR := Lib.hid hbr
        have HSZ := Lib.hid hsz
        obtain ⟨l', hb1, hown, hls⟩ := hall
        obtain ⟨pv, cv, hv, _⟩ := (OwnS.ofRow hown).form
        subst hv
        have HB1 := Lib.hid hb1
        have HOW := Lib.hid hown
        have HLS := Lib.hid hls
        have hll : l'.length ≤ ds.length := by
          have := congrArg List.length hb1
          simp only [List.length_map] at this
          rw [List.length_take] at this
          omega
        clear hbr hb1 hown hls hq hq2 hsz hio
        by_cases hlt : k < ds.length
        · obtain ⟨x, hx⟩ : ∃ x, x = ds[k] := ⟨_, rfl⟩
          have hrow : rowD ds k = x.cells := by unfold rowD; rw [List.getElem?_eq_getElem hlt, ← hx]; rfl
          have hxo := (HD.out.2 x (by rw [hx]; exact List.getElem_mem hlt)).below HBR.out
          have HXO := Lib.hid hxo
          have HX4 := Lib.hid (HS2.out x (by rw [hx]; exact List.getElem_mem hlt))
          have HN := Lib.hid (show ds.take (k + 1) = ds.take k ++ [x] from by rw [List.take_succ_eq_append_getElem hlt, hx])
          have HC := Lib.hid (fun (W : World) (hb : Below wr.heap.size wr W) => rcopiedD_c W x (HXO.out.below hb) HX4.out)
          obtain ⟨pl, cp, hlv⟩ := hxo.rr.form
          obtain ⟨path, vk, vi, vb, vt, rv, rs⟩ := x
          dsimp only at hlv HX4
          subst hlv
          unfold DV.cells at HC
          dsimp only at HC
          obtain ⟨g, o, ha, hg, c0, c1, c2, c3, c4, c5⟩ := (HD.out.1.below HBR.out).row hlt hrow
          subst ha
          have HBX := Lib.hid (fun o => box_bel' wr o)
          obtain ⟨e0, e1, e2, e3, e4, ez⟩ := cells5 HQR.out
          obtain ⟨f0, f1, f2, f3, f4, f5, fz⟩ := cells6 (heap_alloc_new wr (.cells #[.string path, .int .i64 vk, .int .i64 vi, .bool vb, .string vt, .slice pl (tcells rs).length cp] 49))
          have hez : (wr.alloc (.cells #[.string path, .int .i64 vk, .int .i64 vi, .bool vb, .string vt, .slice pl (tcells rs).length cp] 49)).cell? ⟨w.heap.size, 3, none⟩ = some (.slice pv l'.length cv) := ((HBX.out _).cell (p := ⟨w.heap.size, 3, none⟩) (Array.getElem?_eq_some_iff.1 HQR.out).1).trans e3
          clear hrow hxo hx
          go_wp2_with fail
          go_region_law (first
            | (go_simp
               go_at_call 45
               refine (HC.out _ ?_).mono ?_
               · first | exact HBX.out _ | exact (HBX.out _).drew | exact below_drewN (HBX.out _) _
               rintro e w3 ⟨v', rfl, hown3, hb3⟩
               dsimp only at hown3
               obtain ⟨pa, cc, hv', _⟩ := hown3.form
               subst hv'
               have hb4 : Below (wr.heap.size + 1) (wr.alloc (.cells #[.string path, .int .i64 vk, .int .i64 vi, .bool vb, .string vt, .slice pl (tcells rs).length cp] 49)) w3 := by
                 first
                   | exact hb3.mono (by simp)
                   | exact (Below.refl _ _).drew.trans (hb3.mono (by simp))
                   | exact (below_drewN (Below.refl _ _) _).trans (hb3.mono (by simp))
               have hb5 : Below wr.heap.size wr w3 := (HBX.out _).trans (hb4.mono (by omega))
               have HB5 := Lib.hid hb5
               have HO3 := Lib.hid (hown3.up (b' := w.heap.size + 2) (by have := HSZ.out; simp; omega))
               have hq5 := (hb5.block w.heap.size (Array.getElem?_eq_some_iff.1 HQR.out).1).trans HQR.out
               have HQ5 := Lib.hid hq5
               obtain ⟨q0, q1, q2, q3, q4, qz⟩ := cells5 hq5
               have r2 := (((Below.refl w3.heap.size w3).alloc (Nat.le_refl _) (.cells #[.string path, .int .i64 vk, .int .i64 vi, .bool vb, .string vt, .slice pa rs.length cc] 49)).cell (p := ⟨w.heap.size, 3, none⟩) (Array.getElem?_eq_some_iff.1 hq5).1).trans q3
               have HOW3 := Lib.hid (ownr_below HOW.out hb5)
               have HA := Lib.hid ((Below.refl w3.heap.size w3).alloc (Nat.le_refl _) (.cells #[.string path, .int .i64 vk, .int .i64 vi, .bool vb, .string vt, .slice pa rs.length cc] 49))
               clear hown3 hb3 hb4 hb5 hq5)
            | (refine step_append_lies _ (by rfl) _ _ 23 (by rfl) (w.heap.size + 2) 49 i1 (.agg #[.string ⟨#[]⟩, .int .i64 0, .int .i64 0, .bool false, .string ⟨#[]⟩, .slice none 0 0]) 6 80 Try.underlying23 hi1 hz10 hz11 hz12 rfl (by omega) (.slice pv l'.length cv) l'.length (flatD l') (by rfl) (ownr_below HOW3.out (by first | exact HA.out | exact HA.out.drew | exact below_drewN HA.out _)) ⟨w3.heap.size, 0, none⟩ 1 1 [.string path, .int .i64 vk, .int .i64 vi, .bool vb, .string vt, .slice pa rs.length cc] (by rfl) (by simp) (World.news_of_block (heap_alloc_new w3 _)) (by simp [Value.oneCell']) (by omega) (by have := HD4.out; unfold maxLen; omega) (by have := HD4.out; omega) (by have := HSZ.out; have := HB5.out.size; simp; omega) (w3.heap.size + 1) (by simp) ?_
               intro g6 cap6 w6 hown6 hgrow6 hat6 hlt6
               have HOW6 := Lib.hid hown6
               have HG6 := Lib.hid hgrow6
               have hq6 : w6.heap[w.heap.size]? = some (.cells #[.int .i64 id, .string mo, .slice pI nI cI, .slice pv l'.length cv, .int .i64 cl] 25 (0, 0)) := (hgrow6.block w.heap.size (by have := HSZ.out; have := HB5.out.size; simp; omega) (fun e => by have := (ownr_lt HOW.out w.heap.size e.symm).1; omega)).trans (((HA.out.block w.heap.size (by have := HSZ.out; have := HB5.out.size; omega))).trans HQ5.out)
               have HQ6 := Lib.hid hq6
               obtain ⟨t0, t1, t2, t3, t4, tz⟩ := cells5 hq6
               clear hown6 hgrow6 hat6 hlt6 hq6)
            | fail "no arm")
          all_goals
            clear t0 t1 t2 t3 t4 tz q0 q1 q2 q3 q4 qz f0 f1 f2 f3 f4 f5 fz e0 e1 e2 e3 e4 ez c0 c1 c2 c3 c4 c5 r2 hez
            go_wp2_with fail
            go_roundw
            case rel =>
              have hgr : (w3.alloc (.cells #[.string path, .int .i64 vk, .int .i64 vi, .bool vb, .string vt, .slice pa rs.length cc] 49)).grownBy w6 (Value.slice pv l'.length cv).ownBlock := HG6.out
              have hp := DocsOwn.push (y := ⟨path, vk, vi, vb, vt, .slice pl (tcells rs).length cp, rs⟩) (x := ⟨path, vk, vi, vb, vt, .slice pa rs.length cc, rs⟩) (l := ds.take k) (W1 := w3) HB1.out HOW.out HLS.out HB5.out HO3.out rfl HOW6.out hgr
              rw [← HN.out] at hp
              have hfar : ∀ b, b ≠ w.heap.size → (w6.setCell ⟨w.heap.size, 3, none⟩ (.slice (some ⟨g6, 0, none⟩) (l'.length + 1) cap6)).heap[b]? = w6.heap[b]? := fun b hb => Below.heap_setCell _ _ _ _ hb
              have hs6 : w.heap.size + 2 ≤ w6.heap.size := by have := HSZ.out; have := HB5.out.size; have := hgr.size; simp at this; omega
              have hb6 : Below w.heap.size w w6 := ((HBR.out.trans (HB5.out.mono HBR.out.size)).trans (HA.out.mono (Nat.le_trans HBR.out.size HB5.out.size))).grown hgr (by have := HSZ.out; have := HB5.out.size; simp; omega) (fun g hg => by have := (ownr_lt HOW.out g hg).1; omega)
              refine ⟨k + 1, _, by omega, by go_num, DocsOwn.far hp (by decide) (by decide) HQ6.out hfar, InstsOwn.far (InstsOwn.grow ((HIR.out.below HB5.out).below HA.out) (by decide) (by decide) (ownr_below HOW3.out HA.out) hgr) (by decide) (by decide) HQ6.out hfar, by simp [World.setCell, Array.getElem?_modify, HQ6.out], ?_, by simpa [World.size_setCell] using hs6, hb6.setCell (p := ⟨w.heap.size, 3, none⟩) (Nat.le_refl _) _⟩
              exact (hfar _ (by omega)).trans ((hgr.block (w.heap.size + 1) (by have := HSZ.out; have := HB5.out.size; simp; omega) (fun e => by have := (ownr_lt HOW.out _ e.symm).1; omega)).trans ((HA.out.block (w.heap.size + 1) (by have := HSZ.out; have := HB5.out.size; omega)).trans ((HB5.out.block (w.heap.size + 1) (by have := HSZ.out; omega)).trans HQR2.out)))
            case measure => simp [intOf]; omega
        · have HDF := Lib.hid (show DocsOwn wr (w.heap.size + 2) (.slice pv l'.length cv) ds from by have := HAL.out; rwa [List.take_of_length_le (by omega)] at this)
          obtain ⟨d0, d1, d2, d3, d4, dz⟩ := cells5 HQR.out
          obtain ⟨f0, f1, f2, f3, f4, fz⟩ := cells5 HQR2.out
          go_wp2_with fail
          have hf := fun b (hb : b ≠ w.heap.size + 1) => putC_far wr (w.heap.size + 1) b hb (.int .i64 id) (.string mo) (.slice pI nI cI) (.slice pv l'.length cv) (.int .i64 cl)
          refine bodyPost_ret (results_cell_row Try.results21 _ _ (w.heap.size + 1) 25 _ (0, 0) _ rfl (putC_at HQR2.out _ _ _ _ _) Try.underlying25 rfl infoC5) rfl ?_
          exact ⟨_, _, rfl, (InstsOwn.far HIR.out (by decide) (by decide) HQR2.out hf).up (by omega), (DocsOwn.far HDF.out (by decide) (by decide) HQR2.out hf).up (by omega), putC_below HBR.out (by omega) _ _ _ _ _⟩
end Go.Proofs.Ytncloiimbclklaa
