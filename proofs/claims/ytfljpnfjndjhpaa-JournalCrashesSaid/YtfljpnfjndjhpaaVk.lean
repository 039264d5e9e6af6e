/- vdisk: Crash, the walk. -/
import Derived.Test.YtfljpnfjndjhpaaVc
namespace Go.Proofs.Ytfljpnfjndjhpaa
open Go.RowKit
set_option linter.unusedVariables false

/-- What a loop's round leaves of the disk. -/
def CrR (w1 : World) (p : Option Addr) (s : DS) (foot : List Nat) (keeps : List Int) (k : Nat) (wr : World) : Prop := After w1 p { s with fs := crk keeps k s.fs } foot wr

theorem After.size {w w' : World} {p : Option Addr} {s : DS} {foot : List Nat} (h : After w p s foot w') : w.heap.size ≤ w'.heap.size := by
  obtain ⟨_, _, _, h⟩ := h
  exact h.size
theorem After.trans {w w1 w2 : World} {p : Option Addr} {s2 : DS} {foot foot1 : List Nat} (hc : Chg foot w w1) (hf : ∀ i ∈ foot1, i ∈ foot ∨ w.heap.size ≤ i) (h : After w1 p s2 foot1 w2) : After w p s2 foot w2 := by
  obtain ⟨foot2, hd, hf2, hc2⟩ := h
  exact ⟨foot2, hd, fun i hi => (hf2 i hi).elim (hf i) fun h => .inr (Nat.le_trans hc.size h), hc.then hc2 hf⟩

/-- A file behind its round. -/
theorem cut_row {w : World} {a : Option Addr} {c : Nat} {f : Fl} {m : Nat} (h : FRow w (.agg #[.slice a f.data.length c, .int .i64 f.sy]) f) (hm : m ≤ f.data.length) : FRow w (.agg #[.slice a m c, .int .i64 (m : Nat)]) ⟨f.data.take m, m⟩ := by
  obtain ⟨sl, he, h1⟩ := h
  simp only [Value.agg.injEq, Array.mk.injEq, List.cons.injEq, and_true] at he
  subst he
  have := ownsRow_take h1 m hm
  rw [bcells_take] at this
  have e : (f.data.take m).length = m := by rw [List.length_take]; omega
  exact ⟨.slice a m c, rfl, by rw [e]; exact this⟩
theorem blk_same (a : Option Addr) (m n c : Nat) (x y : Value) : fblk (.agg #[.slice a m c, x]) = fblk (.agg #[.slice a n c, y]) := by
  simp only [fblk_mk]
  cases a <;> rfl

theorem set2 {w : World} {b : Nat} {c0 c1 : Value} {T : TypeId} (h : w.heap[b]? = some (.cells #[c0, c1] T (0, 0))) (u0 u1 : Value) : ((w.setCell ⟨b, 0, none⟩ u0).setCell ⟨b, 1, none⟩ u1).heap[b]? = some (.cells #[u0, u1] T (0, 0)) := heap_mod (heap_mod h)
theorem set21 {w : World} {b : Nat} {c0 c1 : Value} {T : TypeId} (h : w.heap[b]? = some (.cells #[c0, c1] T (0, 0))) (u : Value) : (w.setCell ⟨b, 1, none⟩ u).heap[b]? = some (.cells #[c0, u] T (0, 0)) := heap_mod h
theorem keep_out {keeps : List Int} {k : Nat} {f : Fl} (h : keeps.length ≤ k) : crashF keeps k f = ⟨f.data.take f.sy, f.sy⟩ := by
  have : keepN keeps k f = f.sy := by unfold keepN; rw [List.getD_eq_getElem?_getD, List.getElem?_eq_none h]; simp
  unfold crashF
  rw [this]
theorem keep_neg {keeps : List Int} {k : Nat} {f : Fl} {x : Int} (h : keeps[k]? = some x) (hx : x < 0) : crashF keeps k f = ⟨f.data.take f.sy, f.sy⟩ := by
  have : keepN keeps k f = f.sy := by unfold keepN; rw [List.getD_eq_getElem?_getD, h]; simp; omega
  unfold crashF
  rw [this]
theorem keep_mid {keeps : List Int} {k : Nat} {f : Fl} {x : Nat} (h : keeps[k]? = some (x : Int)) (hx : x < f.data.length - f.sy) : crashF keeps k f = ⟨f.data.take (f.sy + x), f.sy + x⟩ := by
  have : keepN keeps k f = f.sy + x := by unfold keepN; rw [List.getD_eq_getElem?_getD, h]; simp; omega
  unfold crashF
  rw [this]
theorem keep_all {keeps : List Int} {k : Nat} {f : Fl} {x : Nat} (h : keeps[k]? = some (x : Int)) (hs : f.sy ≤ f.data.length) (hx : f.data.length - f.sy ≤ x) : crashF keeps k f = ⟨f.data.take f.data.length, f.data.length⟩ := by
  have : keepN keeps k f = f.data.length := by unfold keepN; rw [List.getD_eq_getElem?_getD, h]; simp; omega
  unfold crashF
  rw [this]

section
variable {w : World} {p : Option Addr} {s : DS} {foot : List Nat}

set_option maxRecDepth 100000 in
set_option maxHeartbeats 2000000 in
theorem crash_c (h : Disk w p s foot) (hl : s.fs.length ≤ 1000000000) (v : Value) (keeps : List Int) (hv : RdV w v (icells keeps)) (hap : 0 < keeps.length → ∀ g, v.ownBlock = some g → g ∉ foot) (hb : keeps.length ≤ 140737488355328) :
    Calls Try.prog 11 #[.pointer p, v] w fun e w' => e = .returned (.int .i64 0) ∧ After w p (s.crash keeps) foot w' := by
  have HD := Lib.hid h
  obtain ⟨pb, mb, E, rfl, hc, hr, rfl, hnd⟩ := h
  have HC := Lib.hid hc
  have HL := Lib.hid hl
  have HV := Lib.hid hv
  have HAP := Lib.hid hap
  have HKL := Lib.hid hb
  have HOK := Lib.hid hc.ok
  obtain ⟨kp, kc, rfl, hkl, hkm, _⟩ := hv
  rw [show (icells keeps).length = keeps.length from by simp [icells]] at *
  unfold maxLen at hkm
  clear hc hr hnd hl hap
  go_enter Try.func11, Try.ntmps11
  go_wp2_with fail
  refine (made_c HC.out).mono ?_
  rintro e w' ⟨rfl, rfl⟩
  go_wp2_with fail
  refine (names_c HD.out HL.out).mono ?_
  rintro e w1 ⟨nv, rfl, hnr, hb1⟩
  have HB1 := Lib.hid hb1
  have HD1 := Lib.hid (HD.out.below hb1)
  have HNB := Lib.hid (show ∀ g, nv.ownBlock = some g → g ∉ pb :: mb :: blocks E from fun g hg hm => by have := (hnr.lt g hg).1; have := HD.out.lt g hm; omega)
  have HNR := Lib.hid (RdV.of_own hnr)
  have HV1 := Lib.hid (HV.out.below hb1)
  obtain ⟨np, nc, hnv, hnl, hnm, _⟩ := RdV.of_own hnr
  rw [show ((s.fs.map (·.1)).map Go.Proofs.encStr).length = s.fs.length from by simp] at *
  subst hnv
  unfold maxLen at hnm
  have hlen : s.fs.length ≤ 1000000000 := HL.out
  clear hnr hb1
  go_wp2_with fail
  go_loopw [14] (fun i wr => ∃ k : Nat, k ≤ s.fs.length ∧ i = .int .i64 k ∧ CrR w1 (some ⟨pb, 0, none⟩) s (pb :: mb :: blocks E) keeps k wr) (fun i _ => s.fs.length - (intOf i).toNat)
  case atStart => exact ⟨0, Nat.zero_le _, rfl, _, by rw [crk_zero]; exact HD1.out, fun i hi => .inl hi, Chg.refl _ _⟩
  case round =>
    obtain ⟨k, hk, rfl, hcr⟩ := hrel
    obtain ⟨footr, hdr, hfr, hgr⟩ := hcr
    obtain ⟨pb', mb', Er, hpe, hcr, hrr, rfl, hndr⟩ := hdr
    simp only [Option.some.injEq, Addr.mk.injEq, and_true] at hpe
    subst hpe
    have HCr := Lib.hid hcr
    have HRr := Lib.hid hrr
    have HNDr := Lib.hid hndr
    have HFr := Lib.hid hfr
    have HGr := Lib.hid hgr
    obtain ⟨c0, c1, c2, c3, c4, cf⟩ := cells5 hcr.blk
    have hlp := hcr.ltp
    by_cases hlt : k < s.fs.length
    · have HRV := HNR.out.chg HGr.out (fun _ => HNB.out)
      obtain ⟨np', nc', hnv, _, _, _, hx⟩ := HRV
      rw [show ((s.fs.map (·.1)).map Go.Proofs.encStr).length = s.fs.length from by simp] at hnv
      simp only [Value.slice.injEq, true_and] at hnv
      obtain ⟨hnp, hnc⟩ := hnv
      subst hnp
      obtain ⟨nb, no, hnp, hcell⟩ := hx (by simp; omega)
      subst hnp
      have hcellk := hcell k (by simpa using hlt)
      obtain ⟨nm, hnm⟩ : ∃ nm : ByteArray, nm = ⟨(s.fs[k].1).toArray⟩ := ⟨_, rfl⟩
      rw [show ((s.fs.map (·.1)).map Go.Proofs.encStr)[k]'(by simpa using hlt) = Value.string nm from by simp [Go.Proofs.encStr, hnm]] at hcellk
      have hnl' : nm.data.toList = s.fs[k].1 := by rw [hnm]
      have hsz : nm.size ≤ 9223372036854775807 := by
        have h1 := HOK.out.nm s.fs[k] (List.getElem_mem hlt)
        rw [← hnl'] at h1
        simp at h1
        omega
      obtain ⟨f, hf⟩ : ∃ f, f = s.fs[k].2 := ⟨_, rfl⟩
      have hst := crk_step (keeps := keeps) HOK.out.ris hlt
      rw [← hnl', ← hf] at hst
      obtain ⟨a', c', he, u1, u2, u3⟩ := HCr.out.shapeAt nm.data.toList
      simp only [hst.2] at he u1
      have hlk := HCr.out.look nm (by unfold maxLen; omega)
      rw [he] at hlk
      have hsy : f.sy ≤ f.data.length := by rw [hf]; exact HOK.out.sy _ (List.getElem_mem hlt)
      have hft : f.data.length ≤ 4194304 := by rw [hf]; exact Nat.le_trans (total_mem (List.getElem_mem hlt)) HOK.out.tot
      have hrow := row_at HRr.out nm.data.toList
      rw [← HCr.out.fs, he] at hrow
      simp only [hst.2] at hrow
      have HST := Lib.hid hst.1
      have HE := Lib.hid he
      have HW := Lib.hid hrow
      have HSY := Lib.hid (And.intro hsy hft)
      have HU := Lib.hid (And.intro u1 u2)
      have HSZ := Lib.hid hsz
      clear hcr hrr hndr hfr hgr hcell hx hnc hst hf hnm hnl' he hrow c0 c1 c3 c4 cf u2 u3
      by_cases hkk : keeps.length ≤ k
      · have HM := Lib.hid (keep_out (f := f) hkk)
        rw [HM.out] at HST
        have HCV := Lib.hid (show cutV a' c' f (min (f.sy : Int).toNat f.data.length) = .agg #[.slice a' f.sy c', .int .i64 f.sy] from by unfold cutV; rw [show min (f.sy : Int).toNat f.data.length = f.sy from by omega, Nat.min_self])
        go_wp2_with fail
        refine (cut_c _ a' c' f f.sy (by omega) HSY.out.2 HSY.out.1 HU.out.1 HU.out.2).mono ?_
        rintro e w2 ⟨rfl, hb2⟩
        rw [HCV.out]
        have HB2 := Lib.hid hb2
        have hs2 : wr.heap.size + 1 ≤ w2.heap.size := by have := hb2.size; simpa using this
        have hB2 := (hb2.block wr.heap.size (by simp)).trans (heap_alloc_new wr _)
        obtain ⟨k0, k1, kf0, kf1⟩ := cells2 hB2
        obtain ⟨j0, j1, jf0, jf1⟩ := cells2 (set2 hB2 (.slice a' f.sy c') (.int .i64 f.sy))
        obtain ⟨i0, i1, if0, if1⟩ := cells2 (set21 (set2 hB2 (.slice a' f.sy c') (.int .i64 f.sy)) (.int .i64 (f.sy : Nat)))
        clear hb2 hB2
        go_wp2_with fail
        have HCH := Lib.hid (((((((Chg.refl [] wr).alloc' (.cells #[.slice a' f.data.length c', .int .i64 f.sy] 60)).trans (Chg.of_below HB2.out)).set' wr.heap.size 0 (.slice a' f.sy c') (.inr (Nat.le_refl _))).set' wr.heap.size 1 (.int .i64 f.sy) (.inr (Nat.le_refl _))).set' wr.heap.size 1 (.int .i64 (f.sy : Nat)) (.inr (Nat.le_refl _))))
        refine (put_c (HCr.out.keep (HCH.out.block _ HCr.out.ltp (by simp)) (HCH.out.block _ HCr.out.map.lt (by simp))) nm HSZ.out _ ⟨f.data.take f.sy, f.sy⟩ (FRow.shape (cut_row HW.out HSY.out.1)) (by rw [HST.out]; exact crk_ok HOK.out keeps (k + 1)) (by have := congrArg List.length (crk_names keeps k s.fs); simp only [List.length_map] at this; rw [this]; exact HL.out)).mono ?_
        rintro e w3 ⟨rfl, hc3, hg3⟩
        have HX3 := Lib.hid (And.intro hc3 hg3)
        clear hc3 hg3
        go_wp2_with fail
        go_roundw
        case rel =>
          refine ⟨k + 1, by omega, by go_num, ?_⟩
          have h3 := HX3.out.1
          rw [HST.out] at h3
          exact After.trans HGr.out HFr.out (after_put HCr.out HRr.out HNDr.out ((HCH.out.mono (by simp)).trans HX3.out.2) h3 (cut_row HW.out HSY.out.1) (by rw [HE.out]; exact blk_same _ _ _ _ _ _))
        case measure => simp [intOf]; omega
      · have hkk' : k < keeps.length := by omega
        have HKV := HV1.out.chg HGr.out (fun h0 => HAP.out (by simpa [icells] using h0))
        obtain ⟨kp', kc', hkv, _, _, _, hkx⟩ := HKV
        rw [show (icells keeps).length = keeps.length from by simp [icells]] at hkv
        simp only [Value.slice.injEq, true_and] at hkv
        obtain ⟨hkp, hkc'⟩ := hkv
        subst hkp
        clear hkc'
        obtain ⟨kb, ko, hkp, hkc⟩ := hkx (by simpa [icells] using (by omega : 0 < keeps.length))
        subst hkp
        have hkck := hkc k (by simpa [icells] using hkk')
        obtain ⟨x, hx⟩ : ∃ x, x = keeps[k] := ⟨_, rfl⟩
        rw [show (icells keeps)[k]'(by simpa [icells] using hkk') = .int .i64 x from by simp [icells, hx]] at hkck
        have hgx : keeps[k]? = some x := by rw [List.getElem?_eq_getElem hkk', hx]
        have hkb := World.block_lt_of_cell? wr _ hkck
        have HGX := Lib.hid hgx
        clear hkc hkx hx hgx hkk
        by_cases hx0 : x < 0
        · have HM := Lib.hid (keep_neg (f := f) HGX.out hx0)
          rw [HM.out] at HST
          have HCV := Lib.hid (show cutV a' c' f (min (f.sy : Int).toNat f.data.length) = .agg #[.slice a' f.sy c', .int .i64 f.sy] from by unfold cutV; rw [show min (f.sy : Int).toNat f.data.length = f.sy from by omega, Nat.min_self])
          go_wp2_with fail
          refine (cut_c _ a' c' f f.sy (by omega) HSY.out.2 HSY.out.1 HU.out.1 HU.out.2).mono ?_
          rintro e w2 ⟨rfl, hb2⟩
          rw [HCV.out]
          have HB2 := Lib.hid hb2
          have hs2 : wr.heap.size + 1 ≤ w2.heap.size := by have := hb2.size; simpa using this
          have hB2 := (hb2.block wr.heap.size (by simp)).trans (heap_alloc_new wr _)
          obtain ⟨k0, k1, kf0, kf1⟩ := cells2 hB2
          obtain ⟨j0, j1, jf0, jf1⟩ := cells2 (set2 hB2 (.slice a' f.sy c') (.int .i64 f.sy))
          obtain ⟨i0, i1, if0, if1⟩ := cells2 (set21 (set2 hB2 (.slice a' f.sy c') (.int .i64 f.sy)) (.int .i64 (f.sy : Nat)))
          clear hb2 hB2
          go_wp2_with fail
          have HCH := Lib.hid (((((((Chg.refl [] wr).alloc' (.cells #[.slice a' f.data.length c', .int .i64 f.sy] 60)).trans (Chg.of_below HB2.out)).set' wr.heap.size 0 (.slice a' f.sy c') (.inr (Nat.le_refl _))).set' wr.heap.size 1 (.int .i64 f.sy) (.inr (Nat.le_refl _))).set' wr.heap.size 1 (.int .i64 (f.sy : Nat)) (.inr (Nat.le_refl _))))
          refine (put_c (HCr.out.keep (HCH.out.block _ HCr.out.ltp (by simp)) (HCH.out.block _ HCr.out.map.lt (by simp))) nm HSZ.out _ ⟨f.data.take f.sy, f.sy⟩ (FRow.shape (cut_row HW.out HSY.out.1)) (by rw [HST.out]; exact crk_ok HOK.out keeps (k + 1)) (by have := congrArg List.length (crk_names keeps k s.fs); simp only [List.length_map] at this; rw [this]; exact HL.out)).mono ?_
          rintro e w3 ⟨rfl, hc3, hg3⟩
          have HX3 := Lib.hid (And.intro hc3 hg3)
          clear hc3 hg3
          go_wp2_with fail
          go_roundw
          case rel =>
            refine ⟨k + 1, by omega, by go_num, ?_⟩
            have h3 := HX3.out.1
            rw [HST.out] at h3
            exact After.trans HGr.out HFr.out (after_put HCr.out HRr.out HNDr.out ((HCH.out.mono (by simp)).trans HX3.out.2) h3 (cut_row HW.out HSY.out.1) (by rw [HE.out]; exact blk_same _ _ _ _ _ _))
          case measure => simp [intOf]; omega
        · obtain ⟨y, rfl⟩ := Int.eq_ofNat_of_zero_le (show 0 ≤ x from by omega)
          have h0y : 0 ≤ (y : Int) := by omega
          have X1 := Lib.hid (show IntKind.i64.wrap ((f.data.length : Int) - (f.sy : Int)) = (f.data.length : Int) - (f.sy : Int) from IntWalk.i64_in _ (by omega))
          clear hx0
          by_cases hmid : y < f.data.length - f.sy
          · have HM := Lib.hid (keep_mid (f := f) HGX.out hmid)
            have h1 : (y : Int) < (f.data.length : Int) - (f.sy : Int) := by omega
            obtain ⟨m, hm⟩ : ∃ m, m = f.sy + y := ⟨_, rfl⟩
            rw [← hm] at HM
            rw [HM.out] at HST
            have HMM := Lib.hid (show m ≤ f.data.length from by omega)
            have HCV := Lib.hid (show cutV a' c' f (min ((f.sy : Int) + (y : Int)).toNat f.data.length) = .agg #[.slice a' m c', .int .i64 f.sy] from by unfold cutV; rw [show min ((f.sy : Int) + (y : Int)).toNat f.data.length = m from by omega, show min m f.sy = f.sy from by omega])
            have X2 := Lib.hid (show IntKind.i64.wrap ((f.sy : Int) + (y : Int)) = (f.sy : Int) + (y : Int) from IntWalk.i64_in _ (by omega))
            clear hm hmid
            have x1 := X1.out
            go_wp2_with fail
            go_quiet (fail)
            clear x1
            go_wp2_with fail
            have x2 := X2.out
            refine wp_region_still_tail 8 (by kernel_rfl) (by kernel_rfl) ?_
            change wpStill _ _ (World.drew _) (fun a' => wpList _ _ _ _ a' (World.drew _)) _ _
            simp only [List.take_succ_cons, List.take_zero, List.drop_succ_cons, List.drop_zero]
            repeat still_step
            refine wpStill_nil ?_
            clear x2
            go_wp2_with fail
            go_fit (cut_c _ a' c' f ((f.sy : Int) + (y : Int)) (by omega) HSY.out.2 HSY.out.1 HU.out.1 HU.out.2)
            rintro e w2 ⟨rfl, hb2⟩
            rw [HCV.out]
            have HB2 := Lib.hid hb2
            have hs2 : wr.heap.size + 1 ≤ w2.heap.size := by have := hb2.size; simpa using this
            have hB2 := (hb2.block wr.heap.size (by simp)).trans (heap_alloc_new wr _)
            obtain ⟨k0, k1, kf0, kf1⟩ := cells2 hB2
            obtain ⟨j0, j1, jf0, jf1⟩ := cells2 (set2 hB2 (.slice a' m c') (.int .i64 f.sy))
            obtain ⟨i0, i1, if0, if1⟩ := cells2 (set21 (set2 hB2 (.slice a' m c') (.int .i64 f.sy)) (.int .i64 (m : Nat)))
            clear hb2 hB2
            go_wp2_with fail
            have HCH := Lib.hid (((((((Chg.refl [] wr).alloc' (.cells #[.slice a' f.data.length c', .int .i64 f.sy] 60)).drewN _).trans (Chg.of_below HB2.out)).set' wr.heap.size 0 (.slice a' m c') (.inr (Nat.le_refl _))).set' wr.heap.size 1 (.int .i64 f.sy) (.inr (Nat.le_refl _))).set' wr.heap.size 1 (.int .i64 (m : Nat)) (.inr (Nat.le_refl _)))
            refine (put_c (HCr.out.keep (HCH.out.block _ HCr.out.ltp (by simp)) (HCH.out.block _ HCr.out.map.lt (by simp))) nm HSZ.out _ ⟨f.data.take m, m⟩ (FRow.shape (cut_row HW.out HMM.out)) (by rw [HST.out]; exact crk_ok HOK.out keeps (k + 1)) (by have := congrArg List.length (crk_names keeps k s.fs); simp only [List.length_map] at this; rw [this]; exact HL.out)).mono ?_
            rintro e w3 ⟨rfl, hc3, hg3⟩
            have HX3 := Lib.hid (And.intro hc3 hg3)
            clear hc3 hg3
            go_wp2_with fail
            go_roundw
            case rel =>
              refine ⟨k + 1, by omega, by go_num, ?_⟩
              have h3 := HX3.out.1
              rw [HST.out] at h3
              exact After.trans HGr.out HFr.out (after_put HCr.out HRr.out HNDr.out ((HCH.out.mono (by simp)).trans HX3.out.2) h3 (cut_row HW.out HMM.out) (by rw [HE.out]; exact blk_same _ _ _ _ _ _))
            case measure => simp [intOf]; omega
          · have HM := Lib.hid (keep_all (f := f) HGX.out HSY.out.1 (by omega))
            have h1 : (f.data.length : Int) - (f.sy : Int) ≤ (y : Int) := by omega
            rw [HM.out] at HST
            clear hmid
            have x1 := X1.out
            go_wp2_with fail
            go_quiet (fail)
            clear x1
            go_wp2_with fail
            have HCH := Lib.hid ((((Chg.refl [] wr).alloc' (.cells #[.slice a' f.data.length c', .int .i64 f.sy] 60)).drewN nq).set' wr.heap.size 1 (.int .i64 (f.data.length : Nat)) (.inr (Nat.le_refl _)))
            refine (put_c (HCr.out.keep (HCH.out.block _ HCr.out.ltp (by simp)) (HCH.out.block _ HCr.out.map.lt (by simp))) nm HSZ.out _ ⟨f.data.take f.data.length, f.data.length⟩ (FRow.shape (cut_row HW.out (Nat.le_refl _))) (by rw [HST.out]; exact crk_ok HOK.out keeps (k + 1)) (by have := congrArg List.length (crk_names keeps k s.fs); simp only [List.length_map] at this; rw [this]; exact HL.out)).mono ?_
            rintro e w3 ⟨rfl, hc3, hg3⟩
            have HX3 := Lib.hid (And.intro hc3 hg3)
            clear hc3 hg3
            go_wp2_with fail
            go_roundw
            case rel =>
              refine ⟨k + 1, by omega, by go_num, ?_⟩
              have h3 := HX3.out.1
              rw [HST.out] at h3
              exact After.trans HGr.out HFr.out (after_put HCr.out HRr.out HNDr.out ((HCH.out.mono (by simp)).trans HX3.out.2) h3 (cut_row HW.out (Nat.le_refl _)) (by rw [HE.out]; exact blk_same _ _ _ _ _ _))
            case measure => simp [intOf]; omega
    · have HQ := Lib.hid (show crk keeps k s.fs = crashFs keeps 0 s.fs from crk_all _ _ _ (by omega))
      have cf3 := cf 3
      have cf4 := cf 4
      have HOC := Lib.hid (HOK.out.crash keeps)
      clear hcr hrr hndr hfr hgr c0 c1 c2 cf
      go_wp2_with fail
      go_ret
      refine ⟨rfl, After.trans (Chg.of_below HB1.out) (fun i hi => .inl hi) ?_⟩
      have hcc : Core ((wr.setCell ⟨pb, 4, none⟩ (.bool false)).setCell ⟨pb, 3, none⟩ (.int .i64 (-1))) pb mb' (s.crash keeps) Er := by
        refine HCr.out.mk' _ ?_ ((Below.heap_setCell _ _ _ _ HCr.out.ne.symm).trans (Below.heap_setCell _ _ _ _ HCr.out.ne.symm)) (by show crashFs keeps 0 s.fs = crk keeps k s.fs; rw [HQ.out]) HOC.out
        rw [heap_mod (heap_mod HCr.out.blk)]
        simp [DS.crash, HQ.out]
      have := after_core HRr.out HNDr.out hcc (((Chg.refl [pb] wr).set' pb 4 (.bool false) (.inl (by simp))).set' pb 3 (.int .i64 (-1)) (.inl (by simp)))
      exact After.trans HGr.out HFr.out this
end
end Go.Proofs.Ytfljpnfjndjhpaa
