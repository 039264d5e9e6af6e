/- An index: Latch of an index that no call made. -/
import Derived.Test.YtdnfoeoiommclaaDoorXo
import Derived.Test.YtdnfoeoiommclaaDoorZg
namespace Go.Proofs.YtdnfoeoiommclaaDoor
open Go Go.RowKit Go.Shelf Go.ChangeMaps
set_option linter.unusedVariables false
set_option linter.unusedSimpArgs false

theorem textX_check (W : World) (s : ByteArray) (b : Bool) : (Instr.checkKey b 10000 9 (.string s)).run Tryd.prog W = .ok () W := by kernel_rfl
theorem textX_find (W : World) (s : ByteArray) : (Instr.findKey 9 (.string s) []).run Tryd.prog W = .ok none W := by kernel_rfl
theorem zeroX_unit (W : World) : (zeroValue 66).run Tryd.prog W = .ok (.agg #[]) W := by kernel_rfl
theorem lookX_text (W : World) (m : Nat) (s : ByteArray) (h : W.heap[m]? = some (.map #[] 0)) : (Instr.lookup 65 (.map (some m)) (.string s) true).run Tryd.prog W = .ok (.tuple #[.agg #[], .bool false]) W := by
  simp [Instr.lookup, run_underlying Tryd.underlying65, MapKept.run_getObj_map h, textX_check, textX_find, zeroX_unit, Result.andThen]

theorem results_latch (tm : Array Value) (V : World) (b1 : Nat) (c0 c1 c2 c3 c4 v : Value) (h6 : tm.getD 6 undef = .pointer (some ⟨b1, 0, none⟩)) (h7 : tm.getD 7 undef = v) (hb1 : V.heap[b1]? = some (.cells #[c0, c1, c2, c3, c4] 25 (0, 0))) :
    (results Tryd.f6 tm).run Tryd.prog V = .ok (.tuple #[.agg #[c0, c1, c2, c3, c4], v]) V := by
  have e := run_loadVar_row (P := Tryd.prog) V b1 25 25 #[c0, c1, c2, c3, c4] (0, 0) _ hb1 Tryd.underlying25 rfl infoC5
  have h6' : tm[6]?.getD undef = .pointer (some ⟨b1, 0, none⟩) := by simpa using h6
  have h7' : tm[7]?.getD undef = v := by simpa using h7
  simp [results, Tryd.results6, asAddr, h6', h7', e, Sem.run_bind]
def LatchC (w : World) (c : CV) (e : Ending) (w' : World) : Prop := ∃ c2 : CV, e = .returned (.tuple #[c2.val, .slice none 0 0]) ∧ CVok w' c2 ∧ sameC c2 c = true ∧ Below w.heap.size w w'

set_option maxRecDepth 100000 in
set_option maxHeartbeats 2000000 in
theorem latch_none (w : World) (x : Value) (hx : Nobody w x) (c : CV) (h : CVok w c) (hs : ∀ x ∈ c.insts, x.ls.length ≤ 40) (hs2 : ∀ x ∈ c.docs, x.rs.length ≤ 40) (hc4 : c.insts.length ≤ 40) (hd4 : c.docs.length ≤ 100) (p : ByteArray) (f : Bool) (n : Int) (hp : p.size ≤ 2097152) :
    Calls Tryd.prog 6 #[x, c.val, .agg #[.string p, .bool f, .int .i64 n]] w (LatchC w c) := by
  have HC := Lib.hid (fun (W : World) (hb : Below w.heap.size w W) => copy_c W c (h.below hb) hs hs2 hc4 hd4)
  have HOK := Lib.hid h
  have HL4 := Lib.hid hc4
  have HF := Lib.hid (fun (W : World) (hb : Below w.heap.size w W) => for_none W x (hx.below hb) p f n hp)
  have hmm := @run_makeMap Tryd.prog
  have hl1 := h.insts.1
  have hd1 := h.docs.1
  clear hx h hs hs2 hc4 hd4 hp
  obtain ⟨id, mo, iv, dv, cl, is, ds⟩ := c
  dsimp only at hl1 hd1 HL4
  have hok := HOK.out
  obtain ⟨a, ca, hv1, hz1, hz2, hz3, hz4⟩ := hl1
  obtain ⟨b, cb, hv2, hz5, hz6, hz7, hz8⟩ := hd1
  clear hz1 hz2 hz3 hz4 hz5 hz6 hz7 hz8
  subst hv1 hv2
  obtain ⟨C, hC⟩ : ∃ C : CV, C = ⟨id, mo, .slice a is.length ca, .slice b ds.length cb, cl, is, ds⟩ := ⟨_, rfl⟩
  have HCC := Lib.hid hC
  rw [← hC] at HC hok
  clear HOK
  have HOK := Lib.hid hok
  rw [show LatchC w ⟨id, mo, .slice a is.length ca, .slice b ds.length cb, cl, is, ds⟩ = LatchC w C from by rw [hC]]
  have HCV := Lib.hid (show C.val = .agg #[.int .i64 id, .string mo, .slice a is.length ca, .slice b ds.length cb, .int .i64 cl] from by rw [hC]; rfl)
  rw [HCV.out] at HC
  clear hC hok
  unfold CV.val
  dsimp only
  obtain ⟨w0, hw0⟩ : ∃ y, y = ((w.alloc (.cells #[.int .i64 id, .string mo, .slice a is.length ca, .slice b ds.length cb, .int .i64 cl] 25)).alloc (.cells #[.string p, .bool f, .int .i64 n] 27)).alloc (.cells #[.int .i64 0, .string ⟨#[]⟩, .slice none 0 0, .slice none 0 0, .int .i64 0] 25) := ⟨_, rfl⟩
  have HBW := Lib.hid (show Below w.heap.size w w0 from by rw [hw0]; exact (boxes3 w _ _ _).2.2.1)
  have hq1 : w0.heap[w.heap.size]? = some (.cells #[.int .i64 id, .string mo, .slice a is.length ca, .slice b ds.length cb, .int .i64 cl] 25 (0, 0)) := by rw [hw0]; exact (Below.heap_alloc _ _ _ (by simp; omega)).trans (two_old w _ _)
  have hq2 : w0.heap[w.heap.size + 1]? = some (.cells #[.string p, .bool f, .int .i64 n] 27 (0, 0)) := by rw [hw0]; exact (boxes3 w _ _ _).2.1
  have hq3 : w0.heap[w.heap.size + 2]? = some (.cells #[.int .i64 0, .string ⟨#[]⟩, .slice none 0 0, .slice none 0 0, .int .i64 0] 25 (0, 0)) := by rw [hw0]; exact (boxes3 w _ _ _).1
  have HQ2 := Lib.hid hq2
  have HQ3 := Lib.hid hq3
  have HQ1 := Lib.hid hq1
  have HSW := Lib.hid (show w0.heap.size = w.heap.size + 3 from by rw [hw0]; simp)
  have HW0 := Lib.hid hw0
  clear hw0 hq2 hq3
  go_enter Tryd.func6, Tryd.ntmps6
  go_wp2_with fail
  rw [← HW0.out]
  obtain ⟨d0, d1, d2, d3, d4, dz⟩ := cells5 hq1
  clear hq1
  go_wp2_with fail
  refine (HC.out _ HBW.out).mono ?_
  rintro e w1 ⟨vI, vD, rfl, hio, hdo, hb1⟩
  have eC : C.id = id ∧ C.model = mo ∧ C.clock = cl ∧ C.insts = is ∧ C.docs = ds := by rw [HCC.out]; exact ⟨rfl, rfl, rfl, rfl, rfl⟩
  obtain ⟨e1, e2, e3, e4, e5⟩ := eC
  rw [e1, e2, e3]
  rw [e4] at hio
  rw [e5] at hdo
  obtain ⟨li, hli, hlb⟩ := hio.is (w0 := w) (fun x hx => HOK.out.insts.2 x (by rw [e4]; exact hx))
  obtain ⟨aI, cI, hvI, _⟩ := hli.1
  obtain ⟨ld, hld, hlbd⟩ := hdo.is (w0 := w) (fun x hx => HOK.out.docs.2 x (by rw [e5]; exact hx))
  obtain ⟨aD, cD, hvD, _⟩ := hld.1
  subst hvI hvD
  have hnI : li.length = is.length := by simpa using congrArg List.length hlb
  have hnD : ld.length = ds.length := by simpa using congrArg List.length hlbd
  rw [hnI] at hio
  rw [hnD] at hdo
  rw [hnI, hnD]
  have HE := Lib.hid (And.intro e1 (And.intro e2 (And.intro e3 (And.intro e4 e5))))
  have HIO := Lib.hid hio
  have HDO := Lib.hid hdo
  have HB1 := Lib.hid (HBW.out.trans (hb1.mono HBW.out.size))
  have h1 := (hb1.block w.heap.size (by have := HSW.out; omega)).trans HQ1.out
  have h2 := (hb1.block (w.heap.size + 1) (by have := HSW.out; omega)).trans HQ2.out
  have h3 := (hb1.block (w.heap.size + 2) (by have := HSW.out; omega)).trans HQ3.out
  have H1 := Lib.hid h1
  have H2 := Lib.hid h2
  have H3 := Lib.hid h3
  have HS1 := Lib.hid (show w.heap.size + 3 ≤ w1.heap.size from by have := hb1.size; have := HSW.out; omega)
  obtain ⟨b0, b1, b2, b3, b4, bz⟩ := cells5 h1
  clear d0 d1 d2 d3 d4 dz e1 e2 e3 e4 e5 hio hdo hli hlb hld hlbd hnI hnD hb1 h1 h2 h3
  go_upto_region 2 with (fail)
  obtain ⟨w2, hw2⟩ : ∃ y, y = putC w1 w.heap.size (.int .i64 id) (.string mo) (.slice aI is.length cI) (.slice aD ds.length cD) (.int .i64 cl) := ⟨_, rfl⟩
  have hfar : ∀ k, k ≠ w.heap.size → w2.heap[k]? = w1.heap[k]? := fun k hk => by rw [hw2]; exact putC_far _ _ _ hk _ _ _ _ _
  have hat : w2.heap[w.heap.size]? = some (.cells #[.int .i64 id, .string mo, .slice aI is.length cI, .slice aD ds.length cD, .int .i64 cl] 25 (0, 0)) := by rw [hw2]; exact putC_at H1.out _ _ _ _ _
  have HB2 := Lib.hid (show Below w.heap.size w w2 from by rw [hw2]; exact putC_below HB1.out (Nat.le_refl _) _ _ _ _ _)
  have HI2 := Lib.hid (InstsOwn.far HIO.out (by decide) (by decide) H1.out hfar)
  have HD2 := Lib.hid (DocsOwn.far HDO.out (by decide) (by decide) H1.out hfar)
  have HS2 := Lib.hid (show w.heap.size + 3 ≤ w2.heap.size from by have := HS1.out; rw [hw2]; simp [putC, World.setCell]; omega)
  unfold putC at hw2
  rw [← hw2]
  have HA1 := Lib.hid hat
  have HA2 := Lib.hid ((hfar _ (by omega)).trans H2.out)
  have HA3 := Lib.hid ((hfar _ (by omega)).trans H3.out)
  clear hw2 hfar b0 b1 b2 b3 b4 bz
  obtain ⟨e0, e1, e2, ez⟩ := cells3x HA2.out
  have hl2 : w.heap.size + 1 < w2.heap.size := by have := HS2.out; omega
  go_wp2_with fail
  refine (HF.out _ (HB2.out.alloc HB2.out.size _)).mono ?_
  rintro e w3 ⟨rfl, hb3⟩
  have hall : Below w2.heap.size w2 w3 := ((Below.refl _ _).alloc (Nat.le_refl _) _).trans (hb3.mono (by simp))
  have HM := Lib.hid ((hb3.block w2.heap.size (by simp)).trans (heap_alloc_new w2 _))
  have HB3 := Lib.hid (HB2.out.trans (hall.mono HB2.out.size))
  have HI3 := Lib.hid (HI2.out.below hall)
  have HD3 := Lib.hid (HD2.out.below hall)
  have HQ4 := Lib.hid ((hall.block w.heap.size (by omega)).trans HA1.out)
  have HQ5 := Lib.hid ((hall.block (w.heap.size + 2) (by have := HS2.out; omega)).trans HA3.out)
  have HS3 := Lib.hid (show w.heap.size + 3 ≤ w3.heap.size from by have := hall.size; have := HS2.out; omega)
  obtain ⟨li, hli, hlb⟩ := HI3.out.is (w0 := w) (fun x hx => HOK.out.insts.2 x (by rw [HE.out.2.2.2.1]; exact hx))
  have hnI : li.length = is.length := by simpa using congrArg List.length hlb
  have HLI := Lib.hid hli
  have hr6 := hli.1
  rw [hnI] at hr6
  have HR6 := Lib.hid hr6
  have HN := Lib.hid hnI
  have hn : is.length ≤ 9223372036854775807 := by have := HL4.out; omega
  obtain ⟨f0, f1, f2, f3, f4, fz⟩ := cells5 HQ4.out
  clear e0 e1 e2 ez hb3 hall hli hlb hnI hr6
  go_wp2_with fail
  refine wp_loop_rounds 1 ?_
  rw [rounds_succ]
  go_wp2_with fail
  go_loopw [11, 37] (fun v i wr => ∃ k : Nat, k ≤ is.length ∧ v = .slice none 0 0 ∧ i = .int .i64 k ∧ Below w3.heap.size w3 wr) (fun _ i _ => is.length - (intOf i).toNat)
  case atStart => exact ⟨0, by omega, rfl, rfl, Below.refl _ _⟩
  case round =>
    obtain ⟨k, hk, rfl, rfl, hbr⟩ := hrel
    have HBR := Lib.hid hbr
    clear hbr f0 f1 f2 f3 f4 fz
    by_cases hlt : k < is.length
    · have hlt2 : k < li.length := by rw [HN.out]; exact hlt
      obtain ⟨x, hx⟩ : ∃ x, x = li[k] := ⟨_, rfl⟩
      have hrow : rowI li k = x.cells := by unfold rowI; rw [List.getElem?_eq_getElem hlt2, ← hx]; rfl
      have hxo := HLI.out.2 x (by rw [hx]; exact List.getElem_mem hlt2)
      obtain ⟨pl, cp, hlv⟩ := hxo.rl.form
      obtain ⟨path, item, st, bf, lv, ls, due⟩ := x
      dsimp only at hlv
      subst hlv
      obtain ⟨g, o, ha, hg, c0, c1, c2, c3, c4, c5⟩ := (HR6.out.below HBR.out).row hlt hrow
      have hlk := fun ob : Obj => lookX_text (wr.alloc ob) w2.heap.size item ((Below.heap_alloc wr ob _ (by have h1 := (Array.getElem?_eq_some_iff.1 HM.out).1; have h2 := HBR.out.size; omega)).trans ((HBR.out.block _ (Array.getElem?_eq_some_iff.1 HM.out).1).trans HM.out))
      subst ha
      clear hrow hxo hx hlt2
      go_wp2_with fail
      go_roundw
      case rel => exact ⟨k + 1, by omega, rfl, by go_num, (HBR.out.alloc HBR.out.size _).alloc (by have := HBR.out.size; simp; omega) _⟩
      case measure => simp [intOf]; omega
    · have hq4 := (HBR.out.block w.heap.size (by have := HS3.out; omega)).trans HQ4.out
      have hq5 := (HBR.out.block (w.heap.size + 2) (by have := HS3.out; omega)).trans HQ5.out
      have H4 := Lib.hid hq4
      have H5 := Lib.hid hq5
      obtain ⟨f0, f1, f2, f3, f4, fz⟩ := cells5 hq4
      obtain ⟨g0, g1, g2, g3, g4, gz⟩ := cells5 hq5
      clear hq4 hq5
      go_wp2_with fail
      refine bodyPost_ret (results_latch _ _ (w.heap.size + 2) _ _ _ _ _ _ rfl rfl (putC_at H5.out _ _ _ _ _)) rfl ?_
      have hf := fun b (hb : b ≠ w.heap.size + 2) => putC_far wr (w.heap.size + 2) b hb (.int .i64 id) (.string mo) (.slice aI is.length cI) (.slice aD ds.length cD) (.int .i64 cl)
      obtain ⟨e1, e2, e3, e4, e5⟩ := HE.out
      obtain ⟨lj, hlj, hljb⟩ := (InstsOwn.far (HI3.out.below HBR.out) (by decide) (by decide) H5.out hf).is (w0 := w) (fun x hx => HOK.out.insts.2 x (by rw [e4]; exact hx))
      obtain ⟨le, hle, hleb⟩ := (DocsOwn.far (HD3.out.below HBR.out) (by decide) (by decide) H5.out hf).is (w0 := w) (fun x hx => HOK.out.docs.2 x (by rw [e5]; exact hx))
      refine ⟨⟨id, mo, .slice aI is.length cI, .slice aD ds.length cD, cl, lj, le⟩, rfl, ⟨by have := HOK.out.id; rwa [e1] at this, by have := HOK.out.clock; rwa [e3] at this, by have := HOK.out.model; rwa [e2] at this, hlj, hle⟩, sameC_of e1.symm e2.symm e3.symm (hljb.trans (by rw [e4])) (hleb.trans (by rw [e5])), putC_below (HB3.out.trans (HBR.out.mono HB3.out.size)) (by omega) _ _ _ _ _⟩
end Go.Proofs.YtdnfoeoiommclaaDoor
