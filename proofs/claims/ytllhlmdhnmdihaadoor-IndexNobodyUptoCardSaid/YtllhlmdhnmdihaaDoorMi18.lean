/- Cases: the laws' awake; a found instance in one form. -/
import Derived.Test.YtllhlmdhnmdihaaDoorMi17
import Derived.Test.YtllhlmdhnmdihaaDoorMi16
import Derived.Test.YtllhlmdhnmdihaaDoorCards
import Derived.Test.YtllhlmdhnmdihaaDoorTie
import Derived.Test.YtllhlmdhnmdihaaDoorCw
import Derived.ProofKit
import Derived.OpenShut
import Derived.Deep.DeepHandedRow
import Derived.Lib.LaidU8
import Derived.PinnedBridge
import Derived.MakeChecks
namespace Go.Proofs.YtllhlmdhnmdihaaDoor
open Go Go.RowKit Go.Shelf
set_option linter.unusedVariables false
set_option linter.unusedSimpArgs false

theorem txt2 : (⟨(txt 2).toArray⟩ : ByteArray) = ⟨#[50]⟩ := by decide +kernel

theorem li : Lib.lastIndex [112, 46, 49, 47, 116, 46, 50] [47] = 3 := by decide +kernel
theorem ex3 : (⟨#[112, 46, 49, 47, 116, 46, 50]⟩ : ByteArray).extract 0 3 = ⟨#[112, 46, 49]⟩ := by decide +kernel
/-- What a search finds, but for where its latches lie. -/
def foundX (o : Option IV) : IV := (o.getD ⟨⟨#[]⟩, ⟨#[]⟩, 0, 0, .slice none 0 0, [], 0⟩).bare
theorem FoundAs.iv {w w0 w' : World} {o : Option IV} {e : Ending} (h : FoundAs w o e w') (hl : ∀ x, o = some x → IVok w0 x) :
    ∃ x : IV, e = .returned (.tuple #[.agg x.cells.toArray, .bool o.isSome]) ∧ IVok w' x ∧ x.bare = foundX o ∧ Below w.heap.size w w' := by
  cases o with
  | none =>
    obtain ⟨he, hb⟩ := h
    exact ⟨⟨⟨#[]⟩, ⟨#[]⟩, 0, 0, .slice none 0 0, [], 0⟩, he, ⟨by decide, by decide, by decide, by decide, by decide, RdV.nil _⟩, rfl, hb⟩
  | some x =>
    obtain ⟨v', he, ho, hb⟩ := h
    have hx := hl x rfl
    refine ⟨{ x with lv := v' }, he, ⟨hx.path, hx.item, hx.st, hx.bf, hx.due, ?_⟩, rfl, hb⟩
    rw [show x.ls.length = (icells x.ls).length from by simp [icells]] at ho
    exact rdv_of_ownS ho
theorem find_mem {l : List IV} {f : IV → Bool} {x : IV} (h : l.find? f = some x) : x ∈ l := List.mem_of_find?_eq_some h
theorem CopyC.cv {w w' : World} {c : CV} {e : Ending} (h : CopyC w c e w') (hc : CVok w c) :
    ∃ c2 : CV, e = .returned c2.val ∧ CVok w' c2 ∧ c2.id = c.id ∧ c2.model = c.model ∧ c2.clock = c.clock ∧ c2.insts.map IV.bare = c.insts.map IV.bare ∧ c2.docs.map DV.bare = c.docs.map DV.bare ∧ Below w.heap.size w w' := by
  obtain ⟨vI, vD, he, hi, hd, hb⟩ := h
  obtain ⟨li, h1, h2⟩ := hi.is (w0 := w) (fun x hx => hc.insts.2 x hx)
  obtain ⟨ld, h3, h4⟩ := hd.is (w0 := w) (fun x hx => hc.docs.2 x hx)
  exact ⟨⟨c.id, c.model, vI, vD, c.clock, li, ld⟩, he, ⟨hc.id, hc.clock, hc.model, h1, h3⟩, rfl, rfl, rfl, h2, h4, hb⟩
theorem sameD_bare {x y : DV} (h : x.bare = y.bare) : sameD x y = true := by
  obtain ⟨path, vk, vi, vb, vt, rv, rs⟩ := x
  obtain ⟨path2, vk2, vi2, vb2, vt2, rv2, rs2⟩ := y
  simp only [DV.bare, DV.mk.injEq] at h
  obtain ⟨rfl, rfl, rfl, rfl, rfl, _, rfl⟩ := h
  simp [sameD, sameVal, sameT]
theorem zip_all {α β : Type} {f : α → α → Bool} {g : α → β} (hf : ∀ x y, g x = g y → f x y = true) : ∀ {l1 l2 : List α}, l1.map g = l2.map g → ((l1.zip l2).all fun p => f p.1 p.2) = true
  | [], _, _ => by simp
  | x :: r, [], h => by simp
  | x :: r, y :: s, h => by
    simp only [List.map_cons, List.cons.injEq] at h
    simp only [List.zip_cons_cons, List.all_cons, Bool.and_eq_true]
    exact ⟨hf x y h.1, zip_all hf h.2⟩
theorem sameC_of {x y : CV} (h1 : x.id = y.id) (h2 : x.model = y.model) (h3 : x.clock = y.clock) (h4 : x.insts.map IV.bare = y.insts.map IV.bare) (h5 : x.docs.map DV.bare = y.docs.map DV.bare) : sameC x y = true := by
  have l4 : x.insts.length = y.insts.length := by simpa using congrArg List.length h4
  have l5 : x.docs.length = y.docs.length := by simpa using congrArg List.length h5
  unfold sameC sameDs
  rw [h1, h2, h3, decide_eq_true l4, decide_eq_true l5, zip_all (fun _ _ => sameD_bare) h5, zip_all (fun _ _ => sameI_bare) h4]
  simp
end Go.Proofs.YtllhlmdhnmdihaaDoor

/- An index: Latch of an index that no call made. -/
namespace Go.Proofs.YtllhlmdhnmdihaaDoor
open Go Go.RowKit Go.Shelf Go.ChangeMaps
set_option linter.unusedVariables false
set_option linter.unusedSimpArgs false

theorem boxes3p (w : World) (o1 o2 o3 : Obj) : (((w.alloc o1).alloc o2).alloc o3).heap[w.heap.size + 1 + 1]? = some o3 ∧ (((w.alloc o1).alloc o2).alloc o3).heap[w.heap.size + 1]? = some o2 ∧ Below w.heap.size w (((w.alloc o1).alloc o2).alloc o3) ∧ (((w.alloc o1).alloc o2).alloc o3).heap.size = w.heap.size + 3 := by
  refine ⟨by simpa using heap_alloc_new ((w.alloc o1).alloc o2) o3, (Below.heap_alloc _ _ _ (by simp)).trans (two_new w _ _), (((Below.refl _ _).alloc (Nat.le_refl _) _).alloc (by simp) _).alloc (by simp; omega) _, by simp⟩
theorem textX_check (W : World) (s : ByteArray) (b : Bool) : (Instr.checkKey b 10000 9 (.string s)).run Tryd.prog W = .ok () W := by kernel_rfl
theorem textX_find (W : World) (s : ByteArray) : (Instr.findKey 9 (.string s) []).run Tryd.prog W = .ok none W := by kernel_rfl
theorem zeroX_unit (W : World) : (zeroValue 66).run Tryd.prog W = .ok (.agg #[]) W := by kernel_rfl
theorem lookX_text (W : World) (m : Nat) (s : ByteArray) (h : W.heap[m]? = some (.map #[] 0)) : (Instr.lookup 65 (.map (some m)) (.string s) true).run Tryd.prog W = .ok (.tuple #[.agg #[], .bool false]) W := by
  simp [Instr.lookup, run_underlying Tryd.underlying65, MapKept.run_getObj_map h, textX_check, textX_find, zeroX_unit, Result.andThen]

theorem results_latch (tm : Array Value) (V : World) (b1 : Nat) (c0 c1 c2 c3 c4 v : Value) (h6 : tm.getD 6 undef = .pointer (some ⟨b1, 0, none⟩)) (h7 : tm.getD 7 undef = v) (hb1 : V.heap[b1]? = some (.cells #[c0, c1, c2, c3, c4] 25 (0, 0))) :
    (results Tryd.f6 tm).run Tryd.prog V = .ok (.tuple #[.agg #[c0, c1, c2, c3, c4], v]) V := by
  have e := run_loadVar_row (P := Tryd.prog) V b1 25 25 #[c0, c1, c2, c3, c4] (0, 0) _ hb1 Tryd.underlying25 rfl infoC5
  have h6' : tm[6]?.getD undef = .pointer (some ⟨b1, 0, none⟩) := by simpa using h6
  have h7' : tm[7]?.getD undef = v := by simpa using h7
  simp [results, Tryd.results6, asAddr, h6', h7', e, Sem.run_bind]
def LatchC (w : World) (c : CV) (e : Ending) (w' : World) : Prop := ∃ c2 : CV, e = .returned (.tuple #[c2.val, .slice none 0 0]) ∧ CVok w' c2 ∧ sameC c2 c = true ∧ Below w.heap.size w w'

set_option maxRecDepth 100000 in
set_option maxHeartbeats 2000000 in
theorem latch_none (w : World) (x : Value) (hx : Nobody w x) (c : CV) (h : CVok w c) (hs : ∀ x ∈ c.insts, x.ls.length ≤ 40) (hs2 : ∀ x ∈ c.docs, x.rs.length ≤ 40) (hc4 : c.insts.length ≤ 40) (hd4 : c.docs.length ≤ 100) (p : ByteArray) (f : Bool) (n : Int) (hp : p.size ≤ 2097152) :
    Calls Tryd.prog 6 #[x, c.val, .agg #[.string p, .bool f, .int .i64 n]] w (LatchC w c) := by
  have HC := Lib.hid (fun (W : World) (hb : Below w.heap.size w W) => copy_c W c (h.below hb) hs hs2 hc4 hd4)
  have HOK := Lib.hid h
  have HL4 := Lib.hid hc4
  have HF := Lib.hid (fun (W : World) (hb : Below w.heap.size w W) => for_none W x (hx.below hb) p f n hp)
  have hmm := @run_makeMap Tryd.prog
  have hl1 := h.insts.1
  have hd1 := h.docs.1
  clear hx h hs hs2 hc4 hd4 hp
  obtain ⟨id, mo, iv, dv, cl, is, ds⟩ := c
  dsimp only at hl1 hd1 HL4
  have hok := HOK.out
  obtain ⟨a, ca, hv1, hz1, hz2, hz3, hz4⟩ := hl1
  obtain ⟨b, cb, hv2, hz5, hz6, hz7, hz8⟩ := hd1
  clear hz1 hz2 hz3 hz4 hz5 hz6 hz7 hz8
  subst hv1 hv2
  obtain ⟨C, hC⟩ : ∃ C : CV, C = ⟨id, mo, .slice a is.length ca, .slice b ds.length cb, cl, is, ds⟩ := ⟨_, rfl⟩
  have HCC := Lib.hid hC
  rw [← hC] at HC hok
  clear HOK
  have HOK := Lib.hid hok
  rw [show LatchC w ⟨id, mo, .slice a is.length ca, .slice b ds.length cb, cl, is, ds⟩ = LatchC w C from by rw [hC]]
  have HCV := Lib.hid (show C.val = .agg #[.int .i64 id, .string mo, .slice a is.length ca, .slice b ds.length cb, .int .i64 cl] from by rw [hC]; rfl)
  rw [HCV.out] at HC
  clear hC hok
  unfold CV.val
  dsimp only
  obtain ⟨w0, hw0⟩ : ∃ y, y = ((w.alloc (.cells #[.int .i64 id, .string mo, .slice a is.length ca, .slice b ds.length cb, .int .i64 cl] 25)).alloc (.cells #[.string p, .bool f, .int .i64 n] 27)).alloc (.cells #[.int .i64 0, .string ⟨#[]⟩, .slice none 0 0, .slice none 0 0, .int .i64 0] 25) := ⟨_, rfl⟩
  have HBW := Lib.hid (show Below w.heap.size w w0 from by rw [hw0]; exact (boxes3p w _ _ _).2.2.1)
  have hq1 : w0.heap[w.heap.size]? = some (.cells #[.int .i64 id, .string mo, .slice a is.length ca, .slice b ds.length cb, .int .i64 cl] 25 (0, 0)) := by rw [hw0]; exact (Below.heap_alloc _ _ _ (by simp; omega)).trans (two_old w _ _)
  have hq2 : w0.heap[w.heap.size + 1]? = some (.cells #[.string p, .bool f, .int .i64 n] 27 (0, 0)) := by rw [hw0]; exact (boxes3p w _ _ _).2.1
  have hq3 : w0.heap[w.heap.size + 2]? = some (.cells #[.int .i64 0, .string ⟨#[]⟩, .slice none 0 0, .slice none 0 0, .int .i64 0] 25 (0, 0)) := by rw [hw0]; exact (boxes3p w _ _ _).1
  have HQ2 := Lib.hid hq2
  have HQ3 := Lib.hid hq3
  have HQ1 := Lib.hid hq1
  have HSW := Lib.hid (show w0.heap.size = w.heap.size + 3 from by rw [hw0]; simp)
  have HW0 := Lib.hid hw0
  clear hw0 hq2 hq3
  go_enter Tryd.func6, Tryd.ntmps6
  go_wp2_with fail
  rw [← HW0.out]
  obtain ⟨d0, d1, d2, d3, d4, dz⟩ := cells5 hq1
  clear hq1
  go_wp2_with fail
  refine (HC.out _ HBW.out).mono ?_
  rintro e w1 ⟨vI, vD, rfl, hio, hdo, hb1⟩
  have eC : C.id = id ∧ C.model = mo ∧ C.clock = cl ∧ C.insts = is ∧ C.docs = ds := by rw [HCC.out]; exact ⟨rfl, rfl, rfl, rfl, rfl⟩
  obtain ⟨e1, e2, e3, e4, e5⟩ := eC
  rw [e1, e2, e3]
  rw [e4] at hio
  rw [e5] at hdo
  obtain ⟨li, hli, hlb⟩ := hio.is (w0 := w) (fun x hx => HOK.out.insts.2 x (by rw [e4]; exact hx))
  obtain ⟨aI, cI, hvI, _⟩ := hli.1
  obtain ⟨ld, hld, hlbd⟩ := hdo.is (w0 := w) (fun x hx => HOK.out.docs.2 x (by rw [e5]; exact hx))
  obtain ⟨aD, cD, hvD, _⟩ := hld.1
  subst hvI hvD
  have hnI : li.length = is.length := by simpa using congrArg List.length hlb
  have hnD : ld.length = ds.length := by simpa using congrArg List.length hlbd
  rw [hnI] at hio
  rw [hnD] at hdo
  rw [hnI, hnD]
  have HE := Lib.hid (And.intro e1 (And.intro e2 (And.intro e3 (And.intro e4 e5))))
  have HIO := Lib.hid hio
  have HDO := Lib.hid hdo
  have HB1 := Lib.hid (HBW.out.trans (hb1.mono HBW.out.size))
  have h1 := (hb1.block w.heap.size (by have := HSW.out; omega)).trans HQ1.out
  have h2 := (hb1.block (w.heap.size + 1) (by have := HSW.out; omega)).trans HQ2.out
  have h3 := (hb1.block (w.heap.size + 2) (by have := HSW.out; omega)).trans HQ3.out
  have H1 := Lib.hid h1
  have H2 := Lib.hid h2
  have H3 := Lib.hid h3
  have HS1 := Lib.hid (show w.heap.size + 3 ≤ w1.heap.size from by have := hb1.size; have := HSW.out; omega)
  obtain ⟨b0, b1, b2, b3, b4, bz⟩ := cells5 h1
  clear d0 d1 d2 d3 d4 dz e1 e2 e3 e4 e5 hio hdo hli hlb hld hlbd hnI hnD hb1 h1 h2 h3
  go_upto_region 2 with (fail)
  obtain ⟨w2, hw2⟩ : ∃ y, y = putC w1 w.heap.size (.int .i64 id) (.string mo) (.slice aI is.length cI) (.slice aD ds.length cD) (.int .i64 cl) := ⟨_, rfl⟩
  have hfar : ∀ k, k ≠ w.heap.size → w2.heap[k]? = w1.heap[k]? := fun k hk => by rw [hw2]; exact putC_far _ _ _ hk _ _ _ _ _
  have hat : w2.heap[w.heap.size]? = some (.cells #[.int .i64 id, .string mo, .slice aI is.length cI, .slice aD ds.length cD, .int .i64 cl] 25 (0, 0)) := by rw [hw2]; exact putC_at H1.out _ _ _ _ _
  have HB2 := Lib.hid (show Below w.heap.size w w2 from by rw [hw2]; exact putC_below HB1.out (Nat.le_refl _) _ _ _ _ _)
  have HI2 := Lib.hid (InstsOwn.far HIO.out (by decide) (by decide) H1.out hfar)
  have HD2 := Lib.hid (DocsOwn.far HDO.out (by decide) (by decide) H1.out hfar)
  have HS2 := Lib.hid (show w.heap.size + 3 ≤ w2.heap.size from by have := HS1.out; rw [hw2]; simp [putC, World.setCell]; omega)
  unfold putC at hw2
  rw [← hw2]
  have HA1 := Lib.hid hat
  have HA2 := Lib.hid ((hfar _ (by omega)).trans H2.out)
  have HA3 := Lib.hid ((hfar _ (by omega)).trans H3.out)
  clear hw2 hfar b0 b1 b2 b3 b4 bz
  obtain ⟨e0, e1, e2, ez⟩ := cells3x HA2.out
  have hl2 : w.heap.size + 1 < w2.heap.size := by have := HS2.out; omega
  go_wp2_with fail
  refine (HF.out _ (HB2.out.alloc HB2.out.size _)).mono ?_
  rintro e w3 ⟨rfl, hb3⟩
  have hall : Below w2.heap.size w2 w3 := ((Below.refl _ _).alloc (Nat.le_refl _) _).trans (hb3.mono (by simp))
  have HM := Lib.hid ((hb3.block w2.heap.size (by simp)).trans (heap_alloc_new w2 _))
  have HB3 := Lib.hid (HB2.out.trans (hall.mono HB2.out.size))
  have HI3 := Lib.hid (HI2.out.below hall)
  have HD3 := Lib.hid (HD2.out.below hall)
  have HQ4 := Lib.hid ((hall.block w.heap.size (by omega)).trans HA1.out)
  have HQ5 := Lib.hid ((hall.block (w.heap.size + 2) (by have := HS2.out; omega)).trans HA3.out)
  have HS3 := Lib.hid (show w.heap.size + 3 ≤ w3.heap.size from by have := hall.size; have := HS2.out; omega)
  obtain ⟨li, hli, hlb⟩ := HI3.out.is (w0 := w) (fun x hx => HOK.out.insts.2 x (by rw [HE.out.2.2.2.1]; exact hx))
  have hnI : li.length = is.length := by simpa using congrArg List.length hlb
  have HLI := Lib.hid hli
  have hr6 := hli.1
  rw [hnI] at hr6
  have HR6 := Lib.hid hr6
  have HN := Lib.hid hnI
  have hn : is.length ≤ 9223372036854775807 := by have := HL4.out; omega
  obtain ⟨f0, f1, f2, f3, f4, fz⟩ := cells5 HQ4.out
  clear e0 e1 e2 ez hb3 hall hli hlb hnI hr6
  go_wp2_with fail
  refine wp_loop_rounds 1 ?_
  rw [rounds_succ]
  go_wp2_with fail
  go_loopw [11, 37] (fun v i wr => ∃ k : Nat, k ≤ is.length ∧ v = .slice none 0 0 ∧ i = .int .i64 k ∧ Below w3.heap.size w3 wr) (fun _ i _ => is.length - (intOf i).toNat)
  case atStart => exact ⟨0, by omega, rfl, rfl, Below.refl _ _⟩
  case round =>
    obtain ⟨k, hk, rfl, rfl, hbr⟩ := hrel
    have HBR := Lib.hid hbr
    clear hbr f0 f1 f2 f3 f4 fz
    by_cases hlt : k < is.length
    · have hlt2 : k < li.length := by rw [HN.out]; exact hlt
      obtain ⟨x, hx⟩ : ∃ x, x = li[k] := ⟨_, rfl⟩
      have hrow : rowI li k = x.cells := by unfold rowI; rw [List.getElem?_eq_getElem hlt2, ← hx]; rfl
      have hxo := HLI.out.2 x (by rw [hx]; exact List.getElem_mem hlt2)
      obtain ⟨pl, cp, hlv⟩ := hxo.rl.form
      obtain ⟨path, item, st, bf, lv, ls, due⟩ := x
      dsimp only at hlv
      subst hlv
      obtain ⟨g, o, ha, hg, c0, c1, c2, c3, c4, c5⟩ := (HR6.out.below HBR.out).row hlt hrow
      have hlk := fun ob : Obj => lookX_text (wr.alloc ob) w2.heap.size item ((Below.heap_alloc wr ob _ (by have h1 := (Array.getElem?_eq_some_iff.1 HM.out).1; have h2 := HBR.out.size; omega)).trans ((HBR.out.block _ (Array.getElem?_eq_some_iff.1 HM.out).1).trans HM.out))
      subst ha
      clear hrow hxo hx hlt2
      go_wp2_with fail
      go_roundw
      case rel => exact ⟨k + 1, by omega, rfl, by go_num, (HBR.out.alloc HBR.out.size _).alloc (by have := HBR.out.size; simp; omega) _⟩
      case measure => simp [intOf]; omega
    · have hq4 := (HBR.out.block w.heap.size (by have := HS3.out; omega)).trans HQ4.out
      have hq5 := (HBR.out.block (w.heap.size + 2) (by have := HS3.out; omega)).trans HQ5.out
      have H4 := Lib.hid hq4
      have H5 := Lib.hid hq5
      obtain ⟨f0, f1, f2, f3, f4, fz⟩ := cells5 hq4
      obtain ⟨g0, g1, g2, g3, g4, gz⟩ := cells5 hq5
      clear hq4 hq5
      go_wp2_with fail
      refine bodyPost_ret (results_latch _ _ (w.heap.size + 2) _ _ _ _ _ _ rfl rfl (putC_at H5.out _ _ _ _ _)) rfl ?_
      have hf := fun b (hb : b ≠ w.heap.size + 2) => putC_far wr (w.heap.size + 2) b hb (.int .i64 id) (.string mo) (.slice aI is.length cI) (.slice aD ds.length cD) (.int .i64 cl)
      obtain ⟨e1, e2, e3, e4, e5⟩ := HE.out
      obtain ⟨lj, hlj, hljb⟩ := (InstsOwn.far (HI3.out.below HBR.out) (by decide) (by decide) H5.out hf).is (w0 := w) (fun x hx => HOK.out.insts.2 x (by rw [e4]; exact hx))
      obtain ⟨le, hle, hleb⟩ := (DocsOwn.far (HD3.out.below HBR.out) (by decide) (by decide) H5.out hf).is (w0 := w) (fun x hx => HOK.out.docs.2 x (by rw [e5]; exact hx))
      refine ⟨⟨id, mo, .slice aI is.length cI, .slice aD ds.length cD, cl, lj, le⟩, rfl, ⟨by have := HOK.out.id; rwa [e1] at this, by have := HOK.out.clock; rwa [e3] at this, by have := HOK.out.model; rwa [e2] at this, hlj, hle⟩, sameC_of e1.symm e2.symm e3.symm (hljb.trans (by rw [e4])) (hleb.trans (by rw [e5])), putC_below (HB3.out.trans (HBR.out.mono HB3.out.size)) (by omega) _ _ _ _ _⟩
end Go.Proofs.YtllhlmdhnmdihaaDoor

/- The decoder's two tables: from the row's list to the cells, and a world for the witness. -/
namespace Go.Proofs.YtllhlmdhnmdihaaDoor
open Go.Lib Go.RowKit

theorem first_is : Rows.laid_unicode_utf8_first = Lib.firstData := Pinned.utf8First_eq
theorem accept_is : (Rows.laid_unicode_utf8_acceptRanges : DataW Unit) = Lib.acceptData := by kernel_rfl
def tabList : List (String × DataW Unit) := [("unicode/utf8.acceptRanges", Rows.laid_unicode_utf8_acceptRanges), ("unicode/utf8.first", Rows.laid_unicode_utf8_first)]

theorem gFirst : Tryd.prog.globalNamed "unicode/utf8.first" = some 1 := by kernel_rfl
theorem gFirstT : (Tryd.prog.globals[1]?).map (·.type) = some 163 := by kernel_rfl
theorem gAcc : Tryd.prog.globalNamed "unicode/utf8.acceptRanges" = some 2 := by kernel_rfl
theorem gAccT : (Tryd.prog.globals[2]?).map (·.type) = some 166 := by kernel_rfl
theorem cells5t : Tryd.prog.cellsOf 5 = 1 := by kernel_rfl
theorem cellsFirst : Tryd.prog.cellsOf 163 = 256 := by kernel_rfl
theorem cellsAcc : Tryd.prog.cellsOf 165 = 2 := by kernel_rfl

theorem tabs_of {W : World} (h : laidMetH Tryd.prog tabList W) : Tabs W := by
  rw [MakeChecks.laidMetH_plain _ _ _ (by kernel_rfl)] at h
  have h3 : VarReads Tryd.prog W "unicode/utf8.first" Lib.firstData := by rw [← first_is]; exact laidMet.reads h (by simp [tabList])
  have h4 : VarReads Tryd.prog W "unicode/utf8.acceptRanges" Lib.acceptData := by rw [← accept_is]; exact laidMet.reads h (by simp [tabList])
  refine ⟨fun c hc => ?_, fun i hi => ?_⟩
  · obtain ⟨g, t, cs, fuel, p, hg, hty, hvar, hd⟩ := h3
    obtain rfl := Option.some.inj (gFirst.symm.trans hg)
    obtain rfl := Option.some.inj (gFirstT.symm.trans hty)
    have hcs := cells_of_tab Tryd.underlying163 Tryd.underlying5 cells5t cellsFirst hd
    have := World.var?_cell hg hvar c
    rw [this, ← Array.getElem?_toList, hcs]
    simp [firstTab, hc]
  · obtain ⟨g, t, cs, fuel, p, hg, hty, hvar, hd⟩ := h4
    obtain rfl := Option.some.inj (gAcc.symm.trans hg)
    obtain rfl := Option.some.inj (gAccT.symm.trans hty)
    obtain ⟨fuel', d, q, hdi, he⟩ := array_elem Tryd.underlying166 hd i hi
    simp only [List.getElem?_map, List.getElem?_range hi, Option.map_some, Option.some.injEq] at hdi
    subst hdi
    rw [cellsAcc] at he
    have hcs := ints_of_struct Tryd.underlying165 (fun j f hj => by
      match j, hj with
      | 0, hj => simp at hj; subst hj; exact ⟨Tryd.underlying5, rfl, cells5t⟩
      | 1, hj => simp at hj; subst hj; exact ⟨Tryd.underlying5, rfl, cells5t⟩
      | j + 2, hj => simp at hj) (by rw [cellsAcc]; rfl) he
    have e0 := congrArg (·[0]?) hcs
    have e1 := congrArg (·[1]?) hcs
    simp only [List.getElem?_take, List.getElem?_drop] at e0 e1
    constructor
    · rw [World.var?_cell hg hvar (2 * i), ← Array.getElem?_toList]
      simpa [Nat.mul_comm] using e0
    · rw [World.var?_cell hg hvar (2 * i + 1), ← Array.getElem?_toList]
      simpa [Nat.mul_comm] using e1

/-- A block with other cells. -/
def recells (cs : Array Value) : Obj → Obj
  | .cells _ t fz => .cells cs t fz
  | o => o
def firstCells : Array Value := ((List.range 256).map fun c => Value.int .u8 (firstT c)).toArray
def accCells : Array Value := ((List.range 32).map fun c => Value.int .u8 (if c % 2 = 0 then accLo (c / 2) else accHi (c / 2))).toArray

/-- A world for the witness: the settled one, both tables as their initialisers lay them. -/
noncomputable def laidWorld (os : Os) : World :=
  { World.holding Tryd.prog os ⟨#[], #[], []⟩ with heap := ((World.holding Tryd.prog os ⟨#[], #[], []⟩).heap.modify 1 (recells firstCells)).modify 2 (recells accCells) }
end Go.Proofs.YtllhlmdhnmdihaaDoor
