/- tree: THE LAW TreeFinds: of any small case, the program's search for an instance by its path, the instances directly below a path and those below it, the number of a further one, the comparison of two cases, and the copy, are the reference's. Conditions: none (the first form). -/
import Derived.Test.YtncloiimbclklaaZg
import Derived.ProofKit
import Derived.SizedLaws
import Derived.ShutString
import Derived.ChangeOld
namespace Go.Proofs.Ytncloiimbclklaa.treeFinds
open Go Go.ChangeShapes Go.WideShapes Go.ChangeAt Go.RowKit Go.Shelf
open Go.ChangeMaps (open_string shut_string)
set_option linter.unusedVariables false
set_option linter.unusedSimpArgs false

theorem okC_parts {c : CV} (h : okC c = true) : (∀ x ∈ c.insts, x.ls.length ≤ 40) ∧ (∀ x ∈ c.insts, x.path.size ≤ 400) ∧ (∀ x ∈ c.docs, x.rs.length ≤ 40) ∧ c.insts.length ≤ 40 ∧ c.docs.length ≤ 30 := by
  unfold okC okI okD at h
  simp only [Bool.and_eq_true, List.all_eq_true, decide_eq_true_eq] at h
  obtain ⟨⟨h1, h2⟩, h3, h4⟩ := h
  exact ⟨fun x hx => (h1 x hx).2, fun x hx => (h1 x hx).1, fun x hx => (h2 x hx).2, h3, h4⟩

/-- A list of instances that a call made. -/
def Made (w : World) (l : List IV) (e : Ending) (w' : World) : Prop := ∃ v l', e = .returned v ∧ InstsIs w' v l' ∧ l'.map IV.bare = l.map IV.bare ∧ Below w.heap.size w w'
theorem made_of {w w0 w' : World} {l : List IV} {e : Ending} (hl : ∀ x ∈ l, IVok w0 x) (h : ∃ v, e = .returned v ∧ InstsOwn w' w.heap.size v l ∧ Below w.heap.size w w') : Made w l e w' := by
  obtain ⟨v, rfl, ho, hb⟩ := h
  obtain ⟨l', h1, h2⟩ := ho.is hl
  exact ⟨v, l', rfl, h1, h2, hb⟩
/-- What a search gives. -/
def Hit (w : World) (o : Option IV) (e : Ending) (w' : World) : Prop := ∃ x : IV, e = .returned (.tuple #[.agg x.cells.toArray, .bool o.isSome]) ∧ IVok w' x ∧ x.bare = foundX o ∧ Below w.heap.size w w'

set_option maxRecDepth 100000 in
set_option maxHeartbeats 4000000 in
theorem no (c d : CV) (p item : ByteArray) (w : World) (hc : CVok w c) (hd : CVok w d) (h : (okC c && okC d) = false) :
    Calls Try.prog 3 #[c.val, d.val, .string p, .string item] w fun e w' => e = .returned (.bool true) ∧ Below w.heap.size w w' := by
  have HP := Lib.hid (fun (W : World) (hb : Below w.heap.size w W) => plain_c W c (hc.below hb))
  have HQ := Lib.hid (fun (W : World) (hb : Below w.heap.size w W) => plain_c W d (hd.below hb))
  have HA := Lib.hid awake_c
  have hl1 := hc.insts.1
  have hl2 := hd.insts.1
  have hd1 := hc.docs.1
  have hd2 := hd.docs.1
  obtain ⟨q1, e1⟩ : ∃ q, okC c = q := ⟨_, rfl⟩
  obtain ⟨q2, e2⟩ : ∃ q, okC d = q := ⟨_, rfl⟩
  simp only [e1] at HP
  simp only [e2] at HQ
  rw [e1, e2] at h
  clear e1 e2 hc hd
  obtain ⟨id, mo, iv, dv, cl, is, ds⟩ := c
  obtain ⟨id2, mo2, iv2, dv2, cl2, is2, ds2⟩ := d
  dsimp only at hl1 hl2 hd1 hd2
  obtain ⟨a, ca, hv1, _⟩ := hl1
  obtain ⟨a2, ca2, hv2, _⟩ := hl2
  obtain ⟨b, cb, hv3, _⟩ := hd1
  obtain ⟨b2, cb2, hv4, _⟩ := hd2
  subst hv1 hv2 hv3 hv4
  unfold CV.val at HP HQ ⊢
  dsimp only at HP HQ ⊢
  obtain ⟨w0, hw0⟩ : ∃ x, x = (w.alloc (.cells #[.int .i64 id, .string mo, .slice a is.length ca, .slice b ds.length cb, .int .i64 cl] 25)).alloc (.cells #[.int .i64 id2, .string mo2, .slice a2 is2.length ca2, .slice b2 ds2.length cb2, .int .i64 cl2] 25) := ⟨_, rfl⟩
  have HBW := Lib.hid (show Below w.heap.size w w0 from by rw [hw0]; exact (box_bel' w _).alloc (box_bel' w _).size _)
  have HB1 := Lib.hid (show w0.heap[w.heap.size]? = some (.cells #[.int .i64 id, .string mo, .slice a is.length ca, .slice b ds.length cb, .int .i64 cl] 25 (0, 0)) from by rw [hw0]; exact two_old w _ _)
  have HB2 := Lib.hid (show w0.heap[w.heap.size + 1]? = some (.cells #[.int .i64 id2, .string mo2, .slice a2 is2.length ca2, .slice b2 ds2.length cb2, .int .i64 cl2] 25 (0, 0)) from by rw [hw0]; exact two_new w _ _)
  have HSW := Lib.hid (show w0.heap.size = w.heap.size + 2 from by rw [hw0]; simp)
  have HW0 := Lib.hid hw0
  clear hw0
  cases q1
  · go_enter Try.func3, Try.ntmps3
    go_wp2_with fail
    rw [← HW0.out]
    obtain ⟨d0, d1, d2, d3, d4, dz⟩ := cells5 HB1.out
    go_wp2_with fail
    refine (HP.out _ HBW.out).mono ?_
    rintro e w1 ⟨rfl, hb1⟩
    have HC1 := Lib.hid (HBW.out.trans (hb1.mono HBW.out.size))
    clear hb1
    go_wp2_with fail
    refine (HA.out _).mono ?_
    rintro e w2 ⟨rfl, hb2⟩
    go_wp2_with fail
    go_ret
    exact ⟨rfl, HC1.out.trans (hb2.mono HC1.out.size)⟩
  · skip
    simp only [Bool.true_and] at h
    subst h
    go_enter Try.func3, Try.ntmps3
    go_wp2_with fail
    rw [← HW0.out]
    obtain ⟨d0, d1, d2, d3, d4, dz⟩ := cells5 HB1.out
    go_wp2_with fail
    refine (HP.out _ HBW.out).mono ?_
    rintro e w1 ⟨rfl, hb1⟩
    have HC1 := Lib.hid (HBW.out.trans (hb1.mono HBW.out.size))
    clear d0 d1 d2 d3 d4 dz
    obtain ⟨g0, g1, g2, g3, g4, gz⟩ := cells5 ((hb1.block (w.heap.size + 1) (by rw [HSW.out]; omega)).trans HB2.out)
    clear hb1
    go_wp2_with fail
    refine (HQ.out _ HC1.out).mono ?_
    rintro e w2 ⟨rfl, hb2⟩
    have HC2 := Lib.hid (HC1.out.trans (hb2.mono HC1.out.size))
    clear hb2 g0 g1 g2 g3 g4 gz
    go_wp2_with fail
    refine (HA.out _).mono ?_
    rintro e w3 ⟨rfl, hb3⟩
    go_wp2_with fail
    go_ret
    exact ⟨rfl, HC2.out.trans (hb3.mono HC2.out.size)⟩

-- YES
theorem find2 (w : World) (c : CV) (h : CVok w c) (p : ByteArray) (hs : ∀ x ∈ c.insts, x.ls.length ≤ 40) : Calls Try.prog 8 #[c.val, .string p] w (Hit w (c.insts.find? (hasP p))) :=
  (find_c w c h p hs).mono fun e w' hf => hf.iv (fun x hx => h.insts.2 x (find_mem hx))
theorem rfind2 (w : World) (c : CV) (h : CVok w c) (p : ByteArray) (hs : ∀ x ∈ c.insts, x.ls.length ≤ 40) : Calls Try.prog 9 #[c.val, .string p] w (Hit w (c.insts.find? (hasP p))) :=
  (rfind_c w c h p hs).mono fun e w' hf => hf.iv (fun x hx => h.insts.2 x (find_mem hx))
theorem kids2 (w : World) (c : CV) (h : CVok w c) (p : ByteArray) (hs : ∀ x ∈ c.insts, x.ls.length ≤ 40) (hps : ∀ x ∈ c.insts, x.path.size ≤ 400) (hpp : p.size ≤ 140737488355328) (hc4 : c.insts.length ≤ 40) : Calls Try.prog 11 #[c.val, .string p] w (Made w (c.insts.filter (kidP p))) :=
  (kids_c w c h p hs hps hpp hc4).mono fun e w' hf => made_of (fun x hx => h.insts.2 x ((List.mem_filter.1 hx).1)) hf
theorem below2 (w : World) (c : CV) (h : CVok w c) (p : ByteArray) (hs : ∀ x ∈ c.insts, x.ls.length ≤ 40) (hps : ∀ x ∈ c.insts, x.path.size ≤ 400) (hpp : p.size ≤ 140737488355328) (hc4 : c.insts.length ≤ 40) : Calls Try.prog 13 #[c.val, .string p] w (Made w (c.insts.filter (belP p))) :=
  (below_c w c h p hs hps hpp hc4).mono fun e w' hf => made_of (fun x hx => h.insts.2 x ((List.mem_filter.1 hx).1)) hf
theorem rkids2 (w : World) (c : CV) (h : CVok w c) (p : ByteArray) (hs : ∀ x ∈ c.insts, x.ls.length ≤ 40) (hps : ∀ x ∈ c.insts, x.path.size ≤ 400) (hpp : p.size ≤ 140737488355328) (hc4 : c.insts.length ≤ 40) : Calls Try.prog 12 #[c.val, .string p] w (Made w (c.insts.filter (kidP p))) :=
  (rkids_c w c h p hs hps hpp hc4).mono fun e w' hf => made_of (fun x hx => h.insts.2 x ((List.mem_filter.1 hx).1)) hf
theorem rbelow2 (w : World) (c : CV) (h : CVok w c) (p : ByteArray) (hs : ∀ x ∈ c.insts, x.ls.length ≤ 40) (hps : ∀ x ∈ c.insts, x.path.size ≤ 400) (hpp : p.size ≤ 140737488355328) (hc4 : c.insts.length ≤ 40) : Calls Try.prog 14 #[c.val, .string p] w (Made w (c.insts.filter (belP p))) :=
  (rbelow_c w c h p hs hps hpp hc4).mono fun e w' hf => made_of (fun x hx => h.insts.2 x ((List.mem_filter.1 hx).1)) hf
theorem sameI2 (w : World) (x y : IV) (hx : IVok w x) (hy : IVok w y) (h : x.bare = y.bare) : Calls Try.prog 15 #[.agg x.cells.toArray, .agg y.cells.toArray] w fun e w' => e = .returned (.bool true) ∧ Below w.heap.size w w' := by
  have := rsame_c w x y hx hy
  rwa [sameI_bare h] at this
theorem sameC2 (w : World) (x y : CV) (hx : CVok w x) (hy : CVok w y) (h : sameC x y = true) : Calls Try.prog 19 #[x.val, y.val] w fun e w' => e = .returned (.bool true) ∧ Below w.heap.size w w' := by
  have := rsameC_c w x y hx hy
  rwa [h] at this
theorem one_new (w : World) (o : Obj) : (w.alloc o).heap[w.heap.size]? = some o := heap_alloc_new w o
theorem copy2 (w : World) (c : CV) (h : CVok w c) (hs : ∀ x ∈ c.insts, x.ls.length ≤ 40) (hs2 : ∀ x ∈ c.docs, x.rs.length ≤ 40) (hc4 : c.insts.length ≤ 40) (hd4 : c.docs.length ≤ 100) :
    Calls Try.prog 20 #[c.val] w fun e w' => ∃ c2 : CV, e = .returned c2.val ∧ CVok w' c2 ∧ sameC c2 c = true ∧ Below w.heap.size w w' :=
  (copy_c w c h hs hs2 hc4 hd4).mono fun e w' hf => by
    obtain ⟨c2, he, ho, h1, h2, h3, h4, h5, hb⟩ := hf.cv h
    exact ⟨c2, he, ho, sameC_of h1 h2 h3 h4 h5, hb⟩

set_option maxRecDepth 100000 in
set_option maxHeartbeats 8000000 in
theorem yes (c d : CV) (p item : ByteArray) (w : World) (hc : CVok w c) (hd : CVok w d) (sp : p.size ≤ 140737488351232) (h1 : okC c = true) (h2 : okC d = true) :
    Calls Try.prog 3 #[c.val, d.val, .string p, .string item] w fun e w' => e = .returned (.bool true) ∧ Below w.heap.size w w' := by
  obtain ⟨hs, hps, hs2, hc4, hd4⟩ := okC_parts h1
  have hd4' : c.docs.length ≤ 100 := by omega
  have hpp : p.size ≤ 140737488355328 := by omega
  have HP := Lib.hid (fun (W : World) (hb : Below w.heap.size w W) => plain_c W c (hc.below hb))
  have HQ := Lib.hid (fun (W : World) (hb : Below w.heap.size w W) => plain_c W d (hd.below hb))
  simp only [h1] at HP
  simp only [h2] at HQ
  have HA := Lib.hid awake_c
  have HF := Lib.hid (fun (W : World) (hb : Below w.heap.size w W) => find2 W c (hc.below hb) p hs)
  have HRF := Lib.hid (fun (W : World) (hb : Below w.heap.size w W) => rfind2 W c (hc.below hb) p hs)
  have HK := Lib.hid (fun (W : World) (hb : Below w.heap.size w W) => kids2 W c (hc.below hb) p hs hps hpp hc4)
  have HRK := Lib.hid (fun (W : World) (hb : Below w.heap.size w W) => rkids2 W c (hc.below hb) p hs hps hpp hc4)
  have HL := Lib.hid (fun (W : World) (hb : Below w.heap.size w W) => below2 W c (hc.below hb) p hs hps hpp hc4)
  have HRL := Lib.hid (fun (W : World) (hb : Below w.heap.size w W) => rbelow2 W c (hc.below hb) p hs hps hpp hc4)
  have HN := Lib.hid (fun (W : World) (hb : Below w.heap.size w W) => next_c W c (hc.below hb) p item hps)
  have HRN := Lib.hid (fun (W : World) (hb : Below w.heap.size w W) => rnext_c W c (hc.below hb) p item hs hps hpp hc4)
  have HSM := Lib.hid (fun (W : World) (hb : Below w.heap.size w W) => same_c W c d (hc.below hb) (hd.below hb))
  have HRS := Lib.hid (fun (W : World) (hb : Below w.heap.size w W) => rsameC_c W c d (hc.below hb) (hd.below hb))
  have HCP := Lib.hid (fun (W : World) (hb : Below w.heap.size w W) => copy2 W c (hc.below hb) hs hs2 hc4 hd4')
  have HR2 := Lib.hid (fun (W : World) (hb : Below w.heap.size w W) (c2 : CV) (h2 : CVok W c2) (hq : sameC c2 c = true) => sameC2 W c2 c h2 (hc.below hb) hq)
  obtain ⟨nn, hnn⟩ : ∃ n : Int, min (nxt p item c.insts) 4611686018427387903 + 1 = n := ⟨_, rfl⟩
  obtain ⟨ss, hss⟩ : ∃ b : Bool, sameC c d = b := ⟨_, rfl⟩
  obtain ⟨oo, hoo⟩ : ∃ o : Option IV, c.insts.find? (hasP p) = o := ⟨_, rfl⟩
  simp only [hnn] at HN HRN
  simp only [hss] at HSM HRS
  simp only [hoo] at HF HRF
  have qn : (nn == nn) = true := by simp
  have qs : (ss == ss) = true := by simp
  obtain ⟨qq, hqq⟩ : ∃ b : Bool, oo.isSome = b := ⟨_, rfl⟩
  have qo : (qq == qq) = true := by simp
  unfold Hit at HF HRF
  simp only [hqq] at HF HRF
  have hl1 := hc.insts.1
  have hl2 := hd.insts.1
  have hd1 := hc.docs.1
  have hd2 := hd.docs.1
  clear hc hd hs hps hs2 hc4 hd4 hd4' hnn hss hoo hqq h1 h2 sp hpp
  obtain ⟨id, mo, iv, dv, cl, is, ds⟩ := c
  obtain ⟨id2, mo2, iv2, dv2, cl2, is2, ds2⟩ := d
  dsimp only at hl1 hl2 hd1 hd2
  obtain ⟨a, ca, hv1, -⟩ := hl1
  obtain ⟨a2, ca2, hv2, -⟩ := hl2
  obtain ⟨b, cb, hv3, -⟩ := hd1
  obtain ⟨b2, cb2, hv4, -⟩ := hd2
  subst hv1 hv2 hv3 hv4
  unfold CV.val at HP HQ HF HRF HK HRK HL HRL HN HRN HSM HRS HCP HR2 ⊢
  dsimp only at HP HQ HF HRF HK HRK HL HRL HN HRN HSM HRS HCP HR2 ⊢
  obtain ⟨w0, hw0⟩ : ∃ x, x = (w.alloc (.cells #[.int .i64 id, .string mo, .slice a is.length ca, .slice b ds.length cb, .int .i64 cl] 25)).alloc (.cells #[.int .i64 id2, .string mo2, .slice a2 is2.length ca2, .slice b2 ds2.length cb2, .int .i64 cl2] 25) := ⟨_, rfl⟩
  have HBW := Lib.hid (show Below w.heap.size w w0 from by rw [hw0]; exact (box_bel' w _).alloc (box_bel' w _).size _)
  have HX1 := Lib.hid (show w0.heap[w.heap.size]? = some (.cells #[.int .i64 id, .string mo, .slice a is.length ca, .slice b ds.length cb, .int .i64 cl] 25 (0, 0)) from by rw [hw0]; exact two_old w _ _)
  have HX2 := Lib.hid (show w0.heap[w.heap.size + 1]? = some (.cells #[.int .i64 id2, .string mo2, .slice a2 is2.length ca2, .slice b2 ds2.length cb2, .int .i64 cl2] 25 (0, 0)) from by rw [hw0]; exact two_new w _ _)
  have HSW := Lib.hid (show w0.heap.size = w.heap.size + 2 from by rw [hw0]; simp)
  have HW0 := Lib.hid hw0
  clear hw0
  have HCC := Lib.hid (fun (W : World) (hb : Below w0.heap.size w0 W) => cells5 ((hb.block (w.heap.size) (by rw [HSW.out]; omega)).trans HX1.out))
  have HDD := Lib.hid (fun (W : World) (hb : Below w0.heap.size w0 W) => cells5 ((hb.block (w.heap.size + 1) (by rw [HSW.out]; omega)).trans HX2.out))
  have HWW := Lib.hid (fun (W : World) (hb : Below w0.heap.size w0 W) => HBW.out.trans (hb.mono HBW.out.size))
  go_enter Try.func3, Try.ntmps3
  go_wp2_with fail
  rw [← HW0.out]
  obtain ⟨d0, d1, d2, d3, d4, dz⟩ := HCC.out w0 (Below.refl _ _)
  go_wp2_with fail
  refine (HP.out _ HBW.out).mono ?_
  rintro e w1 ⟨rfl, hb1⟩
  have HG1 := Lib.hid hb1
  clear hb1 d0 d1 d2 d3 d4 dz
  obtain ⟨d0, d1, d2, d3, d4, dz⟩ := HDD.out w1 HG1.out
  go_wp2_with fail
  refine (HQ.out _ (HWW.out _ HG1.out)).mono ?_
  rintro e w1b ⟨rfl, hb1⟩
  have HG1b := Lib.hid (HG1.out.trans (hb1.mono HG1.out.size))
  clear hb1 d0 d1 d2 d3 d4 dz
  obtain ⟨d0, d1, d2, d3, d4, dz⟩ := HCC.out w1b HG1b.out
  go_wp2_with fail
  refine (HF.out _ (HWW.out _ HG1b.out)).mono ?_
  rintro e w2 ⟨x, rfl, hx, hxb, hb1⟩
  have HG2 := Lib.hid (HG1b.out.trans (hb1.mono HG1b.out.size))
  clear hb1 d0 d1 d2 d3 d4 dz
  obtain ⟨plx, cpx, hlv⟩ := hx.rl.form
  obtain ⟨pathx, itemx, stx, bfx, lvx, lsx, duex⟩ := x
  dsimp only at hlv
  subst hlv
  unfold IV.cells
  dsimp only
  have HIX := Lib.hid hx
  have HXB := Lib.hid hxb
  clear hx hxb
  obtain ⟨w2', hw2⟩ : ∃ z, z = w2.alloc (.cells #[.string pathx, .string itemx, .int .i64 stx, .int .i64 bfx, .slice plx (icells lsx).length cpx, .int .i64 duex] 30) := ⟨_, rfl⟩
  have HG2' := Lib.hid (show Below w0.heap.size w0 w2' from by rw [hw2]; exact HG2.out.alloc HG2.out.size _)
  have HB2' := Lib.hid (show Below w2.heap.size w2 w2' from by rw [hw2]; exact box_bel' w2 _)
  have HR1 := Lib.hid (show w2'.heap[w2.heap.size]? = some (.cells #[.string pathx, .string itemx, .int .i64 stx, .int .i64 bfx, .slice plx (icells lsx).length cpx, .int .i64 duex] 30 (0, 0)) from by rw [hw2]; exact one_new w2 _)
  have HS1 := Lib.hid (show w2'.heap.size = w2.heap.size + 1 from by rw [hw2]; simp)
  have HW2 := Lib.hid hw2
  clear hw2
  obtain ⟨d0, d1, d2, d3, d4, dz⟩ := HCC.out w2 HG2.out
  have hlt : w.heap.size < w2.heap.size := by have := HG2.out.size; rw [HSW.out] at this; omega
  go_wp2_with fail
  rw [← HW2.out]
  refine (HRF.out _ (HWW.out _ HG2'.out)).mono ?_
  rintro e w3 ⟨y, rfl, hy, hyb, hb1⟩
  have HG3 := Lib.hid (HG2'.out.trans (hb1.mono HG2'.out.size))
  have HB3 := Lib.hid hb1
  clear hb1 d0 d1 d2 d3 d4 dz
  obtain ⟨ply, cpy, hlv⟩ := hy.rl.form
  obtain ⟨pathy, itemy, sty, bfy, lvy, lsy, duey⟩ := y
  dsimp only at hlv
  subst hlv
  unfold IV.cells
  dsimp only
  have HIY := Lib.hid hy
  have HXY := Lib.hid (HXB.out.trans hyb.symm)
  clear hy hyb HXB
  obtain ⟨w4, hw4⟩ : ∃ z, z = w3.alloc (.cells #[.string pathy, .string itemy, .int .i64 sty, .int .i64 bfy, .slice ply (icells lsy).length cpy, .int .i64 duey] 30) := ⟨_, rfl⟩
  have HG4 := Lib.hid (show Below w0.heap.size w0 w4 from by rw [hw4]; exact HG3.out.alloc HG3.out.size _)
  have HB4 := Lib.hid (show Below w3.heap.size w3 w4 from by rw [hw4]; exact box_bel' w3 _)
  have HR3 := Lib.hid (show w4.heap[w3.heap.size]? = some (.cells #[.string pathy, .string itemy, .int .i64 sty, .int .i64 bfy, .slice ply (icells lsy).length cpy, .int .i64 duey] 30 (0, 0)) from by rw [hw4]; exact one_new w3 _)
  have HS3 := Lib.hid (show w4.heap.size = w3.heap.size + 1 from by rw [hw4]; simp)
  have HW4 := Lib.hid hw4
  clear hw4
  have HM := Lib.hid (show w2.heap.size < w3.heap.size from by have := HB3.out.size; rw [HS1.out] at this; omega)
  have HR1' := Lib.hid (show w4.heap[w2.heap.size]? = some (.cells #[.string pathx, .string itemx, .int .i64 stx, .int .i64 bfx, .slice plx (icells lsx).length cpx, .int .i64 duex] 30 (0, 0)) from ((HB4.out.block w2.heap.size HM.out).trans ((HB3.out.block w2.heap.size (by rw [HS1.out]; omega)).trans HR1.out)))
  have HIX4 := Lib.hid (HIX.out.below (HB2'.out.trans ((HB3.out.mono HB2'.out.size).trans (HB4.out.mono (Nat.le_of_lt HM.out)))))
  have HIY4 := Lib.hid (HIY.out.below HB4.out)
  clear HIX HIY HR1 HB2' HG2' HG2 HG1 HG1b HG3 HW2
  clear hlt
  go_wp2_with fail
  rw [← HW4.out]
  have HKP := Lib.hid (show ∀ W : World, Below w4.heap.size w4 W → ((W.cell? ⟨w.heap.size, 0, none⟩ = some (.int .i64 id) ∧ W.cell? ⟨w.heap.size, 1, none⟩ = some (.string mo) ∧ W.cell? ⟨w.heap.size, 2, none⟩ = some (.slice a is.length ca) ∧ W.cell? ⟨w.heap.size, 3, none⟩ = some (.slice b ds.length cb) ∧ W.cell? ⟨w.heap.size, 4, none⟩ = some (.int .i64 cl)) ∧ Below w4.heap.size w4 W) from fun W h => by
    obtain ⟨d0, d1, d2, d3, d4, dz⟩ := HCC.out W (HG4.out.trans (h.mono HG4.out.size))
    exact ⟨⟨d0, d1, d2, d3, d4⟩, h⟩)
  have HWZ := Lib.hid (fun (W : World) (h : Below w4.heap.size w4 W) => HWW.out W (HG4.out.trans (h.mono HG4.out.size)))
  go_region_held3 (fun W => (W.cell? ⟨w.heap.size, 0, none⟩ = some (.int .i64 id) ∧ W.cell? ⟨w.heap.size, 1, none⟩ = some (.string mo) ∧ W.cell? ⟨w.heap.size, 2, none⟩ = some (.slice a is.length ca) ∧ W.cell? ⟨w.heap.size, 3, none⟩ = some (.slice b ds.length cb) ∧ W.cell? ⟨w.heap.size, 4, none⟩ = some (.int .i64 cl)) ∧ Below w4.heap.size w4 W)
    (first
      | exact HKP.out _ (Below.refl _ _)
      | exact HKP.out _ ((Below.refl _ _).drew)
      | (refine HKP.out _ ?_; assumption)
      | (refine HKP.out _ (Below.drew ?_); assumption))
    (first
      | (go_split_ands; go_at_call 10; refine (sameInsts_c _ _ _ _ _ HIL.out HIM.out HML.out).mono ?_; rintro e u6 ⟨rfl, hb6⟩; have hB6 := hB5.trans (hb6.mono hB5.size))
      | (go_split_ands; go_at_call 14; refine (HRL.out _ (HWZ.out _ hB4)).mono ?_; rintro e u5 ⟨vm, lm, rfl, him, hmm, hb5⟩; have hB5 := hB4.trans (hb5.mono hB4.size); have HIM := Lib.hid him; have HML := Lib.hid (hml.trans hmm.symm); have HIL := Lib.hid (hil.below hb5); clear hil hml him hmm)
      | (go_split_ands; go_at_call 13; refine (HL.out _ (HWZ.out _ hB3)).mono ?_; rintro e u4 ⟨vl, ll, rfl, hil, hml, hb4⟩; have hB4 := hB3.trans (hb4.mono hB3.size))
      | (go_split_ands; go_at_call 10; refine (sameInsts_c _ _ _ _ _ HIK.out HIR.out HMK.out).mono ?_; rintro e u3 ⟨rfl, hb3⟩; have hB3 := hB2.trans (hb3.mono hB2.size))
      | (go_split_ands; go_at_call 12; refine (HRK.out _ (HWZ.out _ hB1)).mono ?_; rintro e u2 ⟨vr, lr, rfl, hir, hmr, hb2⟩; have hB2 := hB1.trans (hb2.mono hB1.size); have HIR := Lib.hid hir; have HMK := Lib.hid (hmk.trans hmr.symm); have HIK := Lib.hid (hik.below hb2); clear hik hmk hir hmr)
      | (go_split_ands; go_at_call 11; refine (HK.out _ (HWZ.out _ ((Below.refl _ _).drew))).mono ?_; rintro e u1 ⟨vk, lk, rfl, hik, hmk, hb1⟩; have hB1 : Below w4.heap.size w4 u1 := ((Below.refl _ _).drew).trans hb1)
      | fail "no arm")
  have HB6 := Lib.hid hB6
  clear hB1 hB2 hB3 hB4 hB5 hB6 HKP
  have HSI := Lib.hid (fun (W : World) (h : Below w4.heap.size w4 W) => sameI2 W ⟨pathx, itemx, stx, bfx, .slice plx (icells lsx).length cpx, lsx, duex⟩ ⟨pathy, itemy, sty, bfy, .slice ply (icells lsy).length cpy, lsy, duey⟩ (HIX4.out.below h) (HIY4.out.below h) HXY.out)
  unfold IV.cells at HSI
  dsimp only at HSI
  have HKP := Lib.hid (show ∀ W : World, Below u6.heap.size u6 W → ((W.cell? ⟨w.heap.size, 0, none⟩ = some (.int .i64 id) ∧ W.cell? ⟨w.heap.size, 1, none⟩ = some (.string mo) ∧ W.cell? ⟨w.heap.size, 2, none⟩ = some (.slice a is.length ca) ∧ W.cell? ⟨w.heap.size, 3, none⟩ = some (.slice b ds.length cb) ∧ W.cell? ⟨w.heap.size, 4, none⟩ = some (.int .i64 cl)) ∧ (W.cell? ⟨w.heap.size + 1, 0, none⟩ = some (.int .i64 id2) ∧ W.cell? ⟨w.heap.size + 1, 1, none⟩ = some (.string mo2) ∧ W.cell? ⟨w.heap.size + 1, 2, none⟩ = some (.slice a2 is2.length ca2) ∧ W.cell? ⟨w.heap.size + 1, 3, none⟩ = some (.slice b2 ds2.length cb2) ∧ W.cell? ⟨w.heap.size + 1, 4, none⟩ = some (.int .i64 cl2)) ∧ (W.cell? ⟨w2.heap.size, 0, none⟩ = some (.string pathx) ∧ W.cell? ⟨w2.heap.size, 1, none⟩ = some (.string itemx) ∧ W.cell? ⟨w2.heap.size, 2, none⟩ = some (.int .i64 stx) ∧ W.cell? ⟨w2.heap.size, 3, none⟩ = some (.int .i64 bfx) ∧ W.cell? ⟨w2.heap.size, 4, none⟩ = some (.slice plx (icells lsx).length cpx) ∧ W.cell? ⟨w2.heap.size, 5, none⟩ = some (.int .i64 duex)) ∧ (W.cell? ⟨w3.heap.size, 0, none⟩ = some (.string pathy) ∧ W.cell? ⟨w3.heap.size, 1, none⟩ = some (.string itemy) ∧ W.cell? ⟨w3.heap.size, 2, none⟩ = some (.int .i64 sty) ∧ W.cell? ⟨w3.heap.size, 3, none⟩ = some (.int .i64 bfy) ∧ W.cell? ⟨w3.heap.size, 4, none⟩ = some (.slice ply (icells lsy).length cpy) ∧ W.cell? ⟨w3.heap.size, 5, none⟩ = some (.int .i64 duey)) ∧ Below u6.heap.size u6 W) from fun W h6 => by
    have h := HB6.out.trans (h6.mono HB6.out.size)
    obtain ⟨d0, d1, d2, d3, d4, dz⟩ := HCC.out W (HG4.out.trans (h.mono HG4.out.size))
    obtain ⟨e0, e1, e2, e3, e4, ez⟩ := HDD.out W (HG4.out.trans (h.mono HG4.out.size))
    obtain ⟨f0, f1, f2, f3, f4, f5, fz⟩ := cells6 ((h.block w2.heap.size (by rw [HS3.out]; have := HM.out; omega)).trans HR1'.out)
    obtain ⟨g0, g1, g2, g3, g4, g5, gz⟩ := cells6 ((h.block w3.heap.size (by rw [HS3.out]; omega)).trans HR3.out)
    exact ⟨⟨d0, d1, d2, d3, d4⟩, ⟨e0, e1, e2, e3, e4⟩, ⟨f0, f1, f2, f3, f4, f5⟩, ⟨g0, g1, g2, g3, g4, g5⟩, h6⟩)
  have HWY := Lib.hid (fun (W : World) (h : Below u6.heap.size u6 W) => HB6.out.trans (h.mono HB6.out.size))
  clear HG4 HB4 HR3 HR1' HIX4 HIY4 HXY HM HS3 HS1 HB3 HX1 HX2 HCC HDD HW0 HW4 HK HRK HL HRL HF HRF HP HQ
  go_wp2_with fail
  go_region_held3 (fun W => (W.cell? ⟨w.heap.size, 0, none⟩ = some (.int .i64 id) ∧ W.cell? ⟨w.heap.size, 1, none⟩ = some (.string mo) ∧ W.cell? ⟨w.heap.size, 2, none⟩ = some (.slice a is.length ca) ∧ W.cell? ⟨w.heap.size, 3, none⟩ = some (.slice b ds.length cb) ∧ W.cell? ⟨w.heap.size, 4, none⟩ = some (.int .i64 cl)) ∧ (W.cell? ⟨w.heap.size + 1, 0, none⟩ = some (.int .i64 id2) ∧ W.cell? ⟨w.heap.size + 1, 1, none⟩ = some (.string mo2) ∧ W.cell? ⟨w.heap.size + 1, 2, none⟩ = some (.slice a2 is2.length ca2) ∧ W.cell? ⟨w.heap.size + 1, 3, none⟩ = some (.slice b2 ds2.length cb2) ∧ W.cell? ⟨w.heap.size + 1, 4, none⟩ = some (.int .i64 cl2)) ∧ (W.cell? ⟨w2.heap.size, 0, none⟩ = some (.string pathx) ∧ W.cell? ⟨w2.heap.size, 1, none⟩ = some (.string itemx) ∧ W.cell? ⟨w2.heap.size, 2, none⟩ = some (.int .i64 stx) ∧ W.cell? ⟨w2.heap.size, 3, none⟩ = some (.int .i64 bfx) ∧ W.cell? ⟨w2.heap.size, 4, none⟩ = some (.slice plx (icells lsx).length cpx) ∧ W.cell? ⟨w2.heap.size, 5, none⟩ = some (.int .i64 duex)) ∧ (W.cell? ⟨w3.heap.size, 0, none⟩ = some (.string pathy) ∧ W.cell? ⟨w3.heap.size, 1, none⟩ = some (.string itemy) ∧ W.cell? ⟨w3.heap.size, 2, none⟩ = some (.int .i64 sty) ∧ W.cell? ⟨w3.heap.size, 3, none⟩ = some (.int .i64 bfy) ∧ W.cell? ⟨w3.heap.size, 4, none⟩ = some (.slice ply (icells lsy).length cpy) ∧ W.cell? ⟨w3.heap.size, 5, none⟩ = some (.int .i64 duey)) ∧ Below u6.heap.size u6 W)
    (first
      | exact HKP.out _ (Below.refl _ _)
      | exact HKP.out _ ((Below.refl _ _).drew)
      | (refine HKP.out _ ?_; assumption)
      | (refine HKP.out _ (Below.drew ?_); assumption))
    (first
      | (go_split_ands; go_at_call 7; refine (HA.out _).mono ?_; rintro e v8 ⟨rfl, hb8⟩; have hC8 := hC7.trans (hb8.mono hC7.size))
      | (go_split_ands; go_at_call 19; refine (HR2.out _ (HWZ.out _ (HWY.out _ hC6)) c2 HC2.out HQ2.out).mono ?_; rintro e v7 ⟨rfl, hb7⟩; have hC7 := hC6.trans (hb7.mono hC6.size))
      | (go_split_ands; go_at_call 20; refine (HCP.out _ (HWZ.out _ (HWY.out _ hC5))).mono ?_; rintro e v6 ⟨c2, rfl, hc2, hq2, hb6⟩; have hC6 := hC5.trans (hb6.mono hC5.size); have HC2 := Lib.hid hc2; have HQ2 := Lib.hid hq2; clear hc2 hq2)
      | (go_split_ands; go_at_call 19; refine (HRS.out _ (HWZ.out _ (HWY.out _ hC4))).mono ?_; rintro e v5 ⟨rfl, hb5⟩; have hC5 := hC4.trans (hb5.mono hC4.size))
      | (go_split_ands; go_at_call 18; refine (HSM.out _ (HWZ.out _ (HWY.out _ hC3))).mono ?_; rintro e v4 ⟨rfl, hb4⟩; have hC4 := hC3.trans (hb4.mono hC3.size))
      | (go_split_ands; go_at_call 17; refine (HRN.out _ (HWZ.out _ (HWY.out _ hC2))).mono ?_; rintro e v3 ⟨rfl, hb3⟩; have hC3 := hC2.trans (hb3.mono hC2.size))
      | (go_split_ands; go_at_call 16; refine (HN.out _ (HWZ.out _ (HWY.out _ hC1))).mono ?_; rintro e v2 ⟨rfl, hb2⟩; have hC2 := hC1.trans (hb2.mono hC1.size))
      | (go_split_ands; go_at_call 15; refine (HSI.out _ (HWY.out _ ((Below.refl _ _).drew))).mono ?_; rintro e v1 ⟨rfl, hb1⟩; have hC1 : Below u6.heap.size u6 v1 := ((Below.refl _ _).drew).trans hb1)
      | fail "no arm")
  go_wp2_with fail
  go_ret
  exact ⟨rfl, HWZ.out _ (HWY.out _ hC8)⟩

theorem walk (c d : CV) (p item : ByteArray) (w : World) (hc : CVok w c) (hd : CVok w d) (sp : p.size ≤ 140737488351232) (si : item.size ≤ 140737488351232) :
    Calls Try.prog 3 #[c.val, d.val, .string p, .string item] w fun e w' => e = .returned (.bool true) ∧ Below w.heap.size w w' := by
  cases h : (okC c && okC d) with
  | false => exact no c d p item w hc hd h
  | true =>
    rw [Bool.and_eq_true] at h
    exact yes c d p item w hc hd sp h.1 h.2

-- FRAME
theorem own : ownKnob Try.prog.godebug = none := by kernel_rfl
theorem laidOut : laidOutB Try.prog = true := by kernel_rfl

set_option maxRecDepth 100000 in
theorem lifted (os : Os) (started : os.Started) (H : Type) (enc : TypeId × Value → H) :
    ReturnsInHanded {} Try.checked os 3 .any (Rows.treeFindsSpec.pre6 enc Try.prog Try.f3 Rows.treeFindsRow.domain false) (Rows.treeFindsSpec.post enc Try.prog Try.f3 false true false false) := by
  refine returnsInHanded_of_change_sized (C := Try.checked) own started (by kernel_rfl) Try.func3
    (ChangeSpec.witness6 (enc := enc) (C := Try.checked) false ⟨#[], #[.agg #[.int .i64 0, .string ByteArray.empty, .slice none 0 0, .slice none 0 0, .int .i64 0], .agg #[.int .i64 0, .string ByteArray.empty, .slice none 0 0, .slice none 0 0, .int .i64 0], .string ByteArray.empty, .string ByteArray.empty], []⟩ 8 (by kernel_rfl) (by kernel_rfl) (by kernel_rfl) (by kernel_rfl)) ?_
  intro W base args ds gs before hval0 hW hcnd hsz0 _
  have hsz : (DataW.weightsEach Try.prog (Try.f3.params.toList ++ Rows.treeFindsSpec.plain.varTypes Try.prog) (ds ++ gs)).all (· ≤ reachBytes) = true := hsz0
  have hval : ∀ (j : Nat) t v, Try.f3.params[j]? = some t → args[j]? = some v → Value.okWide Try.prog W .any base t v := hval0
  have hW' := hW
  obtain ⟨p, q, hA0, hV, rfl, hfz, hnd⟩ := hW
  have hA : DataW.TrodAll enc Try.prog W 0 (fun _ => true) true Try.f3.params.toList args.toList ds p := hA0
  rw [Try.params3] at hA hval hsz
  obtain ⟨v0, vs0, d0, ds0, p0, q0, hargs, rfl, rfl, h0, r0⟩ := trodAll_cons hA
  obtain ⟨v1, vs1, d1, ds1, p1, q1, rfl, rfl, rfl, h1, r1⟩ := trodAll_cons r0
  obtain ⟨v2, vs2, d2, ds2, p2, q2, rfl, rfl, rfl, h2, r2⟩ := trodAll_cons r1
  obtain ⟨v3, vs3, d3, ds3, p3, q3, rfl, rfl, rfl, h3, r3⟩ := trodAll_cons r2
  obtain ⟨rfl, rfl, rfl⟩ := trodAll_nil r3
  obtain rfl : args = #[v0, v1, v2, v3] := by cases args; simp_all
  obtain ⟨rfl, rfl⟩ := trodVars_none hV
  have k0 := h0
  have lt0 : ∀ x ∈ p0, x.block < W.heap.size := by obtain ⟨m, hm⟩ := k0; exact DataW.trod_lt m _ _ _ hm
  obtain ⟨x0, rfl, o0⟩ := case_open (hval 0 25 v0 rfl rfl) h0 (fun n hn => of_decide_eq_true (List.all_eq_true.1 hsz _ (DataW.weights_mem_each (j := 0) rfl rfl n hn)))
  have k1 := h1
  have lt1 : ∀ x ∈ p1, x.block < W.heap.size := by obtain ⟨m, hm⟩ := k1; exact DataW.trod_lt m _ _ _ hm
  obtain ⟨x1, rfl, o1⟩ := case_open (hval 1 25 v1 rfl rfl) h1 (fun n hn => of_decide_eq_true (List.all_eq_true.1 hsz _ (DataW.weights_mem_each (j := 1) rfl rfl n hn)))
  obtain ⟨a2, rfl, rfl, rfl, w2⟩ := open_string Try.underlying9 (hval 2 9 v2 rfl rfl) h2
  have s2 : a2.size ≤ 140737488351232 := by have := sized_string hsz (j := 2) (t := 9) rfl rfl; simpa [reachBytes] using this
  obtain ⟨a3, rfl, rfl, rfl, w3⟩ := open_string Try.underlying9 (hval 3 9 v3 rfl rfl) h3
  have s3 : a3.size ≤ 140737488351232 := by have := sized_string hsz (j := 3) (t := 9) rfl rfl; simpa [reachBytes] using this
  clear hA0 hval0
  refine (walk x0 x1 a2 a3 W o0 o1 s2 s3).mono fun e W' ⟨he, bel⟩ => ?_
  subst he
  exact ⟨_, rfl, _, _, _, [], _, [], hW', trodAll_mk1 (shut_bool Try.underlying4 _), (trodAll_cons_mk (Below.trod laidOut (by kernel_rfl) (of_decide_eq_true (by kernel_rfl)) k0 bel lt0) (trodAll_cons_mk (Below.trod laidOut (by kernel_rfl) (of_decide_eq_true (by kernel_rfl)) k1 bel lt1) (trodAll_cons_mk (shut_string Try.underlying9 w2) (trodAll_cons_mk (shut_string Try.underlying9 w3) trodAll_mk0)))), rfl, bel.frame _, fun h => by cases h⟩

/-- The statement. -/
theorem proved : Rows.TreeFindsSaid :=
  OpenClaim.holds_of_wide 3 Try.f3 rfl rfl rfl rfl rfl rfl rfl ⟨rfl, rfl, rfl, rfl, rfl⟩ rfl rfl rfl rfl rfl (by kernel_rfl) Try.func3 (by kernel_rfl)
    (of_decide_eq_true (by kernel_rfl)) (by unfold Func.isWrapper; first | (rw [if_pos (by decide +kernel)]; kernel_rfl) | (rw [if_neg (by decide +kernel)]; exact ⟨rfl, rfl⟩))
    (fun os started H enc _ => lifted os started H enc)
end Go.Proofs.Ytncloiimbclklaa.treeFinds
