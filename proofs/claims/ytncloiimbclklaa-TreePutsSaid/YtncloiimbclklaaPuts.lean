/- tree: THE LAW TreePuts: of any small case and any instance with a path of at most 400 bytes, the program's Put makes the case that the reference's makes; the case given stays, and stays when what was made is changed. Conditions: none (the first form). -/
import Derived.Test.YtncloiimbclklaaWe
import Derived.ProofKit
import Derived.SizedLaws
import Derived.ShutString
import Derived.ChangeOld
namespace Go.Proofs.Ytncloiimbclklaa.treePuts
open Go Go.ChangeShapes Go.WideShapes Go.ChangeAt Go.RowKit Go.Shelf Go.Deep
open Go.ChangeMaps (open_string shut_string)
set_option linter.unusedVariables false
set_option linter.unusedSimpArgs false

theorem okC_parts {c : CV} (h : okC c = true) : (∀ x ∈ c.insts, x.ls.length ≤ 40) ∧ (∀ x ∈ c.insts, x.path.size ≤ 400) ∧ (∀ x ∈ c.docs, x.rs.length ≤ 40) ∧ c.insts.length ≤ 40 ∧ c.docs.length ≤ 30 := by
  unfold okC okI okD at h
  simp only [Bool.and_eq_true, List.all_eq_true, decide_eq_true_eq] at h
  obtain ⟨⟨h1, h2⟩, h3, h4⟩ := h
  exact ⟨fun x hx => (h1 x hx).2, fun x hx => (h1 x hx).1, fun x hx => (h2 x hx).2, h3, h4⟩

section
variable {H : Type} {enc : TypeId × Value → H} {w : World} {base : Nat} {held : Bool} {fuel : Nat}
theorem ints_readB {c : Value} {x : DataW H × List MemPlace} (h : DataW.trod enc Try.prog w base (fun _ => true) held fuel 28 [c] = some x) (hz : ∀ n ∈ x.1.weights Try.prog 28, n ≤ reachBytes) :
    ∃ xs : List Int, RdV w c (icells xs) ∧ xs.length ≤ 17592186044416 := by
  have h1 : Try.prog.bytesOf 3 = 8 := by kernel_rfl
  rcases open_ints Try.underlying28 Try.underlying3 (by kernel_rfl) h with ⟨hcs, _⟩ | ⟨a, l, c, zs, hcs, _, hl, hm, hzl, rfl, hcell, hwz⟩
  · simp only [List.cons.injEq, and_true] at hcs
    subst hcs
    exact ⟨[], RdV.nil _, by simp⟩
  · simp only [List.cons.injEq, and_true] at hcs
    subst hcs
    have hz' : zs.length = c := by simpa using hzl
    have hb := hz (((lits IntKind.i64 (zs.take l) : List (DataW H)).length + (lits IntKind.i64 (zs.drop l) : List (DataW H)).length) * Try.prog.bytesOf 3) (by simp [DataW.weights, Try.underlying28])
    rw [h1] at hb
    simp only [lits, List.length_map, List.length_take, List.length_drop, reachBytes] at hb
    exact ⟨_, rdv_of_row hl hm hz' hcell, by simp only [List.length_take]; omega⟩
/-- An instance, given by value. -/
theorem inst_open {r : Reach} {b0 : Nat} {v : Value} {d : DataW H} {p : List MemPlace} (hv : Value.okWide Try.prog w r b0 30 v) (h : DataW.Trod enc Try.prog w base (fun _ => true) held 30 v d p)
    (hz : ∀ n ∈ d.weights Try.prog 30, n ≤ reachBytes) : ∃ x : IV, v = .agg x.cells.toArray ∧ (IVok w x ∧ x.ls.length ≤ 17592186044416) := by
  obtain ⟨cs, rfl, hsz⟩ := okWide_struct Try.underlying30 hv
  obtain ⟨l⟩ := cs
  match l, hsz.trans (show Try.prog.cellsOf 30 = 6 from by kernel_rfl) with
  | [c0, c1, c2, c3, c4, c5], _ =>
    obtain ⟨fuel, hf⟩ := h
    have hf' : DataW.trod enc Try.prog w base (fun _ => true) held fuel 30 [c0, c1, c2, c3, c4, c5] = some (d, p) := hf
    obtain ⟨y0, y1, y2, y3, y4, y5, n, hx, t0, t1, t2, t3, t4, t5⟩ := cells6_open Try.underlying30 (by kernel_rfl) hf'
    have hw : ∀ n, n ∈ DataW.weightsEach Try.prog [9, 9, 3, 3, 28, 3] [y0.1, y1.1, y2.1, y3.1, y4.1, y5.1] → n ≤ reachBytes := fun n hn => hz n (by
      have hx' : d = .agg [y0.1, y1.1, y2.1, y3.1, y4.1, y5.1] := hx
      rw [hx']
      simp only [DataW.weights, Try.underlying30]
      exact hn)
    obtain ⟨pa, e0, _, w0⟩ := DataW.trod_string Try.underlying9 t0
    obtain ⟨it, e1, _, w1⟩ := DataW.trod_string Try.underlying9 t1
    obtain ⟨st, e2, _, w2⟩ := DataW.trod_int Try.underlying3 t2
    obtain ⟨bf, e3, _, w3⟩ := DataW.trod_int Try.underlying3 t3
    obtain ⟨du, e5, _, w5⟩ := DataW.trod_int Try.underlying3 t5
    simp only [List.cons.injEq, and_true] at e0 e1 e2 e3 e5
    subst e0 e1 e2 e3 e5
    obtain ⟨ks, rk, hk⟩ := ints_readB t4 (fun n hn => hw n (DataW.weights_mem_each (j := 4) rfl rfl n hn))
    unfold maxLen at w0 w1
    exact ⟨⟨pa, it, st, bf, c4, ks, du⟩, rfl, ⟨by show pa.size ≤ _; omega, by show it.size ≤ _; omega, wf64 w2, wf64 w3, wf64 w5, rk⟩, hk⟩
end

theorem putF_mem {l : List IV} {x y : IV} (h : y ∈ putF l x) : y ∈ l ∨ y = x := by
  unfold putF at h
  split at h
  · exact List.mem_or_eq_of_mem_set h
  · simp only [List.mem_append, List.mem_singleton] at h
    rcases h with (h | h) | h
    · exact .inl (List.mem_of_mem_take h)
    · exact .inr h
    · exact .inl (List.mem_of_mem_drop h)
theorem putF_bare {l l' : List IV} {x : IV} (h : l'.map IV.bare = l.map IV.bare) : (putF l' x).map IV.bare = (putF l x).map IV.bare := by
  have hl : l'.length = l.length := by simpa using congrArg List.length h
  unfold putF
  rw [findIdx_bare (f := hasP x.path) (fun _ => rfl) h, findIdx_bare (f := gtP x.path) (fun _ => rfl) h, hl]
  split
  · rw [List.map_set, List.map_set, h]
  · simp only [List.map_append, List.map_take, List.map_drop, h]
theorem putCv {w w' : World} {c : CV} {x : IV} {e : Ending} (h : PutC w c x e w') (hc : CVok w c) (hx : IVok w x) :
    ∃ c2 : CV, e = .returned c2.val ∧ CVok w' c2 ∧ c2.id = c.id ∧ c2.model = c.model ∧ c2.clock = c.clock ∧ c2.insts.map IV.bare = (putF c.insts x).map IV.bare ∧ c2.docs.map DV.bare = c.docs.map DV.bare ∧ InstsOwn w' w.heap.size c2.iv (putF c.insts x) ∧ Below w.heap.size w w' := by
  obtain ⟨vI, vD, he, hi, hd, hb⟩ := h
  obtain ⟨li, h1, h2⟩ := hi.is (w0 := w) (fun y hy => by rcases putF_mem hy with h | rfl; exact hc.insts.2 y h; exact hx)
  obtain ⟨ld, h3, h4⟩ := hd.is (w0 := w) (fun y hy => hc.docs.2 y hy)
  exact ⟨⟨c.id, c.model, vI, vD, c.clock, li, ld⟩, he, ⟨hc.id, hc.clock, hc.model, h1, h3⟩, rfl, rfl, rfl, h2, h4, hi, hb⟩

/-- Rows of latches whose numbers may have changed. -/
def Latch (w : World) (base : Nat) (l : List IV) : Prop := ∀ z ∈ l, ∃ xs : List Int, xs.length = z.ls.length ∧ OwnS w base 3 1 z.lv z.ls.length (icells xs)
theorem Latch.step {w : World} {base g o : Nat} {l : List IV} {cur : Array Value} {u : Int} (h : Latch w base l) (hg : w.heap[g]? = some (.cells cur 3 (0, 0))) : Latch (w.setCell ⟨g, o, none⟩ (.int .i64 u)) base l := by
  intro z hz
  obtain ⟨xs, hx, ho⟩ := h z hz
  rcases ho.2 with ⟨hv, h0⟩ | ⟨g2, off, cap, cur2, hv, hb, hg2, e1, e2, e3, e4⟩
  · exact ⟨xs, hx, ho.1, .inl ⟨hv, h0⟩⟩
  · by_cases he : g2 = g
    · subst he
      rw [hg] at hg2
      simp only [Option.some.injEq, Obj.cells.injEq, and_true, true_and] at hg2
      subst hg2
      have hat : (w.setCell ⟨g2, o, none⟩ (.int .i64 u)).heap[g2]? = some (.cells (cur.setIfInBounds o (.int .i64 u)) 3 (0, 0)) := by simp [World.setCell, Array.getElem?_modify, hg]
      by_cases hlo : o < off
      · refine ⟨xs, hx, ho.1, .inr ⟨g2, off, cap, _, hv, hb, hat, e1, e2, by simpa using e3, ?_⟩⟩
        rw [Array.toList_setIfInBounds, List.drop_set_of_lt hlo]
        exact e4
      · refine ⟨xs.set (o - off) u, by simpa using hx, by rw [icells, List.length_map, List.length_set]; omega, .inr ⟨g2, off, cap, _, hv, hb, hat, e1, e2, by simpa using e3, ?_⟩⟩
        rw [Array.toList_setIfInBounds, List.drop_set, if_neg hlo, List.take_set, e4]
        simp [icells, List.map_set]
    · exact ⟨xs, hx, ho.1, .inr ⟨g2, off, cap, cur2, hv, hb, (Below.heap_setCell _ _ _ _ he).trans hg2, e1, e2, e3, e4⟩⟩

set_option maxRecDepth 100000 in
set_option maxHeartbeats 4000000 in
theorem no1 (c : CV) (x : IV) (w : World) (hc : CVok w c) (hx : IVok w x) (h : okC c = false) : Calls Try.prog 4 #[c.val, .agg x.cells.toArray] w fun e w' => e = .returned (.bool true) ∧ Below w.heap.size w w' := by
  have HP := Lib.hid (fun (W : World) (hb : Below w.heap.size w W) => plain_c W c (hc.below hb))
  simp only [h] at HP
  have HA := Lib.hid awake_c
  have HN := Lib.hid True.intro
  clear h
  have hl1 := hc.insts.1
  have hd1 := hc.docs.1
  obtain ⟨pl, cp, hlv⟩ := hx.rl.form
  clear hc hx
  obtain ⟨id, mo, iv, dv, cl, is, ds⟩ := c
  obtain ⟨path, item, st, bf, lv, ls, due⟩ := x
  dsimp only at hl1 hd1 hlv HN
  obtain ⟨a, ca, hv1, -⟩ := hl1
  obtain ⟨b, cb, hv3, -⟩ := hd1
  subst hv1 hv3 hlv
  unfold CV.val at HP ⊢
  unfold IV.cells 
  dsimp only at HP ⊢
  obtain ⟨w0, hw0⟩ : ∃ x, x = (w.alloc (.cells #[.int .i64 id, .string mo, .slice a is.length ca, .slice b ds.length cb, .int .i64 cl] 25)).alloc (.cells #[.string path, .string item, .int .i64 st, .int .i64 bf, .slice pl (icells ls).length cp, .int .i64 due] 30) := ⟨_, rfl⟩
  have HBW := Lib.hid (show Below w.heap.size w w0 from by rw [hw0]; exact (box_bel' w _).alloc (box_bel' w _).size _)
  have HX1 := Lib.hid (show w0.heap[w.heap.size]? = some (.cells #[.int .i64 id, .string mo, .slice a is.length ca, .slice b ds.length cb, .int .i64 cl] 25 (0, 0)) from by rw [hw0]; exact two_old w _ _)
  have HX2 := Lib.hid (show w0.heap[w.heap.size + 1]? = some (.cells #[.string path, .string item, .int .i64 st, .int .i64 bf, .slice pl (icells ls).length cp, .int .i64 due] 30 (0, 0)) from by rw [hw0]; exact two_new w _ _)
  have HSW := Lib.hid (show w0.heap.size = w.heap.size + 2 from by rw [hw0]; simp)
  have HW0 := Lib.hid hw0
  clear hw0
  have HCC := Lib.hid (fun (W : World) (hb : Below w0.heap.size w0 W) => cells5 ((hb.block (w.heap.size) (by rw [HSW.out]; omega)).trans HX1.out))
  have HDD := Lib.hid (fun (W : World) (hb : Below w0.heap.size w0 W) => cells6 ((hb.block (w.heap.size + 1) (by rw [HSW.out]; omega)).trans HX2.out))
  have HWW := Lib.hid (fun (W : World) (hb : Below w0.heap.size w0 W) => HBW.out.trans (hb.mono HBW.out.size))
  go_enter Try.func4, Try.ntmps4
  go_wp2_with fail
  rw [← HW0.out]
  obtain ⟨d0, d1, d2, d3, d4, dz⟩ := HCC.out w0 (Below.refl _ _)
  go_wp2_with fail
  refine (HP.out _ HBW.out).mono ?_
  rintro e w1 ⟨rfl, hb1⟩
  have HG1 := Lib.hid hb1
  clear hb1 d0 d1 d2 d3 d4 dz
  go_wp2_with fail
  refine (HA.out _).mono ?_
  rintro e w2 ⟨rfl, hb2⟩
  have HG2 := Lib.hid (HG1.out.trans (hb2.mono HG1.out.size))
  clear hb2
  go_wp2_with fail
  go_ret
  exact ⟨rfl, HWW.out _ HG2.out⟩

set_option maxRecDepth 100000 in
set_option maxHeartbeats 4000000 in
theorem no2 (c : CV) (x : IV) (w : World) (hc : CVok w c) (hx : IVok w x) (h : okC c = true) (h4 : ¬ x.path.size ≤ 400) : Calls Try.prog 4 #[c.val, .agg x.cells.toArray] w fun e w' => e = .returned (.bool true) ∧ Below w.heap.size w w' := by
  have HP := Lib.hid (fun (W : World) (hb : Below w.heap.size w W) => plain_c W c (hc.below hb))
  simp only [h] at HP
  have HA := Lib.hid awake_c
  have HN := Lib.hid True.intro
  have hps := hx.path
  clear h
  have hl1 := hc.insts.1
  have hd1 := hc.docs.1
  obtain ⟨pl, cp, hlv⟩ := hx.rl.form
  clear hc hx
  obtain ⟨id, mo, iv, dv, cl, is, ds⟩ := c
  obtain ⟨path, item, st, bf, lv, ls, due⟩ := x
  dsimp only at hl1 hd1 hlv HN
  obtain ⟨a, ca, hv1, -⟩ := hl1
  obtain ⟨b, cb, hv3, -⟩ := hd1
  subst hv1 hv3 hlv
  unfold CV.val at HP ⊢
  unfold IV.cells 
  dsimp only at HP h4 hps ⊢
  obtain ⟨w0, hw0⟩ : ∃ x, x = (w.alloc (.cells #[.int .i64 id, .string mo, .slice a is.length ca, .slice b ds.length cb, .int .i64 cl] 25)).alloc (.cells #[.string path, .string item, .int .i64 st, .int .i64 bf, .slice pl (icells ls).length cp, .int .i64 due] 30) := ⟨_, rfl⟩
  have HBW := Lib.hid (show Below w.heap.size w w0 from by rw [hw0]; exact (box_bel' w _).alloc (box_bel' w _).size _)
  have HX1 := Lib.hid (show w0.heap[w.heap.size]? = some (.cells #[.int .i64 id, .string mo, .slice a is.length ca, .slice b ds.length cb, .int .i64 cl] 25 (0, 0)) from by rw [hw0]; exact two_old w _ _)
  have HX2 := Lib.hid (show w0.heap[w.heap.size + 1]? = some (.cells #[.string path, .string item, .int .i64 st, .int .i64 bf, .slice pl (icells ls).length cp, .int .i64 due] 30 (0, 0)) from by rw [hw0]; exact two_new w _ _)
  have HSW := Lib.hid (show w0.heap.size = w.heap.size + 2 from by rw [hw0]; simp)
  have HW0 := Lib.hid hw0
  clear hw0
  have HCC := Lib.hid (fun (W : World) (hb : Below w0.heap.size w0 W) => cells5 ((hb.block (w.heap.size) (by rw [HSW.out]; omega)).trans HX1.out))
  have HDD := Lib.hid (fun (W : World) (hb : Below w0.heap.size w0 W) => cells6 ((hb.block (w.heap.size + 1) (by rw [HSW.out]; omega)).trans HX2.out))
  have HWW := Lib.hid (fun (W : World) (hb : Below w0.heap.size w0 W) => HBW.out.trans (hb.mono HBW.out.size))
  have hq : decide ((400 : Int) < (path.size : Int)) = true := decide_eq_true (by omega)
  go_enter Try.func4, Try.ntmps4
  go_wp2_with fail
  rw [← HW0.out]
  obtain ⟨d0, d1, d2, d3, d4, dz⟩ := HCC.out w0 (Below.refl _ _)
  go_wp2_with fail
  refine (HP.out _ HBW.out).mono ?_
  rintro e w1 ⟨rfl, hb1⟩
  have HG1 := Lib.hid hb1
  clear hb1 d0 d1 d2 d3 d4 dz
  obtain ⟨f0, f1, f2, f3, f4, f5, fz⟩ := HDD.out w1 HG1.out
  go_wp2_with fail
  refine (HA.out _).mono ?_
  rintro e w2 ⟨rfl, hb2⟩
  have HG2 := Lib.hid (HG1.out.trans (hb2.mono HG1.out.size))
  clear hb2
  go_wp2_with fail
  go_ret
  exact ⟨rfl, HWW.out _ HG2.out⟩

theorem copyCv {w w' : World} {c : CV} {e : Ending} (h : CopyC w c e w') (hc : CVok w c) :
    ∃ c2 : CV, e = .returned c2.val ∧ CVok w' c2 ∧ c2.id = c.id ∧ c2.model = c.model ∧ c2.clock = c.clock ∧ c2.insts.map IV.bare = c.insts.map IV.bare ∧ c2.docs.map DV.bare = c.docs.map DV.bare ∧ Below w.heap.size w w' := h.cv hc
theorem bare_all {l l' : List IV} (h : l'.map IV.bare = l.map IV.bare) {p : IV → Prop} (hp : ∀ x, p x.bare → p x) (hq : ∀ x, p x → p x.bare) (ha : ∀ x ∈ l, p x) : ∀ x ∈ l', p x := by
  intro y hy
  have : y.bare ∈ l'.map IV.bare := List.mem_map.2 ⟨y, hy, rfl⟩
  rw [h] at this
  obtain ⟨z, hz, he⟩ := List.mem_map.1 this
  exact hp y (he ▸ hq z (ha z hz))
theorem bare_allD {l l' : List DV} (h : l'.map DV.bare = l.map DV.bare) {p : DV → Prop} (hp : ∀ x, p x.bare → p x) (hq : ∀ x, p x → p x.bare) (ha : ∀ x ∈ l, p x) : ∀ x ∈ l', p x := by
  intro y hy
  have : y.bare ∈ l'.map DV.bare := List.mem_map.2 ⟨y, hy, rfl⟩
  rw [h] at this
  obtain ⟨z, hz, he⟩ := List.mem_map.1 this
  exact hp y (he ▸ hq z (ha z hz))
theorem sameC2 (w : World) (x y : CV) (hx : CVok w x) (hy : CVok w y) (h : sameC x y = true) : Calls Try.prog 19 #[x.val, y.val] w fun e w' => e = .returned (.bool true) ∧ Below w.heap.size w w' := by
  have := rsameC_c w x y hx hy
  rwa [h] at this

set_option maxRecDepth 100000 in
set_option maxHeartbeats 8000000 in
theorem yes (c : CV) (x : IV) (w : World) (hc : CVok w c) (hx : IVok w x) (hxl : x.ls.length ≤ 17592186044416) (h : okC c = true) (h4 : x.path.size ≤ 400) : Calls Try.prog 4 #[c.val, .agg x.cells.toArray] w fun e w' => e = .returned (.bool true) ∧ Below w.heap.size w w' := by
  obtain ⟨hs, hps, hs2, hc4, hd4⟩ := okC_parts h
  have hd4' : c.docs.length ≤ 100 := by omega
  have HP := Lib.hid (fun (W : World) (hb : Below w.heap.size w W) => plain_c W c (hc.below hb))
  simp only [h] at HP
  have HA := Lib.hid awake_c
  have HCP := Lib.hid (fun (W : World) (hb : Below w.heap.size w W) => (rcopy_c W c (hc.below hb) hs hs2 hc4 hd4').mono fun e w' hf => copyCv hf (hc.below hb))
  have HPT := Lib.hid (fun (W : World) (hb : Below w.heap.size w W) => (put_c W c x (hc.below hb) (hx.below hb) hs hs2 (by omega) hc4 hd4' hps h4 hxl).mono fun e w' hf => putCv hf (hc.below hb) (hx.below hb))
  have HRP := Lib.hid (fun (W : World) (hb : Below w.heap.size w W) (c2 : CV) (h2 : CVok W c2) (hi : c2.insts.map IV.bare = c.insts.map IV.bare) (hd : c2.docs.map DV.bare = c.docs.map DV.bare) =>
    (rput_c W c2 x h2 (hx.below hb) (bare_all hi (p := fun z => z.ls.length ≤ 40) (fun _ h => h) (fun _ h => h) hs) (bare_allD hd (p := fun z => z.rs.length ≤ 40) (fun _ h => h) (fun _ h => h) hs2) (by have := congrArg List.length hi; simp at this; omega) (by have := congrArg List.length hi; simp at this; omega) (by have := congrArg List.length hd; simp at this; omega) (bare_all hi (p := fun z => z.path.size ≤ 400) (fun _ h => h) (fun _ h => h) hps) h4 hxl).mono fun e w' hf => putCv hf h2 (hx.below hb))
  have HOK := Lib.hid (fun (W : World) (hb : Below w.heap.size w W) => hc.below hb)
  have HN := Lib.hid (show (400 : Nat) = 400 from rfl)
  have HCI := Lib.hid (fun (W : World) (hb : Below w.heap.size w W) (c2 : CV) (h2 : CVok W c2) (hq : sameC c c2 = true) => sameC2 W c c2 (hc.below hb) h2 hq)
  clear h hs hps hs2 hc4 hd4 hd4' hxl
  have hl1 := hc.insts.1
  have hd1 := hc.docs.1
  obtain ⟨pl, cp, hlv⟩ := hx.rl.form
  clear hc hx
  obtain ⟨id, mo, iv, dv, cl, is, ds⟩ := c
  obtain ⟨path, item, st, bf, lv, ls, due⟩ := x
  dsimp only at hl1 hd1 hlv HN
  obtain ⟨a, ca, hv1, -⟩ := hl1
  obtain ⟨b, cb, hv3, -⟩ := hd1
  subst hv1 hv3 hlv
  unfold CV.val at HP HCP HPT HRP HCI ⊢
  unfold IV.cells at HPT HRP ⊢
  dsimp only at HP HCP HPT HRP HCI h4 ⊢
  obtain ⟨w0, hw0⟩ : ∃ x, x = (w.alloc (.cells #[.int .i64 id, .string mo, .slice a is.length ca, .slice b ds.length cb, .int .i64 cl] 25)).alloc (.cells #[.string path, .string item, .int .i64 st, .int .i64 bf, .slice pl (icells ls).length cp, .int .i64 due] 30) := ⟨_, rfl⟩
  have HBW := Lib.hid (show Below w.heap.size w w0 from by rw [hw0]; exact (box_bel' w _).alloc (box_bel' w _).size _)
  have HX1 := Lib.hid (show w0.heap[w.heap.size]? = some (.cells #[.int .i64 id, .string mo, .slice a is.length ca, .slice b ds.length cb, .int .i64 cl] 25 (0, 0)) from by rw [hw0]; exact two_old w _ _)
  have HX2 := Lib.hid (show w0.heap[w.heap.size + 1]? = some (.cells #[.string path, .string item, .int .i64 st, .int .i64 bf, .slice pl (icells ls).length cp, .int .i64 due] 30 (0, 0)) from by rw [hw0]; exact two_new w _ _)
  have HSW := Lib.hid (show w0.heap.size = w.heap.size + 2 from by rw [hw0]; simp)
  have HW0 := Lib.hid hw0
  clear hw0
  have HCC := Lib.hid (fun (W : World) (hb : Below w0.heap.size w0 W) => cells5 ((hb.block (w.heap.size) (by rw [HSW.out]; omega)).trans HX1.out))
  have HDD := Lib.hid (fun (W : World) (hb : Below w0.heap.size w0 W) => cells6 ((hb.block (w.heap.size + 1) (by rw [HSW.out]; omega)).trans HX2.out))
  have HWW := Lib.hid (fun (W : World) (hb : Below w0.heap.size w0 W) => HBW.out.trans (hb.mono HBW.out.size))
  have hq : decide ((400 : Int) < (path.size : Int)) = false := decide_eq_false (by omega)
  have hps63 : path.size ≤ 9223372036854775807 := by omega
  go_enter Try.func4, Try.ntmps4
  go_wp2_with fail
  rw [← HW0.out]
  obtain ⟨d0, d1, d2, d3, d4, dz⟩ := HCC.out w0 (Below.refl _ _)
  go_wp2_with fail
  refine (HP.out _ HBW.out).mono ?_
  rintro e w1 ⟨rfl, hb1⟩
  have HG1 := Lib.hid hb1
  clear hb1 d0 d1 d2 d3 d4 dz
  obtain ⟨d0, d1, d2, d3, d4, dz⟩ := HCC.out w1 HG1.out
  obtain ⟨f0, f1, f2, f3, f4, f5, fz⟩ := HDD.out w1 HG1.out
  go_wp2_with fail
  refine (HCP.out _ (HWW.out _ HG1.out)).mono ?_
  rintro e w2 ⟨c2, rfl, hc2, k1, k2, k3, k4, k5, hb2⟩
  obtain ⟨id2, mo2, iv2, dv2, cl2, is2, ds2⟩ := c2
  have hl1 := hc2.insts.1
  have hd1 := hc2.docs.1
  dsimp only at hl1 hd1
  obtain ⟨a2, ca2, hv1, -⟩ := hl1
  obtain ⟨b2, cb2, hv3, -⟩ := hd1
  subst hv1 hv3
  dsimp only at k1 k2 k3 k4 k5 ⊢
  have HG2 := Lib.hid (HG1.out.trans (hb2.mono HG1.out.size))
  have HC2 := Lib.hid hc2
  have HK := Lib.hid (And.intro k1 (And.intro k2 (And.intro k3 (And.intro k4 k5))))
  have HLT2 := Lib.hid (show w.heap.size + 2 ≤ w2.heap.size from by have := HG2.out.size; rw [HSW.out] at this; exact this)
  clear d0 d1 d2 d3 d4 dz f0 f1 f2 f3 f4 f5 fz hb2 hc2 k1 k2 k3 k4 k5
  obtain ⟨w3, hw3⟩ : ∃ z, z = w2.alloc (.cells #[.int .i64 id2, .string mo2, .slice a2 is2.length ca2, .slice b2 ds2.length cb2, .int .i64 cl2] 25) := ⟨_, rfl⟩
  have HB3 := Lib.hid (show Below w2.heap.size w2 w3 from by rw [hw3]; exact box_bel' w2 _)
  have HQ3 := Lib.hid (show w3.heap[w2.heap.size]? = some (.cells #[.int .i64 id2, .string mo2, .slice a2 is2.length ca2, .slice b2 ds2.length cb2, .int .i64 cl2] 25 (0, 0)) from by rw [hw3]; exact heap_alloc_new w2 _)
  have HS3 := Lib.hid (show w3.heap.size = w2.heap.size + 1 from by rw [hw3]; simp)
  have HW3 := Lib.hid hw3
  have HG3 := Lib.hid (HG2.out.trans (HB3.out.mono HG2.out.size))
  clear hw3
  obtain ⟨d0, d1, d2, d3, d4, dz⟩ := HCC.out w2 HG2.out
  obtain ⟨f0, f1, f2, f3, f4, f5, fz⟩ := HDD.out w2 HG2.out
  have hlt1 : w.heap.size < w2.heap.size := by have := HLT2.out; omega
  have hlt2 : w.heap.size + 1 < w2.heap.size := by have := HLT2.out; omega
  go_wp2_with fail
  rw [← HW3.out]
  refine (HPT.out _ (HWW.out _ HG3.out)).mono ?_
  rintro e w4 ⟨g, rfl, hg, k1, k2, k3, k4, k5, hown, hb4⟩
  obtain ⟨gid, gmo, giv, gdv, gcl, gis, gds⟩ := g
  have hl1 := hg.insts.1
  have hd1 := hg.docs.1
  dsimp only at hl1 hd1
  obtain ⟨ga, gca, hv1, -⟩ := hl1
  obtain ⟨gb, gcb, hv3, -⟩ := hd1
  subst hv1 hv3
  dsimp only at k1 k2 k3 k4 k5 hown ⊢
  have HB4 := Lib.hid hb4
  have HGV := Lib.hid hg
  have HKG := Lib.hid (And.intro k1 (And.intro k2 (And.intro k3 (And.intro k4 k5))))
  have HOW := Lib.hid hown
  have HG4 := Lib.hid (HG3.out.trans (hb4.mono HG3.out.size))
  clear d0 d1 d2 d3 d4 dz f0 f1 f2 f3 f4 f5 fz hb4 hg k1 k2 k3 k4 k5 hown HW3
  obtain ⟨w5, hw5⟩ : ∃ z, z = w4.alloc (.cells #[.int .i64 gid, .string gmo, .slice ga gis.length gca, .slice gb gds.length gcb, .int .i64 gcl] 25) := ⟨_, rfl⟩
  have HB5 := Lib.hid (show Below w4.heap.size w4 w5 from by rw [hw5]; exact box_bel' w4 _)
  have HQ5 := Lib.hid (show w5.heap[w4.heap.size]? = some (.cells #[.int .i64 gid, .string gmo, .slice ga gis.length gca, .slice gb gds.length gcb, .int .i64 gcl] 25 (0, 0)) from by rw [hw5]; exact heap_alloc_new w4 _)
  have HS5 := Lib.hid (show w5.heap.size = w4.heap.size + 1 from by rw [hw5]; simp)
  have HW5 := Lib.hid hw5
  have HG5 := Lib.hid (HG4.out.trans (HB5.out.mono HG4.out.size))
  have HQ3' := Lib.hid ((HB4.out.block w2.heap.size (by rw [HS3.out]; omega)).trans HQ3.out)
  have hlt4 : w2.heap.size + 1 ≤ w4.heap.size := by have := HB4.out.size; rw [HS3.out] at this; exact this
  clear hw5
  obtain ⟨d0, d1, d2, d3, d4, dz⟩ := cells5 HQ3'.out
  obtain ⟨f0, f1, f2, f3, f4, f5, fz⟩ := HDD.out w4 HG4.out
  have hlt5 : w2.heap.size < w4.heap.size := by omega
  have hlt6 : w.heap.size + 1 < w4.heap.size := by omega
  go_wp2_with fail
  rw [← HW5.out]
  have hb35 : Below w2.heap.size w2 w5 := (HB3.out.trans (HB4.out.mono HB3.out.size)).trans (HB5.out.mono (by omega))
  refine (HRP.out _ (HWW.out _ HG5.out) ⟨id2, mo2, .slice a2 is2.length ca2, .slice b2 ds2.length cb2, cl2, is2, ds2⟩ (HC2.out.below hb35) HK.out.2.2.2.1 HK.out.2.2.2.2).mono ?_
  rintro e w6 ⟨n, rfl, hn, k1, k2, k3, k4, k5, -, hb6⟩
  obtain ⟨nid, nmo, niv, ndv, ncl, nis, nds⟩ := n
  have hl1 := hn.insts.1
  have hd1 := hn.docs.1
  dsimp only at hl1 hd1
  obtain ⟨na, nca, hv1, -⟩ := hl1
  obtain ⟨nb, ncb, hv3, -⟩ := hd1
  subst hv1 hv3
  dsimp only at k1 k2 k3 k4 k5 ⊢
  have HB6 := Lib.hid hb6
  have HNV := Lib.hid hn
  have HKN := Lib.hid (And.intro k1 (And.intro k2 (And.intro k3 (And.intro k4 k5))))
  have HG6 := Lib.hid (HG5.out.trans (hb6.mono HG5.out.size))
  clear d0 d1 d2 d3 d4 dz f0 f1 f2 f3 f4 f5 fz hb6 hn k1 k2 k3 k4 k5 HW5 hb35
  obtain ⟨w7, hw7⟩ : ∃ z, z = w6.alloc (.cells #[.int .i64 nid, .string nmo, .slice na nis.length nca, .slice nb nds.length ncb, .int .i64 ncl] 25) := ⟨_, rfl⟩
  have HB7 := Lib.hid (show Below w6.heap.size w6 w7 from by rw [hw7]; exact box_bel' w6 _)
  have HQ7 := Lib.hid (show w7.heap[w6.heap.size]? = some (.cells #[.int .i64 nid, .string nmo, .slice na nis.length nca, .slice nb nds.length ncb, .int .i64 ncl] 25 (0, 0)) from by rw [hw7]; exact heap_alloc_new w6 _)
  have HW7 := Lib.hid hw7
  have HG7 := Lib.hid (HG6.out.trans (HB7.out.mono HG6.out.size))
  have HQ5' := Lib.hid ((HB6.out.block w4.heap.size (by rw [HS5.out]; omega)).trans HQ5.out)
  have hlt7 : w4.heap.size < w6.heap.size := by have := HB6.out.size; rw [HS5.out] at this; omega
  clear hw7
  obtain ⟨d0, d1, d2, d3, d4, dz⟩ := cells5 HQ5'.out
  go_wp2_with fail
  rw [← HW7.out]
  have HEQ := Lib.hid (show sameC (⟨gid, gmo, .slice ga gis.length gca, .slice gb gds.length gcb, gcl, gis, gds⟩ : CV) ⟨nid, nmo, .slice na nis.length nca, .slice nb nds.length ncb, ncl, nis, nds⟩ = true from sameC_of (HKG.out.1.trans (HKN.out.1.trans HK.out.1).symm) (HKG.out.2.1.trans (HKN.out.2.1.trans HK.out.2.1).symm) (HKG.out.2.2.1.trans (HKN.out.2.2.1.trans HK.out.2.2.1).symm) (HKG.out.2.2.2.1.trans ((HKN.out.2.2.2.1.trans (putF_bare HK.out.2.2.2.1))).symm) (HKG.out.2.2.2.2.trans (HKN.out.2.2.2.2.trans HK.out.2.2.2.2).symm))
  have hb47 : Below w4.heap.size w4 w7 := (HB5.out.trans (HB6.out.mono HB5.out.size)).trans (HB7.out.mono (Nat.le_of_lt hlt7))
  have HSM := Lib.hid (sameC2 w7 ⟨gid, gmo, .slice ga gis.length gca, .slice gb gds.length gcb, gcl, gis, gds⟩ ⟨nid, nmo, .slice na nis.length nca, .slice nb nds.length ncb, ncl, nis, nds⟩ (HGV.out.below hb47) (HNV.out.below HB7.out) HEQ.out)
  unfold CV.val at HSM
  dsimp only at HSM
  refine (HSM.out).mono ?_
  rintro e w8 ⟨rfl, hb8⟩
  obtain ⟨l', q1, q2, q3⟩ := HOW.out
  have hlg : l'.length = gis.length := by have h1 := congrArg List.length q1; have h2 := congrArg List.length HKG.out.2.2.2.1; simp only [List.length_map] at h1 h2; omega
  have HLG := Lib.hid hlg
  have hb48 : Below w4.heap.size w4 w8 := hb47.trans (hb8.mono hb47.size)
  have HR0 := Lib.hid (show Below w3.heap.size w3 w8 ∧ w8.heap[w4.heap.size]? = some (.cells #[.int .i64 gid, .string gmo, .slice ga gis.length gca, .slice gb gds.length gcb, .int .i64 gcl] 25 (0, 0)) ∧ w8.ownsRow w3.heap.size 30 6 (.slice ga gis.length gca) l'.length (flatI l') ∧ Latch w8 w3.heap.size l' from ⟨HB4.out.trans (hb48.mono HB4.out.size), (hb8.block w4.heap.size (by have := HB7.out.size; omega)).trans ((HB7.out.block w4.heap.size hlt7).trans HQ5'.out), ownr_below q2 hb48, fun z hz => ⟨z.ls, rfl, ownS_below (q3 z hz) hb48⟩⟩)
  have hgn : gis.length ≤ 9223372036854775807 := by have h1 := q2.2; have h2 := (OwnS.ofRow q2).form; obtain ⟨aa, cc, h3, h4, h5, -⟩ := h2; unfold maxLen at h5; omega
  clear d0 d1 d2 d3 d4 dz HW7 q1 q2 q3 hb8 hb47 hb48 hlg
  obtain ⟨d0, d1, d2, d3, d4, dz⟩ := cells5 HR0.out.2.1
  go_wp2_with fail
  clear d0 d1 d2 d3 d4 dz
  go_loopw [35] (fun i wr => ∃ k : Nat, k ≤ gis.length ∧ i = .int .i64 k ∧ Below w3.heap.size w3 wr ∧ wr.heap[w4.heap.size]? = some (.cells #[.int .i64 gid, .string gmo, .slice ga gis.length gca, .slice gb gds.length gcb, .int .i64 gcl] 25 (0, 0)) ∧ wr.ownsRow w3.heap.size 30 6 (.slice ga gis.length gca) l'.length (flatI l') ∧ Latch wr w3.heap.size l') (fun i _ => gis.length - (intOf i).toNat)
  case atStart => exact ⟨0, by omega, rfl, HR0.out⟩
  case round =>
    obtain ⟨k, hk, rfl, hr⟩ := hrel
    have HR := Lib.hid hr
    clear hr
    obtain ⟨d0, d1, d2, d3, d4, dz⟩ := cells5 HR.out.2.1
    by_cases hlt : k < gis.length
    · have hkl : k < l'.length := by rw [HLG.out]; exact hlt
      rcases HR.out.2.2.1.2 with ⟨hv0, hn0⟩ | ⟨g0, cap, cur, hv0, hbg, hg0, hnc, hcm, hcs, htk⟩
      · omega
      simp only [Value.slice.injEq] at hv0
      obtain ⟨rfl, -, rfl⟩ := hv0
      clear hbg hg0 hnc hcm hcs htk
      obtain ⟨z, hz⟩ : ∃ z, z = l'[k] := ⟨_, rfl⟩
      have hzm : z ∈ l' := by rw [hz]; exact List.getElem_mem hkl
      have HZM := Lib.hid hzm
      obtain ⟨xs, hxl, ho⟩ := HR.out.2.2.2 z hzm
      obtain ⟨pz, cz, hzv, hzc, hzm2, -⟩ := ho.form
      have HCZ := Lib.hid (show ∀ W : World, W.ownsRow w3.heap.size 30 6 (.slice (some ⟨g0, 0, none⟩) gis.length gca) l'.length (flatI l') → W.cell? ⟨g0, k * 6 + 4, none⟩ = some (.slice pz z.ls.length cz) from fun W h => by
        have hl2 : l'.length = gis.length := HLG.out
        rw [← hl2] at h
        have h1 := (OwnS.ofRow h).cell rfl (k * 6 + 4) z.lv (by rw [flatI_get l' k hkl 4 (by omega), ← hz]; rfl)
        rw [Nat.zero_add] at h1
        rw [h1, hzv])
      have HZV := Lib.hid hzv
      have hm63 : z.ls.length ≤ 9223372036854775807 := by unfold maxLen at hzm2; omega
      have c4 := HCZ.out _ HR.out.2.2.1
      clear hz hzm ho hxl hzc hzm2 hkl xs hzv
      generalize hmm : z.ls.length = m at *
      have HMM := Lib.hid hmm
      clear hmm
      go_wp2_with fail
      go_loopw [45] (fun i wr => ∃ j : Nat, j ≤ m ∧ i = .int .i64 j ∧ Below w3.heap.size w3 wr ∧ wr.heap[w4.heap.size]? = some (.cells #[.int .i64 gid, .string gmo, .slice (some ⟨g0, 0, none⟩) gis.length gca, .slice gb gds.length gcb, .int .i64 gcl] 25 (0, 0)) ∧ wr.ownsRow w3.heap.size 30 6 (.slice (some ⟨g0, 0, none⟩) gis.length gca) l'.length (flatI l') ∧ Latch wr w3.heap.size l') (fun i _ => m - (intOf i).toNat)
      case atStart => exact ⟨0, by omega, rfl, HR.out⟩
      case round =>
        clear d0 d1 d2 d3 d4 dz c4
        obtain ⟨j, hj, rfl, hr⟩ := hrel
        have HR2 := Lib.hid hr
        clear hr
        by_cases hltj : j < m
        · obtain ⟨d0, d1, d2, d3, d4, dz⟩ := cells5 HR2.out.2.1
          have c4 := HCZ.out _ HR2.out.2.2.1
          obtain ⟨xs, hxl, ho⟩ := HR2.out.2.2.2 z HZM.out
          rcases ho.2 with ⟨hv0, hn0⟩ | ⟨g2, off, cap2, cur2, hv0, hb2, hg2, hnc, hcm, hcs, htk⟩
          · have := HMM.out; omega
          have hv1 := hv0
          rw [HZV.out] at hv1
          simp only [Value.slice.injEq] at hv1
          obtain ⟨rfl, -, rfl⟩ := hv1
          have hjx : j < xs.length := by have := HMM.out; omega
          have c5 := ho.cell hv0 j (.int .i64 xs[j]) (by simp [icells, List.getElem?_eq_getElem hjx])
          have sz : ∀ o, wr.frozen? ⟨g2, o, none⟩ = false := fun o => by simp [World.frozen?, hg2]
          have HSTEP := Lib.hid (show ∀ u : Int, (fun wr => Below w3.heap.size w3 wr ∧ wr.heap[w4.heap.size]? = some (.cells #[.int .i64 gid, .string gmo, .slice (some ⟨g0, 0, none⟩) gis.length gca, .slice gb gds.length gcb, .int .i64 gcl] 25 (0, 0)) ∧ wr.ownsRow w3.heap.size 30 6 (.slice (some ⟨g0, 0, none⟩) gis.length gca) l'.length (flatI l') ∧ Latch wr w3.heap.size l') (wr.setCell ⟨g2, off + j, none⟩ (.int .i64 u)) from fun u => by
            have hob : (Value.slice (some ⟨g2, off, none⟩) m cz).ownBlock = some g2 := rfl
            have hne : g2 ≠ w4.heap.size := ownS_far (by decide) HR2.out.2.1 ho g2 (by rw [hv0]; rfl)
            refine ⟨HR2.out.1.setCell (p := ⟨g2, off + j, none⟩) hb2 _, (Below.heap_setCell wr ⟨g2, off + j, none⟩ _ w4.heap.size (Ne.symm hne)).trans HR2.out.2.1, ownr_keep HR2.out.2.2.1 fun b hb => Below.heap_setCell wr ⟨g2, off + j, none⟩ _ b (ownr_far (by decide) hg2 HR2.out.2.2.1 b hb), HR2.out.2.2.2.step hg2⟩)
          obtain ⟨xv, hxv⟩ : ∃ v, v = xs[j] := ⟨_, rfl⟩
          rw [← hxv] at c5
          clear ho hxl hb2 hg2 hnc hcm hcs htk hv0 hjx hxv
          go_wp2_with fail
          go_roundw
          case rel => exact ⟨j + 1, by omega, by go_num, HSTEP.out _⟩
          case measure => simp [intOf]; omega
        · go_wp2_with fail
          go_roundw
          case rel => exact ⟨k + 1, by omega, by go_num, HR2.out⟩
          case measure => simp [intOf]; omega
    · have hgr := HG3.out.trans (HR.out.1.mono HG3.out.size)
      have HGR := Lib.hid hgr
      obtain ⟨f0, f1, f2, f3, f4, fz⟩ := HCC.out wr hgr
      have hq := (HR.out.1.block w2.heap.size (by rw [HS3.out]; omega)).trans HQ3.out
      obtain ⟨e0, e1, e2, e3, e4, ez⟩ := cells5 hq
      have HSC := Lib.hid (HCI.out wr (HWW.out _ hgr) ⟨id2, mo2, .slice a2 is2.length ca2, .slice b2 ds2.length cb2, cl2, is2, ds2⟩ (HC2.out.below (HB3.out.trans (HR.out.1.mono HB3.out.size))) (sameC_of HK.out.1.symm HK.out.2.1.symm HK.out.2.2.1.symm HK.out.2.2.2.1.symm HK.out.2.2.2.2.symm))
      dsimp only at HSC
      clear hgr hq d0 d1 d2 d3 d4 dz
      go_wp2_with fail
      refine (HSC.out).mono ?_
      rintro e u1 ⟨rfl, hb1⟩
      have HU1 := Lib.hid (HGR.out.trans (hb1.mono HGR.out.size))
      clear hb1 f0 f1 f2 f3 f4 fz e0 e1 e2 e3 e4 ez
      go_wp2_with fail
      refine (HA.out _).mono ?_
      rintro e u2 ⟨rfl, hb2⟩
      have HU2 := Lib.hid (HU1.out.trans (hb2.mono HU1.out.size))
      clear hb2
      go_wp2_with fail
      go_ret
      exact ⟨rfl, HWW.out _ HU2.out⟩

theorem walk (c : CV) (x : IV) (w : World) (hc : CVok w c) (hx : IVok w x ∧ x.ls.length ≤ 17592186044416) : Calls Try.prog 4 #[c.val, .agg x.cells.toArray] w fun e w' => e = .returned (.bool true) ∧ Below w.heap.size w w' := by
  cases h : okC c with
  | false => exact no1 c x w hc hx.1 h
  | true =>
    by_cases h4 : x.path.size ≤ 400
    · exact yes c x w hc hx.1 hx.2 h h4
    · exact no2 c x w hc hx.1 h h4

-- FRAME
theorem own : ownKnob Try.prog.godebug = none := by kernel_rfl
theorem laidOut : laidOutB Try.prog = true := by kernel_rfl

set_option maxRecDepth 100000 in
theorem lifted (os : Os) (started : os.Started) (H : Type) (enc : TypeId × Value → H) :
    ReturnsInHanded {} Try.checked os 4 .any (Rows.treePutsSpec.pre6 enc Try.prog Try.f4 Rows.treePutsRow.domain false) (Rows.treePutsSpec.post enc Try.prog Try.f4 false true false false) := by
  refine returnsInHanded_of_change_sized (C := Try.checked) own started (by kernel_rfl) Try.func4
    (ChangeSpec.witness6 (enc := enc) (C := Try.checked) false ⟨#[], #[.agg #[.int .i64 0, .string ByteArray.empty, .slice none 0 0, .slice none 0 0, .int .i64 0], .agg #[.string ByteArray.empty, .string ByteArray.empty, .int .i64 0, .int .i64 0, .slice none 0 0, .int .i64 0]], []⟩ 8 (by kernel_rfl) (by kernel_rfl) (by kernel_rfl) (by kernel_rfl)) ?_
  intro W base args ds gs before hval0 hW hcnd hsz0 _
  have hsz : (DataW.weightsEach Try.prog (Try.f4.params.toList ++ Rows.treePutsSpec.plain.varTypes Try.prog) (ds ++ gs)).all (· ≤ reachBytes) = true := hsz0
  have hval : ∀ (j : Nat) t v, Try.f4.params[j]? = some t → args[j]? = some v → Value.okWide Try.prog W .any base t v := hval0
  have hW' := hW
  obtain ⟨p, q, hA0, hV, rfl, hfz, hnd⟩ := hW
  have hA : DataW.TrodAll enc Try.prog W 0 (fun _ => true) true Try.f4.params.toList args.toList ds p := hA0
  rw [Try.params4] at hA hval hsz
  obtain ⟨v0, vs0, d0, ds0, p0, q0, hargs, rfl, rfl, h0, r0⟩ := trodAll_cons hA
  obtain ⟨v1, vs1, d1, ds1, p1, q1, rfl, rfl, rfl, h1, r1⟩ := trodAll_cons r0
  obtain ⟨rfl, rfl, rfl⟩ := trodAll_nil r1
  obtain rfl : args = #[v0, v1] := by cases args; simp_all
  obtain ⟨rfl, rfl⟩ := trodVars_none hV
  have k0 := h0
  have lt0 : ∀ x ∈ p0, x.block < W.heap.size := by obtain ⟨m, hm⟩ := k0; exact DataW.trod_lt m _ _ _ hm
  obtain ⟨x0, rfl, o0⟩ := case_open (hval 0 25 v0 rfl rfl) h0 (fun n hn => of_decide_eq_true (List.all_eq_true.1 hsz _ (DataW.weights_mem_each (j := 0) rfl rfl n hn)))
  have k1 := h1
  have lt1 : ∀ x ∈ p1, x.block < W.heap.size := by obtain ⟨m, hm⟩ := k1; exact DataW.trod_lt m _ _ _ hm
  obtain ⟨x1, rfl, o1⟩ := inst_open (hval 1 30 v1 rfl rfl) h1 (fun n hn => of_decide_eq_true (List.all_eq_true.1 hsz _ (DataW.weights_mem_each (j := 1) rfl rfl n hn)))
  clear hA0 hval0
  refine (walk x0 x1 W o0 o1).mono fun e W' ⟨he, bel⟩ => ?_
  subst he
  exact ⟨_, rfl, _, _, _, [], _, [], hW', trodAll_mk1 (shut_bool Try.underlying4 _), (trodAll_cons_mk (Below.trod laidOut (by kernel_rfl) (of_decide_eq_true (by kernel_rfl)) k0 bel lt0) (trodAll_cons_mk (Below.trod laidOut (by kernel_rfl) (of_decide_eq_true (by kernel_rfl)) k1 bel lt1) trodAll_mk0)), rfl, bel.frame _, fun h => by cases h⟩

/-- The statement. -/
theorem proved : Rows.TreePutsSaid :=
  OpenClaim.holds_of_wide 4 Try.f4 rfl rfl rfl rfl rfl rfl rfl ⟨rfl, rfl, rfl, rfl, rfl⟩ rfl rfl rfl rfl rfl (by kernel_rfl) Try.func4 (by kernel_rfl)
    (of_decide_eq_true (by kernel_rfl)) (by unfold Func.isWrapper; first | (rw [if_pos (by decide +kernel)]; kernel_rfl) | (rw [if_neg (by decide +kernel)]; exact ⟨rfl, rfl⟩))
    (fun os started H enc _ => lifted os started H enc)
end Go.Proofs.Ytncloiimbclklaa.treePuts
