/- tree: THE LAW TreeOrdered: of the instances of any small case, put one after another into an empty case, and any further one with a path of at most 400 bytes: the last is found as it was, the paths of all others are found, and the instances are in order. Conditions: none (the first form). -/
import Derived.Test.YtncloiimbclklaaWi
import Derived.ProofKit
import Derived.SizedLaws
import Derived.ShutString
import Derived.ChangeOld
namespace Go.Proofs.Ytncloiimbclklaa.treeOrdered
open Go Go.ChangeShapes Go.WideShapes Go.ChangeAt Go.RowKit Go.Shelf Go.Deep
open Go.ChangeMaps (open_string shut_string)
set_option linter.unusedVariables false
set_option linter.unusedSimpArgs false

theorem okC_parts {c : CV} (h : okC c = true) : (∀ x ∈ c.insts, x.ls.length ≤ 40) ∧ (∀ x ∈ c.insts, x.path.size ≤ 400) ∧ (∀ x ∈ c.docs, x.rs.length ≤ 40) ∧ c.insts.length ≤ 40 ∧ c.docs.length ≤ 30 := by
  unfold okC okI okD at h
  simp only [Bool.and_eq_true, List.all_eq_true, decide_eq_true_eq] at h
  obtain ⟨⟨h1, h2⟩, h3, h4⟩ := h
  exact ⟨fun x hx => (h1 x hx).2, fun x hx => (h1 x hx).1, fun x hx => (h2 x hx).2, h3, h4⟩

section
variable {H : Type} {enc : TypeId × Value → H} {w : World} {base : Nat} {held : Bool} {fuel : Nat}
theorem ints_readB {c : Value} {x : DataW H × List MemPlace} (h : DataW.trod enc Try.prog w base (fun _ => true) held fuel 28 [c] = some x) (hz : ∀ n ∈ x.1.weights Try.prog 28, n ≤ reachBytes) :
    ∃ xs : List Int, RdV w c (icells xs) ∧ xs.length ≤ 17592186044416 := by
  have h1 : Try.prog.bytesOf 3 = 8 := by kernel_rfl
  rcases open_ints Try.underlying28 Try.underlying3 (by kernel_rfl) h with ⟨hcs, _⟩ | ⟨a, l, c, zs, hcs, _, hl, hm, hzl, rfl, hcell, hwz⟩
  · simp only [List.cons.injEq, and_true] at hcs
    subst hcs
    exact ⟨[], RdV.nil _, by simp⟩
  · simp only [List.cons.injEq, and_true] at hcs
    subst hcs
    have hz' : zs.length = c := by simpa using hzl
    have hb := hz (((lits IntKind.i64 (zs.take l) : List (DataW H)).length + (lits IntKind.i64 (zs.drop l) : List (DataW H)).length) * Try.prog.bytesOf 3) (by simp [DataW.weights, Try.underlying28])
    rw [h1] at hb
    simp only [lits, List.length_map, List.length_take, List.length_drop, reachBytes] at hb
    exact ⟨_, rdv_of_row hl hm hz' hcell, by simp only [List.length_take]; omega⟩
/-- An instance, given by value. -/
theorem inst_open {r : Reach} {b0 : Nat} {v : Value} {d : DataW H} {p : List MemPlace} (hv : Value.okWide Try.prog w r b0 30 v) (h : DataW.Trod enc Try.prog w base (fun _ => true) held 30 v d p)
    (hz : ∀ n ∈ d.weights Try.prog 30, n ≤ reachBytes) : ∃ x : IV, v = .agg x.cells.toArray ∧ (IVok w x ∧ x.ls.length ≤ 17592186044416) := by
  obtain ⟨cs, rfl, hsz⟩ := okWide_struct Try.underlying30 hv
  obtain ⟨l⟩ := cs
  match l, hsz.trans (show Try.prog.cellsOf 30 = 6 from by kernel_rfl) with
  | [c0, c1, c2, c3, c4, c5], _ =>
    obtain ⟨fuel, hf⟩ := h
    have hf' : DataW.trod enc Try.prog w base (fun _ => true) held fuel 30 [c0, c1, c2, c3, c4, c5] = some (d, p) := hf
    obtain ⟨y0, y1, y2, y3, y4, y5, n, hx, t0, t1, t2, t3, t4, t5⟩ := cells6_open Try.underlying30 (by kernel_rfl) hf'
    have hw : ∀ n, n ∈ DataW.weightsEach Try.prog [9, 9, 3, 3, 28, 3] [y0.1, y1.1, y2.1, y3.1, y4.1, y5.1] → n ≤ reachBytes := fun n hn => hz n (by
      have hx' : d = .agg [y0.1, y1.1, y2.1, y3.1, y4.1, y5.1] := hx
      rw [hx']
      simp only [DataW.weights, Try.underlying30]
      exact hn)
    obtain ⟨pa, e0, _, w0⟩ := DataW.trod_string Try.underlying9 t0
    obtain ⟨it, e1, _, w1⟩ := DataW.trod_string Try.underlying9 t1
    obtain ⟨st, e2, _, w2⟩ := DataW.trod_int Try.underlying3 t2
    obtain ⟨bf, e3, _, w3⟩ := DataW.trod_int Try.underlying3 t3
    obtain ⟨du, e5, _, w5⟩ := DataW.trod_int Try.underlying3 t5
    simp only [List.cons.injEq, and_true] at e0 e1 e2 e3 e5
    subst e0 e1 e2 e3 e5
    obtain ⟨ks, rk, hk⟩ := ints_readB t4 (fun n hn => hw n (DataW.weights_mem_each (j := 4) rfl rfl n hn))
    unfold maxLen at w0 w1
    exact ⟨⟨pa, it, st, bf, c4, ks, du⟩, rfl, ⟨by show pa.size ≤ _; omega, by show it.size ≤ _; omega, wf64 w2, wf64 w3, wf64 w5, rk⟩, hk⟩
end

set_option maxRecDepth 100000 in
set_option maxHeartbeats 4000000 in
theorem no1 (c : CV) (x : IV) (w : World) (hc : CVok w c) (hx : IVok w x) (h : okC c = false) : Calls Try.prog 5 #[c.val, .agg x.cells.toArray] w fun e w' => e = .returned (.bool true) ∧ Below w.heap.size w w' := by
  have HP := Lib.hid (fun (W : World) (hb : Below w.heap.size w W) => plain_c W c (hc.below hb))
  simp only [h] at HP
  have HA := Lib.hid awake_c
  have HN := Lib.hid True.intro
  clear h
  have hl1 := hc.insts.1
  have hd1 := hc.docs.1
  obtain ⟨pl, cp, hlv⟩ := hx.rl.form
  clear hc hx
  obtain ⟨id, mo, iv, dv, cl, is, ds⟩ := c
  obtain ⟨path, item, st, bf, lv, ls, due⟩ := x
  dsimp only at hl1 hd1 hlv HN
  obtain ⟨a, ca, hv1, -⟩ := hl1
  obtain ⟨b, cb, hv3, -⟩ := hd1
  subst hv1 hv3 hlv
  unfold CV.val at HP ⊢
  unfold IV.cells 
  dsimp only at HP ⊢
  obtain ⟨w0, hw0⟩ : ∃ x, x = (w.alloc (.cells #[.int .i64 id, .string mo, .slice a is.length ca, .slice b ds.length cb, .int .i64 cl] 25)).alloc (.cells #[.string path, .string item, .int .i64 st, .int .i64 bf, .slice pl (icells ls).length cp, .int .i64 due] 30) := ⟨_, rfl⟩
  have HBW := Lib.hid (show Below w.heap.size w w0 from by rw [hw0]; exact (box_bel' w _).alloc (box_bel' w _).size _)
  have HX1 := Lib.hid (show w0.heap[w.heap.size]? = some (.cells #[.int .i64 id, .string mo, .slice a is.length ca, .slice b ds.length cb, .int .i64 cl] 25 (0, 0)) from by rw [hw0]; exact two_old w _ _)
  have HX2 := Lib.hid (show w0.heap[w.heap.size + 1]? = some (.cells #[.string path, .string item, .int .i64 st, .int .i64 bf, .slice pl (icells ls).length cp, .int .i64 due] 30 (0, 0)) from by rw [hw0]; exact two_new w _ _)
  have HSW := Lib.hid (show w0.heap.size = w.heap.size + 2 from by rw [hw0]; simp)
  have HW0 := Lib.hid hw0
  clear hw0
  have HCC := Lib.hid (fun (W : World) (hb : Below w0.heap.size w0 W) => cells5 ((hb.block (w.heap.size) (by rw [HSW.out]; omega)).trans HX1.out))
  have HDD := Lib.hid (fun (W : World) (hb : Below w0.heap.size w0 W) => cells6 ((hb.block (w.heap.size + 1) (by rw [HSW.out]; omega)).trans HX2.out))
  have HWW := Lib.hid (fun (W : World) (hb : Below w0.heap.size w0 W) => HBW.out.trans (hb.mono HBW.out.size))
  go_enter Try.func5, Try.ntmps5
  go_wp2_with fail
  rw [← HW0.out]
  obtain ⟨d0, d1, d2, d3, d4, dz⟩ := HCC.out w0 (Below.refl _ _)
  go_wp2_with fail
  refine (HP.out _ HBW.out).mono ?_
  rintro e w1 ⟨rfl, hb1⟩
  have HG1 := Lib.hid hb1
  clear hb1 d0 d1 d2 d3 d4 dz
  go_wp2_with fail
  refine (HA.out _).mono ?_
  rintro e w2 ⟨rfl, hb2⟩
  have HG2 := Lib.hid (HG1.out.trans (hb2.mono HG1.out.size))
  clear hb2
  go_wp2_with fail
  go_ret
  exact ⟨rfl, HWW.out _ HG2.out⟩

set_option maxRecDepth 100000 in
set_option maxHeartbeats 4000000 in
theorem no2 (c : CV) (x : IV) (w : World) (hc : CVok w c) (hx : IVok w x) (h : okC c = true) (h4 : ¬ x.path.size ≤ 400) : Calls Try.prog 5 #[c.val, .agg x.cells.toArray] w fun e w' => e = .returned (.bool true) ∧ Below w.heap.size w w' := by
  have HP := Lib.hid (fun (W : World) (hb : Below w.heap.size w W) => plain_c W c (hc.below hb))
  simp only [h] at HP
  have HA := Lib.hid awake_c
  have HN := Lib.hid True.intro
  have hps := hx.path
  clear h
  have hl1 := hc.insts.1
  have hd1 := hc.docs.1
  obtain ⟨pl, cp, hlv⟩ := hx.rl.form
  clear hc hx
  obtain ⟨id, mo, iv, dv, cl, is, ds⟩ := c
  obtain ⟨path, item, st, bf, lv, ls, due⟩ := x
  dsimp only at hl1 hd1 hlv HN
  obtain ⟨a, ca, hv1, -⟩ := hl1
  obtain ⟨b, cb, hv3, -⟩ := hd1
  subst hv1 hv3 hlv
  unfold CV.val at HP ⊢
  unfold IV.cells 
  dsimp only at HP h4 hps ⊢
  obtain ⟨w0, hw0⟩ : ∃ x, x = (w.alloc (.cells #[.int .i64 id, .string mo, .slice a is.length ca, .slice b ds.length cb, .int .i64 cl] 25)).alloc (.cells #[.string path, .string item, .int .i64 st, .int .i64 bf, .slice pl (icells ls).length cp, .int .i64 due] 30) := ⟨_, rfl⟩
  have HBW := Lib.hid (show Below w.heap.size w w0 from by rw [hw0]; exact (box_bel' w _).alloc (box_bel' w _).size _)
  have HX1 := Lib.hid (show w0.heap[w.heap.size]? = some (.cells #[.int .i64 id, .string mo, .slice a is.length ca, .slice b ds.length cb, .int .i64 cl] 25 (0, 0)) from by rw [hw0]; exact two_old w _ _)
  have HX2 := Lib.hid (show w0.heap[w.heap.size + 1]? = some (.cells #[.string path, .string item, .int .i64 st, .int .i64 bf, .slice pl (icells ls).length cp, .int .i64 due] 30 (0, 0)) from by rw [hw0]; exact two_new w _ _)
  have HSW := Lib.hid (show w0.heap.size = w.heap.size + 2 from by rw [hw0]; simp)
  have HW0 := Lib.hid hw0
  clear hw0
  have HCC := Lib.hid (fun (W : World) (hb : Below w0.heap.size w0 W) => cells5 ((hb.block (w.heap.size) (by rw [HSW.out]; omega)).trans HX1.out))
  have HDD := Lib.hid (fun (W : World) (hb : Below w0.heap.size w0 W) => cells6 ((hb.block (w.heap.size + 1) (by rw [HSW.out]; omega)).trans HX2.out))
  have HWW := Lib.hid (fun (W : World) (hb : Below w0.heap.size w0 W) => HBW.out.trans (hb.mono HBW.out.size))
  have hq : decide ((400 : Int) < (path.size : Int)) = true := decide_eq_true (by omega)
  go_enter Try.func5, Try.ntmps5
  go_wp2_with fail
  rw [← HW0.out]
  obtain ⟨d0, d1, d2, d3, d4, dz⟩ := HCC.out w0 (Below.refl _ _)
  go_wp2_with fail
  refine (HP.out _ HBW.out).mono ?_
  rintro e w1 ⟨rfl, hb1⟩
  have HG1 := Lib.hid hb1
  clear hb1 d0 d1 d2 d3 d4 dz
  obtain ⟨f0, f1, f2, f3, f4, f5, fz⟩ := HDD.out w1 HG1.out
  go_wp2_with fail
  refine (HA.out _).mono ?_
  rintro e w2 ⟨rfl, hb2⟩
  have HG2 := Lib.hid (HG1.out.trans (hb2.mono HG1.out.size))
  clear hb2
  go_wp2_with fail
  go_ret
  exact ⟨rfl, HWW.out _ HG2.out⟩

theorem bare_all {l l' : List IV} (h : l'.map IV.bare = l.map IV.bare) {p : IV → Prop} (hp : ∀ x, p x.bare → p x) (hq : ∀ x, p x → p x.bare) (ha : ∀ x ∈ l, p x) : ∀ x ∈ l', p x := by
  intro y hy
  have : y.bare ∈ l'.map IV.bare := List.mem_map.2 ⟨y, hy, rfl⟩
  rw [h] at this
  obtain ⟨z, hz, he⟩ := List.mem_map.1 this
  exact hp y (he ▸ hq z (ha z hz))
theorem bare_allD {l l' : List DV} (h : l'.map DV.bare = l.map DV.bare) {p : DV → Prop} (hp : ∀ x, p x.bare → p x) (hq : ∀ x, p x → p x.bare) (ha : ∀ x ∈ l, p x) : ∀ x ∈ l', p x := by
  intro y hy
  have : y.bare ∈ l'.map DV.bare := List.mem_map.2 ⟨y, hy, rfl⟩
  rw [h] at this
  obtain ⟨z, hz, he⟩ := List.mem_map.1 this
  exact hp y (he ▸ hq z (ha z hz))
theorem sameI2 (w : World) (x y : IV) (hx : IVok w x) (hy : IVok w y) (h : x.bare = y.bare) : Calls Try.prog 15 #[.agg x.cells.toArray, .agg y.cells.toArray] w fun e w' => e = .returned (.bool true) ∧ Below w.heap.size w w' := by
  have := rsame_c w x y hx hy
  rwa [sameI_bare h] at this
theorem made_ok {w W : World} {L : List IV} {base : Nat} {vI vD : Value} (hel : ∀ z ∈ L, IVok w z) (hI : InstsOwn W base vI L) (hD : DocsOwn W base vD []) :
    ∃ li, CVok W ⟨0, ⟨#[]⟩, vI, vD, 0, li, []⟩ ∧ li.map IV.bare = L.map IV.bare := by
  obtain ⟨li, h1, h2⟩ := hI.is (w0 := w) hel
  obtain ⟨ld, h3, h5⟩ := hD.is (w0 := w) (by simp)
  have : ld = [] := by simpa using h5
  subst this
  exact ⟨li, ⟨⟨by show (-9223372036854775808 : Int) ≤ 0; omega, by show (0 : Int) ≤ 9223372036854775807; omega⟩, ⟨by show (-9223372036854775808 : Int) ≤ 0; omega, by show (0 : Int) ≤ 9223372036854775807; omega⟩, by show (⟨#[]⟩ : ByteArray).size ≤ 9223372036854775807; decide, h1, h3⟩, h2⟩
theorem put2 (w W : World) (L : List IV) (base : Nat) (vI vD : Value) (y : IV) (hel : ∀ z ∈ L, IVok w z) (hsl : ∀ z ∈ L, z.ls.length ≤ 40) (hpl : ∀ z ∈ L, z.path.size ≤ 400) (hI : InstsOwn W base vI L) (hD : DocsOwn W base vD []) (hLn : L.length ≤ 40)
    (hy : IVok W y) (hyp : y.path.size ≤ 400) (hyl : y.ls.length ≤ 17592186044416) :
    Calls Try.prog 22 #[.agg #[.int .i64 0, .string ⟨#[]⟩, vI, vD, .int .i64 0], .agg y.cells.toArray] W fun e w' => ∃ vI' vD', e = .returned (.agg #[.int .i64 0, .string ⟨#[]⟩, vI', vD', .int .i64 0]) ∧ InstsOwn w' W.heap.size vI' (putF L y) ∧ DocsOwn w' W.heap.size vD' [] ∧ Below W.heap.size W w' := by
  obtain ⟨li, hok, h2⟩ := made_ok hel hI hD
  have hl : li.length = L.length := by simpa using congrArg List.length h2
  have := put_c W ⟨0, ⟨#[]⟩, vI, vD, 0, li, []⟩ y hok hy (bare_all h2 (p := fun z => z.ls.length ≤ 40) (fun _ h => h) (fun _ h => h) hsl) (by simp) (by show li.length ≤ 1000; omega) (by show li.length ≤ 40; omega) (by simp) (bare_all h2 (p := fun z => z.path.size ≤ 400) (fun _ h => h) (fun _ h => h) hpl) hyp hyl
  exact this.mono fun e w' ⟨vI', vD', he, hi, hd, hb⟩ => ⟨vI', vD', he, hi.re (putF_bare h2), hd, hb⟩
theorem foundX_bare {o1 o2 : Option IV} (h : o1.map IV.bare = o2.map IV.bare) : foundX o1 = foundX o2 := by
  cases o1 with
  | none => cases o2 with
    | none => rfl
    | some y => simp at h
  | some x => cases o2 with
    | none => simp at h
    | some y => simpa [foundX] using h
theorem find2 (w W : World) (L : List IV) (base : Nat) (vI vD : Value) (p : ByteArray) (hel : ∀ z ∈ L, IVok w z) (hsl : ∀ z ∈ L, z.ls.length ≤ 17592186044416) (hI : InstsOwn W base vI L) (hD : DocsOwn W base vD []) (hf : ∃ z ∈ L, z.path = p) :
    Calls Try.prog 8 #[.agg #[.int .i64 0, .string ⟨#[]⟩, vI, vD, .int .i64 0], .string p] W fun e w' => ∃ z : IV, e = .returned (.tuple #[.agg z.cells.toArray, .bool true]) ∧ IVok w' z ∧ z.bare = foundX (L.find? (hasP p)) ∧ Below W.heap.size W w' := by
  obtain ⟨li, hok, h2⟩ := made_ok hel hI hD
  have hfb := find_bare (f := hasP p) (fun _ => rfl) h2
  have := findB_c W ⟨0, ⟨#[]⟩, vI, vD, 0, li, []⟩ hok p (bare_all h2 (p := fun z => z.ls.length ≤ 17592186044416) (fun _ h => h) (fun _ h => h) hsl)
  refine this.mono fun e w' h => ?_
  obtain ⟨z, he, hz, hzb, hb⟩ := h.iv (w0 := W) (fun x hx => hok.insts.2 x (find_mem hx))
  refine ⟨z, ?_, hz, hzb.trans (foundX_bare hfb), hb⟩
  rw [he]
  have h1 := find_path hf
  have h3 : (li.find? (hasP p)).isSome = true := by
    have := congrArg Option.isSome hfb
    simpa [h1] using this
  dsimp only
  rw [h3]
theorem sorted2 (w W : World) (L : List IV) (base : Nat) (vI vD : Value) (hel : ∀ z ∈ L, IVok w z) (hpl : ∀ z ∈ L, z.path.size ≤ 400) (hI : InstsOwn W base vI L) (hD : DocsOwn W base vD []) (hLn : L.length ≤ 41) (ho : Ord L) :
    Calls Try.prog 24 #[vI, .func (.func 25) #[] #[]] W fun e w' => e = .returned (.bool true) ∧ Below W.heap.size W w' := by
  obtain ⟨li, hok, h2⟩ := made_ok hel hI hD
  have hl : li.length = L.length := by simpa using congrArg List.length h2
  refine sorted_c W vI li hok.insts (ord_path ?_ ho) (bare_all h2 (p := fun z => z.path.size ≤ 400) (fun _ h => h) (fun _ h => h) hpl) (by omega)
  have := congrArg (List.map IV.path) h2
  simpa [List.map_map, Function.comp_def, IV.bare] using this

set_option maxRecDepth 100000 in
set_option maxHeartbeats 8000000 in
theorem yes (c : CV) (x : IV) (w : World) (hc : CVok w c) (hx : IVok w x) (hxl : x.ls.length ≤ 17592186044416) (h : okC c = true) (h4 : x.path.size ≤ 400) : Calls Try.prog 5 #[c.val, .agg x.cells.toArray] w fun e w' => e = .returned (.bool true) ∧ Below w.heap.size w w' := by
  obtain ⟨hs, hps, hs2, hc4, hd4⟩ := okC_parts h
  have HP := Lib.hid (fun (W : World) (hb : Below w.heap.size w W) => plain_c W c (hc.below hb))
  simp only [h] at HP
  have HA := Lib.hid awake_c
  have HI := Lib.hid hc.insts
  have HS := Lib.hid hs
  have HPS := Lib.hid hps
  have HC4 := Lib.hid hc4
  have HXO := Lib.hid hx
  have HXL := Lib.hid hxl
  have HX4 := Lib.hid h4
  have HN := Lib.hid True.intro
  clear h hs hps hs2 hc4 hd4 hxl
  have hl1 := hc.insts.1
  have hd1 := hc.docs.1
  obtain ⟨pl, cp, hlv⟩ := hx.rl.form
  clear hc hx
  obtain ⟨id, mo, iv, dv, cl, is, ds⟩ := c
  obtain ⟨path, item, st, bf, lv, ls, due⟩ := x
  dsimp only at hl1 hd1 hlv HN
  obtain ⟨a, ca, hv1, -⟩ := hl1
  obtain ⟨b, cb, hv3, -⟩ := hd1
  subst hv1 hv3 hlv
  unfold CV.val at HP ⊢
  unfold IV.cells 
  dsimp only at HP HI HS HPS HC4 HXO HXL HX4 h4 ⊢
  obtain ⟨w0, hw0⟩ : ∃ x, x = (w.alloc (.cells #[.int .i64 id, .string mo, .slice a is.length ca, .slice b ds.length cb, .int .i64 cl] 25)).alloc (.cells #[.string path, .string item, .int .i64 st, .int .i64 bf, .slice pl (icells ls).length cp, .int .i64 due] 30) := ⟨_, rfl⟩
  have HBW := Lib.hid (show Below w.heap.size w w0 from by rw [hw0]; exact (box_bel' w _).alloc (box_bel' w _).size _)
  have HX1 := Lib.hid (show w0.heap[w.heap.size]? = some (.cells #[.int .i64 id, .string mo, .slice a is.length ca, .slice b ds.length cb, .int .i64 cl] 25 (0, 0)) from by rw [hw0]; exact two_old w _ _)
  have HX2 := Lib.hid (show w0.heap[w.heap.size + 1]? = some (.cells #[.string path, .string item, .int .i64 st, .int .i64 bf, .slice pl (icells ls).length cp, .int .i64 due] 30 (0, 0)) from by rw [hw0]; exact two_new w _ _)
  have HSW := Lib.hid (show w0.heap.size = w.heap.size + 2 from by rw [hw0]; simp)
  have HW0 := Lib.hid hw0
  clear hw0
  have HCC := Lib.hid (fun (W : World) (hb : Below w0.heap.size w0 W) => cells5 ((hb.block (w.heap.size) (by rw [HSW.out]; omega)).trans HX1.out))
  have HDD := Lib.hid (fun (W : World) (hb : Below w0.heap.size w0 W) => cells6 ((hb.block (w.heap.size + 1) (by rw [HSW.out]; omega)).trans HX2.out))
  have HWW := Lib.hid (fun (W : World) (hb : Below w0.heap.size w0 W) => HBW.out.trans (hb.mono HBW.out.size))
  have hq : decide ((400 : Int) < (path.size : Int)) = false := decide_eq_false (by omega)
  have hps63 : path.size ≤ 9223372036854775807 := by omega
  go_enter Try.func5, Try.ntmps5
  go_wp2_with fail
  rw [← HW0.out]
  obtain ⟨d0, d1, d2, d3, d4, dz⟩ := HCC.out w0 (Below.refl _ _)
  go_wp2_with fail
  refine (HP.out _ HBW.out).mono ?_
  rintro e w1 ⟨rfl, hb1⟩
  have HG1 := Lib.hid hb1
  clear hb1 d0 d1 d2 d3 d4 dz
  obtain ⟨d0, d1, d2, d3, d4, dz⟩ := HCC.out w1 HG1.out
  obtain ⟨f0, f1, f2, f3, f4, f5, fz⟩ := HDD.out w1 HG1.out
  have hltA : w.heap.size < w1.heap.size := by have := HG1.out.size; rw [HSW.out] at this; omega
  have hn63 : is.length ≤ 9223372036854775807 := by have := HC4.out; omega
  obtain ⟨w5, hw5⟩ : ∃ z, z = w1.alloc (.cells #[.int .i64 0, .string ⟨#[]⟩, .slice none 0 0, .slice none 0 0, .int .i64 0] 25) := ⟨_, rfl⟩
  have HG5 := Lib.hid (show Below w0.heap.size w0 w5 from by rw [hw5]; exact HG1.out.alloc HG1.out.size _)
  have HB5 := Lib.hid (show w5.heap[w1.heap.size]? = some (.cells #[.int .i64 0, .string ⟨#[]⟩, .slice none 0 0, .slice none 0 0, .int .i64 0] 25 (0, 0)) from by rw [hw5]; exact heap_alloc_new w1 _)
  have HS5 := Lib.hid (show w5.heap.size = w1.heap.size + 1 from by rw [hw5]; simp)
  have HW5 := Lib.hid hw5
  clear hw5
  go_wp2_with fail
  rw [← HW5.out]
  clear d0 d1 d2 d3 d4 dz f0 f1 f2 f3 f4 f5 fz hltA HW5 HW0
  go_loopw [29] (fun i wr => ∃ (k base : Nat) (vI vD : Value), k ≤ is.length ∧ i = .int .i64 k ∧ wr.heap[w1.heap.size]? = some (.cells #[.int .i64 0, .string ⟨#[]⟩, vI, vD, .int .i64 0] 25 (0, 0)) ∧ InstsOwn wr base vI (foldP (is.take k)) ∧ DocsOwn wr base vD [] ∧ w1.heap.size < base ∧ Below w0.heap.size w0 wr) (fun i _ => is.length - (intOf i).toNat)
  case atStart => exact ⟨0, w1.heap.size + 1, _, _, by omega, rfl, HB5.out, InstsOwn.nil _ _, DocsOwn.nil _ _, by omega, HG5.out⟩
  case round =>
    obtain ⟨k, base, vI, vD, hk, rfl, hq5, hi, hd, hbs, hbr⟩ := hrel
    have HQ := Lib.hid hq5
    have HIO := Lib.hid hi
    have HDO := Lib.hid hd
    have HBS := Lib.hid hbs
    have HBR := Lib.hid hbr
    have HBRW := Lib.hid (HWW.out _ hbr)
    obtain ⟨pI, mI, cI, hvI⟩ : ∃ p m c, vI = .slice p m c := by
      obtain ⟨l', k1, k2, -⟩ := hi
      obtain ⟨p, c, hv, -⟩ := (OwnS.ofRow k2).form
      exact ⟨p, _, c, hv⟩
    obtain ⟨pD, cD, hvD⟩ : ∃ p c, vD = .slice p 0 c := by
      obtain ⟨p, c, h⟩ := hd.form
      exact ⟨p, c, h⟩
    subst hvI hvD
    have HELT := Lib.hid (show ∀ z ∈ foldP (is.take k), z ∈ is from fun z hz => List.mem_of_mem_take (foldP_mem _ z hz))
    have HLEN := Lib.hid (show (foldP (is.take k)).length ≤ 40 from by have h1 := foldP_len (is.take k); have h2 := HC4.out; rw [List.length_take] at h1; omega)
    have hltB : w1.heap.size < wr.heap.size := (Array.getElem?_eq_some_iff.1 HQ.out).1
    obtain ⟨d0, d1, d2, d3, d4, dz⟩ := cells5 HQ.out
    clear hq5 hi hd hbs hbr
    by_cases hlt : k < is.length
    · obtain ⟨y, hy⟩ : ∃ y, y = is[k] := ⟨_, rfl⟩
      have hrow : rowI is k = y.cells := by unfold rowI; rw [List.getElem?_eq_getElem hlt, ← hy]; rfl
      have hym : y ∈ is := by rw [hy]; exact List.getElem_mem hlt
      have hyo := (HI.out.2 y hym).below HBRW.out
      have HYO := Lib.hid hyo
      have HY4 := Lib.hid (HS.out y hym)
      have HYP := Lib.hid (HPS.out y hym)
      have HNX := Lib.hid (show foldP (is.take (k + 1)) = putF (foldP (is.take k)) y from by rw [List.take_succ_eq_append_getElem hlt, foldP_snoc, hy])
      have HPT := Lib.hid (fun (W : World) (hb : Below wr.heap.size wr W) => put2 w W (foldP (is.take k)) base (.slice pI mI cI) (.slice pD 0 cD) y (fun z hz => HI.out.2 z (HELT.out z hz)) (fun z hz => HS.out z (HELT.out z hz)) (fun z hz => HPS.out z (HELT.out z hz)) (HIO.out.below hb) (HDO.out.below hb) HLEN.out (HYO.out.below hb) HYP.out (by have := HY4.out; omega))
      obtain ⟨ypl, ycp, hlv⟩ := hyo.rl.form
      obtain ⟨g, o, ha, hgl, c0, c1, c2, c3, c4, c5⟩ := (HI.out.1.below HBRW.out).row hlt hrow
      subst ha
      obtain ⟨ypath, yitem, yst, ybf, ylv, yls, ydue⟩ := y
      dsimp only at hlv c0 c1 c2 c3 c4 c5
      subst hlv
      unfold IV.cells at HPT
      dsimp only at HPT
      have HBX := Lib.hid (fun o => box_bel' wr o)
      clear hrow hy hym hyo
      go_wp2_with fail
      refine (HPT.out _ (HBX.out _)).mono ?_
      rintro e w3 ⟨vI', vD', rfl, hi3, hd3, hb3⟩
      obtain ⟨pI2, mI2, cI2, hvI2⟩ : ∃ p m c, vI' = .slice p m c := by
        obtain ⟨l', k1, k2, -⟩ := hi3
        obtain ⟨p, c, hv, -⟩ := (OwnS.ofRow k2).form
        exact ⟨p, _, c, hv⟩
      obtain ⟨pD2, cD2, hvD2⟩ : ∃ p c, vD' = .slice p 0 c := by
        obtain ⟨p, c, h⟩ := hd3.form
        exact ⟨p, c, h⟩
      subst hvI2 hvD2
      have HB3 := Lib.hid ((HBX.out (.cells #[.string ypath, .string yitem, .int .i64 yst, .int .i64 ybf, .slice ypl (icells yls).length ycp, .int .i64 ydue] 30)).trans (hb3.mono (by simp)))
      have HI3 := Lib.hid hi3
      have HD3 := Lib.hid hd3
      have HQ3 := Lib.hid ((HB3.out.block w1.heap.size hltB).trans HQ.out)
      clear d0 d1 d2 d3 d4 dz c0 c1 c2 c3 c4 c5 hi3 hd3 hb3
      obtain ⟨d0, d1, d2, d3, d4, dz⟩ := cells5 HQ3.out
      go_wp2_with fail
      go_roundw
      case rel =>
        refine ⟨k + 1, (wr.alloc (.cells #[.string ypath, .string yitem, .int .i64 yst, .int .i64 ybf, .slice ypl (icells yls).length ycp, .int .i64 ydue] 30)).heap.size, _, _, by omega, by go_num, putC_at HQ3.out _ _ _ _ _, ?_, ?_, by simp; omega, ?_⟩
        · rw [HNX.out]
          exact HI3.out.kept fun b hb _ => putC_far w3 w1.heap.size b (by simp at hb; omega) _ _ _ _ _
        · exact HD3.out.kept fun b hb _ => putC_far w3 w1.heap.size b (by simp at hb; omega) _ _ _ _ _
        · exact putC_below (HBR.out.trans (HB3.out.mono HBR.out.size)) HG1.out.size _ _ _ _ _
      case measure => simp [intOf]; omega
    · have HM := Lib.hid (show foldP (is.take k) = foldP is from by rw [List.take_of_length_le (by omega)])
      have HI9 := Lib.hid (show InstsOwn wr base (.slice pI mI cI) (foldP is) from by have := HIO.out; rwa [HM.out] at this)
      have HL9 := Lib.hid (show (foldP is).length ≤ 40 from by have h1 := HLEN.out; rwa [HM.out] at h1)
      have HPT := Lib.hid (fun (W : World) (hb : Below wr.heap.size wr W) => put2 w W (foldP is) base (.slice pI mI cI) (.slice pD 0 cD) ⟨path, item, st, bf, .slice pl (icells ls).length cp, ls, due⟩ (fun z hz => HI.out.2 z (foldP_mem is z hz)) (fun z hz => HS.out z (foldP_mem is z hz)) (fun z hz => HPS.out z (foldP_mem is z hz)) (HI9.out.below hb) (HDO.out.below hb) HL9.out (HXO.out.below (HBRW.out.trans (hb.mono HBRW.out.size))) HX4.out HXL.out)
      unfold IV.cells at HPT
      dsimp only at HPT
      obtain ⟨f0, f1, f2, f3, f4, f5, fz⟩ := HDD.out wr HBR.out
      go_wp2_with fail
      refine (HPT.out _ (Below.refl _ _)).mono ?_
      rintro e w3 ⟨vI', vD', rfl, hi3, hd3, hb3⟩
      obtain ⟨pI2, mI2, cI2, hvI2⟩ : ∃ p m c, vI' = .slice p m c := by
        obtain ⟨l', k1, k2, -⟩ := hi3
        obtain ⟨p, c, hv, -⟩ := (OwnS.ofRow k2).form
        exact ⟨p, _, c, hv⟩
      obtain ⟨pD2, cD2, hvD2⟩ : ∃ p c, vD' = .slice p 0 c := by
        obtain ⟨p, c, h⟩ := hd3.form
        exact ⟨p, c, h⟩
      subst hvI2 hvD2
      have HB3 := Lib.hid hb3
      have HQ3 := Lib.hid ((hb3.block w1.heap.size hltB).trans HQ.out)
      obtain ⟨w4, hw4⟩ : ∃ z, z = putC w3 w1.heap.size (.int .i64 0) (.string ⟨#[]⟩) (.slice pI2 mI2 cI2) (.slice pD2 0 cD2) (.int .i64 0) := ⟨_, rfl⟩
      have HQ4 := Lib.hid (show w4.heap[w1.heap.size]? = some (.cells #[.int .i64 0, .string ⟨#[]⟩, .slice pI2 mI2 cI2, .slice pD2 0 cD2, .int .i64 0] 25 (0, 0)) from by rw [hw4]; exact putC_at HQ3.out _ _ _ _ _)
      have HI4 := Lib.hid (show InstsOwn w4 wr.heap.size (.slice pI2 mI2 cI2) (putF (foldP is) ⟨path, item, st, bf, .slice pl (icells ls).length cp, ls, due⟩) from by rw [hw4]; exact hi3.kept fun b hb _ => putC_far w3 w1.heap.size b (by omega) _ _ _ _ _)
      have HD4 := Lib.hid (show DocsOwn w4 wr.heap.size (.slice pD2 0 cD2) [] from by rw [hw4]; exact hd3.kept fun b hb _ => putC_far w3 w1.heap.size b (by omega) _ _ _ _ _)
      have HG4 := Lib.hid (show Below w0.heap.size w0 w4 from by rw [hw4]; exact putC_below (HBR.out.trans (hb3.mono HBR.out.size)) HG1.out.size _ _ _ _ _)
      have HX4B := Lib.hid (show w1.heap.size < w4.heap.size from (Array.getElem?_eq_some_iff.1 HQ4.out).1)
      have hw4u := hw4
      unfold putC at hw4u
      have HW4 := Lib.hid hw4u
      clear d0 d1 d2 d3 d4 dz f0 f1 f2 f3 f4 f5 fz hi3 hd3 hb3 hw4 hw4u
      obtain ⟨d0, d1, d2, d3, d4, dz⟩ := cells5 HQ3.out
      obtain ⟨f0, f1, f2, f3, f4, f5, fz⟩ := HDD.out w3 (HBR.out.trans (HB3.out.mono HBR.out.size))
      have hneA : w.heap.size + 1 ≠ w1.heap.size := by have := HG1.out.size; rw [HSW.out] at this; omega
      have HMEM := Lib.hid (show ∀ z ∈ (putF (foldP is) ⟨path, item, st, bf, .slice pl (icells ls).length cp, ls, due⟩), z ∈ is ∨ z = ⟨path, item, st, bf, .slice pl (icells ls).length cp, ls, due⟩ from fun z hz => by
        rcases putF_mem hz with h | h
        · exact .inl (foldP_mem is z h)
        · exact .inr h)
      have HELM := Lib.hid (show ∀ z ∈ (putF (foldP is) ⟨path, item, st, bf, .slice pl (icells ls).length cp, ls, due⟩), IVok w z from fun z hz => by rcases HMEM.out z hz with h | rfl; exact HI.out.2 z h; exact HXO.out)
      have HSLM := Lib.hid (show ∀ z ∈ (putF (foldP is) ⟨path, item, st, bf, .slice pl (icells ls).length cp, ls, due⟩), z.ls.length ≤ 17592186044416 from fun z hz => by
        rcases HMEM.out z hz with h | rfl
        · have := HS.out z h; omega
        · exact HXL.out)
      have HPLM := Lib.hid (show ∀ z ∈ (putF (foldP is) ⟨path, item, st, bf, .slice pl (icells ls).length cp, ls, due⟩), z.path.size ≤ 400 from fun z hz => by rcases HMEM.out z hz with h | rfl; exact HPS.out z h; exact HX4.out)
      have HORD := Lib.hid (putF_ord (foldP is) ⟨path, item, st, bf, .slice pl (icells ls).length cp, ls, due⟩ (foldP_ord is))
      have HLM := Lib.hid (show ((putF (foldP is) ⟨path, item, st, bf, .slice pl (icells ls).length cp, ls, due⟩)).length ≤ 41 from by have h1 := putF_len (foldP is) ⟨path, item, st, bf, .slice pl (icells ls).length cp, ls, due⟩; have h2 := HL9.out; omega)
      have HFD := Lib.hid (fun (W : World) (hb : Below w4.heap.size w4 W) (p : ByteArray) (hf : ∃ z ∈ (putF (foldP is) ⟨path, item, st, bf, .slice pl (icells ls).length cp, ls, due⟩), z.path = p) => find2 w W (putF (foldP is) ⟨path, item, st, bf, .slice pl (icells ls).length cp, ls, due⟩) wr.heap.size (.slice pI2 mI2 cI2) (.slice pD2 0 cD2) p HELM.out HSLM.out (HI4.out.below hb) (HD4.out.below hb) hf)
      have HSO := Lib.hid (fun (W : World) (hb : Below w4.heap.size w4 W) => sorted2 w W (putF (foldP is) ⟨path, item, st, bf, .slice pl (icells ls).length cp, ls, due⟩) wr.heap.size (.slice pI2 mI2 cI2) (.slice pD2 0 cD2) HELM.out HPLM.out (HI4.out.below hb) (HD4.out.below hb) HLM.out HORD.out)
      have HFX := Lib.hid (show foundX (((putF (foldP is) ⟨path, item, st, bf, .slice pl (icells ls).length cp, ls, due⟩)).find? (hasP path)) = (⟨path, item, st, bf, .slice pl (icells ls).length cp, ls, due⟩ : IV).bare from by
        have := find_put (foldP is) ⟨path, item, st, bf, .slice pl (icells ls).length cp, ls, due⟩
        dsimp only at this
        rw [this]
        rfl)
      have HCM := Lib.hid (fun (W : World) (hb : Below w4.heap.size w4 W) => cells5 ((hb.block w1.heap.size HX4B.out).trans HQ4.out))
      have HGW := Lib.hid (fun (W : World) (hb : Below w4.heap.size w4 W) => HG4.out.trans (hb.mono HG4.out.size))
      go_wp2_with fail
      rw [← HW4.out]
      clear HW4 d0 d1 d2 d3 d4 dz f0 f1 f2 f3 f4 f5 fz
      refine (HFD.out w4 (Below.refl _ _) path (putF_path _ ⟨path, item, st, bf, .slice pl (icells ls).length cp, ls, due⟩ ⟨path, item, st, bf, .slice pl (icells ls).length cp, ls, due⟩ (.inr rfl))).mono ?_
      rintro e w6 ⟨z, rfl, hz, hzb, hb6⟩
      have hzb2 := HFX.out.symm.trans hzb.symm
      obtain ⟨zpl, zcp, hlv⟩ := hz.rl.form
      obtain ⟨zpath, zitem, zst, zbf, zlv, zls, zdue⟩ := z
      dsimp only at hlv
      subst hlv
      unfold IV.cells
      dsimp only
      have HB6 := Lib.hid hb6
      obtain ⟨w7, hw7⟩ : ∃ u, u = w6.alloc (.cells #[.string zpath, .string zitem, .int .i64 zst, .int .i64 zbf, .slice zpl (icells zls).length zcp, .int .i64 zdue] 30) := ⟨_, rfl⟩
      have HB67 := Lib.hid (show Below w6.heap.size w6 w7 from by rw [hw7]; exact box_bel' w6 _)
      have HB7 := Lib.hid (show Below w4.heap.size w4 w7 from hb6.trans (HB67.out.mono hb6.size))
      have HW7 := Lib.hid hw7
      have HSI := Lib.hid (sameI2 w7 ⟨path, item, st, bf, .slice pl (icells ls).length cp, ls, due⟩ ⟨zpath, zitem, zst, zbf, .slice zpl (icells zls).length zcp, zls, zdue⟩ (HXO.out.below (HWW.out _ (HGW.out _ HB7.out))) (hz.below HB67.out) hzb2)
      unfold IV.cells at HSI
      dsimp only at HSI
      obtain ⟨f0, f1, f2, f3, f4, f5, fz⟩ := HDD.out w6 (HGW.out _ hb6)
      have hltX : w.heap.size + 1 < w6.heap.size := by have h1 := HG1.out.size; have h2 := hb6.size; have h3 := HX4B.out; rw [HSW.out] at h1; omega
      clear hw7 hb6 hz hzb hzb2
      go_wp2_with fail
      rw [← HW7.out]
      refine (HSI.out).mono ?_
      rintro e w8 ⟨rfl, hb8⟩
      have HB8 := Lib.hid (HB7.out.trans (hb8.mono HB7.out.size))
      clear hb8 f0 f1 f2 f3 f4 f5 fz HW7
      obtain ⟨d0, d1, d2, d3, d4, dz⟩ := HCM.out w8 HB8.out
      go_wp2_with fail
      refine (HSO.out w8 HB8.out).mono ?_
      rintro e w9 ⟨rfl, hb9⟩
      have HB9 := Lib.hid (HB8.out.trans (hb9.mono HB8.out.size))
      clear hb9 d0 d1 d2 d3 d4 dz
      obtain ⟨d0, d1, d2, d3, d4, dz⟩ := HCC.out w9 (HGW.out _ HB9.out)
      go_wp2_with fail
      clear d0 d1 d2 d3 d4 dz
      go_loopw [61] (fun i wr => ∃ k : Nat, k ≤ is.length ∧ i = .int .i64 k ∧ Below w4.heap.size w4 wr) (fun i _ => is.length - (intOf i).toNat)
      case atStart => exact ⟨0, by omega, rfl, HB9.out⟩
      case round =>
        clear hlt hk hltB hneA hltX
        obtain ⟨k, hk, rfl, hbr⟩ := hrel
        have HBR := Lib.hid hbr
        have HBRW := Lib.hid (HWW.out _ (HGW.out _ hbr))
        clear hbr
        by_cases hlt : k < is.length
        · obtain ⟨y, hy⟩ : ∃ y, y = is[k] := ⟨_, rfl⟩
          have hrow : rowI is k = y.cells := by unfold rowI; rw [List.getElem?_eq_getElem hlt, ← hy]; rfl
          have hym : y ∈ is := by rw [hy]; exact List.getElem_mem hlt
          have hyo := (HI.out.2 y hym).below HBRW.out
          have hpy : ∃ z ∈ (putF (foldP is) ⟨path, item, st, bf, .slice pl (icells ls).length cp, ls, due⟩), z.path = y.path := by
            obtain ⟨z, hz, he⟩ := foldP_path is y hym
            obtain ⟨z2, hz2, he2⟩ := putF_path (foldP is) ⟨path, item, st, bf, .slice pl (icells ls).length cp, ls, due⟩ z (.inl hz)
            exact ⟨z2, hz2, he2.trans he⟩
          have HPY := Lib.hid hpy
          obtain ⟨ypl, ycp, hlv⟩ := hyo.rl.form
          obtain ⟨g, o, ha, hgl, c0, c1, c2, c3, c4, c5⟩ := (HI.out.1.below HBRW.out).row hlt hrow
          subst ha
          obtain ⟨ypath, yitem, yst, ybf, ylv, yls, ydue⟩ := y
          dsimp only at hlv c0 c1 c2 c3 c4 c5 HPY
          subst hlv
          have HBX := Lib.hid (HBR.out.alloc HBR.out.size (.cells #[.string ypath, .string yitem, .int .i64 yst, .int .i64 ybf, .slice ypl (icells yls).length ycp, .int .i64 ydue] 30))
          obtain ⟨d0, d1, d2, d3, d4, dz⟩ := HCM.out wr HBR.out
          have hltB : w1.heap.size < wr.heap.size := by have h1 := HX4B.out; have h2 := HBR.out.size; omega
          clear hrow hy hym hyo hpy
          go_wp2_with fail
          refine (HFD.out _ HBX.out ypath HPY.out).mono ?_
          rintro e w10 ⟨z, rfl, hz, -, hb10⟩
          obtain ⟨vpl, vcp, hlv⟩ := hz.rl.form
          obtain ⟨vpath, vitem, vst, vbf, vlv, vls, vdue⟩ := z
          dsimp only at hlv
          subst hlv
          unfold IV.cells
          dsimp only
          have HB10 := Lib.hid (HBX.out.trans (hb10.mono HBX.out.size))
          clear hz hb10 d0 d1 d2 d3 d4 dz c0 c1 c2 c3 c4 c5
          go_wp2_with fail
          go_roundw
          case rel => exact ⟨k + 1, by omega, by go_num, HB10.out.alloc HB10.out.size _⟩
          case measure => simp [intOf]; omega
        · go_wp2_with fail
          refine (HA.out _).mono ?_
          rintro e u2 ⟨rfl, hb2⟩
          have HU2 := Lib.hid (HBR.out.trans (hb2.mono HBR.out.size))
          clear hb2
          go_wp2_with fail
          go_ret
          exact ⟨rfl, HWW.out _ (HGW.out _ HU2.out)⟩

theorem walk (c : CV) (x : IV) (w : World) (hc : CVok w c) (hx : IVok w x ∧ x.ls.length ≤ 17592186044416) : Calls Try.prog 5 #[c.val, .agg x.cells.toArray] w fun e w' => e = .returned (.bool true) ∧ Below w.heap.size w w' := by
  cases h : okC c with
  | false => exact no1 c x w hc hx.1 h
  | true =>
    by_cases h4 : x.path.size ≤ 400
    · exact yes c x w hc hx.1 hx.2 h h4
    · exact no2 c x w hc hx.1 h h4

-- FRAME
theorem own : ownKnob Try.prog.godebug = none := by kernel_rfl
theorem laidOut : laidOutB Try.prog = true := by kernel_rfl

set_option maxRecDepth 100000 in
theorem lifted (os : Os) (started : os.Started) (H : Type) (enc : TypeId × Value → H) :
    ReturnsInHanded {} Try.checked os 5 .any (Rows.treeOrderedSpec.pre6 enc Try.prog Try.f5 Rows.treeOrderedRow.domain false) (Rows.treeOrderedSpec.post enc Try.prog Try.f5 false true false false) := by
  refine returnsInHanded_of_change_sized (C := Try.checked) own started (by kernel_rfl) Try.func5
    (ChangeSpec.witness6 (enc := enc) (C := Try.checked) false ⟨#[], #[.agg #[.int .i64 0, .string ByteArray.empty, .slice none 0 0, .slice none 0 0, .int .i64 0], .agg #[.string ByteArray.empty, .string ByteArray.empty, .int .i64 0, .int .i64 0, .slice none 0 0, .int .i64 0]], []⟩ 8 (by kernel_rfl) (by kernel_rfl) (by kernel_rfl) (by kernel_rfl)) ?_
  intro W base args ds gs before hval0 hW hcnd hsz0 _
  have hsz : (DataW.weightsEach Try.prog (Try.f5.params.toList ++ Rows.treeOrderedSpec.plain.varTypes Try.prog) (ds ++ gs)).all (· ≤ reachBytes) = true := hsz0
  have hval : ∀ (j : Nat) t v, Try.f5.params[j]? = some t → args[j]? = some v → Value.okWide Try.prog W .any base t v := hval0
  have hW' := hW
  obtain ⟨p, q, hA0, hV, rfl, hfz, hnd⟩ := hW
  have hA : DataW.TrodAll enc Try.prog W 0 (fun _ => true) true Try.f5.params.toList args.toList ds p := hA0
  rw [Try.params5] at hA hval hsz
  obtain ⟨v0, vs0, d0, ds0, p0, q0, hargs, rfl, rfl, h0, r0⟩ := trodAll_cons hA
  obtain ⟨v1, vs1, d1, ds1, p1, q1, rfl, rfl, rfl, h1, r1⟩ := trodAll_cons r0
  obtain ⟨rfl, rfl, rfl⟩ := trodAll_nil r1
  obtain rfl : args = #[v0, v1] := by cases args; simp_all
  obtain ⟨rfl, rfl⟩ := trodVars_none hV
  have k0 := h0
  have lt0 : ∀ x ∈ p0, x.block < W.heap.size := by obtain ⟨m, hm⟩ := k0; exact DataW.trod_lt m _ _ _ hm
  obtain ⟨x0, rfl, o0⟩ := case_open (hval 0 25 v0 rfl rfl) h0 (fun n hn => of_decide_eq_true (List.all_eq_true.1 hsz _ (DataW.weights_mem_each (j := 0) rfl rfl n hn)))
  have k1 := h1
  have lt1 : ∀ x ∈ p1, x.block < W.heap.size := by obtain ⟨m, hm⟩ := k1; exact DataW.trod_lt m _ _ _ hm
  obtain ⟨x1, rfl, o1⟩ := inst_open (hval 1 30 v1 rfl rfl) h1 (fun n hn => of_decide_eq_true (List.all_eq_true.1 hsz _ (DataW.weights_mem_each (j := 1) rfl rfl n hn)))
  clear hA0 hval0
  refine (walk x0 x1 W o0 o1).mono fun e W' ⟨he, bel⟩ => ?_
  subst he
  exact ⟨_, rfl, _, _, _, [], _, [], hW', trodAll_mk1 (shut_bool Try.underlying4 _), (trodAll_cons_mk (Below.trod laidOut (by kernel_rfl) (of_decide_eq_true (by kernel_rfl)) k0 bel lt0) (trodAll_cons_mk (Below.trod laidOut (by kernel_rfl) (of_decide_eq_true (by kernel_rfl)) k1 bel lt1) trodAll_mk0)), rfl, bel.frame _, fun h => by cases h⟩

/-- The statement. -/
theorem proved : Rows.TreeOrderedSaid :=
  OpenClaim.holds_of_wide 5 Try.f5 rfl rfl rfl rfl rfl rfl rfl ⟨rfl, rfl, rfl, rfl, rfl⟩ rfl rfl rfl rfl rfl (by kernel_rfl) Try.func5 (by kernel_rfl)
    (of_decide_eq_true (by kernel_rfl)) (by unfold Func.isWrapper; first | (rw [if_pos (by decide +kernel)]; kernel_rfl) | (rw [if_neg (by decide +kernel)]; exact ⟨rfl, rfl⟩))
    (fun os started H enc _ => lifted os started H enc)
end Go.Proofs.Ytncloiimbclklaa.treeOrdered
