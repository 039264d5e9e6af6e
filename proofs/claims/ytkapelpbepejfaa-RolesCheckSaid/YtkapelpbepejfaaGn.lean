/- A model given as an argument; whether it has not many in it (dossierplain.Model). Written by tools/gengn.py. -/
import Derived.Test.YtkapelpbepejfaaGm
namespace Go.Proofs.Ytkapelpbepejfaa
open Go Go.RowKit Go.Deep Go.Shelf Go.ChangeShapes Go.WideShapes
set_option linter.unusedVariables false
set_option linter.unusedSimpArgs false

/-- A model that came in, its case file's definitions among it. -/
def ModelF (w : World) (d : Nat) (cs : List Value) (m : MT) : Prop :=
  ∃ ra rc fa fn fc pc, cs = [.string m.mi, .string m.mn, .slice ra m.roles.length rc, .slice fa fn fc] ++ pc ∧ TextsD AnyG w (.slice ra m.roles.length rc) m.roles ∧ ItemV AnyG w d pc m.plan ∧ ∃ df fl, FilesD w df (.slice fa fn fc) fl
theorem ModelF.v {w : World} {d : Nat} {cs : List Value} {m : MT} (h : ModelF w d cs m) : ModelV AnyG w d cs m := by
  obtain ⟨ra, rc, fa, fn, fc, pc, e, h1, h2, _⟩ := h
  exact ⟨ra, rc, fa, fn, fc, pc, e, h1, h2⟩
theorem ModelF.below {w w' : World} {d : Nat} {cs : List Value} {m : MT} (h : ModelF w d cs m) (hb : Below w.heap.size w w') : ModelF w' d cs m := by
  obtain ⟨ra, rc, fa, fn, fc, pc, e, h1, h2, df, fl, h3⟩ := h
  exact ⟨ra, rc, fa, fn, fc, pc, e, h1.keep hb.size (fun k _ hl => hb.block k hl), h2.below hb, df, fl, h3.below hb⟩

section
variable {H : Type} {enc : TypeId × Value → H} {w : World} {base : Nat} {held : Bool}
theorem aggM_open {P : Program} {spare : Nat → Bool} {r : Reach} {b0 : Nat} {t : TypeId} {f0 f1 f2 f3 f4 : Field} {v : Value} {d : DataW H} {p : List MemPlace} (hs : P.underlying t = some (.struct #[f0, f1, f2, f3, f4]))
    (o0 : f0.offset = 0) (o1 : f1.offset = 1) (o2 : f2.offset = 2) (o3 : f3.offset = 3) (o4 : f4.offset = 4) (k0 : P.cellsOf f0.type = 1) (k1 : P.cellsOf f1.type = 1) (k2 : P.cellsOf f2.type = 1) (k3 : P.cellsOf f3.type = 1) (k4 : P.cellsOf f4.type = 14) (hC : P.cellsOf t = 18)
    (hv : Value.okWide P w r b0 t v) (h : DataW.Trod enc P w base spare held t v d p) :
    ∃ (c0 c1 c2 c3 : Value) (pc : List Value) (y0 y1 y2 y3 y4 : DataW H × List MemPlace) (n : Nat), v = .agg ([c0, c1, c2, c3] ++ pc).toArray ∧ pc.length = 14 ∧ d = .agg [y0.1, y1.1, y2.1, y3.1, y4.1] ∧
      DataW.trod enc P w base spare held n f0.type [c0] = some y0 ∧ DataW.trod enc P w base spare held n f1.type [c1] = some y1 ∧ DataW.trod enc P w base spare held n f2.type [c2] = some y2 ∧ DataW.trod enc P w base spare held n f3.type [c3] = some y3 ∧ DataW.trod enc P w base spare held n f4.type pc = some y4 := by
  obtain ⟨cs, rfl, hsz⟩ := okWide_struct hs hv
  obtain ⟨l⟩ := cs
  match l, hsz.trans hC with
  | [c0, c1, c2, c3, c4, c5, c6, c7, c8, c9, c10, c11, c12, c13, c14, c15, c16, c17], _ =>
    obtain ⟨fuel, hf⟩ := h
    obtain ⟨xs, n, _, hx, _, hlen, hg⟩ := DataW.trod_struct hs hf
    match xs, hlen with
    | [y0, y1, y2, y3, y4], _ =>
      exact ⟨c0, c1, c2, c3, [c4, c5, c6, c7, c8, c9, c10, c11, c12, c13, c14, c15, c16, c17], y0, y1, y2, y3, y4, n, rfl, rfl, by simpa using congrArg Prod.fst hx, by simpa [o0, k0, Value.cells] using hg 0 f0 rfl, by simpa [o1, k1, Value.cells] using hg 1 f1 rfl, by simpa [o2, k2, Value.cells] using hg 2 f2 rfl, by simpa [o3, k3, Value.cells] using hg 3 f3 rfl, by simpa [o4, k4, Value.cells] using hg 4 f4 rfl⟩
theorem model_open {r : Reach} {b0 : Nat} {v : Value} {d : DataW H} {p : List MemPlace} (hv : Value.okWide Try.prog w r b0 29 v) (h : DataW.Trod enc Try.prog w base (fun _ => true) held 29 v d p) (hz : ∀ n ∈ d.weights Try.prog 29, n ≤ reachBytes) :
    ∃ cs m dd, v = .agg cs.toArray ∧ ModelF w dd cs m := by
  obtain ⟨c0, c1, c2, c3, pc, y0, y1, y2, y3, y4, n, rfl, hl, hd, t0, t1, t2, t3, t4⟩ := aggM_open Try.underlying29 rfl rfl rfl rfl rfl (by kernel_rfl) (by kernel_rfl) (by kernel_rfl) (by kernel_rfl) (by kernel_rfl) (by kernel_rfl) hv h
  rw [hd] at hz
  have hw : ∀ n, n ∈ DataW.weightsEach Try.prog [9, 9, 22, 23, 27] [y0.1, y1.1, y2.1, y3.1, y4.1] → n ≤ reachBytes := fun n hn => hz n (by
    simp only [DataW.weights, Try.underlying29]
    exact hn)
  obtain ⟨mi, e0, _, _⟩ := DataW.trod_string Try.underlying9 t0
  obtain ⟨mn, e1, _, _⟩ := DataW.trod_string Try.underlying9 t1
  simp only [List.cons.injEq, and_true] at e0 e1
  subst e0 e1
  obtain ⟨ro, h2⟩ := textsG_read t2 (fun n hn => hw n (DataW.weights_mem_each (j := 2) rfl rfl n hn))
  obtain ⟨fl, h3⟩ := files_open _ t3
  obtain ⟨x, h4⟩ := item_open hl t4 (fun n hn => hw n (DataW.weights_mem_each (j := 4) rfl rfl n hn))
  obtain ⟨ra, rc, rfl, _⟩ := h2.form
  obtain ⟨fa, fc, rfl, _⟩ := h3.form
  exact ⟨_, ⟨mi, mn, ro, x⟩, _, rfl, ra, rc, fa, _, fc, pc, rfl, h2, h4, _, _, h3⟩
end

set_option maxRecDepth 100000 in
set_option maxHeartbeats 1000000 in
theorem Item_c {d : Nat} (w : World) (cs : List Value) (x : IT) (hx : ItemV AnyG w d cs x) : Calls Try.prog 17 #[.agg cs.toArray] w fun e w' => ∃ q : Bool, e = .returned (.bool q) ∧ Below w.heap.size w w' ∧ (q = true → okI d 0 x ∧ cntI d x ≤ 260) := by
  have HC := Lib.hid (fun (W : World) (b : Nat) (hW : Below w.heap.size w W) (hb : w.heap.size ≤ b) (hbx : W.heap[b]? = some (.cells #[.int .i64 260] 3 (0, 0))) => item_c w d W cs x 0 b 260 hx hW hb hbx (by omega) (by omega) (by omega))
  obtain ⟨i0, i1, i2, a3, n3, q3, a4, n4, q4, i5, i6, i7, i8, i9, i10, a11, n11, q11, a12, n12, q12, a13, n13, q13, rfl⟩ := hx.shape
  clear hx
  obtain ⟨w0, hw0⟩ : ∃ y, y = (w.alloc (.cells #[.string i0, .string i1, .int .i64 i2, .slice a3 n3 q3, .slice a4 n4 q4, .string i5, .string i6, .string i7, .bool i8, .bool i9, .int .i64 i10, .slice a11 n11 q11, .slice a12 n12 q12, .slice a13 n13 q13] 27)).alloc (.cells #[.int .i64 260] 3) := ⟨_, rfl⟩
  have HW0 := Lib.hid hw0
  have HB0 := Lib.hid (show Below w.heap.size w w0 from by rw [hw0]; exact ((Below.refl _ _).alloc (Nat.le_refl _) _).alloc (by simp) _)
  have HX0 := Lib.hid (show w0.heap[w.heap.size + 1]? = some (.cells #[.int .i64 260] 3 (0, 0)) from by rw [hw0]; simpa using heap_alloc_new (w.alloc (.cells #[.string i0, .string i1, .int .i64 i2, .slice a3 n3 q3, .slice a4 n4 q4, .string i5, .string i6, .string i7, .bool i8, .bool i9, .int .i64 i10, .slice a11 n11 q11, .slice a12 n12 q12, .slice a13 n13 q13] 27)) (.cells #[.int .i64 260] 3))
  clear hw0
  go_enter Try.func17, Try.ntmps17
  go_wp2_with fail
  rw [← HW0.out]
  refine (HC.out w0 _ HB0.out (by omega) HX0.out).mono ?_
  rintro e w1 ⟨q, u', rfl, _, hb1, _, hq1⟩
  have HB1 := Lib.hid hb1
  have HQ1 := Lib.hid hq1
  clear hb1 hq1
  go_wp2_with fail
  go_ret
  exact ⟨q, by rfl, HB1.out, fun h => by
    obtain ⟨p1, p2, p3⟩ := HQ1.out h
    exact ⟨p1, by omega⟩⟩

set_option maxRecDepth 100000 in
set_option maxHeartbeats 2000000 in
theorem Model_c {d : Nat} (w : World) (cs : List Value) (m : MT) (hm : ModelF w d cs m) : Calls Try.prog 6 #[.agg cs.toArray] w fun e w' => ∃ q : Bool, e = .returned (.bool q) ∧ Below w.heap.size w w' ∧ (q = true → okI d 0 m.plan ∧ cntI d m.plan ≤ 260) := by
  obtain ⟨mi, mn, mroles, plan⟩ := m
  obtain ⟨ra, rc, fa, fn, fc, pc, rfl, h1, h2, df, fl, h3⟩ := hm
  simp only at h1 h2 ⊢
  have HI := Lib.hid (fun (W : World) (hW : Below w.heap.size w W) => Item_c W pc plan (h2.below hW))
  have HF := Lib.hid (fun (W : World) (hW : Below w.heap.size w W) => filesF_c W df _ fl (h3.below hW))
  obtain ⟨i0, i1, i2, a3, n3, q3, a4, n4, q4, i5, i6, i7, i8, i9, i10, a11, n11, q11, a12, n12, q12, a13, n13, q13, rfl⟩ := h2.shape
  have hrn : mroles.length ≤ 9223372036854775807 := by have := h1.2; omega
  generalize mroles.length = rn at *
  clear h1 h2 h3
  simp only [List.cons_append, List.nil_append] at *
  obtain ⟨w0, hw0⟩ : ∃ y, y = w.alloc (.cells #[.string mi, .string mn, .slice ra rn rc, .slice fa fn fc, .string i0, .string i1, .int .i64 i2, .slice a3 n3 q3, .slice a4 n4 q4, .string i5, .string i6, .string i7, .bool i8, .bool i9, .int .i64 i10, .slice a11 n11 q11, .slice a12 n12 q12, .slice a13 n13 q13] 29) := ⟨_, rfl⟩
  have HW0 := Lib.hid hw0
  have HB0 := Lib.hid (show Below w.heap.size w w0 from by rw [hw0]; exact (Below.refl _ _).alloc (Nat.le_refl _) _)
  have h0 : w0.heap[w.heap.size]? = some (.cells #[.string mi, .string mn, .slice ra rn rc, .slice fa fn fc, .string i0, .string i1, .int .i64 i2, .slice a3 n3 q3, .slice a4 n4 q4, .string i5, .string i6, .string i7, .bool i8, .bool i9, .int .i64 i10, .slice a11 n11 q11, .slice a12 n12 q12, .slice a13 n13 q13] 29 (0, 0)) := by rw [hw0]; exact heap_alloc_new w _
  have HQ0 := Lib.hid h0
  obtain ⟨e0, e1, e2, e3, e4, e5, e6, e7, e8, e9, e10, e11, e12, e13, e14, e15, e16, e17⟩ := cellsG18 h0
  clear hw0 h0
  go_enter Try.func6, Try.ntmps6
  go_upto_region 1 with (fail)
  rw [← HW0.out]
  go_wp2_with fail
  refine (HI.out w0 HB0.out).mono ?_
  rintro e w1 ⟨q, rfl, hb1, hq1⟩
  have HB1 := Lib.hid (HB0.out.trans (hb1.mono HB0.out.size))
  have HQ1 := Lib.hid hq1
  have h1 := (hb1.block _ (Array.getElem?_eq_some_iff.1 HQ0.out).1).trans HQ0.out
  have HQ2 := Lib.hid h1
  clear e0 e1 e2 e3 e4 e5 e6 e7 e8 e9 e10 e11 e12 e13 e14 e15 e16 e17
  obtain ⟨e0, e1, e2, e3, e4, e5, e6, e7, e8, e9, e10, e11, e12, e13, e14, e15, e16, e17⟩ := cellsG18 h1
  clear hb1 hq1 h1
  cases q
  · go_wp2_with fail
    go_ret
    exact ⟨false, by rfl, HB1.out, by simp⟩
  · go_wp2_with fail
    refine (HF.out w1 HB1.out).mono ?_
    rintro e w2 ⟨⟨q2, rfl⟩, hb2⟩
    have HB2 := Lib.hid (HB1.out.trans (hb2.mono HB1.out.size))
    have h2 := (hb2.block _ (Array.getElem?_eq_some_iff.1 HQ2.out).1).trans HQ2.out
    clear e0 e1 e2 e3 e4 e5 e6 e7 e8 e9 e10 e11 e12 e13 e14 e15 e16 e17
    obtain ⟨e0, e1, e2, e3, e4, e5, e6, e7, e8, e9, e10, e11, e12, e13, e14, e15, e16, e17⟩ := cellsG18 h2
    clear hb2 h2
    cases q2
    · go_wp2_with fail
      go_ret
      exact ⟨false, by rfl, HB2.out, by simp⟩
    · obtain ⟨t, ht⟩ : ∃ t, decide ((rn : Int) ≤ 40) = t := ⟨_, rfl⟩
      cases t
      · go_wp2_with fail
        go_ret
        exact ⟨false, by rfl, HB2.out, by simp⟩
      · go_wp2_with fail
        go_ret
        exact ⟨true, by rfl, HB2.out, fun _ => HQ1.out (by trivial)⟩
end Go.Proofs.Ytkapelpbepejfaa
