/- Reading a law's arguments: documents of a case, the case. -/
import Derived.Test.YtllhlmdhnmdihaaDoorYa
namespace Go.Proofs.YtllhlmdhnmdihaaDoor
open Go.RowKit Go.ChangeShapes Go.WideShapes Go.Deep
set_option linter.unusedVariables false

/-- A document: its fields, and its references with what they read as. -/
structure DV where
  path : ByteArray
  vk : Int
  vi : Int
  vb : Bool
  vt : ByteArray
  rv : Value
  rs : List ByteArray
def DV.cells (x : DV) : List Value := [.string x.path, .int .i64 x.vk, .int .i64 x.vi, .bool x.vb, .string x.vt, x.rv]
structure DVok (w : World) (x : DV) : Prop where
  path : x.path.size ≤ 9223372036854775807
  vt : x.vt.size ≤ 9223372036854775807
  vk : -9223372036854775808 ≤ x.vk ∧ x.vk ≤ 9223372036854775807
  vi : -9223372036854775808 ≤ x.vi ∧ x.vi ≤ 9223372036854775807
  rr : RdV w x.rv (tcells x.rs)
theorem DVok.below {w w' : World} {x : DV} (h : DVok w x) (hb : Below w.heap.size w w') : DVok w' x := ⟨h.path, h.vt, h.vk, h.vi, h.rr.below hb⟩
def rowD (l : List DV) (k : Nat) : List Value := (l[k]?.map DV.cells).getD []
/-- A slice of documents. -/
def DocsIs (w : World) (v : Value) (l : List DV) : Prop := Rows6 w v l.length (rowD l) ∧ ∀ x ∈ l, DVok w x
theorem DocsIs.below {w w' : World} {v : Value} {l : List DV} (h : DocsIs w v l) (hb : Below w.heap.size w w') : DocsIs w' v l := ⟨h.1.below hb, fun x hx => (h.2 x hx).below hb⟩

section
variable {H : Type} {enc : TypeId × Value → H} {w : World} {base : Nat} {held : Bool} {fuel : Nat}

theorem cells3_open {P : Program} {t : TypeId} {spare : Nat → Bool} {f0 f1 f2 : Field} {c0 c1 c2 c3 c4 c5 : Value} {x : DataW H × List MemPlace} (hs : P.underlying t = some (.struct #[f0, f1, f2]))
    (o0 : f0.offset = 0) (o1 : f1.offset = 1) (o2 : f2.offset = 5) (k0 : P.cellsOf f0.type = 1) (k1 : P.cellsOf f1.type = 4) (k2 : P.cellsOf f2.type = 1)
    (h : DataW.trod enc P w base spare held fuel t [c0, c1, c2, c3, c4, c5] = some x) :
    ∃ (y0 y1 y2 : DataW H × List MemPlace) (n : Nat), x.1 = .agg [y0.1, y1.1, y2.1] ∧
      DataW.trod enc P w base spare held n f0.type [c0] = some y0 ∧ DataW.trod enc P w base spare held n f1.type [c1, c2, c3, c4] = some y1 ∧ DataW.trod enc P w base spare held n f2.type [c5] = some y2 := by
  obtain ⟨xs, n, _, hx, _, hlen, hg⟩ := DataW.trod_struct hs h
  match xs, hlen with
  | [y0, y1, y2], _ =>
    exact ⟨y0, y1, y2, n, by rw [hx]; rfl, by simpa [o0, k0] using hg 0 f0 rfl, by simpa [o1, k1] using hg 1 f1 rfl, by simpa [o2, k2] using hg 2 f2 rfl⟩
theorem cells4_open {P : Program} {t : TypeId} {spare : Nat → Bool} {f0 f1 f2 f3 : Field} {c0 c1 c2 c3 : Value} {x : DataW H × List MemPlace} (hs : P.underlying t = some (.struct #[f0, f1, f2, f3])) (hone : oneCellFields P #[f0, f1, f2, f3] = true)
    (h : DataW.trod enc P w base spare held fuel t [c0, c1, c2, c3] = some x) :
    ∃ (y0 y1 y2 y3 : DataW H × List MemPlace) (n : Nat), x.1 = .agg [y0.1, y1.1, y2.1, y3.1] ∧
      DataW.trod enc P w base spare held n f0.type [c0] = some y0 ∧ DataW.trod enc P w base spare held n f1.type [c1] = some y1 ∧ DataW.trod enc P w base spare held n f2.type [c2] = some y2 ∧ DataW.trod enc P w base spare held n f3.type [c3] = some y3 := by
  obtain ⟨xs, n, _, hx, _, hlen, hg⟩ := DataW.trod_struct hs h
  obtain ⟨o0, k0⟩ := hone_of hone 0 f0 rfl
  obtain ⟨o1, k1⟩ := hone_of hone 1 f1 rfl
  obtain ⟨o2, k2⟩ := hone_of hone 2 f2 rfl
  obtain ⟨o3, k3⟩ := hone_of hone 3 f3 rfl
  match xs, hlen with
  | [y0, y1, y2, y3], _ =>
    exact ⟨y0, y1, y2, y3, n, by rw [hx]; rfl, by simpa [o0, k0] using hg 0 f0 rfl, by simpa [o1, k1] using hg 1 f1 rfl, by simpa [o2, k2] using hg 2 f2 rfl, by simpa [o3, k3] using hg 3 f3 rfl⟩

theorem doc_read {cs : List Value} {x : DataW H × List MemPlace} (hl6 : cs.length = 6) (h : DataW.trod enc Tryd.prog w base (fun _ => true) held fuel 55 cs = some x) : ∃ s : DV, cs = s.cells ∧ DVok w s := by
  match cs, hl6 with
  | [c0, c1, c2, c3, c4, c5], _ =>
    obtain ⟨y0, y1, y2, n, hx, t0, t1, t2⟩ := cells3_open Tryd.underlying55 rfl rfl rfl (by kernel_rfl) (by kernel_rfl) (by kernel_rfl) h
    obtain ⟨z0, z1, z2, z3, n2, hx2, u0, u1, u2, u3⟩ := cells4_open Tryd.underlying53 (by kernel_rfl) t1
    obtain ⟨pa, e0, _, w0⟩ := DataW.trod_string Tryd.underlying9 t0
    obtain ⟨vk, e1, _, w1⟩ := DataW.trod_int Tryd.underlying3 u0
    obtain ⟨vi, e2, _, w2⟩ := DataW.trod_int Tryd.underlying3 u1
    obtain ⟨vb, e3, _⟩ := DataW.trod_bool Tryd.underlying4 u2
    obtain ⟨vt, e4, _, w4⟩ := DataW.trod_string Tryd.underlying9 u3
    simp only [List.cons.injEq, and_true] at e0 e1 e2 e3 e4
    subst e0 e1 e2 e3 e4
    obtain ⟨rs, rr⟩ := texts_read t2
    unfold maxLen at w0 w4
    exact ⟨⟨pa, vk, vi, vb, vt, c5, rs⟩, rfl, by show pa.size ≤ _; omega, by show vt.size ≤ _; omega, wf64 w1, wf64 w2, rr⟩

theorem docs_open {cs : List Value} {x : DataW H × List MemPlace} (h : DataW.trod enc Tryd.prog w base (fun _ => true) held fuel 23 cs = some x) : ∃ v l, cs = [v] ∧ DocsIs w v l := by
  have h6 : Tryd.prog.cellsOf 55 = 6 := by kernel_rfl
  rcases open_slice Tryd.underlying23 h with ⟨rfl, _⟩ | ⟨a, len, cap, m, n, D, Pl, rfl, hb, hl, hm, hmm, rfl, hi⟩
  · exact ⟨_, [], rfl, ⟨none, 0, rfl, by simp, by simp, by simp, by simp⟩, by simp⟩
  · have hmc : m = cap := by simpa using hmm
    have hi' : ∀ i, i < len → ∃ s : DV, w.cells? base (a.add (i * 6)) 6 = some s.cells ∧ DVok w s := fun i hil => by
      obtain ⟨cs', hc, ht⟩ := hi i (by omega)
      rw [h6] at hc
      obtain ⟨_, hcl, _⟩ := World.cells?_some hc
      obtain ⟨s, rfl, hs⟩ := doc_read hcl ht
      exact ⟨s, hc, hs⟩
    obtain ⟨l, hll, hp⟩ := list_of len hi'
    subst hll
    refine ⟨_, l, rfl, ⟨some a, cap, rfl, hl, hm, by simp, fun h0 => ?_⟩, fun x hx => ?_⟩
    · obtain ⟨b, off, spot⟩ := a
      have hat : ∀ i (hil : i < l.length) j, j < 6 → w.cell? ((⟨b, off, spot⟩ : Addr).add (i * 6 + j)) = (l[i].cells)[j]? := fun i hil j hj => by
        obtain ⟨_, hcl, hat⟩ := World.cells?_some (hp i hil).1
        rw [← Go.Deep.add_add]
        exact hat j hj
      have h00 : w.cell? ((⟨b, off, spot⟩ : Addr).add (0 * 6 + 0)) = some (.string l[0].path) := hat 0 h0 0 (by omega)
      have hspot : spot = none := by simpa [Addr.add] using World.cell?_spot h00
      subst hspot
      refine ⟨b, off, rfl, World.block_lt_of_cell? w _ h00, fun k hk j hj => ?_⟩
      have := hat k hk j hj
      rw [Addr.add_lit] at this
      rw [this]
      unfold rowD
      rw [List.getElem?_eq_getElem hk]
      rfl
    · obtain ⟨i, hi2, rfl⟩ := List.getElem_of_mem hx
      exact (hp i hi2).2
end

/-- A case as it reads. -/
structure CV where
  id : Int
  model : ByteArray
  iv : Value
  dv : Value
  clock : Int
  insts : List IV
  docs : List DV
def CV.val (c : CV) : Value := .agg #[.int .i64 c.id, .string c.model, c.iv, c.dv, .int .i64 c.clock]
structure CVok (w : World) (c : CV) : Prop where
  id : -9223372036854775808 ≤ c.id ∧ c.id ≤ 9223372036854775807
  clock : -9223372036854775808 ≤ c.clock ∧ c.clock ≤ 9223372036854775807
  model : c.model.size ≤ 9223372036854775807
  insts : InstsIs w c.iv c.insts
  docs : DocsIs w c.dv c.docs
theorem CVok.below {w w' : World} {c : CV} (h : CVok w c) (hb : Below w.heap.size w w') : CVok w' c := ⟨h.id, h.clock, h.model, h.insts.below hb, h.docs.below hb⟩

section
variable {H : Type} {enc : TypeId × Value → H} {P : Program} {w : World} {base : Nat} {spare : Nat → Bool} {held : Bool}
/-- A struct of five one-cell fields, by value. -/
theorem agg5_open {r : Reach} {b0 : Nat} {t : TypeId} {f0 f1 f2 f3 f4 : Field} {v : Value} {d : DataW H} {p : List MemPlace} (hs : P.underlying t = some (.struct #[f0, f1, f2, f3, f4])) (hone : oneCellFields P #[f0, f1, f2, f3, f4] = true) (hC : P.cellsOf t = 5)
    (hv : Value.okWide P w r b0 t v) (h : DataW.Trod enc P w base spare held t v d p) :
    ∃ (v0 v1 v2 v3 v4 : Value) (y0 y1 y2 y3 y4 : DataW H × List MemPlace) (n : Nat), v = .agg #[v0, v1, v2, v3, v4] ∧ d = .agg [y0.1, y1.1, y2.1, y3.1, y4.1] ∧
      DataW.trod enc P w base spare held n f0.type [v0] = some y0 ∧ DataW.trod enc P w base spare held n f1.type [v1] = some y1 ∧ DataW.trod enc P w base spare held n f2.type [v2] = some y2 ∧ DataW.trod enc P w base spare held n f3.type [v3] = some y3 ∧ DataW.trod enc P w base spare held n f4.type [v4] = some y4 := by
  obtain ⟨cs, rfl, hsz⟩ := okWide_struct hs hv
  obtain ⟨l⟩ := cs
  match l, hsz.trans hC with
  | [c0, c1, c2, c3, c4], _ =>
    obtain ⟨fuel, hf⟩ := h
    obtain ⟨xs, n, _, hx, _, hlen, hg⟩ := DataW.trod_struct hs hf
    obtain ⟨o0, k0⟩ := hone_of hone 0 f0 rfl
    obtain ⟨o1, k1⟩ := hone_of hone 1 f1 rfl
    obtain ⟨o2, k2⟩ := hone_of hone 2 f2 rfl
    obtain ⟨o3, k3⟩ := hone_of hone 3 f3 rfl
    obtain ⟨o4, k4⟩ := hone_of hone 4 f4 rfl
    match xs, hlen with
    | [y0, y1, y2, y3, y4], _ =>
      simp only [Prod.mk.injEq] at hx
      exact ⟨c0, c1, c2, c3, c4, y0, y1, y2, y3, y4, n, rfl, by simpa using hx.1, by simpa [Value.cells, o0, k0] using hg 0 f0 rfl, by simpa [Value.cells, o1, k1] using hg 1 f1 rfl, by simpa [Value.cells, o2, k2] using hg 2 f2 rfl, by simpa [Value.cells, o3, k3] using hg 3 f3 rfl, by simpa [Value.cells, o4, k4] using hg 4 f4 rfl⟩
set_option maxRecDepth 100000 in
/-- A case, given by value. -/
theorem case_open {held : Bool} {r : Reach} {b0 : Nat} {v : Value} {d : DataW H} {p : List MemPlace} (hv : Value.okWide Tryd.prog w r b0 25 v) (h : DataW.Trod enc Tryd.prog w base (fun _ => true) held 25 v d p)
    (hz : ∀ n ∈ d.weights Tryd.prog 25, n ≤ reachBytes) : ∃ c : CV, v = c.val ∧ CVok w c := by
  obtain ⟨v0, v1, v2, v3, v4, y0, y1, y2, y3, y4, n, rfl, rfl, t0, t1, t2, t3, t4⟩ := agg5_open Tryd.underlying25 (by kernel_rfl) (by kernel_rfl) hv h
  have hw : ∀ n, n ∈ DataW.weightsEach Tryd.prog [3, 9, 22, 23, 3] [y0.1, y1.1, y2.1, y3.1, y4.1] → n ≤ reachBytes := fun n hn => hz n (by
    simp only [DataW.weights, Tryd.underlying25]
    exact hn)
  obtain ⟨id, e0, _, w0⟩ := DataW.trod_int Tryd.underlying3 t0
  obtain ⟨mo, e1, _, w1⟩ := DataW.trod_string Tryd.underlying9 t1
  obtain ⟨cl, e4, _, w4⟩ := DataW.trod_int Tryd.underlying3 t4
  simp only [List.cons.injEq, and_true] at e0 e1 e4
  subst e0 e1 e4
  obtain ⟨iv, li, e2, hi⟩ := insts_open t2 (fun n hn => hw n (DataW.weights_mem_each (j := 2) rfl rfl n hn))
  obtain ⟨dv, ld, e3, hd⟩ := docs_open t3
  simp only [List.cons.injEq, and_true] at e2 e3
  subst e2 e3
  unfold maxLen at w1
  exact ⟨⟨id, mo, v2, v3, cl, li, ld⟩, rfl, wf64 w0, wf64 w4, by show mo.size ≤ _; omega, hi, hd⟩
end
end Go.Proofs.YtllhlmdhnmdihaaDoor
