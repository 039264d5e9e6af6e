/- Reading a law's arguments: cases, their instances and documents. -/
import Derived.Test.YtdnfoeoiommclaaDoorBy
import Derived.Test.YtdnfoeoiommclaaDoorRows
import Derived.Deep.Matrix
import Derived.Lib.SmallJoins
import Derived.Deep.Slices
import Derived.Deep.Fields
import Derived.ChangeSame
import Derived.SizedLaws
import Derived.OpenShut
import Derived.Outline
import Derived.WalkLawsBesides
import Derived.WalkSpells
import Derived.Test.YtdnfoeoiommclaaDoorByS
import Derived.OwnWalk
import Derived.Deep.QuietTactic
import Derived.Shelf.Abstract
import Derived.Test.YtdnfoeoiommclaaDoorVr
import Derived.Deep.RegionHeld3
namespace Go.Proofs.YtdnfoeoiommclaaDoor
open Go.RowKit Go.ChangeShapes Go.WideShapes Go.Deep
set_option linter.unusedVariables false

/-- A slice of one-cell elements as it reads. -/
def RdV (w : World) (v : Value) (cs : List Value) : Prop :=
  ∃ p c, v = .slice p cs.length c ∧ cs.length ≤ c ∧ c ≤ maxLen ∧ (p = none → c = 0) ∧ (0 < cs.length → ∃ b o, p = some ⟨b, o, none⟩ ∧ ∀ i (h : i < cs.length), w.cell? ⟨b, o + i, none⟩ = some cs[i])
theorem RdV.nil (w : World) : RdV w (.slice none 0 0) [] := ⟨none, 0, rfl, by simp, by simp, by simp, by simp⟩
theorem RdV.below {w w' : World} {v : Value} {cs : List Value} (h : RdV w v cs) (hb : Below w.heap.size w w') : RdV w' v cs := by
  obtain ⟨p, c, rfl, h1, h2, h3, h4⟩ := h
  refine ⟨p, c, rfl, h1, h2, h3, fun hp => ?_⟩
  obtain ⟨b, o, rfl, hx⟩ := h4 hp
  refine ⟨b, o, rfl, fun i hi => ?_⟩
  have := hx i hi
  rw [hb.cell (p := ⟨b, o + i, none⟩) (World.block_lt_of_cell? w _ this)]
  exact this
def icells (xs : List Int) : List Value := xs.map (Value.int .i64)
def tcells (xs : List ByteArray) : List Value := xs.map Value.string
theorem rdv_of_row {w : World} {x : Addr} {l c : Nat} {zs : List Int} (hl : l ≤ c) (hm : c ≤ maxLen) (hz : zs.length = c) (hcell : ∀ i, i < zs.length → w.cell? (x.add i) = some (.int .i64 (zs.getD i 0))) :
    RdV w (.slice (some x) l c) (icells (zs.take l)) := by
  have hlen : (icells (zs.take l)).length = l := by simp [icells]; omega
  refine ⟨some x, c, by rw [hlen], by omega, hm, by simp, fun hp => ?_⟩
  rw [hlen] at hp
  obtain ⟨b, off, spot⟩ := x
  have h0 := hcell 0 (by omega)
  have hspot : spot = none := by simpa [Addr.add] using World.cell?_spot h0
  subst hspot
  refine ⟨b, off, rfl, fun i hi => ?_⟩
  have hil : i < zs.length := by rw [hlen] at hi; omega
  have := hcell i hil
  rw [Addr.add_lit] at this
  rw [this]
  simp [icells, List.getD, hil]

theorem weightsAll_in {H : Type} {P : Program} {e : TypeId} : ∀ {l : List (DataW H)} {d : DataW H}, d ∈ l → ∀ n ∈ d.weights P e, n ∈ DataW.weightsAll P e l
  | [], _, hd, _, _ => by cases hd
  | z :: r, d, hd, n, hn => by
    simp only [DataW.weightsAll, List.mem_append]
    rcases List.mem_cons.1 hd with rfl | h
    · exact .inl hn
    · exact .inr (weightsAll_in h n hn)

section
variable {H : Type} {enc : TypeId × Value → H} {w : World} {base : Nat} {held : Bool} {fuel : Nat}

theorem cells6_open {P : Program} {t : TypeId} {spare : Nat → Bool} {f0 f1 f2 f3 f4 f5 : Field} {c0 c1 c2 c3 c4 c5 : Value} {x : DataW H × List MemPlace} (hs : P.underlying t = some (.struct #[f0, f1, f2, f3, f4, f5])) (hone : oneCellFields P #[f0, f1, f2, f3, f4, f5] = true)
    (h : DataW.trod enc P w base spare held fuel t [c0, c1, c2, c3, c4, c5] = some x) :
    ∃ (y0 y1 y2 y3 y4 y5 : DataW H × List MemPlace) (n : Nat), x.1 = .agg [y0.1, y1.1, y2.1, y3.1, y4.1, y5.1] ∧
      DataW.trod enc P w base spare held n f0.type [c0] = some y0 ∧ DataW.trod enc P w base spare held n f1.type [c1] = some y1 ∧ DataW.trod enc P w base spare held n f2.type [c2] = some y2 ∧ DataW.trod enc P w base spare held n f3.type [c3] = some y3 ∧ DataW.trod enc P w base spare held n f4.type [c4] = some y4 ∧ DataW.trod enc P w base spare held n f5.type [c5] = some y5 := by
  obtain ⟨xs, n, _, hx, _, hlen, hg⟩ := DataW.trod_struct hs h
  obtain ⟨o0, k0⟩ := hone_of hone 0 f0 rfl
  obtain ⟨o1, k1⟩ := hone_of hone 1 f1 rfl
  obtain ⟨o2, k2⟩ := hone_of hone 2 f2 rfl
  obtain ⟨o3, k3⟩ := hone_of hone 3 f3 rfl
  obtain ⟨o4, k4⟩ := hone_of hone 4 f4 rfl
  obtain ⟨o5, k5⟩ := hone_of hone 5 f5 rfl
  match xs, hlen with
  | [y0, y1, y2, y3, y4, y5], _ =>
    exact ⟨y0, y1, y2, y3, y4, y5, n, by rw [hx]; rfl, by simpa [o0, k0] using hg 0 f0 rfl, by simpa [o1, k1] using hg 1 f1 rfl, by simpa [o2, k2] using hg 2 f2 rfl, by simpa [o3, k3] using hg 3 f3 rfl, by simpa [o4, k4] using hg 4 f4 rfl, by simpa [o5, k5] using hg 5 f5 rfl⟩

theorem wf64 {a : Int} (h : (Lit.int .i64 a).wf = true) : -9223372036854775808 ≤ a ∧ a ≤ 9223372036854775807 := by simpa [Lit.wf, IntKind.min, IntKind.max, IntKind.signed, IntKind.bits] using h

theorem ints_read {c : Value} {x : DataW H × List MemPlace} (h : DataW.trod enc Tryd.prog w base (fun _ => true) held fuel 49 [c] = some x) (hz : ∀ n ∈ x.1.weights Tryd.prog 49, n ≤ reachBytes) :
    ∃ xs : List Int, RdV w c (icells xs) ∧ xs.length ≤ 140737488351232 := by
  have h1 : Tryd.prog.bytesOf 3 = 8 := by kernel_rfl
  rcases open_ints Tryd.underlying49 Tryd.underlying3 (by kernel_rfl) h with ⟨hcs, _⟩ | ⟨a, l, c, zs, hcs, _, hl, hm, hzl, rfl, hcell, hwz⟩
  · simp only [List.cons.injEq, and_true] at hcs
    subst hcs
    exact ⟨[], RdV.nil _, by simp⟩
  · simp only [List.cons.injEq, and_true] at hcs
    subst hcs
    have hz' : zs.length = c := by simpa using hzl
    have hb := hz (((lits IntKind.i64 (zs.take l) : List (DataW H)).length + (lits IntKind.i64 (zs.drop l) : List (DataW H)).length) * Tryd.prog.bytesOf 3) (by simp [DataW.weights, Tryd.underlying49])
    rw [h1] at hb
    simp only [lits, List.length_map, List.length_take, List.length_drop, reachBytes] at hb
    exact ⟨_, rdv_of_row hl hm hz' hcell, by simp only [List.length_take]; omega⟩

theorem list_of {α : Type} {P : Nat → α → Prop} : ∀ n, (∀ i, i < n → ∃ s, P i s) → ∃ l : List α, l.length = n ∧ ∀ i (h : i < l.length), P i l[i]
  | 0, _ => ⟨[], rfl, fun i h => by simp at h⟩
  | n + 1, h => by
    obtain ⟨l, hl, hp⟩ := list_of n fun i hi => h i (by omega)
    obtain ⟨s, hs⟩ := h n (by omega)
    refine ⟨l ++ [s], by simp [hl], fun i hi => ?_⟩
    by_cases hin : i < l.length
    · rw [List.getElem_append_left hin]; exact hp i hin
    · have : i = n := by simp at hi; omega
      subst this
      rw [List.getElem_append_right (by omega)]
      simp only [hl, Nat.sub_self, List.getElem_cons_zero]
      exact hs

/-- A slice of texts. -/
theorem texts_read {c : Value} {x : DataW H × List MemPlace} (h : DataW.trod enc Tryd.prog w base (fun _ => true) held fuel 31 [c] = some x) :
    ∃ xs : List ByteArray, RdV w c (tcells xs) := by
  have h1 : Tryd.prog.cellsOf 9 = 1 := by kernel_rfl
  rcases open_slice Tryd.underlying31 h with ⟨hcs, _⟩ | ⟨a, len, cap, m, n, D, Pl, hcs, hb, hl, hm, hmm, rfl, hi⟩
  · simp only [List.cons.injEq, and_true] at hcs
    subst hcs
    exact ⟨[], RdV.nil _⟩
  · simp only [List.cons.injEq, and_true] at hcs
    subst hcs
    have hmc : m = cap := by simpa using hmm
    have hi' : ∀ i, i < len → ∃ s : ByteArray, w.cell? (a.add i) = some (.string s) := fun i hil => by
      obtain ⟨cs', hc, ht⟩ := hi i (by omega)
      rw [h1, Nat.mul_one] at hc
      obtain ⟨_, hcl, hat⟩ := World.cells?_some hc
      obtain ⟨s, e, _, _⟩ := DataW.trod_string Tryd.underlying9 ht
      subst e
      exact ⟨s, by simpa [Addr.add] using hat 0 (by omega)⟩
    obtain ⟨l, hll, hp⟩ := list_of len hi'
    subst hll
    have hlen : (tcells l).length = l.length := by simp [tcells]
    refine ⟨l, some a, cap, by rw [hlen], by rw [hlen]; omega, hm, by simp, fun h0 => ?_⟩
    rw [hlen] at h0
    obtain ⟨b, off, spot⟩ := a
    have hspot : spot = none := by simpa [Addr.add] using World.cell?_spot (hp 0 h0)
    subst hspot
    refine ⟨b, off, rfl, fun i hi2 => ?_⟩
    rw [hlen] at hi2
    have := hp i hi2
    rw [Addr.add_lit] at this
    rw [this]
    simp [tcells]

/-- An instance: its fields, and its latches with what they read as. -/
structure IV where
  path : ByteArray
  item : ByteArray
  st : Int
  bf : Int
  lv : Value
  ls : List Int
  due : Int
def IV.cells (x : IV) : List Value := [.string x.path, .string x.item, .int .i64 x.st, .int .i64 x.bf, x.lv, .int .i64 x.due]
structure IVok (w : World) (x : IV) : Prop where
  path : x.path.size ≤ 9223372036854775807
  item : x.item.size ≤ 9223372036854775807
  st : -9223372036854775808 ≤ x.st ∧ x.st ≤ 9223372036854775807
  bf : -9223372036854775808 ≤ x.bf ∧ x.bf ≤ 9223372036854775807
  due : -9223372036854775808 ≤ x.due ∧ x.due ≤ 9223372036854775807
  rl : RdV w x.lv (icells x.ls)
theorem IVok.below {w w' : World} {x : IV} (h : IVok w x) (hb : Below w.heap.size w w') : IVok w' x := ⟨h.path, h.item, h.st, h.bf, h.due, h.rl.below hb⟩
/-- A slice of rows of six cells. -/
def Rows6 (w : World) (v : Value) (n : Nat) (row : Nat → List Value) : Prop :=
  ∃ a c, v = .slice a n c ∧ n ≤ c ∧ c ≤ maxLen ∧ (a = none → c = 0) ∧ (0 < n → ∃ b o, a = some ⟨b, o, none⟩ ∧ b < w.heap.size ∧ ∀ k, k < n → ∀ j, j < 6 → w.cell? ⟨b, o + (k * 6 + j), none⟩ = (row k)[j]?)
theorem Rows6.below {w w' : World} {v : Value} {n : Nat} {row : Nat → List Value} (h : Rows6 w v n row) (hb : Below w.heap.size w w') : Rows6 w' v n row := by
  obtain ⟨a, c, rfl, h1, h2, h3, h4⟩ := h
  refine ⟨a, c, rfl, h1, h2, h3, fun hp => ?_⟩
  obtain ⟨b, o, rfl, hlt, hx⟩ := h4 hp
  exact ⟨b, o, rfl, Nat.lt_of_lt_of_le hlt hb.size, fun k hk j hj => (hb.cell (p := ⟨b, o + (k * 6 + j), none⟩) hlt).trans (hx k hk j hj)⟩
def rowI (l : List IV) (k : Nat) : List Value := (l[k]?.map IV.cells).getD []
/-- A slice of instances. -/
def InstsIs (w : World) (v : Value) (l : List IV) : Prop := Rows6 w v l.length (rowI l) ∧ ∀ x ∈ l, IVok w x
theorem InstsIs.below {w w' : World} {v : Value} {l : List IV} (h : InstsIs w v l) (hb : Below w.heap.size w w') : InstsIs w' v l := ⟨h.1.below hb, fun x hx => (h.2 x hx).below hb⟩

theorem inst_read {cs : List Value} {x : DataW H × List MemPlace} (hl6 : cs.length = 6) (h : DataW.trod enc Tryd.prog w base (fun _ => true) held fuel 51 cs = some x)
    (hz : ∀ n ∈ x.1.weights Tryd.prog 51, n ≤ reachBytes) : ∃ s : IV, cs = s.cells ∧ IVok w s := by
  match cs, hl6 with
  | [c0, c1, c2, c3, c4, c5], _ =>
    obtain ⟨y0, y1, y2, y3, y4, y5, n, hx, t0, t1, t2, t3, t4, t5⟩ := cells6_open Tryd.underlying51 (by kernel_rfl) h
    rw [hx] at hz
    have hw : ∀ n, n ∈ DataW.weightsEach Tryd.prog [9, 9, 3, 3, 49, 3] [y0.1, y1.1, y2.1, y3.1, y4.1, y5.1] → n ≤ reachBytes := fun n hn => hz n (by
      simp only [DataW.weights, Tryd.underlying51]
      exact hn)
    obtain ⟨pa, e0, _, w0⟩ := DataW.trod_string Tryd.underlying9 t0
    obtain ⟨it, e1, _, w1⟩ := DataW.trod_string Tryd.underlying9 t1
    obtain ⟨st, e2, _, w2⟩ := DataW.trod_int Tryd.underlying3 t2
    obtain ⟨bf, e3, _, w3⟩ := DataW.trod_int Tryd.underlying3 t3
    obtain ⟨du, e5, _, w5⟩ := DataW.trod_int Tryd.underlying3 t5
    simp only [List.cons.injEq, and_true] at e0 e1 e2 e3 e5
    subst e0 e1 e2 e3 e5
    obtain ⟨ks, rk, _⟩ := ints_read t4 (fun n hn => hw n (DataW.weights_mem_each (j := 4) rfl rfl n hn))
    unfold maxLen at w0 w1
    exact ⟨⟨pa, it, st, bf, c4, ks, du⟩, rfl, by show pa.size ≤ _; omega, by show it.size ≤ _; omega, wf64 w2, wf64 w3, wf64 w5, rk⟩

theorem insts_open {cs : List Value} {x : DataW H × List MemPlace} (h : DataW.trod enc Tryd.prog w base (fun _ => true) held fuel 22 cs = some x)
    (hz : ∀ n ∈ x.1.weights Tryd.prog 22, n ≤ reachBytes) : ∃ v l, cs = [v] ∧ InstsIs w v l := by
  have h6 : Tryd.prog.cellsOf 51 = 6 := by kernel_rfl
  rcases open_slice Tryd.underlying22 h with ⟨rfl, _⟩ | ⟨a, len, cap, m, n, D, Pl, rfl, hb, hl, hm, hmm, rfl, hi⟩
  · exact ⟨_, [], rfl, ⟨none, 0, rfl, by simp, by simp, by simp, by simp⟩, by simp⟩
  · have hmc : m = cap := by simpa using hmm
    have hi' : ∀ i, i < len → ∃ s : IV, w.cells? base (a.add (i * 6)) 6 = some s.cells ∧ IVok w s := fun i hil => by
      obtain ⟨cs', hc, ht⟩ := hi i (by omega)
      rw [h6] at hc
      obtain ⟨_, hcl, _⟩ := World.cells?_some hc
      obtain ⟨s, rfl, hs⟩ := inst_read hcl ht (fun k hk => hz k (by
        simp only [DataW.weights, Tryd.underlying22, List.mem_cons, List.mem_append]
        exact .inr (.inl (weightsAll_in (d := D i) (List.mem_map.2 ⟨i, by simpa using hil, rfl⟩) k hk))))
      exact ⟨s, hc, hs⟩
    obtain ⟨l, hll, hp⟩ := list_of len hi'
    subst hll
    refine ⟨_, l, rfl, ⟨some a, cap, rfl, hl, hm, by simp, fun h0 => ?_⟩, fun x hx => ?_⟩
    · obtain ⟨b, off, spot⟩ := a
      have hat : ∀ i (hil : i < l.length) j, j < 6 → w.cell? ((⟨b, off, spot⟩ : Addr).add (i * 6 + j)) = (l[i].cells)[j]? := fun i hil j hj => by
        obtain ⟨_, hcl, hat⟩ := World.cells?_some (hp i hil).1
        rw [← Go.Deep.add_add]
        exact hat j hj
      have h00 : w.cell? ((⟨b, off, spot⟩ : Addr).add (0 * 6 + 0)) = some (.string l[0].path) := hat 0 h0 0 (by omega)
      have hspot : spot = none := by simpa [Addr.add] using World.cell?_spot h00
      subst hspot
      refine ⟨b, off, rfl, World.block_lt_of_cell? w _ h00, fun k hk j hj => ?_⟩
      have := hat k hk j hj
      rw [Addr.add_lit] at this
      rw [this]
      unfold rowI
      rw [List.getElem?_eq_getElem hk]
      rfl
    · obtain ⟨i, hi2, rfl⟩ := List.getElem_of_mem hx
      exact (hp i hi2).2
end
end Go.Proofs.YtdnfoeoiommclaaDoor

/- Reading a law's arguments: documents of a case, the case. -/
namespace Go.Proofs.YtdnfoeoiommclaaDoor
open Go.RowKit Go.ChangeShapes Go.WideShapes Go.Deep
set_option linter.unusedVariables false

/-- A document: its fields, and its references with what they read as. -/
structure DV where
  path : ByteArray
  vk : Int
  vi : Int
  vb : Bool
  vt : ByteArray
  rv : Value
  rs : List ByteArray
def DV.cells (x : DV) : List Value := [.string x.path, .int .i64 x.vk, .int .i64 x.vi, .bool x.vb, .string x.vt, x.rv]
structure DVok (w : World) (x : DV) : Prop where
  path : x.path.size ≤ 9223372036854775807
  vt : x.vt.size ≤ 9223372036854775807
  vk : -9223372036854775808 ≤ x.vk ∧ x.vk ≤ 9223372036854775807
  vi : -9223372036854775808 ≤ x.vi ∧ x.vi ≤ 9223372036854775807
  rr : RdV w x.rv (tcells x.rs)
theorem DVok.below {w w' : World} {x : DV} (h : DVok w x) (hb : Below w.heap.size w w') : DVok w' x := ⟨h.path, h.vt, h.vk, h.vi, h.rr.below hb⟩
def rowD (l : List DV) (k : Nat) : List Value := (l[k]?.map DV.cells).getD []
/-- A slice of documents. -/
def DocsIs (w : World) (v : Value) (l : List DV) : Prop := Rows6 w v l.length (rowD l) ∧ ∀ x ∈ l, DVok w x
theorem DocsIs.below {w w' : World} {v : Value} {l : List DV} (h : DocsIs w v l) (hb : Below w.heap.size w w') : DocsIs w' v l := ⟨h.1.below hb, fun x hx => (h.2 x hx).below hb⟩

section
variable {H : Type} {enc : TypeId × Value → H} {w : World} {base : Nat} {held : Bool} {fuel : Nat}

theorem cells3_open {P : Program} {t : TypeId} {spare : Nat → Bool} {f0 f1 f2 : Field} {c0 c1 c2 c3 c4 c5 : Value} {x : DataW H × List MemPlace} (hs : P.underlying t = some (.struct #[f0, f1, f2]))
    (o0 : f0.offset = 0) (o1 : f1.offset = 1) (o2 : f2.offset = 5) (k0 : P.cellsOf f0.type = 1) (k1 : P.cellsOf f1.type = 4) (k2 : P.cellsOf f2.type = 1)
    (h : DataW.trod enc P w base spare held fuel t [c0, c1, c2, c3, c4, c5] = some x) :
    ∃ (y0 y1 y2 : DataW H × List MemPlace) (n : Nat), x.1 = .agg [y0.1, y1.1, y2.1] ∧
      DataW.trod enc P w base spare held n f0.type [c0] = some y0 ∧ DataW.trod enc P w base spare held n f1.type [c1, c2, c3, c4] = some y1 ∧ DataW.trod enc P w base spare held n f2.type [c5] = some y2 := by
  obtain ⟨xs, n, _, hx, _, hlen, hg⟩ := DataW.trod_struct hs h
  match xs, hlen with
  | [y0, y1, y2], _ =>
    exact ⟨y0, y1, y2, n, by rw [hx]; rfl, by simpa [o0, k0] using hg 0 f0 rfl, by simpa [o1, k1] using hg 1 f1 rfl, by simpa [o2, k2] using hg 2 f2 rfl⟩
theorem cells4_open {P : Program} {t : TypeId} {spare : Nat → Bool} {f0 f1 f2 f3 : Field} {c0 c1 c2 c3 : Value} {x : DataW H × List MemPlace} (hs : P.underlying t = some (.struct #[f0, f1, f2, f3])) (hone : oneCellFields P #[f0, f1, f2, f3] = true)
    (h : DataW.trod enc P w base spare held fuel t [c0, c1, c2, c3] = some x) :
    ∃ (y0 y1 y2 y3 : DataW H × List MemPlace) (n : Nat), x.1 = .agg [y0.1, y1.1, y2.1, y3.1] ∧
      DataW.trod enc P w base spare held n f0.type [c0] = some y0 ∧ DataW.trod enc P w base spare held n f1.type [c1] = some y1 ∧ DataW.trod enc P w base spare held n f2.type [c2] = some y2 ∧ DataW.trod enc P w base spare held n f3.type [c3] = some y3 := by
  obtain ⟨xs, n, _, hx, _, hlen, hg⟩ := DataW.trod_struct hs h
  obtain ⟨o0, k0⟩ := hone_of hone 0 f0 rfl
  obtain ⟨o1, k1⟩ := hone_of hone 1 f1 rfl
  obtain ⟨o2, k2⟩ := hone_of hone 2 f2 rfl
  obtain ⟨o3, k3⟩ := hone_of hone 3 f3 rfl
  match xs, hlen with
  | [y0, y1, y2, y3], _ =>
    exact ⟨y0, y1, y2, y3, n, by rw [hx]; rfl, by simpa [o0, k0] using hg 0 f0 rfl, by simpa [o1, k1] using hg 1 f1 rfl, by simpa [o2, k2] using hg 2 f2 rfl, by simpa [o3, k3] using hg 3 f3 rfl⟩

theorem doc_read {cs : List Value} {x : DataW H × List MemPlace} (hl6 : cs.length = 6) (h : DataW.trod enc Tryd.prog w base (fun _ => true) held fuel 55 cs = some x) : ∃ s : DV, cs = s.cells ∧ DVok w s := by
  match cs, hl6 with
  | [c0, c1, c2, c3, c4, c5], _ =>
    obtain ⟨y0, y1, y2, n, hx, t0, t1, t2⟩ := cells3_open Tryd.underlying55 rfl rfl rfl (by kernel_rfl) (by kernel_rfl) (by kernel_rfl) h
    obtain ⟨z0, z1, z2, z3, n2, hx2, u0, u1, u2, u3⟩ := cells4_open Tryd.underlying53 (by kernel_rfl) t1
    obtain ⟨pa, e0, _, w0⟩ := DataW.trod_string Tryd.underlying9 t0
    obtain ⟨vk, e1, _, w1⟩ := DataW.trod_int Tryd.underlying3 u0
    obtain ⟨vi, e2, _, w2⟩ := DataW.trod_int Tryd.underlying3 u1
    obtain ⟨vb, e3, _⟩ := DataW.trod_bool Tryd.underlying4 u2
    obtain ⟨vt, e4, _, w4⟩ := DataW.trod_string Tryd.underlying9 u3
    simp only [List.cons.injEq, and_true] at e0 e1 e2 e3 e4
    subst e0 e1 e2 e3 e4
    obtain ⟨rs, rr⟩ := texts_read t2
    unfold maxLen at w0 w4
    exact ⟨⟨pa, vk, vi, vb, vt, c5, rs⟩, rfl, by show pa.size ≤ _; omega, by show vt.size ≤ _; omega, wf64 w1, wf64 w2, rr⟩

theorem docs_open {cs : List Value} {x : DataW H × List MemPlace} (h : DataW.trod enc Tryd.prog w base (fun _ => true) held fuel 23 cs = some x) : ∃ v l, cs = [v] ∧ DocsIs w v l := by
  have h6 : Tryd.prog.cellsOf 55 = 6 := by kernel_rfl
  rcases open_slice Tryd.underlying23 h with ⟨rfl, _⟩ | ⟨a, len, cap, m, n, D, Pl, rfl, hb, hl, hm, hmm, rfl, hi⟩
  · exact ⟨_, [], rfl, ⟨none, 0, rfl, by simp, by simp, by simp, by simp⟩, by simp⟩
  · have hmc : m = cap := by simpa using hmm
    have hi' : ∀ i, i < len → ∃ s : DV, w.cells? base (a.add (i * 6)) 6 = some s.cells ∧ DVok w s := fun i hil => by
      obtain ⟨cs', hc, ht⟩ := hi i (by omega)
      rw [h6] at hc
      obtain ⟨_, hcl, _⟩ := World.cells?_some hc
      obtain ⟨s, rfl, hs⟩ := doc_read hcl ht
      exact ⟨s, hc, hs⟩
    obtain ⟨l, hll, hp⟩ := list_of len hi'
    subst hll
    refine ⟨_, l, rfl, ⟨some a, cap, rfl, hl, hm, by simp, fun h0 => ?_⟩, fun x hx => ?_⟩
    · obtain ⟨b, off, spot⟩ := a
      have hat : ∀ i (hil : i < l.length) j, j < 6 → w.cell? ((⟨b, off, spot⟩ : Addr).add (i * 6 + j)) = (l[i].cells)[j]? := fun i hil j hj => by
        obtain ⟨_, hcl, hat⟩ := World.cells?_some (hp i hil).1
        rw [← Go.Deep.add_add]
        exact hat j hj
      have h00 : w.cell? ((⟨b, off, spot⟩ : Addr).add (0 * 6 + 0)) = some (.string l[0].path) := hat 0 h0 0 (by omega)
      have hspot : spot = none := by simpa [Addr.add] using World.cell?_spot h00
      subst hspot
      refine ⟨b, off, rfl, World.block_lt_of_cell? w _ h00, fun k hk j hj => ?_⟩
      have := hat k hk j hj
      rw [Addr.add_lit] at this
      rw [this]
      unfold rowD
      rw [List.getElem?_eq_getElem hk]
      rfl
    · obtain ⟨i, hi2, rfl⟩ := List.getElem_of_mem hx
      exact (hp i hi2).2
end

/-- A case as it reads. -/
structure CV where
  id : Int
  model : ByteArray
  iv : Value
  dv : Value
  clock : Int
  insts : List IV
  docs : List DV
def CV.val (c : CV) : Value := .agg #[.int .i64 c.id, .string c.model, c.iv, c.dv, .int .i64 c.clock]
structure CVok (w : World) (c : CV) : Prop where
  id : -9223372036854775808 ≤ c.id ∧ c.id ≤ 9223372036854775807
  clock : -9223372036854775808 ≤ c.clock ∧ c.clock ≤ 9223372036854775807
  model : c.model.size ≤ 9223372036854775807
  insts : InstsIs w c.iv c.insts
  docs : DocsIs w c.dv c.docs
theorem CVok.below {w w' : World} {c : CV} (h : CVok w c) (hb : Below w.heap.size w w') : CVok w' c := ⟨h.id, h.clock, h.model, h.insts.below hb, h.docs.below hb⟩

section
variable {H : Type} {enc : TypeId × Value → H} {P : Program} {w : World} {base : Nat} {spare : Nat → Bool} {held : Bool}
/-- A struct of five one-cell fields, by value. -/
theorem agg5_open {r : Reach} {b0 : Nat} {t : TypeId} {f0 f1 f2 f3 f4 : Field} {v : Value} {d : DataW H} {p : List MemPlace} (hs : P.underlying t = some (.struct #[f0, f1, f2, f3, f4])) (hone : oneCellFields P #[f0, f1, f2, f3, f4] = true) (hC : P.cellsOf t = 5)
    (hv : Value.okWide P w r b0 t v) (h : DataW.Trod enc P w base spare held t v d p) :
    ∃ (v0 v1 v2 v3 v4 : Value) (y0 y1 y2 y3 y4 : DataW H × List MemPlace) (n : Nat), v = .agg #[v0, v1, v2, v3, v4] ∧ d = .agg [y0.1, y1.1, y2.1, y3.1, y4.1] ∧
      DataW.trod enc P w base spare held n f0.type [v0] = some y0 ∧ DataW.trod enc P w base spare held n f1.type [v1] = some y1 ∧ DataW.trod enc P w base spare held n f2.type [v2] = some y2 ∧ DataW.trod enc P w base spare held n f3.type [v3] = some y3 ∧ DataW.trod enc P w base spare held n f4.type [v4] = some y4 := by
  obtain ⟨cs, rfl, hsz⟩ := okWide_struct hs hv
  obtain ⟨l⟩ := cs
  match l, hsz.trans hC with
  | [c0, c1, c2, c3, c4], _ =>
    obtain ⟨fuel, hf⟩ := h
    obtain ⟨xs, n, _, hx, _, hlen, hg⟩ := DataW.trod_struct hs hf
    obtain ⟨o0, k0⟩ := hone_of hone 0 f0 rfl
    obtain ⟨o1, k1⟩ := hone_of hone 1 f1 rfl
    obtain ⟨o2, k2⟩ := hone_of hone 2 f2 rfl
    obtain ⟨o3, k3⟩ := hone_of hone 3 f3 rfl
    obtain ⟨o4, k4⟩ := hone_of hone 4 f4 rfl
    match xs, hlen with
    | [y0, y1, y2, y3, y4], _ =>
      simp only [Prod.mk.injEq] at hx
      exact ⟨c0, c1, c2, c3, c4, y0, y1, y2, y3, y4, n, rfl, by simpa using hx.1, by simpa [Value.cells, o0, k0] using hg 0 f0 rfl, by simpa [Value.cells, o1, k1] using hg 1 f1 rfl, by simpa [Value.cells, o2, k2] using hg 2 f2 rfl, by simpa [Value.cells, o3, k3] using hg 3 f3 rfl, by simpa [Value.cells, o4, k4] using hg 4 f4 rfl⟩
set_option maxRecDepth 100000 in
/-- A case, given by value. -/
theorem case_open {held : Bool} {r : Reach} {b0 : Nat} {v : Value} {d : DataW H} {p : List MemPlace} (hv : Value.okWide Tryd.prog w r b0 25 v) (h : DataW.Trod enc Tryd.prog w base (fun _ => true) held 25 v d p)
    (hz : ∀ n ∈ d.weights Tryd.prog 25, n ≤ reachBytes) : ∃ c : CV, v = c.val ∧ CVok w c := by
  obtain ⟨v0, v1, v2, v3, v4, y0, y1, y2, y3, y4, n, rfl, rfl, t0, t1, t2, t3, t4⟩ := agg5_open Tryd.underlying25 (by kernel_rfl) (by kernel_rfl) hv h
  have hw : ∀ n, n ∈ DataW.weightsEach Tryd.prog [3, 9, 22, 23, 3] [y0.1, y1.1, y2.1, y3.1, y4.1] → n ≤ reachBytes := fun n hn => hz n (by
    simp only [DataW.weights, Tryd.underlying25]
    exact hn)
  obtain ⟨id, e0, _, w0⟩ := DataW.trod_int Tryd.underlying3 t0
  obtain ⟨mo, e1, _, w1⟩ := DataW.trod_string Tryd.underlying9 t1
  obtain ⟨cl, e4, _, w4⟩ := DataW.trod_int Tryd.underlying3 t4
  simp only [List.cons.injEq, and_true] at e0 e1 e4
  subst e0 e1 e4
  obtain ⟨iv, li, e2, hi⟩ := insts_open t2 (fun n hn => hw n (DataW.weights_mem_each (j := 2) rfl rfl n hn))
  obtain ⟨dv, ld, e3, hd⟩ := docs_open t3
  simp only [List.cons.injEq, and_true] at e2 e3
  subst e2 e3
  unfold maxLen at w1
  exact ⟨⟨id, mo, v2, v3, cl, li, ld⟩, rfl, wf64 w0, wf64 w4, by show mo.size ≤ _; omega, hi, hd⟩
end
end Go.Proofs.YtdnfoeoiommclaaDoor

/- A case is small: dossierplain.Case. Written by tools/genyc.py. -/
namespace Go.Proofs.YtdnfoeoiommclaaDoor
open Go.RowKit Go.Deep
set_option linter.unusedVariables false
set_option linter.unusedSimpArgs false

def okI (x : IV) : Bool := decide (x.path.size ≤ 400) && decide (x.ls.length ≤ 40)
def okD (x : DV) : Bool := decide (x.path.size ≤ 400) && decide (x.rs.length ≤ 40)
def okC (c : CV) : Bool := (c.insts.all okI && c.docs.all okD) && (decide (c.insts.length ≤ 40) && decide (c.docs.length ≤ 30))

/-- A row, cell for cell. -/
theorem Rows6.row {w : World} {a : Option Addr} {n c : Nat} {row : Nat → List Value} (h : Rows6 w (.slice a n c) n row) {k : Nat} (hk : k < n) {c0 c1 c2 c3 c4 c5 : Value} (hr : row k = [c0, c1, c2, c3, c4, c5]) :
    ∃ b o, a = some ⟨b, o, none⟩ ∧ b < w.heap.size ∧ w.cell? ⟨b, o + k * 6, none⟩ = some c0 ∧ w.cell? ⟨b, o + k * 6 + 1, none⟩ = some c1 ∧ w.cell? ⟨b, o + k * 6 + 2, none⟩ = some c2 ∧ w.cell? ⟨b, o + k * 6 + 3, none⟩ = some c3 ∧ w.cell? ⟨b, o + k * 6 + 4, none⟩ = some c4 ∧ w.cell? ⟨b, o + k * 6 + 5, none⟩ = some c5 := by
  obtain ⟨a', c', e, h1, h2, h3, h4⟩ := h
  simp only [Value.slice.injEq, true_and] at e
  obtain ⟨rfl, rfl⟩ := e
  obtain ⟨b, o, rfl, hlt, hx⟩ := h4 (by omega)
  have hj := fun j (hj : j < 6) => by
    have := hx k hk j hj
    rw [hr] at this
    exact this
  exact ⟨b, o, rfl, hlt, by simpa using hj 0 (by omega), by simpa [Nat.add_assoc] using hj 1 (by omega), by simpa [Nat.add_assoc] using hj 2 (by omega), by simpa [Nat.add_assoc] using hj 3 (by omega), by simpa [Nat.add_assoc] using hj 4 (by omega), by simpa [Nat.add_assoc] using hj 5 (by omega)⟩
theorem RdV.form {w : World} {v : Value} {cs : List Value} (h : RdV w v cs) : ∃ p c, v = .slice p cs.length c := by
  obtain ⟨p, c, h, _⟩ := h
  exact ⟨p, c, h⟩
theorem all_take {α : Type} {f : α → Bool} {l : List α} {k : Nat} (hk : k < l.length) (h : (l.take k).all f = true) (hx : f l[k] = true) : (l.take (k + 1)).all f = true := by
  rw [List.take_succ_eq_append_getElem hk, List.all_append, h]
  simp [hx]
theorem all_not {α : Type} {f : α → Bool} {l : List α} {k : Nat} (hk : k < l.length) (hx : f l[k] = false) : l.all f = false := by
  rw [List.all_eq_false]
  exact ⟨l[k], List.getElem_mem hk, by rw [hx]; simp⟩

theorem cellsC {w : World} {b : Nat} {c0 c1 c2 c3 c4 : Value} {T : TypeId} (h : w.heap[b]? = some (.cells #[c0, c1, c2, c3, c4] T (0, 0))) :
    w.cell? ⟨b, 0, none⟩ = some c0 ∧ w.cell? ⟨b, 1, none⟩ = some c1 ∧ w.cell? ⟨b, 2, none⟩ = some c2 ∧ w.cell? ⟨b, 3, none⟩ = some c3 ∧ w.cell? ⟨b, 4, none⟩ = some c4 := by
  refine ⟨?_, ?_, ?_, ?_, ?_⟩ <;> simp [World.cell?, h]
set_option maxRecDepth 100000 in
set_option maxHeartbeats 2000000 in
theorem plain_c (w : World) (c : CV) (h : CVok w c) : Calls Tryd.prog 4 #[c.val] w fun e w' => e = .returned (.bool (okC c)) ∧ Below w.heap.size w w' := by
  obtain ⟨id, mo, iv, dv, cl, is, ds⟩ := c
  obtain ⟨a, ca, hv, h1, h2, h3, h4⟩ := h.insts.1
  obtain ⟨b, cb, hvb, k1, k2, k3, k4⟩ := h.docs.1
  dsimp only at hv hvb h1 h3 k1 k3
  subst hv hvb
  have hil : is.length ≤ 9223372036854775807 := by unfold maxLen at h2; omega
  have hdl : ds.length ≤ 9223372036854775807 := by unfold maxLen at k2; omega
  have HI := Lib.hid h.insts
  have HD := Lib.hid h.docs
  dsimp only at HI HD
  obtain ⟨R, hR⟩ : ∃ R, R = okC ⟨id, mo, .slice a is.length ca, .slice b ds.length cb, cl, is, ds⟩ := ⟨_, rfl⟩
  have HR := Lib.hid (show R = ((is.all okI && ds.all okD) && (decide (is.length ≤ 40) && decide (ds.length ≤ 30))) from hR)
  rw [← hR]
  unfold CV.val
  dsimp only
  have HB := Lib.hid (fun o => box_bel' w o)
  obtain ⟨w0, hw0⟩ : ∃ x, x = w.alloc (.cells #[.int .i64 id, .string mo, .slice a is.length ca, .slice b ds.length cb, .int .i64 cl] 25) := ⟨_, rfl⟩
  have HBW := Lib.hid (show Below w.heap.size w w0 from by rw [hw0]; exact box_bel' _ _)
  have HQ := Lib.hid (show w0.heap[w.heap.size]? = some (.cells #[.int .i64 id, .string mo, .slice a is.length ca, .slice b ds.length cb, .int .i64 cl] 25 (0, 0)) from by rw [hw0]; exact heap_alloc_new _ _)
  have HW0 := Lib.hid hw0
  clear h hR h4 k4 h3 k3 hw0
  go_enter Tryd.func4, Tryd.ntmps4
  go_wp2_with fail
  rw [← HW0.out]
  go_loopw [10] (fun i wr => ∃ k : Nat, k ≤ is.length ∧ i = .int .i64 k ∧ Below w0.heap.size w0 wr ∧ (is.take k).all okI = true) (fun i _ => is.length - (intOf i).toNat)
  case atStart => exact ⟨0, by omega, rfl, Below.refl _ _, by simp⟩
  case round =>
    obtain ⟨k, hk, rfl, hbr, hall⟩ := hrel
    have HBR := Lib.hid hbr
    have HAL := Lib.hid hall
    clear hbr hall
    by_cases hlt : k < is.length
    · obtain ⟨x, hx⟩ : ∃ x, x = is[k] := ⟨_, rfl⟩
      have HX := Lib.hid hx
      have hrow : rowI is k = x.cells := by unfold rowI; rw [List.getElem?_eq_getElem hlt, ← hx]; rfl
      have hxo := HI.out.2 x (by rw [hx]; exact List.getElem_mem hlt)
      obtain ⟨p, cp, hlv⟩ := hxo.rl.form
      obtain ⟨path, item, st, bf, lv, ls, due⟩ := x
      dsimp only at hlv
      subst hlv
      obtain ⟨g, o, ha, hg, c0, c1, c2, c3, c4, c5⟩ := ((HI.out.1.below HBW.out).below HBR.out).row hlt hrow
      subst ha
      have hll : (icells ls).length = ls.length := by simp [icells]
      rw [hll] at c4
      generalize hls : ls.length = nl at *
      by_cases q1 : 400 < path.size
      · have HE := Lib.hid (show R = false from by
          rw [HR.out, show is.all okI = false from all_not hlt (by rw [← HX.out]; unfold okI; simp; omega)]; simp)
        have d1 : decide (400 < path.size) = true := decide_eq_true q1
        have d2 : decide ((400 : Int) < (path.size : Nat)) = true := decide_eq_true (by omega)
        clear hrow hxo hx hls hll
        go_wp2_with fail
        go_ret
        exact ⟨by rw [HE.out]; rfl, HBW.out.trans ((HBR.out.alloc HBR.out.size _).mono HBW.out.size)⟩
      · have d1 : decide (400 < path.size) = false := decide_eq_false q1
        have d2 : decide ((400 : Int) < (path.size : Nat)) = false := decide_eq_false (by omega)
        by_cases q2 : 40 < nl
        · have HE := Lib.hid (show R = false from by
            rw [HR.out, show is.all okI = false from all_not hlt (by rw [← HX.out]; unfold okI; simp [hls]; omega)]; simp)
          have d3 : decide (40 < nl) = true := decide_eq_true q2
          have d4 : decide ((40 : Int) < (nl : Nat)) = true := decide_eq_true (by omega)
          clear hrow hxo hx hls hll
          go_wp2_with fail
          go_ret
          exact ⟨by rw [HE.out]; rfl, HBW.out.trans ((HBR.out.alloc HBR.out.size _).mono HBW.out.size)⟩
        · have d3 : decide (40 < nl) = false := decide_eq_false q2
          have d4 : decide ((40 : Int) < (nl : Nat)) = false := decide_eq_false (by omega)
          have HN := Lib.hid (all_take hlt HAL.out (by rw [← HX.out]; unfold okI; simp [hls]; omega))
          clear hrow hxo hx hls hll
          go_wp2_with fail
          exact ⟨⟨k + 1, by omega, by go_num, HBR.out.alloc HBR.out.size _, HN.out⟩, by simp [intOf]; omega⟩
    · have HN := Lib.hid (show is.all okI = true from by have := HAL.out; rwa [List.take_of_length_le (by omega)] at this)
      have HNI := HN
      have HBI := HBR
      have hq2 := (HBR.out.block w.heap.size (Array.getElem?_eq_some_iff.1 HQ.out).1).trans HQ.out
      obtain ⟨q0, q1, q2, q3, q4⟩ := cellsC hq2
      clear hq2
      go_wp2_with fail
      clear q0 q1 q2 q3 q4
      go_loopw [28] (fun i wr => ∃ k : Nat, k ≤ ds.length ∧ i = .int .i64 k ∧ Below w0.heap.size w0 wr ∧ (ds.take k).all okD = true) (fun i _ => ds.length - (intOf i).toNat)
      case atStart => exact ⟨0, by omega, rfl, HBI.out, by simp⟩
      case round =>
        obtain ⟨k, hk, rfl, hbr, hall⟩ := hrel
        have HBR := Lib.hid hbr
        have HAL := Lib.hid hall
        clear hbr hall
        by_cases hlt : k < ds.length
        · obtain ⟨x, hx⟩ : ∃ x, x = ds[k] := ⟨_, rfl⟩
          have HX := Lib.hid hx
          have hrow : rowD ds k = x.cells := by unfold rowD; rw [List.getElem?_eq_getElem hlt, ← hx]; rfl
          have hxo := HD.out.2 x (by rw [hx]; exact List.getElem_mem hlt)
          obtain ⟨p, cp, hlv⟩ := hxo.rr.form
          obtain ⟨path, vk, vi, vb, vt, rv, rs⟩ := x
          dsimp only at hlv
          subst hlv
          obtain ⟨g, o, ha, hg, c0, c1, c2, c3, c4, c5⟩ := ((HD.out.1.below HBW.out).below HBR.out).row hlt hrow
          subst ha
          have hll : (tcells rs).length = rs.length := by simp [tcells]
          rw [hll] at c5
          generalize hls : rs.length = nl at *
          by_cases q1 : 400 < path.size
          · have HE := Lib.hid (show R = false from by
              rw [HR.out, show ds.all okD = false from all_not hlt (by rw [← HX.out]; unfold okD; simp; omega)]; simp)
            have d1 : decide (400 < path.size) = true := decide_eq_true q1
            have d2 : decide ((400 : Int) < (path.size : Nat)) = true := decide_eq_true (by omega)
            clear hrow hxo hx hls hll
            go_wp2_with fail
            go_ret
            exact ⟨by rw [HE.out]; rfl, HBW.out.trans ((HBR.out.alloc HBR.out.size _).mono HBW.out.size)⟩
          · have d1 : decide (400 < path.size) = false := decide_eq_false q1
            have d2 : decide ((400 : Int) < (path.size : Nat)) = false := decide_eq_false (by omega)
            by_cases q2 : 40 < nl
            · have HE := Lib.hid (show R = false from by
                rw [HR.out, show ds.all okD = false from all_not hlt (by rw [← HX.out]; unfold okD; simp [hls]; omega)]; simp)
              have d3 : decide (40 < nl) = true := decide_eq_true q2
              have d4 : decide ((40 : Int) < (nl : Nat)) = true := decide_eq_true (by omega)
              clear hrow hxo hx hls hll
              go_wp2_with fail
              go_ret
              exact ⟨by rw [HE.out]; rfl, HBW.out.trans ((HBR.out.alloc HBR.out.size _).mono HBW.out.size)⟩
            · have d3 : decide (40 < nl) = false := decide_eq_false q2
              have d4 : decide ((40 : Int) < (nl : Nat)) = false := decide_eq_false (by omega)
              have HN := Lib.hid (all_take hlt HAL.out (by rw [← HX.out]; unfold okD; simp [hls]; omega))
              clear hrow hxo hx hls hll
              go_wp2_with fail
              exact ⟨⟨k + 1, by omega, by go_num, HBR.out.alloc HBR.out.size _, HN.out⟩, by simp [intOf]; omega⟩
        · have HN := Lib.hid (show ds.all okD = true from by have := HAL.out; rwa [List.take_of_length_le (by omega)] at this)
          have hq2 := (HBR.out.block w.heap.size (Array.getElem?_eq_some_iff.1 HQ.out).1).trans HQ.out
          obtain ⟨q0, q1, q2, q3, q4⟩ := cellsC hq2
          clear hq2
          have HE := Lib.hid (show R = (decide (is.length ≤ 40) && decide (ds.length ≤ 30)) from by rw [HR.out, HNI.out, HN.out]; rfl)
          obtain ⟨u, hu⟩ : ∃ u, decide (is.length ≤ 40) = u := ⟨_, rfl⟩
          obtain ⟨v, hv⟩ : ∃ v, decide (ds.length ≤ 30) = v := ⟨_, rfl⟩
          have hu2 : decide ((is.length : Int) ≤ 40) = u := by rw [← hu, decide_eq_decide]; omega
          have hv2 : decide ((ds.length : Int) ≤ 30) = v := by rw [← hv, decide_eq_decide]; omega
          rw [hu, hv] at HE
          cases u
          · go_wp2_with fail
            go_ret
            exact ⟨by rw [HE.out]; simp, HBW.out.trans (HBR.out.mono HBW.out.size)⟩
          · go_wp2_with fail
            go_ret
            exact ⟨by rw [HE.out]; simp, HBW.out.trans (HBR.out.mono HBW.out.size)⟩
end Go.Proofs.YtdnfoeoiommclaaDoor

/- Instances: copies. -/
namespace Go.Proofs.YtdnfoeoiommclaaDoor
open Go Go.RowKit
set_option linter.unusedVariables false
set_option linter.unusedSimpArgs false

theorem RdV.src {P : Program} {t e' : TypeId} (hk : P.underlying t = some (.slice e')) {w : World} {v : Value} {cs : List Value} (h : RdV w v cs) (ho : ∀ u ∈ cs, u.oneCell' = true) : Src P 1 t v cs.length cs w := by
  obtain ⟨p, c, rfl, h1, h2, h3, h4⟩ := h
  cases p with
  | none =>
    have := h3 rfl
    have h0 : cs.length = 0 := by omega
    have : cs = [] := List.eq_nil_of_length_eq_zero h0
    subst this
    exact Src.ofNil w hk c
  | some a =>
    refine Src.ofSlice w hk a _ c cs (by simp) (fun j u hj => ?_) ho
    have hjl := (List.getElem?_eq_some_iff.1 hj).1
    obtain ⟨b, o, hp, hx⟩ := h4 (by omega)
    obtain rfl : a = ⟨b, o, none⟩ := by simpa using hp
    have := hx j hjl
    rw [List.getElem?_eq_getElem hjl] at hj
    rw [Addr.add_lit, this]
    exact hj
theorem icells_one (xs : List Int) : ∀ u ∈ icells xs, u.oneCell' = true := by
  intro u hu
  simp only [icells, List.mem_map] at hu
  obtain ⟨b, _, rfl⟩ := hu
  rfl
theorem infoInt : (Tryd.prog.info? 3).map (fun i => (i.zero, i.size, i.bytes)) = some (some (.int .i64 0), 1, 8) := by kernel_rfl

theorem two_old (w : World) (o o2 : Obj) : ((w.alloc o).alloc o2).heap[w.heap.size]? = some o := (Below.heap_alloc _ _ _ (by simp)).trans (heap_alloc_new w o)
theorem two_new (w : World) (o o2 : Obj) : ((w.alloc o).alloc o2).heap[w.heap.size + 1]? = some o2 := by
  have := heap_alloc_new (w.alloc o) o2
  rwa [World.size_alloc] at this
theorem cells6 {w : World} {b : Nat} {c0 c1 c2 c3 c4 c5 : Value} {T : TypeId} (h : w.heap[b]? = some (.cells #[c0, c1, c2, c3, c4, c5] T (0, 0))) :
    w.cell? ⟨b, 0, none⟩ = some c0 ∧ w.cell? ⟨b, 1, none⟩ = some c1 ∧ w.cell? ⟨b, 2, none⟩ = some c2 ∧ w.cell? ⟨b, 3, none⟩ = some c3 ∧ w.cell? ⟨b, 4, none⟩ = some c4 ∧ w.cell? ⟨b, 5, none⟩ = some c5 ∧ (∀ o, w.frozen? ⟨b, o, none⟩ = false) := by
  refine ⟨?_, ?_, ?_, ?_, ?_, ?_, fun o => ?_⟩ <;> simp [World.cell?, World.frozen?, h]

theorem OwnS.up {w : World} {b b' : Nat} {e : TypeId} {size : Nat} {v : Value} {n : Nat} {xs : List Value} (h : OwnS w b e size v n xs) (hb : b' ≤ b) : OwnS w b' e size v n xs := by
  refine ⟨h.1, h.2.imp id ?_⟩
  rintro ⟨g, off, cap, cur, h1, h2, h3⟩
  exact ⟨g, off, cap, cur, h1, by omega, h3⟩
theorem OwnS.base {w : World} {b : Nat} {e : TypeId} {size : Nat} {v : Value} {n : Nat} {xs : List Value} (h : OwnS w b e size v n xs) : ∀ g, v.ownBlock = some g → b ≤ g := by
  intro g hg
  rcases h.2 with ⟨rfl, _⟩ | ⟨g', off, cap, cur, rfl, h2, h3⟩
  · simp [Value.ownBlock] at hg
  · simp [Value.ownBlock] at hg
    omega
/-- An instance stored into a box, cell for cell. -/
abbrev putI (w : World) (b : Nat) (c0 c1 c2 c3 c4 c5 : Value) : World :=
  ((((((w.setCell ⟨b, 0, none⟩ c0).setCell ⟨b, 1, none⟩ c1).setCell ⟨b, 2, none⟩ c2).setCell ⟨b, 3, none⟩ c3).setCell ⟨b, 4, none⟩ c4).setCell ⟨b, 5, none⟩ c5)
theorem putI_at {w : World} {b : Nat} {z0 z1 z2 z3 z4 z5 : Value} {T : TypeId} (h : w.heap[b]? = some (.cells #[z0, z1, z2, z3, z4, z5] T (0, 0))) (c0 c1 c2 c3 c4 c5 : Value) :
    (putI w b c0 c1 c2 c3 c4 c5).heap[b]? = some (.cells #[c0, c1, c2, c3, c4, c5] T (0, 0)) := by
  unfold putI
  simp [World.setCell, Array.getElem?_modify, h]
theorem putI_below {w0 w : World} {B b : Nat} (h : Below B w0 w) (hb : B ≤ b) (c0 c1 c2 c3 c4 c5 : Value) : Below B w0 (putI w b c0 c1 c2 c3 c4 c5) :=
  (((((h.setCell (p := ⟨b, 0, none⟩) hb c0).setCell (p := ⟨b, 1, none⟩) hb c1).setCell (p := ⟨b, 2, none⟩) hb c2).setCell (p := ⟨b, 3, none⟩) hb c3).setCell (p := ⟨b, 4, none⟩) hb c4).setCell (p := ⟨b, 5, none⟩) hb c5
theorem putI_far (w : World) (b g : Nat) (hg : g ≠ b) (c0 c1 c2 c3 c4 c5 : Value) : (putI w b c0 c1 c2 c3 c4 c5).heap[g]? = w.heap[g]? := by
  unfold putI
  simp [World.setCell, Array.getElem?_modify, Ne.symm hg]
theorem infoI6 : (Tryd.prog.info? 51).map (·.size) = some 6 := by kernel_rfl

/-- A copy of an instance: the same, but for where the latches lie. -/
def CopyAs (w : World) (x : IV) (e : Ending) (w' : World) : Prop :=
  ∃ v', e = .returned (.agg #[.string x.path, .string x.item, .int .i64 x.st, .int .i64 x.bf, v', .int .i64 x.due]) ∧ OwnS w' w.heap.size 3 1 v' x.ls.length (icells x.ls) ∧ Below w.heap.size w w'

set_option maxRecDepth 100000 in
set_option maxHeartbeats 1000000 in
theorem copied_c (w : World) (x : IV) (h : IVok w x) (hs : x.ls.length ≤ 40) : Calls Tryd.prog 18 #[.agg x.cells.toArray] w (CopyAs w x) := by
  obtain ⟨i0, hi, hz0, hz1, hz2⟩ := info_parts infoInt
  obtain ⟨path, item, st, bf, lv, ls, due⟩ := x
  have hlen : (icells ls).length = ls.length := by simp [icells]
  have HS := Lib.hid (fun (W : World) (hb : Below w.heap.size w W) => (h.rl.below hb).src (t := 49) Tryd.underlying49 (icells_one ls))
  dsimp only at HS hs
  obtain ⟨p, cp, hlv⟩ := h.rl.form
  dsimp only at hlv
  subst hlv
  rw [hlen] at HS ⊢
  unfold IV.cells
  dsimp only
  have HB2 := Lib.hid (fun o o2 => (box_bel' w o).alloc (box_bel' w o).size o2)
  have HSZ := Lib.hid hs
  clear h hlen hs
  go_enter Tryd.func18, Tryd.ntmps18
  go_wp2_with (at_builtin; refine wpList_append_src rfl _ _ 49 49 rfl (w.heap.size + 2) 3 i0 (.int .i64 0) 8 Tryd.underlying49 hi hz0 hz1 hz2 rfl (.slice none 0 0) 0 [] rfl (World.ownsRow_nil _ _ _ _) _ ls.length (icells ls) rfl (HS.out _ (HB2.out _ _)) ?c1 ?c2 ?c3 ?_)
  case c1 => have := HSZ.out; unfold maxLen; omega
  case c2 => have := HSZ.out; omega
  case c3 => simp
  intro v' w1 hown hgrow
  have HOW := Lib.hid (OwnS.ofRow hown)
  have HB3 := Lib.hid ((HB2.out _ _).grown hgrow (by simp; omega) (fun k ek => by cases ek))
  have HG := Lib.hid hgrow
  obtain ⟨pa, ca, hv', _⟩ := (OwnS.ofRow hown).form
  subst hv'
  have hg := hgrow.block
  obtain ⟨c0, c1, c2, c3, c4, c5, cz⟩ := cells6 ((hg w.heap.size (by simp; omega) (by simp [Value.ownBlock])).trans (two_old w _ _))
  obtain ⟨r0, r1, r2, r3, r4, r5, rz⟩ := cells6 ((hg (w.heap.size + 1) (by simp) (by simp [Value.ownBlock])).trans (two_new w _ _))
  clear hown hgrow hg
  go_wp2_with fail
  have hx := (HG.out.block (w.heap.size + 1) (by simp) (by simp [Value.ownBlock])).trans (two_new w _ _)
  have hx2 := (Below.heap_setCell w1 ⟨w.heap.size, 4, none⟩ (.slice pa ls.length ca) (w.heap.size + 1) (by simp)).trans hx
  refine bodyPost_ret (results_cell_row Tryd.results18 _ _ (w.heap.size + 1) 51 _ (0, 0) _ rfl (putI_at hx2 _ _ _ _ _ _) Tryd.underlying51 rfl infoI6) rfl ?_
  refine ⟨_, rfl, ?_, putI_below (HB3.out.setCell (p := ⟨w.heap.size, 4, none⟩) (Nat.le_refl _) _) (by omega) _ _ _ _ _ _⟩
  refine (HOW.out.keep (fun g hg => ?_)).up (by omega)
  have hge := HOW.out.base g hg
  rw [putI_far _ _ _ (by omega)]
  exact Below.heap_setCell _ _ _ _ (by show g ≠ w.heap.size; omega)
end Go.Proofs.YtdnfoeoiommclaaDoor

/- Instances: the reference's copies; whether two are the same. -/
namespace Go.Proofs.YtdnfoeoiommclaaDoor
open Go Go.RowKit
set_option linter.unusedVariables false
set_option linter.unusedSimpArgs false

theorem ownS_empty (w : World) (base : Nat) (e : TypeId) (size : Nat) (hb : base ≤ w.heap.size) : OwnS (w.alloc (.cells #[] e)) base e size (.slice (some ⟨w.heap.size, 0, none⟩) 0 0) 0 [] :=
  ⟨by simp, .inr ⟨w.heap.size, 0, 0, #[], rfl, hb, heap_alloc_new _ _, Nat.le_refl _, by unfold maxLen; omega, by simp, by simp⟩⟩
theorem three_old (w : World) (o o2 o3 : Obj) : (((w.alloc o).alloc o2).alloc o3).heap[w.heap.size]? = some o := (Below.heap_alloc _ _ _ (by simp; omega)).trans (two_old w o o2)
theorem three_mid (w : World) (o o2 o3 : Obj) : (((w.alloc o).alloc o2).alloc o3).heap[w.heap.size + 1]? = some o2 := (Below.heap_alloc _ _ _ (by simp)).trans (two_new w o o2)

end Go.Proofs.YtdnfoeoiommclaaDoor

/- Instances: whether two are the same (the reference's). Written by tools/genyf.py. -/
namespace Go.Proofs.YtdnfoeoiommclaaDoor
open Go Go.RowKit
set_option linter.unusedVariables false
set_option linter.unusedSimpArgs false

def sameI (x y : IV) : Bool := (x.path.toList == y.path.toList) && ((x.item.toList == y.item.toList) && ((x.st == y.st) && ((x.bf == y.bf) && ((x.due == y.due) && (decide (x.ls.length = y.ls.length) && (x.ls == y.ls))))))
theorem RdV.at {w : World} {p : Option Addr} {n c : Nat} {cs : List Value} (h : RdV w (.slice p n c) cs) {k : Nat} (hk : k < cs.length) {u : Value} (hu : cs[k]? = some u) : ∃ b o, p = some ⟨b, o, none⟩ ∧ b < w.heap.size ∧ w.cell? ⟨b, o + k, none⟩ = some u := by
  obtain ⟨p', c', e, h1, h2, h3, h4⟩ := h
  simp only [Value.slice.injEq] at e
  obtain ⟨rfl, _, rfl⟩ := e
  obtain ⟨b, o, rfl, hx⟩ := h4 (by omega)
  have := hx k hk
  refine ⟨b, o, rfl, World.block_lt_of_cell? w _ this, ?_⟩
  rw [this, ← hu, List.getElem?_eq_getElem hk]

set_option maxRecDepth 100000 in
set_option maxHeartbeats 2000000 in
theorem rsame_c (w : World) (x y : IV) (hx : IVok w x) (hy : IVok w y) : Calls Tryd.prog 15 #[.agg x.cells.toArray, .agg y.cells.toArray] w fun e w' => e = .returned (.bool (sameI x y)) ∧ Below w.heap.size w w' := by
  obtain ⟨R, hR⟩ : ∃ R, R = sameI x y := ⟨_, rfl⟩
  have HR := Lib.hid hR
  rw [← hR]
  clear hR
  obtain ⟨path, item, st, bf, lv, ls, due⟩ := x
  obtain ⟨path2, item2, st2, bf2, lv2, ls2, due2⟩ := y
  unfold sameI at HR
  have hr1 := hx.rl
  have hr2 := hy.rl
  dsimp only at HR hr1 hr2
  obtain ⟨p, cp, hlv⟩ := hr1.form
  obtain ⟨p2, cp2, hlv2⟩ := hr2.form
  subst hlv hlv2
  have hlen : (icells ls).length = ls.length := by simp [icells]
  have hlen2 : (icells ls2).length = ls2.length := by simp [icells]
  rw [hlen] at hr1 ⊢
  rw [hlen2] at hr2 ⊢
  have hn1 : ls.length ≤ 9223372036854775807 := by obtain ⟨p', c', e, h1, h2, _⟩ := hr1; rw [hlen] at h1; unfold maxLen at h2; omega
  have hn2 : ls2.length ≤ 9223372036854775807 := by obtain ⟨p', c', e, h1, h2, _⟩ := hr2; rw [hlen2] at h1; unfold maxLen at h2; omega
  unfold IV.cells
  dsimp only
  have HB2 := Lib.hid (fun o o2 => (box_bel' w o).alloc (box_bel' w o).size o2)
  have HC1 := Lib.hid (fun k (hk : k < ls.length) => hr1.at (k := k) (u := .int .i64 ls[k]) (by rw [hlen]; exact hk) (by simp [icells, hk]))
  have HC2 := Lib.hid (fun k (hk : k < ls2.length) => hr2.at (k := k) (u := .int .i64 ls2[k]) (by rw [hlen2]; exact hk) (by simp [icells, hk]))
  obtain ⟨q1, h1⟩ : ∃ q, (path.toList == path2.toList) = q := ⟨_, rfl⟩
  obtain ⟨q2, h2⟩ : ∃ q, (item.toList == item2.toList) = q := ⟨_, rfl⟩
  obtain ⟨q3, h3⟩ : ∃ q, (st == st2) = q := ⟨_, rfl⟩
  obtain ⟨q4, h4⟩ : ∃ q, (bf == bf2) = q := ⟨_, rfl⟩
  obtain ⟨q5, h5⟩ : ∃ q, (due == due2) = q := ⟨_, rfl⟩
  obtain ⟨q6, h6⟩ : ∃ q, decide (ls.length = ls2.length) = q := ⟨_, rfl⟩
  have h6' : ((ls.length : Int) == (ls2.length : Int)) = q6 := by
    rw [← h6]
    by_cases e : ls.length = ls2.length
    · rw [decide_eq_true e, e]; simp
    · rw [decide_eq_false e, beq_eq_false_iff_ne]; omega
  have h6'' : (ls.length == ls2.length) = q6 := by
    rw [← h6]
    by_cases e : ls.length = ls2.length
    · rw [decide_eq_true e, e]; simp
    · rw [decide_eq_false e, beq_eq_false_iff_ne]; exact e
  rw [h1, h2, h3, h4, h5, h6] at HR
  replace h3 : (st != st2) = !q3 := by rw [bne, h3]
  replace h4 : (bf != bf2) = !q4 := by rw [bne, h4]
  replace h5 : (due != due2) = !q5 := by rw [bne, h5]
  replace h6' : ((ls.length : Int) != (ls2.length : Int)) = !q6 := by rw [bne, h6']
  clear hx hy hr1 hr2 hlen hlen2
  cases q1
  · have HE := Lib.hid (show R = false from by rw [HR.out]; simp)
    clear h2 h3 h4 h5 h6 h6' h6''
    go_enter Tryd.func15, Tryd.ntmps15
    go_wp2_with fail
    go_ret
    exact ⟨by rw [HE.out]; rfl, HB2.out _ _⟩
  · skip
    cases q2
    · have HE := Lib.hid (show R = false from by rw [HR.out]; simp)
      clear h3 h4 h5 h6 h6' h6''
      go_enter Tryd.func15, Tryd.ntmps15
      go_wp2_with fail
      go_ret
      exact ⟨by rw [HE.out]; rfl, HB2.out _ _⟩
    · skip
      cases q3
      · have HE := Lib.hid (show R = false from by rw [HR.out]; simp)
        clear h4 h5 h6 h6' h6''
        go_enter Tryd.func15, Tryd.ntmps15
        go_wp2_with fail
        go_ret
        exact ⟨by rw [HE.out]; rfl, HB2.out _ _⟩
      · skip
        cases q4
        · have HE := Lib.hid (show R = false from by rw [HR.out]; simp)
          clear h5 h6 h6' h6''
          go_enter Tryd.func15, Tryd.ntmps15
          go_wp2_with fail
          go_ret
          exact ⟨by rw [HE.out]; rfl, HB2.out _ _⟩
        · skip
          cases q5
          · have HE := Lib.hid (show R = false from by rw [HR.out]; simp)
            clear h6 h6' h6''
            go_enter Tryd.func15, Tryd.ntmps15
            go_wp2_with fail
            go_ret
            exact ⟨by rw [HE.out]; rfl, HB2.out _ _⟩
          · skip
            cases q6
            · have HE := Lib.hid (show R = false from by rw [HR.out]; simp)
              go_enter Tryd.func15, Tryd.ntmps15
              go_wp2_with fail
              go_ret
              exact ⟨by rw [HE.out]; rfl, HB2.out _ _⟩
            · have hll : ls.length = ls2.length := by simpa using h6
              have HLL := Lib.hid hll
              have h7 : ((ls.length : Int) != (ls2.length : Int)) = false := h6'
              clear h6 h6' h6'' hll hn2
              go_enter Tryd.func15, Tryd.ntmps15
              go_wp2_with fail
              clear h1 h2 h3 h4 h5 h7
              go_loopw [51] (fun i wr => ∃ k d : Nat, k ≤ ls.length ∧ i = .int .i64 k ∧ ls.take k = ls2.take k ∧ wr = ((w.alloc (.cells #[.string path, .string item, .int .i64 st, .int .i64 bf, .slice p ls.length cp, .int .i64 due] 51)).alloc (.cells #[.string path2, .string item2, .int .i64 st2, .int .i64 bf2, .slice p2 ls2.length cp2, .int .i64 due2] 51)).drewN d) (fun i _ => ls.length - (intOf i).toNat)
              case atStart => exact ⟨0, 0, by omega, rfl, by simp, rfl⟩
              case round =>
                obtain ⟨k, d, hk, rfl, ht, rfl⟩ := hrel
                have HT := Lib.hid ht
                clear ht
                by_cases hlt : k < ls.length
                · have hd : decide ((k : Int) < (ls.length : Int)) = true := decide_eq_true (by omega)
                  have hlt2 : k < ls2.length := by rw [← HLL.out]; exact hlt
                  obtain ⟨b1, o1, rfl, hb1, hc1⟩ := HC1.out k hlt
                  obtain ⟨b2, o2, rfl, hb2, hc2⟩ := HC2.out k hlt2
                  have hlt3 : k < ls2.length := hlt2
                  have HG1 := Lib.hid (List.take_succ_eq_append_getElem hlt)
                  have HG2 := Lib.hid (List.take_succ_eq_append_getElem hlt2)
                  obtain ⟨a1, ha1⟩ : ∃ a, ls[k] = a := ⟨_, rfl⟩
                  obtain ⟨a2, ha2⟩ : ∃ a, ls2[k] = a := ⟨_, rfl⟩
                  have HA1 := Lib.hid ha1
                  have HA2 := Lib.hid ha2
                  rw [ha1] at hc1
                  rw [ha2] at hc2
                  clear ha1 ha2
                  have hs1 : ∀ o o2 : Obj, ((w.alloc o).alloc o2).cell? ⟨b1, o1 + k, none⟩ = some (.int .i64 a1) := fun o o2 => by go_simp
                  have hs2 : ∀ x y : Obj, ((w.alloc x).alloc y).cell? ⟨b2, o2 + k, none⟩ = some (.int .i64 a2) := fun x y => by go_simp
                  by_cases he : a1 = a2
                  · have HX := Lib.hid (show ls.take (k + 1) = ls2.take (k + 1) from by rw [HG1.out, HG2.out, HT.out, HA1.out, HA2.out, he])
                    have hq : (a1 != a2) = false := by rw [he]; simp
                    clear he
                    go_wp2_with fail
                    go_quiet (fail)
                    go_wp2_with fail
                    go_roundw
                    case rel => exact ⟨k + 1, _, by omega, by go_num, HX.out, rfl⟩
                    case measure => simp [intOf]; omega
                  · have HE := Lib.hid (show R = false from by
                      rw [HR.out]
                      simp only [Bool.true_and, beq_eq_false_iff_ne]
                      intro e
                      subst e
                      exact he (HA1.out.symm.trans HA2.out))
                    have hq : (a1 != a2) = true := by simpa using he
                    clear he
                    go_wp2_with fail
                    go_quiet (fail)
                    go_wp2_with fail
                    go_ret
                    exact ⟨by rw [HE.out]; rfl, below_drewN (below_drewN (HB2.out _ _) _) _⟩
                · have hd : decide ((k : Int) < (ls.length : Int)) = false := decide_eq_false (by omega)
                  have HE := Lib.hid (show R = true from by
                    rw [HR.out]
                    have h := HT.out
                    rw [show k = ls.length from by omega] at h
                    rw [List.take_length, HLL.out, List.take_length] at h
                    simp [h])
                  go_wp2_with fail
                  go_ret
                  exact ⟨by rw [HE.out]; rfl, below_drewN (HB2.out _ _) _⟩
end Go.Proofs.YtdnfoeoiommclaaDoor

/- Cases: an instance of a path (the reference's). Written by tools/genyg.py. -/
namespace Go.Proofs.YtdnfoeoiommclaaDoor
open Go Go.RowKit
set_option linter.unusedVariables false
set_option linter.unusedSimpArgs false

/-- What a search for an instance gives. -/
def FoundAs (w : World) (o : Option IV) (e : Ending) (w' : World) : Prop :=
  match o with
  | none => e = .returned (.tuple #[.agg #[.string ⟨#[]⟩, .string ⟨#[]⟩, .int .i64 0, .int .i64 0, .slice none 0 0, .int .i64 0], .bool false]) ∧ Below w.heap.size w w'
  | some x => ∃ v', e = .returned (.tuple #[.agg #[.string x.path, .string x.item, .int .i64 x.st, .int .i64 x.bf, v', .int .i64 x.due], .bool true]) ∧ OwnS w' w.heap.size 3 1 v' x.ls.length (icells x.ls) ∧ Below w.heap.size w w'
def hasP (p : ByteArray) (x : IV) : Bool := x.path.toList == p.toList
theorem find_hit {l : List IV} {p : ByteArray} {k : Nat} (h : k < l.length) (ht : (l.take k).find? (hasP p) = none) (hb : hasP p l[k] = true) : l.find? (hasP p) = some l[k] := by
  conv => lhs; rw [← List.take_append_drop k l]
  rw [List.find?_append, ht, List.drop_eq_getElem_cons h, List.find?_cons_of_pos hb]
  rfl
theorem find_next {l : List IV} {p : ByteArray} {k : Nat} (h : k < l.length) (ht : (l.take k).find? (hasP p) = none) (hb : hasP p l[k] = false) : (l.take (k + 1)).find? (hasP p) = none := by
  rw [List.take_succ_eq_append_getElem h, List.find?_append, ht, List.find?_cons_of_neg (by rw [hb]; simp)]
  rfl

end Go.Proofs.YtdnfoeoiommclaaDoor

/- Cases: where an instance of a path is, the instance of a path (the program's). Written by tools/genyh.py. -/
namespace Go.Proofs.YtdnfoeoiommclaaDoor
open Go Go.RowKit Go.Shelf
set_option linter.unusedVariables false
set_option linter.unusedSimpArgs false

/-- An index of the first that has it. -/
def IdxIs (f : IV → Bool) (l : List IV) (z : Int) : Prop := (z = -1 ∧ l.find? f = none) ∨ ∃ (k : Nat) (h : k < l.length), z = (k : Int) ∧ l.find? f = some l[k]
theorem ffind_hit {f : IV → Bool} {l : List IV} {k : Nat} (h : k < l.length) (ht : (l.take k).find? f = none) (hb : f l[k] = true) : l.find? f = some l[k] := by
  conv => lhs; rw [← List.take_append_drop k l]
  rw [List.find?_append, ht, List.drop_eq_getElem_cons h, List.find?_cons_of_pos hb]
  rfl
theorem ffind_next {f : IV → Bool} {l : List IV} {k : Nat} (h : k < l.length) (ht : (l.take k).find? f = none) (hb : f l[k] = false) : (l.take (k + 1)).find? f = none := by
  rw [List.take_succ_eq_append_getElem h, List.find?_append, ht, List.find?_cons_of_neg (by rw [hb]; simp)]
  rfl

end Go.Proofs.YtdnfoeoiommclaaDoor

/- Cases: the instance of a path (the program's). Written by tools/genyi.py. -/
namespace Go.Proofs.YtdnfoeoiommclaaDoor
open Go Go.RowKit
set_option linter.unusedVariables false
set_option linter.unusedSimpArgs false

end Go.Proofs.YtdnfoeoiommclaaDoor

/- Cases: what is above a path, both sides. Written by tools/genyj.py. -/
namespace Go.Proofs.YtdnfoeoiommclaaDoor
open Go Go.RowKit
set_option linter.unusedVariables false
set_option linter.unusedSimpArgs false

/-- What is above a path. -/
def upB (s : ByteArray) : ByteArray := s.extract 0 (max 0 (Lib.lastIndex s.data.toList [47])).toNat
theorem upB_no (s : ByteArray) (h : Lib.lastIndex s.data.toList [47] = -1) : upB s = ByteArray.empty := by unfold upB; rw [h]; show s.extract 0 0 = _; simp
theorem upB_at (s : ByteArray) (k : Nat) (h : Lib.lastIndex s.data.toList [47] = (k : Int)) : upB s = s.extract 0 k := by unfold upB; rw [h, show (max (0 : Int) (k : Int)).toNat = k from by omega]
theorem last47 (s : ByteArray) : Lib.lastIndex s.data.toList [47] = -1 ∨ ∃ k : Nat, Lib.lastIndex s.data.toList [47] = (k : Int) ∧ k ≤ s.size := by
  rcases lastIs_lib s.data.toList 47 with ⟨h, _⟩ | ⟨k, h, hk, _⟩
  · exact .inl h
  · exact .inr ⟨k, h, by rw [size_list] at hk; omega⟩

theorem one_cut47 (s : ByteArray) (h : 0 < s.size) : s.extract 0 1 = ⟨#[s[0]]⟩ := by
  rw [cutTo]
  have := drop_next s 0 h
  rw [List.drop_zero] at this
  rw [this]
  rfl
def slB : List UInt8 → Bool
  | c :: _ => decide (c.toNat = 47)
  | [] => false
/-- Whether a path is below one. -/
def underB (x up : ByteArray) : Bool := decide (up.size < x.size) && ((x.extract 0 (up.size + 1)).toList == (up ++ ⟨#[47]⟩).toList)
theorem cut_list (s : ByteArray) (k : Nat) : (s.extract 0 k).toList = s.data.toList.take k := by rw [ByteArray.toList_eq, cutTo]
theorem cat_list (u : ByteArray) : (u ++ ⟨#[47]⟩ : ByteArray).toList = u.data.toList ++ [47] := by rw [ByteArray.toList_eq, ByteArray.data_append]; simp
theorem under_no (x u : ByteArray) (h : Lib.hasPrefix x.data.toList u.data.toList = false) : underB x u = false := by
  unfold underB
  rw [cut_list, cat_list, Bool.and_eq_false_iff]
  refine .inr ?_
  rw [beq_eq_false_iff_ne]
  intro e
  have : u.data.toList <+: x.data.toList := by
    refine List.IsPrefix.trans ⟨[47], e.symm ▸ rfl⟩ (List.take_prefix (u.size + 1) x.data.toList)
  unfold Lib.hasPrefix at h
  rw [List.isPrefixOf_iff_prefix.2 this] at h
  cases h
theorem under_yes (x u : ByteArray) (h : Lib.hasPrefix x.data.toList u.data.toList = true) : underB x u = slB (Lib.trimPrefix x.data.toList u.data.toList) := by
  unfold Lib.trimPrefix
  rw [if_pos h]
  unfold Lib.hasPrefix at h
  obtain ⟨t, ht⟩ := List.isPrefixOf_iff_prefix.1 h
  unfold underB
  rw [cut_list, cat_list, ← size_list x, ← size_list u, ← ht, List.drop_left]
  cases t with
  | nil => simp [slB]
  | cons c t =>
    have h1 : (u.data.toList ++ c :: t).take (u.data.toList.length + 1) = u.data.toList ++ [c] := by
      rw [show u.data.toList ++ c :: t = (u.data.toList ++ [c]) ++ t from by simp]
      rw [List.take_left' (by simp)]
    rw [h1, decide_eq_true (by simp), Bool.true_and]
    show _ = decide (c.toNat = 47)
    by_cases hc : c.toNat = 47
    · rw [decide_eq_true hc, show c = 47 from UInt8.toNat_inj.1 hc]; simp
    · rw [decide_eq_false hc, beq_eq_false_iff_ne]
      intro e
      have := List.append_cancel_left e
      simp only [List.cons.injEq, and_true] at this
      exact hc (by rw [this]; rfl)

end Go.Proofs.YtdnfoeoiommclaaDoor

/- Cases: lists of instances that a call made; those right below a path (the reference's). Written by tools/genyk.py. -/
namespace Go.Proofs.YtdnfoeoiommclaaDoor
open Go Go.RowKit
set_option linter.unusedVariables false
set_option linter.unusedSimpArgs false

/-- An instance without the place of its latches. -/
def IV.bare (x : IV) : IV := { x with lv := .slice none 0 0 }
def flatI (l : List IV) : List Value := l.flatMap IV.cells
theorem flatI_snoc (l : List IV) (x : IV) : flatI (l ++ [x]) = flatI l ++ x.cells := by simp [flatI]
/-- A list of instances in memory from a block on. -/
def InstsOwn (w : World) (base : Nat) (v : Value) (l : List IV) : Prop :=
  ∃ l' : List IV, l'.map IV.bare = l.map IV.bare ∧ w.ownsRow base 51 6 v l'.length (flatI l') ∧ ∀ x ∈ l', OwnS w base 3 1 x.lv x.ls.length (icells x.ls)
theorem InstsOwn.nil (w : World) (base : Nat) : InstsOwn w base (.slice none 0 0) [] := ⟨[], rfl, World.ownsRow_nil _ _ _ _, by simp⟩
theorem InstsOwn.len {w : World} {base : Nat} {v : Value} {l : List IV} (h : InstsOwn w base v l) : ∃ l' : List IV, l'.length = l.length ∧ w.ownsRow base 51 6 v l.length (flatI l') := by
  obtain ⟨l', h1, h2, _⟩ := h
  have hl : l'.length = l.length := by simpa using congrArg List.length h1
  exact ⟨l', hl, hl ▸ h2⟩
theorem ownr_lt {w : World} {base n size : Nat} {e : TypeId} {v : Value} {xs : List Value} (h : w.ownsRow base e size v n xs) : ∀ g, v.ownBlock = some g → base ≤ g ∧ g < w.heap.size := by
  intro k hk
  rcases h.2 with ⟨rfl, _⟩ | ⟨g, cap, cur, rfl, hb, hg, _⟩
  · simp [Value.ownBlock] at hk
  · simp [Value.ownBlock] at hk
    subst hk
    exact ⟨hb, (Array.getElem?_eq_some_iff.1 hg).1⟩
theorem ownr_keep {w w' : World} {base n size : Nat} {e : TypeId} {v : Value} {xs : List Value} (h : w.ownsRow base e size v n xs) (hb : ∀ g, v.ownBlock = some g → w'.heap[g]? = w.heap[g]?) : w'.ownsRow base e size v n xs := by
  refine ⟨h.1, h.2.imp id ?_⟩
  rintro ⟨g, cap, cur, rfl, h2, h3, h4⟩
  exact ⟨g, cap, cur, rfl, h2, (hb g rfl).trans h3, h4⟩
theorem ownr_below {w w' : World} {base n size : Nat} {e : TypeId} {v : Value} {xs : List Value} (h : w.ownsRow base e size v n xs) (hb : Below w.heap.size w w') : w'.ownsRow base e size v n xs :=
  ownr_keep h fun g hg => hb.block g (ownr_lt h g hg).2
theorem ownS_below {w w' : World} {base : Nat} {e : TypeId} {size : Nat} {v : Value} {n : Nat} {xs : List Value} (h : OwnS w base e size v n xs) (hb : Below w.heap.size w w') : OwnS w' base e size v n xs :=
  h.keep fun g hg => hb.block g (h.lt g hg)
theorem InstsOwn.below {w w' : World} {base : Nat} {v : Value} {l : List IV} (h : InstsOwn w base v l) (hb : Below w.heap.size w w') : InstsOwn w' base v l := by
  obtain ⟨l', h1, h2, h3⟩ := h
  exact ⟨l', h1, ownr_below h2 hb, fun x hx => ownS_below (h3 x hx) hb⟩
/-- Rows of two types lie apart. -/
theorem own_apart {w : World} {b b2 n m s1 s2 : Nat} {e e2 : TypeId} {v v2 : Value} {xs ys : List Value} (hne : e ≠ e2) (h : w.ownsRow b e s1 v n xs) (h2 : OwnS w b2 e2 s2 v2 m ys) : ∀ g, v2.ownBlock = some g → some g ≠ v.ownBlock := by
  intro g hg
  rcases h.2 with ⟨rfl, _⟩ | ⟨g1, cap, cur, rfl, _, h3, _⟩
  · simp [Value.ownBlock]
  · rcases h2.2 with ⟨rfl, _⟩ | ⟨g2, off, cap2, cur2, rfl, _, h4, _⟩
    · simp [Value.ownBlock] at hg
    · simp [Value.ownBlock] at hg ⊢
      subst hg
      intro e
      subst e
      rw [h3] at h4
      simp only [Option.some.injEq, Obj.cells.injEq] at h4
      exact hne h4.2.1
theorem own_grow {W W' : World} {b b2 n m s1 s2 : Nat} {e e2 : TypeId} {v v2 : Value} {xs ys : List Value} (hne : e ≠ e2) (h : W.ownsRow b e s1 v n xs) (h2 : OwnS W b2 e2 s2 v2 m ys) (hg : W.grownBy W' v.ownBlock) : OwnS W' b2 e2 s2 v2 m ys :=
  h2.keep fun g hg2 => hg.block g (h2.lt g hg2) (own_apart hne h h2 g hg2)
theorem cells_new6 (W : World) (c0 c1 c2 c3 c4 c5 : Value) (T : TypeId) : ∀ (j : Nat) u, [c0, c1, c2, c3, c4, c5][j]? = some u → (W.alloc (.cells #[c0, c1, c2, c3, c4, c5] T)).cell? ((⟨W.heap.size, 0, none⟩ : Addr).add j) = some u := by
  intro j u hu
  rw [Addr.add_lit]
  simp only [World.cell?, heap_alloc_new, Nat.zero_add]
  simpa using hu
theorem infoInst : (Tryd.prog.info? 51).map (fun i => (i.zero, i.size, i.bytes)) = some (some (.agg #[.string ⟨#[]⟩, .string ⟨#[]⟩, .int .i64 0, .int .i64 0, .slice none 0 0, .int .i64 0]), 6, 80) := by kernel_rfl
/-- One more. -/
theorem InstsOwn.push {w W1 W3 W4 : World} {base : Nat} {v v2 : Value} {l : List IV} {y x : IV} {o : Obj} {l' : List IV} (h1 : l'.map IV.bare = l.map IV.bare) (h2 : w.ownsRow base 51 6 v l'.length (flatI l')) (h3 : ∀ x ∈ l', OwnS w base 3 1 x.lv x.ls.length (icells x.ls))
    (hb : Below w.heap.size w W3) (hx : OwnS W3 base 3 1 x.lv x.ls.length (icells x.ls)) (hxy : x.bare = y.bare)
    (hown : W4.ownsRow base 51 6 v2 (l'.length + 1) (flatI l' ++ x.cells)) (hg : (W3.alloc o).grownBy W4 v.ownBlock) : InstsOwn W4 base v2 (l ++ [y]) := by
  have h2' := ownr_below (ownr_below h2 hb) ((Below.refl _ W3).alloc (Nat.le_refl _) o)
  refine ⟨l' ++ [x], by simp [h1, hxy], by rw [flatI_snoc, List.length_append]; exact hown, fun z hz => ?_⟩
  rcases List.mem_append.1 hz with hz | hz
  · exact own_grow (by decide) h2' (ownS_below (ownS_below (h3 z hz) hb) ((Below.refl _ W3).alloc (Nat.le_refl _) o)) hg
  · rw [List.mem_singleton] at hz
    subst hz
    exact own_grow (by decide) h2' (ownS_below hx ((Below.refl _ W3).alloc (Nat.le_refl _) o)) hg
theorem filter_next {f : IV → Bool} {l : List IV} {k : Nat} (h : k < l.length) : (l.take (k + 1)).filter f = (l.take k).filter f ++ (if f l[k] = true then [l[k]] else []) := by
  rw [List.take_succ_eq_append_getElem h, List.filter_append]
  congr 1
  by_cases hf : f l[k] = true
  · rw [if_pos hf, List.filter_cons_of_pos hf]; rfl
  · rw [if_neg hf, List.filter_cons_of_neg hf]; rfl

def kidP (p : ByteArray) (x : IV) : Bool := (upB x.path).toList == p.toList
theorem InstsOwn.up {w : World} {base b' : Nat} {v : Value} {l : List IV} (h : InstsOwn w base v l) (hb : b' ≤ base) : InstsOwn w b' v l := by
  obtain ⟨l', h1, h2, h3⟩ := h
  refine ⟨l', h1, ⟨h2.1, h2.2.imp id ?_⟩, fun x hx => (h3 x hx).up hb⟩
  rintro ⟨g, cap, cur, e1, e2, e3⟩
  exact ⟨g, cap, cur, e1, Nat.le_trans hb e2, e3⟩

def belP (p : ByteArray) (x : IV) : Bool := underB x.path p

end Go.Proofs.YtdnfoeoiommclaaDoor

/- Cases: those that a function tells of (the program's). Written by tools/genyl.py. -/
namespace Go.Proofs.YtdnfoeoiommclaaDoor
open Go Go.RowKit Go.Shelf
set_option linter.unusedVariables false
set_option linter.unusedSimpArgs false

end Go.Proofs.YtdnfoeoiommclaaDoor

/- Cases: those right below a path, all below it (the program's). Written by tools/genym.py. -/
namespace Go.Proofs.YtdnfoeoiommclaaDoor
open Go Go.RowKit Go.Shelf
set_option linter.unusedVariables false
set_option linter.unusedSimpArgs false

end Go.Proofs.YtdnfoeoiommclaaDoor

/- Cases: lists of instances that a call made are read; two that are the same (dossierplain.SameInsts). Written by tools/genyn.py. -/
namespace Go.Proofs.YtdnfoeoiommclaaDoor
open Go Go.RowKit Go.Shelf
set_option linter.unusedVariables false
set_option linter.unusedSimpArgs false

theorem flatI_get (l : List IV) (k : Nat) (hk : k < l.length) (j : Nat) (hj : j < 6) : (flatI l)[k * 6 + j]? = (l[k].cells)[j]? := by
  induction l generalizing k with
  | nil => simp at hk
  | cons x r ih =>
    have hx : x.cells.length = 6 := rfl
    cases k with
    | zero =>
      show (x.cells ++ flatI r)[0 * 6 + j]? = _
      rw [List.getElem?_append_left (by omega), Nat.zero_mul, Nat.zero_add]
      rfl
    | succ k =>
      show (x.cells ++ flatI r)[(k + 1) * 6 + j]? = _
      rw [List.getElem?_append_right (by omega), show (k + 1) * 6 + j - x.cells.length = k * 6 + j from by omega, ih k (by simpa using hk)]
      rfl
theorem rdv_of_ownS {w : World} {base : Nat} {e : TypeId} {v : Value} {xs : List Value} (h : OwnS w base e 1 v xs.length xs) : RdV w v xs := by
  rcases h.2 with ⟨rfl, h0⟩ | ⟨g, off, cap, cur, hv, hb, hg, h1, h2, h3, h4⟩
  · rw [List.eq_nil_of_length_eq_zero h0]
    exact RdV.nil w
  · refine ⟨_, cap, hv, h1, h2, by simp, fun hp => ⟨g, off, rfl, fun i hi => ?_⟩⟩
    rw [h.cell hv i xs[i] (List.getElem?_eq_getElem hi)]
theorem InstsOwn.is {w w0 : World} {base : Nat} {v : Value} {l : List IV} (h : InstsOwn w base v l) (hl : ∀ x ∈ l, IVok w0 x) : ∃ l', InstsIs w v l' ∧ l'.map IV.bare = l.map IV.bare := by
  obtain ⟨l', h1, h2, h3⟩ := h
  refine ⟨l', ⟨?_, fun x hx => ?_⟩, h1⟩
  · rcases h2.2 with ⟨rfl, h0⟩ | ⟨g, cap, cur, hv, hb, hg, e1, e2, e3, e4⟩
    · rw [h0]
      exact ⟨none, 0, rfl, by simp, by simp, by simp, by simp⟩
    · refine ⟨_, cap, hv, e1, e2, by simp, fun hp => ⟨g, 0, rfl, (Array.getElem?_eq_some_iff.1 hg).1, fun k hk j hj => ?_⟩⟩
      rw [Nat.zero_add, cell_of_row w g _ cur 51 (0, 0) hg]
      have := flatI_get l' k hk j hj
      rw [← e4, List.getElem?_take, if_pos (by omega)] at this
      unfold rowI
      rw [List.getElem?_eq_getElem hk]
      show _ = (l'[k].cells)[j]?
      rw [← this]
      simp
  · obtain ⟨y, hy, hxy⟩ : ∃ y ∈ l, y.bare = x.bare := by
      have : x.bare ∈ l.map IV.bare := by rw [← h1]; exact List.mem_map.2 ⟨x, hx, rfl⟩
      obtain ⟨y, hy, he⟩ := List.mem_map.1 this
      exact ⟨y, hy, he⟩
    have hk := hl y hy
    obtain ⟨path, item, st, bf, lv, ls, due⟩ := x
    obtain ⟨path2, item2, st2, bf2, lv2, ls2, due2⟩ := y
    simp only [IV.bare, IV.mk.injEq] at hxy
    obtain ⟨rfl, rfl, rfl, rfl, _, rfl, rfl⟩ := hxy
    refine ⟨hk.path, hk.item, hk.st, hk.bf, hk.due, ?_⟩
    have h4 := h3 _ hx
    dsimp only at h4 ⊢
    rw [show ls2.length = (icells ls2).length from by simp [icells]] at h4
    exact rdv_of_ownS h4
theorem sameI_bare {x y : IV} (h : x.bare = y.bare) : sameI x y = true := by
  obtain ⟨path, item, st, bf, lv, ls, due⟩ := x
  obtain ⟨path2, item2, st2, bf2, lv2, ls2, due2⟩ := y
  simp only [IV.bare, IV.mk.injEq] at h
  obtain ⟨rfl, rfl, rfl, rfl, _, rfl, rfl⟩ := h
  simp [sameI]

end Go.Proofs.YtdnfoeoiommclaaDoor
