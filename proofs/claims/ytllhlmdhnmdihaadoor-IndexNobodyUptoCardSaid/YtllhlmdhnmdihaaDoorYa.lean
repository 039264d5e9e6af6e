/- Reading a law's arguments: cases, their instances and documents. -/
import Derived.Test.YtllhlmdhnmdihaaDoorBy
import Derived.Test.YtllhlmdhnmdihaaDoorRows
import Derived.Deep.Matrix
import Derived.Lib.SmallJoins
import Derived.Deep.Slices
import Derived.Deep.Fields
import Derived.ChangeSame
import Derived.SizedLaws
namespace Go.Proofs.YtllhlmdhnmdihaaDoor
open Go.RowKit Go.ChangeShapes Go.WideShapes Go.Deep
set_option linter.unusedVariables false

/-- A slice of one-cell elements as it reads. -/
def RdV (w : World) (v : Value) (cs : List Value) : Prop :=
  ∃ p c, v = .slice p cs.length c ∧ cs.length ≤ c ∧ c ≤ maxLen ∧ (p = none → c = 0) ∧ (0 < cs.length → ∃ b o, p = some ⟨b, o, none⟩ ∧ ∀ i (h : i < cs.length), w.cell? ⟨b, o + i, none⟩ = some cs[i])
theorem RdV.nil (w : World) : RdV w (.slice none 0 0) [] := ⟨none, 0, rfl, by simp, by simp, by simp, by simp⟩
theorem RdV.below {w w' : World} {v : Value} {cs : List Value} (h : RdV w v cs) (hb : Below w.heap.size w w') : RdV w' v cs := by
  obtain ⟨p, c, rfl, h1, h2, h3, h4⟩ := h
  refine ⟨p, c, rfl, h1, h2, h3, fun hp => ?_⟩
  obtain ⟨b, o, rfl, hx⟩ := h4 hp
  refine ⟨b, o, rfl, fun i hi => ?_⟩
  have := hx i hi
  rw [hb.cell (p := ⟨b, o + i, none⟩) (World.block_lt_of_cell? w _ this)]
  exact this
def icells (xs : List Int) : List Value := xs.map (Value.int .i64)
def tcells (xs : List ByteArray) : List Value := xs.map Value.string
theorem rdv_of_row {w : World} {x : Addr} {l c : Nat} {zs : List Int} (hl : l ≤ c) (hm : c ≤ maxLen) (hz : zs.length = c) (hcell : ∀ i, i < zs.length → w.cell? (x.add i) = some (.int .i64 (zs.getD i 0))) :
    RdV w (.slice (some x) l c) (icells (zs.take l)) := by
  have hlen : (icells (zs.take l)).length = l := by simp [icells]; omega
  refine ⟨some x, c, by rw [hlen], by omega, hm, by simp, fun hp => ?_⟩
  rw [hlen] at hp
  obtain ⟨b, off, spot⟩ := x
  have h0 := hcell 0 (by omega)
  have hspot : spot = none := by simpa [Addr.add] using World.cell?_spot h0
  subst hspot
  refine ⟨b, off, rfl, fun i hi => ?_⟩
  have hil : i < zs.length := by rw [hlen] at hi; omega
  have := hcell i hil
  rw [Addr.add_lit] at this
  rw [this]
  simp [icells, List.getD, hil]

theorem weightsAll_in {H : Type} {P : Program} {e : TypeId} : ∀ {l : List (DataW H)} {d : DataW H}, d ∈ l → ∀ n ∈ d.weights P e, n ∈ DataW.weightsAll P e l
  | [], _, hd, _, _ => by cases hd
  | z :: r, d, hd, n, hn => by
    simp only [DataW.weightsAll, List.mem_append]
    rcases List.mem_cons.1 hd with rfl | h
    · exact .inl hn
    · exact .inr (weightsAll_in h n hn)

section
variable {H : Type} {enc : TypeId × Value → H} {w : World} {base : Nat} {held : Bool} {fuel : Nat}

theorem cells6_open {P : Program} {t : TypeId} {spare : Nat → Bool} {f0 f1 f2 f3 f4 f5 : Field} {c0 c1 c2 c3 c4 c5 : Value} {x : DataW H × List MemPlace} (hs : P.underlying t = some (.struct #[f0, f1, f2, f3, f4, f5])) (hone : oneCellFields P #[f0, f1, f2, f3, f4, f5] = true)
    (h : DataW.trod enc P w base spare held fuel t [c0, c1, c2, c3, c4, c5] = some x) :
    ∃ (y0 y1 y2 y3 y4 y5 : DataW H × List MemPlace) (n : Nat), x.1 = .agg [y0.1, y1.1, y2.1, y3.1, y4.1, y5.1] ∧
      DataW.trod enc P w base spare held n f0.type [c0] = some y0 ∧ DataW.trod enc P w base spare held n f1.type [c1] = some y1 ∧ DataW.trod enc P w base spare held n f2.type [c2] = some y2 ∧ DataW.trod enc P w base spare held n f3.type [c3] = some y3 ∧ DataW.trod enc P w base spare held n f4.type [c4] = some y4 ∧ DataW.trod enc P w base spare held n f5.type [c5] = some y5 := by
  obtain ⟨xs, n, _, hx, _, hlen, hg⟩ := DataW.trod_struct hs h
  obtain ⟨o0, k0⟩ := hone_of hone 0 f0 rfl
  obtain ⟨o1, k1⟩ := hone_of hone 1 f1 rfl
  obtain ⟨o2, k2⟩ := hone_of hone 2 f2 rfl
  obtain ⟨o3, k3⟩ := hone_of hone 3 f3 rfl
  obtain ⟨o4, k4⟩ := hone_of hone 4 f4 rfl
  obtain ⟨o5, k5⟩ := hone_of hone 5 f5 rfl
  match xs, hlen with
  | [y0, y1, y2, y3, y4, y5], _ =>
    exact ⟨y0, y1, y2, y3, y4, y5, n, by rw [hx]; rfl, by simpa [o0, k0] using hg 0 f0 rfl, by simpa [o1, k1] using hg 1 f1 rfl, by simpa [o2, k2] using hg 2 f2 rfl, by simpa [o3, k3] using hg 3 f3 rfl, by simpa [o4, k4] using hg 4 f4 rfl, by simpa [o5, k5] using hg 5 f5 rfl⟩

theorem wf64 {a : Int} (h : (Lit.int .i64 a).wf = true) : -9223372036854775808 ≤ a ∧ a ≤ 9223372036854775807 := by simpa [Lit.wf, IntKind.min, IntKind.max, IntKind.signed, IntKind.bits] using h

theorem ints_read {c : Value} {x : DataW H × List MemPlace} (h : DataW.trod enc Tryd.prog w base (fun _ => true) held fuel 49 [c] = some x) (hz : ∀ n ∈ x.1.weights Tryd.prog 49, n ≤ reachBytes) :
    ∃ xs : List Int, RdV w c (icells xs) ∧ xs.length ≤ 140737488351232 := by
  have h1 : Tryd.prog.bytesOf 3 = 8 := by kernel_rfl
  rcases open_ints Tryd.underlying49 Tryd.underlying3 (by kernel_rfl) h with ⟨hcs, _⟩ | ⟨a, l, c, zs, hcs, _, hl, hm, hzl, rfl, hcell, hwz⟩
  · simp only [List.cons.injEq, and_true] at hcs
    subst hcs
    exact ⟨[], RdV.nil _, by simp⟩
  · simp only [List.cons.injEq, and_true] at hcs
    subst hcs
    have hz' : zs.length = c := by simpa using hzl
    have hb := hz (((lits IntKind.i64 (zs.take l) : List (DataW H)).length + (lits IntKind.i64 (zs.drop l) : List (DataW H)).length) * Tryd.prog.bytesOf 3) (by simp [DataW.weights, Tryd.underlying49])
    rw [h1] at hb
    simp only [lits, List.length_map, List.length_take, List.length_drop, reachBytes] at hb
    exact ⟨_, rdv_of_row hl hm hz' hcell, by simp only [List.length_take]; omega⟩

theorem list_of {α : Type} {P : Nat → α → Prop} : ∀ n, (∀ i, i < n → ∃ s, P i s) → ∃ l : List α, l.length = n ∧ ∀ i (h : i < l.length), P i l[i]
  | 0, _ => ⟨[], rfl, fun i h => by simp at h⟩
  | n + 1, h => by
    obtain ⟨l, hl, hp⟩ := list_of n fun i hi => h i (by omega)
    obtain ⟨s, hs⟩ := h n (by omega)
    refine ⟨l ++ [s], by simp [hl], fun i hi => ?_⟩
    by_cases hin : i < l.length
    · rw [List.getElem_append_left hin]; exact hp i hin
    · have : i = n := by simp at hi; omega
      subst this
      rw [List.getElem_append_right (by omega)]
      simp only [hl, Nat.sub_self, List.getElem_cons_zero]
      exact hs

/-- A slice of texts. -/
theorem texts_read {c : Value} {x : DataW H × List MemPlace} (h : DataW.trod enc Tryd.prog w base (fun _ => true) held fuel 31 [c] = some x) :
    ∃ xs : List ByteArray, RdV w c (tcells xs) := by
  have h1 : Tryd.prog.cellsOf 9 = 1 := by kernel_rfl
  rcases open_slice Tryd.underlying31 h with ⟨hcs, _⟩ | ⟨a, len, cap, m, n, D, Pl, hcs, hb, hl, hm, hmm, rfl, hi⟩
  · simp only [List.cons.injEq, and_true] at hcs
    subst hcs
    exact ⟨[], RdV.nil _⟩
  · simp only [List.cons.injEq, and_true] at hcs
    subst hcs
    have hmc : m = cap := by simpa using hmm
    have hi' : ∀ i, i < len → ∃ s : ByteArray, w.cell? (a.add i) = some (.string s) := fun i hil => by
      obtain ⟨cs', hc, ht⟩ := hi i (by omega)
      rw [h1, Nat.mul_one] at hc
      obtain ⟨_, hcl, hat⟩ := World.cells?_some hc
      obtain ⟨s, e, _, _⟩ := DataW.trod_string Tryd.underlying9 ht
      subst e
      exact ⟨s, by simpa [Addr.add] using hat 0 (by omega)⟩
    obtain ⟨l, hll, hp⟩ := list_of len hi'
    subst hll
    have hlen : (tcells l).length = l.length := by simp [tcells]
    refine ⟨l, some a, cap, by rw [hlen], by rw [hlen]; omega, hm, by simp, fun h0 => ?_⟩
    rw [hlen] at h0
    obtain ⟨b, off, spot⟩ := a
    have hspot : spot = none := by simpa [Addr.add] using World.cell?_spot (hp 0 h0)
    subst hspot
    refine ⟨b, off, rfl, fun i hi2 => ?_⟩
    rw [hlen] at hi2
    have := hp i hi2
    rw [Addr.add_lit] at this
    rw [this]
    simp [tcells]

/-- An instance: its fields, and its latches with what they read as. -/
structure IV where
  path : ByteArray
  item : ByteArray
  st : Int
  bf : Int
  lv : Value
  ls : List Int
  due : Int
def IV.cells (x : IV) : List Value := [.string x.path, .string x.item, .int .i64 x.st, .int .i64 x.bf, x.lv, .int .i64 x.due]
structure IVok (w : World) (x : IV) : Prop where
  path : x.path.size ≤ 9223372036854775807
  item : x.item.size ≤ 9223372036854775807
  st : -9223372036854775808 ≤ x.st ∧ x.st ≤ 9223372036854775807
  bf : -9223372036854775808 ≤ x.bf ∧ x.bf ≤ 9223372036854775807
  due : -9223372036854775808 ≤ x.due ∧ x.due ≤ 9223372036854775807
  rl : RdV w x.lv (icells x.ls)
theorem IVok.below {w w' : World} {x : IV} (h : IVok w x) (hb : Below w.heap.size w w') : IVok w' x := ⟨h.path, h.item, h.st, h.bf, h.due, h.rl.below hb⟩
/-- A slice of rows of six cells. -/
def Rows6 (w : World) (v : Value) (n : Nat) (row : Nat → List Value) : Prop :=
  ∃ a c, v = .slice a n c ∧ n ≤ c ∧ c ≤ maxLen ∧ (a = none → c = 0) ∧ (0 < n → ∃ b o, a = some ⟨b, o, none⟩ ∧ b < w.heap.size ∧ ∀ k, k < n → ∀ j, j < 6 → w.cell? ⟨b, o + (k * 6 + j), none⟩ = (row k)[j]?)
theorem Rows6.below {w w' : World} {v : Value} {n : Nat} {row : Nat → List Value} (h : Rows6 w v n row) (hb : Below w.heap.size w w') : Rows6 w' v n row := by
  obtain ⟨a, c, rfl, h1, h2, h3, h4⟩ := h
  refine ⟨a, c, rfl, h1, h2, h3, fun hp => ?_⟩
  obtain ⟨b, o, rfl, hlt, hx⟩ := h4 hp
  exact ⟨b, o, rfl, Nat.lt_of_lt_of_le hlt hb.size, fun k hk j hj => (hb.cell (p := ⟨b, o + (k * 6 + j), none⟩) hlt).trans (hx k hk j hj)⟩
def rowI (l : List IV) (k : Nat) : List Value := (l[k]?.map IV.cells).getD []
/-- A slice of instances. -/
def InstsIs (w : World) (v : Value) (l : List IV) : Prop := Rows6 w v l.length (rowI l) ∧ ∀ x ∈ l, IVok w x
theorem InstsIs.below {w w' : World} {v : Value} {l : List IV} (h : InstsIs w v l) (hb : Below w.heap.size w w') : InstsIs w' v l := ⟨h.1.below hb, fun x hx => (h.2 x hx).below hb⟩

theorem inst_read {cs : List Value} {x : DataW H × List MemPlace} (hl6 : cs.length = 6) (h : DataW.trod enc Tryd.prog w base (fun _ => true) held fuel 51 cs = some x)
    (hz : ∀ n ∈ x.1.weights Tryd.prog 51, n ≤ reachBytes) : ∃ s : IV, cs = s.cells ∧ IVok w s := by
  match cs, hl6 with
  | [c0, c1, c2, c3, c4, c5], _ =>
    obtain ⟨y0, y1, y2, y3, y4, y5, n, hx, t0, t1, t2, t3, t4, t5⟩ := cells6_open Tryd.underlying51 (by kernel_rfl) h
    rw [hx] at hz
    have hw : ∀ n, n ∈ DataW.weightsEach Tryd.prog [9, 9, 3, 3, 49, 3] [y0.1, y1.1, y2.1, y3.1, y4.1, y5.1] → n ≤ reachBytes := fun n hn => hz n (by
      simp only [DataW.weights, Tryd.underlying51]
      exact hn)
    obtain ⟨pa, e0, _, w0⟩ := DataW.trod_string Tryd.underlying9 t0
    obtain ⟨it, e1, _, w1⟩ := DataW.trod_string Tryd.underlying9 t1
    obtain ⟨st, e2, _, w2⟩ := DataW.trod_int Tryd.underlying3 t2
    obtain ⟨bf, e3, _, w3⟩ := DataW.trod_int Tryd.underlying3 t3
    obtain ⟨du, e5, _, w5⟩ := DataW.trod_int Tryd.underlying3 t5
    simp only [List.cons.injEq, and_true] at e0 e1 e2 e3 e5
    subst e0 e1 e2 e3 e5
    obtain ⟨ks, rk, _⟩ := ints_read t4 (fun n hn => hw n (DataW.weights_mem_each (j := 4) rfl rfl n hn))
    unfold maxLen at w0 w1
    exact ⟨⟨pa, it, st, bf, c4, ks, du⟩, rfl, by show pa.size ≤ _; omega, by show it.size ≤ _; omega, wf64 w2, wf64 w3, wf64 w5, rk⟩

theorem insts_open {cs : List Value} {x : DataW H × List MemPlace} (h : DataW.trod enc Tryd.prog w base (fun _ => true) held fuel 22 cs = some x)
    (hz : ∀ n ∈ x.1.weights Tryd.prog 22, n ≤ reachBytes) : ∃ v l, cs = [v] ∧ InstsIs w v l := by
  have h6 : Tryd.prog.cellsOf 51 = 6 := by kernel_rfl
  rcases open_slice Tryd.underlying22 h with ⟨rfl, _⟩ | ⟨a, len, cap, m, n, D, Pl, rfl, hb, hl, hm, hmm, rfl, hi⟩
  · exact ⟨_, [], rfl, ⟨none, 0, rfl, by simp, by simp, by simp, by simp⟩, by simp⟩
  · have hmc : m = cap := by simpa using hmm
    have hi' : ∀ i, i < len → ∃ s : IV, w.cells? base (a.add (i * 6)) 6 = some s.cells ∧ IVok w s := fun i hil => by
      obtain ⟨cs', hc, ht⟩ := hi i (by omega)
      rw [h6] at hc
      obtain ⟨_, hcl, _⟩ := World.cells?_some hc
      obtain ⟨s, rfl, hs⟩ := inst_read hcl ht (fun k hk => hz k (by
        simp only [DataW.weights, Tryd.underlying22, List.mem_cons, List.mem_append]
        exact .inr (.inl (weightsAll_in (d := D i) (List.mem_map.2 ⟨i, by simpa using hil, rfl⟩) k hk))))
      exact ⟨s, hc, hs⟩
    obtain ⟨l, hll, hp⟩ := list_of len hi'
    subst hll
    refine ⟨_, l, rfl, ⟨some a, cap, rfl, hl, hm, by simp, fun h0 => ?_⟩, fun x hx => ?_⟩
    · obtain ⟨b, off, spot⟩ := a
      have hat : ∀ i (hil : i < l.length) j, j < 6 → w.cell? ((⟨b, off, spot⟩ : Addr).add (i * 6 + j)) = (l[i].cells)[j]? := fun i hil j hj => by
        obtain ⟨_, hcl, hat⟩ := World.cells?_some (hp i hil).1
        rw [← Go.Deep.add_add]
        exact hat j hj
      have h00 : w.cell? ((⟨b, off, spot⟩ : Addr).add (0 * 6 + 0)) = some (.string l[0].path) := hat 0 h0 0 (by omega)
      have hspot : spot = none := by simpa [Addr.add] using World.cell?_spot h00
      subst hspot
      refine ⟨b, off, rfl, World.block_lt_of_cell? w _ h00, fun k hk j hj => ?_⟩
      have := hat k hk j hj
      rw [Addr.add_lit] at this
      rw [this]
      unfold rowI
      rw [List.getElem?_eq_getElem hk]
      rfl
    · obtain ⟨i, hi2, rfl⟩ := List.getElem_of_mem hx
      exact (hp i hi2).2
end
end Go.Proofs.YtllhlmdhnmdihaaDoor
