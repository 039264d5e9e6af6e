/- vdisk: what a disk of the program is in memory, and the laws on its map. -/
import Derived.Test.YtfljpnfjndjhpaaBy
import Derived.Test.YtfljpnfjndjhpaaVm
import Derived.Test.YtfljpnfjndjhpaaProg
import Derived.Maps.OwnSet
import Derived.StringKeys
import Derived.OpenShut
import Derived.Outline
import Derived.Deep.DeepFit
import Derived.Deep.DeepMust
import Derived.WalkLawsBesides
import Derived.WalkSpells
import Derived.KernelRfl
namespace Go.Proofs.Ytfljpnfjndjhpaa
open Go.RowKit
open Go.Maps (Keyed)
set_option linter.unusedVariables false

/-- w' is w but for the blocks of S, and with new blocks. -/
structure Chg (S : List Nat) (w w' : World) : Prop where
  os : w'.os = w.os
  tape : w'.tape = w.tape
  output : w'.output = w.output
  size : w.heap.size ≤ w'.heap.size
  block : ∀ i, i < w.heap.size → i ∉ S → w'.heap[i]? = w.heap[i]?

theorem Chg.refl (S : List Nat) (w : World) : Chg S w w := ⟨rfl, rfl, rfl, Nat.le_refl _, fun _ _ _ => rfl⟩
theorem Chg.trans {S : List Nat} {w w1 w2 : World} (h : Chg S w w1) (k : Chg S w1 w2) : Chg S w w2 :=
  ⟨k.os.trans h.os, k.tape.trans h.tape, k.output.trans h.output, Nat.le_trans h.size k.size, fun i hi hn => (k.block i (Nat.lt_of_lt_of_le hi h.size) hn).trans (h.block i hi hn)⟩
/-- The second step may touch new blocks too. -/
theorem Chg.then {S T : List Nat} {w w1 w2 : World} (h : Chg S w w1) (k : Chg T w1 w2) (hT : ∀ i ∈ T, i ∈ S ∨ w.heap.size ≤ i) : Chg S w w2 :=
  ⟨k.os.trans h.os, k.tape.trans h.tape, k.output.trans h.output, Nat.le_trans h.size k.size,
    fun i hi hn => (k.block i (Nat.lt_of_lt_of_le hi h.size) fun hm => (hT i hm).elim hn (fun h => by omega)).trans (h.block i hi hn)⟩
theorem Chg.mono {S T : List Nat} {w w' : World} (h : Chg S w w') (hs : ∀ i ∈ S, i ∈ T) : Chg T w w' :=
  ⟨h.os, h.tape, h.output, h.size, fun i hi hn => h.block i hi fun hm => hn (hs i hm)⟩
theorem Chg.alloc (S : List Nat) (w : World) (o : Obj) : Chg S w (w.alloc o) := ⟨rfl, rfl, rfl, by simp, fun i hi _ => Below.heap_alloc w o i hi⟩
theorem Chg.alloc' {S : List Nat} {w w' : World} (h : Chg S w w') (o : Obj) : Chg S w (w'.alloc o) := h.trans (Chg.alloc S w' o)
theorem Chg.drew' {S : List Nat} {w w' : World} (h : Chg S w w') : Chg S w w'.drew := ⟨h.os, h.tape, h.output, h.size, h.block⟩
theorem Chg.set' {S : List Nat} {w w' : World} (h : Chg S w w') (b o : Nat) (u : Value) (hb : b ∈ S ∨ w.heap.size ≤ b) : Chg S w (w'.setCell ⟨b, o, none⟩ u) :=
  ⟨h.os, h.tape, h.output, by rw [World.size_setCell]; exact h.size,
    fun i hi hn => (Below.heap_setCell _ _ _ _ (by rintro rfl; exact hb.elim hn (fun h => by omega))).trans (h.block i hi hn)⟩
theorem Chg.of_below {S : List Nat} {w w' : World} (h : Below w.heap.size w w') : Chg S w w' := ⟨h.os, h.tape, h.output, h.size, fun i hi _ => h.block i hi⟩
theorem Chg.of_grown {S : List Nat} {w w' : World} {r : Option Nat} (h : w.grownBy w' r) (hr : ∀ g, r = some g → g ∈ S ∨ w.heap.size ≤ g) : Chg S w w' :=
  ⟨h.os, h.tape, h.output, h.size, fun i hi hn => h.block i hi fun e => (hr i e.symm).elim hn (fun h => by omega)⟩
theorem Chg.below {S : List Nat} {B : Nat} {w w' : World} (h : Chg S w w') (hB : B ≤ w.heap.size) (hS : ∀ i ∈ S, B ≤ i) : Below B w w' :=
  ⟨h.os, h.tape, h.output, h.size, fun i hi => h.block i (by omega) fun hm => by have := hS i hm; omega⟩

/-! ### the map -/
/-- An element reads as itself. -/
def heldR (v : Value) : Option (DataW Value × List MemPlace) := some (.held v, [])
/-- Block mb is the map V, whose elements are of any type. -/
def MapIs (w : World) (mb : Nat) (V : List (List UInt8 × Value)) : Prop := w.ownsMap Try.prog 9 heldR mb V.length (Dof V)

theorem strLaw : Keyed Try.prog 9 := Go.Maps.string_keyed Try.underlying9
theorem keyS (s : ByteArray) (h : s.size ≤ maxLen) : keyOf Try.prog 9 (.string s) = some (.string s.data.toList) := Go.WideMaps.keyOf_string_mk Try.underlying9 h

theorem MapIs.tight {w : World} {mb n : Nat} {V : List (List UInt8 × Value)} (h : w.ownsMap Try.prog 9 heldR mb n (Dof V)) : MapIs w mb V := by
  obtain ⟨es, clock, hb, F, hs, hD⟩ := h
  refine ⟨es, clock, hb, F, ?_, hD⟩
  have e1 := length_read (P := Try.prog) (k := 9) (R0 := heldR) es
  have e2 : (Dof V) = .map ((es.toList.map (WideElems.rg Try.prog 9 heldR)).foldr DataW.insert []) := hD
  have e3 := congrArg (fun d => match d with | DataW.map l => l.length | _ => 0) e2
  simp only [Dof] at e3
  rw [e1] at e3
  simpa using Nat.le_of_eq e3.symm
theorem MapIs.keep {w w' : World} {mb : Nat} {V : List (List UInt8 × Value)} (h : MapIs w mb V) (hb : w'.heap[mb]? = w.heap[mb]?) : MapIs w' mb V := by
  obtain ⟨es, clock, hh, r⟩ := h
  exact ⟨es, clock, hb.trans hh, r⟩
theorem MapIs.lt {w : World} {mb : Nat} {V : List (List UInt8 × Value)} (h : MapIs w mb V) : mb < w.heap.size := World.ownsMap.lt h
theorem MapIs.made (w : World) : MapIs (w.alloc (.map #[] 0)) w.heap.size [] := World.ownsMap_made w _ _ _

section
variable {w : World} {mb : Nat} {V : List (List UInt8 × Value)} {M E : TypeId}

theorem MapIs.look (h : MapIs w mb V) (hM : Try.prog.underlying M = some (.map 9 E)) {z : Value} (hz : (zeroValue E).run Try.prog w = .ok z w) (s : ByteArray) (hs : s.size ≤ maxLen) :
    (Instr.lookup M (.map (some mb)) (.string s) false).run Try.prog w = .ok ((getA s.data.toList V).getD z) w := by
  obtain ⟨v, ps, hrun, hv⟩ := World.ownsMap.lookup h strLaw hM hz (zd := .held z) (zp := []) rfl (keyS s hs)
  rw [dof_at] at hv
  simp only [heldR, Option.some.injEq, Prod.mk.injEq, DataW.held.injEq] at hv
  rw [hrun, hv.1]
theorem MapIs.lookOk (h : MapIs w mb V) (hM : Try.prog.underlying M = some (.map 9 E)) {z : Value} (hz : (zeroValue E).run Try.prog w = .ok z w) (s : ByteArray) (hs : s.size ≤ maxLen) :
    (Instr.lookup M (.map (some mb)) (.string s) true).run Try.prog w = .ok (.tuple #[(getA s.data.toList V).getD z, .bool (getA s.data.toList V).isSome]) w := by
  obtain ⟨v, ps, hrun, hv⟩ := World.ownsMap.look_ok h strLaw hM hz (zd := .held z) (zp := []) rfl (keyS s hs)
  rw [dof_at] at hv
  simp only [heldR, Option.some.injEq, Prod.mk.injEq, DataW.held.injEq] at hv
  rw [hrun, hv.1, dof_has]
theorem MapIs.put (h : MapIs w mb V) (hM : Try.prog.underlying M = some (.map 9 E)) (s : ByteArray) (hs : s.size ≤ maxLen) (hl : V.length < maxLen) (v : Value) :
    ∃ w', (Instr.mapUpdate M (.map (some mb)) (.string s) v).run Try.prog w = .ok () w' ∧ MapIs w' mb (putA s.data.toList v V) ∧ Chg [mb] w w' := by
  obtain ⟨w', hrun, ho, hg⟩ := World.ownsMap.update h strLaw hM hl (val := v) (d := .held v) (ps := []) (keyS s hs) rfl
  rw [dof_put] at ho
  exact ⟨w', hrun, MapIs.tight ho, Chg.of_grown hg fun g e => .inl (by simp at e; simp [e])⟩
theorem MapIs.drop (h : MapIs w mb V) (hM : Try.prog.underlying M = some (.map 9 E)) (s : ByteArray) (hs : s.size ≤ maxLen) (ty : TypeId) :
    ∃ w', (Builtin.delete_ #[M, 9] ty #[.map (some mb), .string s]).run Try.prog w = .ok (.tuple #[]) w' ∧ MapIs w' mb (delA s.data.toList V) ∧ Chg [mb] w w' := by
  obtain ⟨w', hrun, ho, ht⟩ := World.ownsMap.drop h strLaw hM (keyS s hs) ty
  rw [dof_del] at ho
  exact ⟨w', hrun, MapIs.tight ho, Chg.of_grown ht.grown fun g e => .inl (by simp at e; simp [e])⟩
end

/-- m[k] = v at the operation. -/
theorem wpList_put {w : World} {ops : Array Oper} {rest : List Oper} {o : Oper} {a : Act} {Q : Exit → Act → World → Prop}
    (hg : o.guard = none) (m x v : Operand) (M E : TypeId) (hop : o.op = Op.mapUpdate M m x v) (hM : Try.prog.underlying M = some (.map 9 E)) (mb : Nat) (V : List (List UInt8 × Value))
    (hm : a.eval m = .map (some mb)) (hown : MapIs w mb V) (hl : V.length < maxLen) (s : ByteArray) (hs : s.size ≤ maxLen) (val : Value) (hx : a.eval x = .string s) (hv : a.eval v = val)
    (hK : ∀ w', MapIs w' mb (putA s.data.toList val V) → Chg [mb] w w' → wpList Try.prog ops Q rest (a.put o.dst undef) w') :
    wpList Try.prog ops Q (o :: rest) a w := by
  refine wpList_plain hg fun K' hK' => ?_
  obtain ⟨w', hrun, r1, r2⟩ := hown.put hM s hs hl val
  unfold Oper.wp
  simp [execOp, hop, hm, hx, hv, hrun, Result.andThen]
  exact hK' _ _ (hK w' r1 r2)

/-- delete(m, k) at the operation. -/
theorem wpList_drop {w : World} {ops : Array Oper} {rest : List Oper} {o : Oper} {a : Act} {Q : Exit → Act → World → Prop}
    (hg : o.guard = none) (m x : Operand) (M E : TypeId) (hop : o.op = Op.call { callee := Callee.builtin Builtin.delete, args := #[m, x], argTypes := #[M, 9] }) (hM : Try.prog.underlying M = some (.map 9 E)) (mb : Nat) (V : List (List UInt8 × Value))
    (hm : a.eval m = .map (some mb)) (hown : MapIs w mb V) (s : ByteArray) (hs : s.size ≤ maxLen) (hx : a.eval x = .string s)
    (hK : ∀ w', MapIs w' mb (delA s.data.toList V) → Chg [mb] w w' → wpList Try.prog ops Q rest (a.put o.dst (.tuple #[])) w') :
    wpList Try.prog ops Q (o :: rest) a w := by
  refine wpList_plain hg fun K' hK' => ?_
  obtain ⟨w', hrun, r1, r2⟩ := hown.drop hM s hs o.type
  unfold Oper.wp
  simp [execOp, hop, resolve, invoke, builtin, hm, hx, hrun, Result.andThen]
  exact hK' _ _ (hK w' r1 r2)

/-! ### a disk -/
/-- How a file's value looks. -/
def Shape (v : Value) (f : Fl) : Prop := ∃ a c, v = .agg #[.slice a f.data.length c, .int .i64 f.sy] ∧ f.data.length ≤ c ∧ c ≤ maxLen ∧ (a = none → c = 0)
/-- .. and what its bytes are. -/
def FRow (w : World) (v : Value) (f : Fl) : Prop := ∃ sl, v = .agg #[sl, .int .i64 f.sy] ∧ w.ownsRow 0 5 1 sl f.data.length (bcells f.data)
def fblk : Value → Option Nat
  | .agg cs => (cs.getD 0 undef).ownBlock
  | _ => none
theorem fblk_mk (sl x : Value) : fblk (.agg #[sl, x]) = sl.ownBlock := rfl

theorem FRow.shape {w : World} {v : Value} {f : Fl} (h : FRow w v f) : Shape v f := by
  obtain ⟨sl, rfl, hl, hs⟩ := h
  rcases hs with ⟨rfl, h0⟩ | ⟨g, cap, cur, rfl, _, _, h1, h2, _⟩
  · exact ⟨none, 0, by rw [h0], by omega, by unfold maxLen; omega, fun _ => rfl⟩
  · exact ⟨_, cap, rfl, h1, h2, by simp⟩
theorem FRow.keep {w w' : World} {v : Value} {f : Fl} (h : FRow w v f) (hb : ∀ g, fblk v = some g → w'.heap[g]? = w.heap[g]?) : FRow w' v f := by
  obtain ⟨sl, rfl, hl, hs⟩ := h
  refine ⟨sl, rfl, hl, ?_⟩
  rcases hs with h | ⟨g, cap, cur, rfl, h0, h1, h2⟩
  · exact .inl h
  · exact .inr ⟨g, cap, cur, rfl, h0, (hb g rfl).trans h1, h2⟩
theorem FRow.lt {w : World} {v : Value} {f : Fl} (h : FRow w v f) {g : Nat} (hg : fblk v = some g) : g < w.heap.size := by
  obtain ⟨sl, rfl, hr⟩ := h
  exact (World.ownsRow.lt hr g hg).2

theorem ownsRow_take {w : World} {B : Nat} {e : TypeId} {p : Option Addr} {n c : Nat} {xs : List Value} (h : w.ownsRow B e 1 (.slice p n c) n xs) (m : Nat) (hm : m ≤ n) : w.ownsRow B e 1 (.slice p m c) m (xs.take m) := by
  obtain ⟨hl, hs⟩ := h
  refine ⟨by rw [List.length_take, hl]; omega, ?_⟩
  rcases hs with ⟨hv, h0⟩ | ⟨g, cap, cur, hv, h1, h2, h3, h4, h5, h6⟩
  · cases hv
    obtain rfl : m = 0 := by omega
    exact .inl ⟨rfl, rfl⟩
  · cases hv
    refine .inr ⟨g, _, cur, rfl, h1, h2, by omega, h4, h5, ?_⟩
    rw [← h6, List.take_take]
    congr 1
    omega
theorem bcells_take (xs : List UInt8) (m : Nat) : (bcells xs).take m = bcells (xs.take m) := by simp [bcells]

abbrev Ents := List (List UInt8 × (Value × Fl))
def vals (E : Ents) : List (List UInt8 × Value) := mapA (·.1) E
def fils (E : Ents) : Fs := mapA (·.2) E
def blocks (E : Ents) : List Nat := E.filterMap fun p => fblk p.2.1

/-- The disk but for the files' bytes: the struct's block pb, the map's block mb. -/
structure Core (w : World) (pb mb : Nat) (s : DS) (E : Ents) : Prop where
  blk : w.heap[pb]? = some (.cells #[.int .i64 s.room, .int .i64 (total s.fs), .map (some mb), .int .i64 s.fuse, .bool s.dead] 45 (0, 0))
  map : MapIs w mb (vals E)
  fs : s.fs = fils E
  shape : ∀ p ∈ E, Shape p.2.1 p.2.2
  ok : s.Ok

/-- A disk: at p, with the blocks foot. -/
def Disk (w : World) (p : Option Addr) (s : DS) (foot : List Nat) : Prop :=
  ∃ pb mb E, p = some ⟨pb, 0, none⟩ ∧ Core w pb mb s E ∧ (∀ p ∈ E, FRow w p.2.1 p.2.2) ∧ foot = pb :: mb :: blocks E ∧ foot.Nodup

theorem Core.keep {w w' : World} {pb mb : Nat} {s : DS} {E : Ents} (h : Core w pb mb s E) (h1 : w'.heap[pb]? = w.heap[pb]?) (h2 : w'.heap[mb]? = w.heap[mb]?) : Core w' pb mb s E :=
  ⟨h1.trans h.blk, h.map.keep h2, h.fs, h.shape, h.ok⟩
theorem Core.ltp {w : World} {pb mb : Nat} {s : DS} {E : Ents} (h : Core w pb mb s E) : pb < w.heap.size := lt_of_block h.blk
theorem Core.ne {w : World} {pb mb : Nat} {s : DS} {E : Ents} (h : Core w pb mb s E) : pb ≠ mb := by
  rintro rfl
  obtain ⟨es, c, hm, _⟩ := h.map
  rw [h.blk] at hm
  cases hm
theorem mem_blocks {E : Ents} {g : Nat} : g ∈ blocks E ↔ ∃ p ∈ E, fblk p.2.1 = some g := by simp [blocks]
theorem Disk.keep {w w' : World} {p : Option Addr} {s : DS} {foot : List Nat} (h : Disk w p s foot) (hb : ∀ i ∈ foot, w'.heap[i]? = w.heap[i]?) : Disk w' p s foot := by
  obtain ⟨pb, mb, E, rfl, hc, hr, rfl, hn⟩ := h
  refine ⟨pb, mb, E, rfl, hc.keep (hb _ (by simp)) (hb _ (by simp)), fun q hq => (hr q hq).keep fun g hg => hb g ?_, rfl, hn⟩
  simp only [List.mem_cons]
  exact .inr (.inr (mem_blocks.2 ⟨q, hq, hg⟩))
theorem Disk.lt {w : World} {p : Option Addr} {s : DS} {foot : List Nat} (h : Disk w p s foot) : ∀ i ∈ foot, i < w.heap.size := by
  obtain ⟨pb, mb, E, rfl, hc, hr, rfl, hn⟩ := h
  intro i hi
  simp only [List.mem_cons] at hi
  rcases hi with rfl | rfl | hi
  · exact hc.ltp
  · exact hc.map.lt
  · obtain ⟨q, hq, hg⟩ := mem_blocks.1 hi
    exact (hr q hq).lt hg
theorem Disk.chg {w w' : World} {p : Option Addr} {s : DS} {foot S : List Nat} (h : Disk w p s foot) (hc : Chg S w w') (hd : ∀ i ∈ foot, i ∉ S) : Disk w' p s foot :=
  h.keep fun i hi => hc.block i (h.lt i hi) (hd i hi)
theorem Disk.below {w w' : World} {p : Option Addr} {s : DS} {foot : List Nat} (h : Disk w p s foot) (hc : Below w.heap.size w w') : Disk w' p s foot :=
  h.keep fun i hi => hc.block i (h.lt i hi)
theorem Disk.ok {w : World} {p : Option Addr} {s : DS} {foot : List Nat} (h : Disk w p s foot) : s.Ok := by
  obtain ⟨pb, mb, E, rfl, hc, _⟩ := h
  exact hc.ok

theorem cells5 {w : World} {b : Nat} {c0 c1 c2 c3 c4 : Value} {T : TypeId} (h : w.heap[b]? = some (.cells #[c0, c1, c2, c3, c4] T (0, 0))) :
    w.cell? ⟨b, 0, none⟩ = some c0 ∧ w.cell? ⟨b, 1, none⟩ = some c1 ∧ w.cell? ⟨b, 2, none⟩ = some c2 ∧ w.cell? ⟨b, 3, none⟩ = some c3 ∧ w.cell? ⟨b, 4, none⟩ = some c4 ∧ (∀ o, w.frozen? ⟨b, o, none⟩ = false) := by
  refine ⟨?_, ?_, ?_, ?_, ?_, fun o => ?_⟩ <;> simp [World.cell?, World.frozen?, h]
theorem heap_mod {w : World} {b o : Nat} {cs : Array Value} {u : Value} {T : TypeId} (h : w.heap[b]? = some (.cells cs T (0, 0))) :
    (w.setCell ⟨b, o, none⟩ u).heap[b]? = some (.cells (cs.setIfInBounds o u) T (0, 0)) := by
  have hlt := lt_of_block h
  have h' : w.heap[b] = .cells cs T (0, 0) := by simpa [Array.getElem?_eq_getElem hlt] using h
  show (w.heap.modify b _)[b]? = _
  rw [Array.getElem?_eq_getElem (by simpa using hlt), Array.getElem_modify_self, h']
  rfl

/-- The value at a name. -/
def valA (n : List UInt8) (E : Ents) : Value := (getA n (vals E)).getD (.agg #[.slice none 0 0, .int .i64 0])
theorem fils_get (n : List UInt8) (E : Ents) : fileA n (fils E) = ((getA n E).map (·.2)).getD Fl.none := by unfold fileA fils; rw [mapA_getA]
theorem valA_get (n : List UInt8) (E : Ents) : valA n E = ((getA n E).map (·.1)).getD (.agg #[.slice none 0 0, .int .i64 0]) := by unfold valA vals; rw [mapA_getA]
theorem has_get (n : List UInt8) (E : Ents) : (getA n (vals E)).isSome = (getA n (fils E)).isSome := by unfold vals fils; rw [mapA_getA, mapA_getA]; simp
theorem shape_at {E : Ents} (h : ∀ p ∈ E, Shape p.2.1 p.2.2) (n : List UInt8) : Shape (valA n E) (fileA n (fils E)) := by
  rw [fils_get, valA_get]
  cases hg : getA n E with
  | none => exact ⟨none, 0, rfl, by simp [Fl.none], by unfold maxLen; omega, fun _ => rfl⟩
  | some q => exact h _ (getA_mem hg)
theorem row_at {w : World} {E : Ents} (h : ∀ p ∈ E, FRow w p.2.1 p.2.2) (n : List UInt8) : FRow w (valA n E) (fileA n (fils E)) := by
  rw [fils_get, valA_get]
  cases hg : getA n E with
  | none => exact ⟨_, rfl, World.ownsRow_nil _ _ _ _⟩
  | some q => exact h _ (getA_mem hg)

theorem fieldFile (w : World) (a : Option Addr) (n c : Nat) (y : Value) : (Instr.field 60 (.agg #[.slice a n c, y]) 0).run Try.prog w = .ok (.slice a n c) w := by kernel_rfl

theorem zeroFile (w : World) : (zeroValue 60).run Try.prog w = .ok (.agg #[.slice none 0 0, .int .i64 0]) w := by kernel_rfl

theorem Core.look {w : World} {pb mb : Nat} {s : DS} {E : Ents} (h : Core w pb mb s E) (n : ByteArray) (hn : n.size ≤ maxLen) :
    (Instr.lookup 43 (.map (some mb)) (.string n) false).run Try.prog w = .ok (valA n.data.toList E) w :=
  h.map.look Try.underlying43 (zeroFile w) n hn
theorem Core.lookOk {w : World} {pb mb : Nat} {s : DS} {E : Ents} (h : Core w pb mb s E) (n : ByteArray) (hn : n.size ≤ maxLen) :
    (Instr.lookup 43 (.map (some mb)) (.string n) true).run Try.prog w = .ok (.tuple #[valA n.data.toList E, .bool (getA n.data.toList s.fs).isSome]) w := by
  rw [h.fs, ← has_get]
  exact h.map.lookOk Try.underlying43 (zeroFile w) n hn
theorem Core.shapeAt {w : World} {pb mb : Nat} {s : DS} {E : Ents} (h : Core w pb mb s E) (n : List UInt8) : Shape (valA n E) (fileA n s.fs) := by rw [h.fs]; exact shape_at h.shape n

end Go.Proofs.Ytfljpnfjndjhpaa
