/- Items: whether one has not many in it (dossierplain.item): it answers; if so, what is known of it. Written by tools/gengc.py. -/
import Derived.Test.YtllhlmdhnmdihaaDoorGa
import Derived.Test.YtllhlmdhnmdihaaDoorChecked
import Derived.OpenShut
import Derived.Outline
import Derived.WalkLawsBesides
import Derived.WalkSpells
import Derived.RegionTactic
import Derived.BigRegion
import Derived.ChangeAlike
namespace Go.Proofs.YtllhlmdhnmdihaaDoor
open Go Go.RowKit Go.Deep
set_option linter.unusedVariables false
set_option linter.unusedSimpArgs false

/-- An item's cells in a row. -/
def Cells14 (w : World) (b o : Nat) (x : IT) (ev xv rv kv tv : Value) : Prop := w.cell? ⟨b, o, none⟩ = some (.string x.id) ∧ w.cell? ⟨b, o + 1, none⟩ = some (.string x.nm) ∧ w.cell? ⟨b, o + 2, none⟩ = some (.int .i64 x.kind) ∧ w.cell? ⟨b, o + 3, none⟩ = some (ev) ∧ w.cell? ⟨b, o + 4, none⟩ = some (xv) ∧ w.cell? ⟨b, o + 5, none⟩ = some (.string x.man) ∧ w.cell? ⟨b, o + 6, none⟩ = some (.string x.req) ∧ w.cell? ⟨b, o + 7, none⟩ = some (.string x.rep) ∧ w.cell? ⟨b, o + 8, none⟩ = some (.bool x.auto) ∧ w.cell? ⟨b, o + 9, none⟩ = some (.bool x.free) ∧ w.cell? ⟨b, o + 10, none⟩ = some (.int .i64 x.after) ∧ w.cell? ⟨b, o + 11, none⟩ = some (rv) ∧ w.cell? ⟨b, o + 12, none⟩ = some (kv) ∧ w.cell? ⟨b, o + 13, none⟩ = some (tv)
theorem ItemsD.elem {S : Nat → Prop} {w : World} {d : Nat} {v : Value} {l : List IT} (h : ItemsD S w (d + 1) v l) (k : Nat) (hk : k < l.length) :
    ∃ (b o c : Nat) (ev xv rv kv tv : Value), v = .slice (some ⟨b, o, none⟩) l.length c ∧ l.length ≤ c ∧ c ≤ maxLen ∧ S b ∧ b < w.heap.size ∧ Cells14 w b (o + k * 14) l[k] ev xv rv kv tv ∧ ItemV S w d (item14 l[k] ev xv rv kv tv) l[k] := by
  obtain ⟨ps, rfl, ⟨_, _, a, c, hv, hlc, hcm, _, hx⟩, _, hp⟩ := h
  have hkp : k < ps.length := by simpa using hk
  obtain ⟨b, o, rfl, hS, hlt, hc⟩ := hx (by omega)
  obtain ⟨ho, ev, xv, rv, kv, tv, e, k1, k2, k3, k4, k5⟩ := hp ps[k] (List.getElem_mem hkp)
  have hlen : ∀ p ∈ ps, (p.1).length = 14 := fun p hpm => by
    obtain ⟨_, ev, xv, rv, kv, tv, e, _⟩ := hp p hpm
    rw [e]; rfl
  have hat : ∀ j, j < 14 → ∀ u, (item14 ps[k].2 ev xv rv kv tv)[j]? = some u → w.cell? ⟨b, o + k * 14 + j, none⟩ = some u := fun j hj u hu => by
    have := flat_at (f := fun p : List Value × IT => p.1) hlen k hkp j hj
    rw [e, hu] at this
    rw [Nat.add_assoc]
    exact hc _ _ this
  simp only [List.getElem_map, List.length_map]
  refine ⟨b, o, c, ev, xv, rv, kv, tv, hv, hlc, hcm, hS, hlt, ⟨hat 0 (by omega) _ rfl, hat 1 (by omega) _ rfl, hat 2 (by omega) _ rfl, hat 3 (by omega) _ rfl, hat 4 (by omega) _ rfl, hat 5 (by omega) _ rfl, hat 6 (by omega) _ rfl, hat 7 (by omega) _ rfl, hat 8 (by omega) _ rfl, hat 9 (by omega) _ rfl, hat 10 (by omega) _ rfl, hat 11 (by omega) _ rfl, hat 12 (by omega) _ rfl, hat 13 (by omega) _ rfl⟩, ho, ev, xv, rv, kv, tv, rfl, k1, k2, k3, k4, k5⟩
theorem ItemV.forms {S : Nat → Prop} {w : World} {d : Nat} {x : IT} {ev xv rv kv tv : Value} (h : ItemV S w d (item14 x ev xv rv kv tv) x) :
    SentsD S w ev x.entry ∧ SentsD S w xv x.exit ∧ TextsD S w rv x.roles ∧ ItemsD S w d kv x.kids ∧ ItemsD S w d tv x.table := by
  obtain ⟨_, ev2, xv2, rv2, kv2, tv2, e, k1, k2, k3, k4, k5⟩ := h
  simp only [item14, List.cons.injEq, and_true, true_and] at e
  obtain ⟨rfl, rfl, rfl, rfl, rfl⟩ := e
  exact ⟨k1, k2, k3, k4, k5⟩
/-- What is known of an item that has not many in it. -/
def okIG : Nat → Nat → IT → Prop
  | 0, _, _ => False
  | d + 1, dep, x => dep ≤ 40 ∧ x.entry.length ≤ 20 ∧ x.exit.length ≤ 20 ∧ x.roles.length ≤ 40 ∧ ∀ k ∈ x.kids ++ x.table, okIG d (dep + 1) k
/-- How many items there are in it. -/
def cntI : Nat → IT → Nat
  | 0, _ => 0
  | d + 1, x => 1 + ((x.kids ++ x.table).map (cntI d)).sum
/-- What is left behind some items. -/
def DoneI (d dep : Nat) (u0 u : Int) (P : List IT) : Prop := (∀ y ∈ P, okIG d (dep + 1) y) ∧ u + 1 + ((P.map (cntI d)).sum : Nat) ≤ u0 ∧ 0 ≤ u ∧ u ≤ 260
theorem DoneI.snoc {d dep : Nat} {u0 u u1 : Int} {P : List IT} {y : IT} (h : DoneI d dep u0 u P) (hy : okIG d (dep + 1) y) (h1 : u1 + (cntI d y : Nat) ≤ u) (h0 : 0 ≤ u1) : DoneI d dep u0 u1 (P ++ [y]) := by
  obtain ⟨k1, k2, k3, k4⟩ := h
  refine ⟨fun z hz => ?_, ?_, h0, by omega⟩
  · rcases List.mem_append.1 hz with hz | hz
    · exact k1 z hz
    · simp only [List.mem_singleton] at hz; subst hz; exact hy
  · simp only [List.map_append, List.sum_append, List.map_cons, List.map_nil, List.sum_cons, List.sum_nil]
    omega
/-- All but one block is as it was. -/
def KeepX (b : Nat) (w w' : World) : Prop := w.heap.size ≤ w'.heap.size ∧ ∀ k, k < w.heap.size → k ≠ b → w'.heap[k]? = w.heap[k]?
theorem KeepX.refl (b : Nat) (w : World) : KeepX b w w := ⟨Nat.le_refl _, fun _ _ _ => rfl⟩
theorem KeepX.trans {b : Nat} {w w1 w2 : World} (h : KeepX b w w1) (k : KeepX b w1 w2) : KeepX b w w2 := ⟨Nat.le_trans h.1 k.1, fun g hg hb => (k.2 g (Nat.lt_of_lt_of_le hg h.1) hb).trans (h.2 g hg hb)⟩
theorem KeepX.alloc {b : Nat} {w w1 : World} (h : KeepX b w w1) (o : Obj) : KeepX b w (w1.alloc o) := ⟨by simpa using Nat.le_succ_of_le h.1, fun g hg hb => (Below.heap_alloc _ _ _ (Nat.lt_of_lt_of_le hg h.1)).trans (h.2 g hg hb)⟩
theorem KeepX.set {b : Nat} {w w1 : World} (h : KeepX b w w1) (o : Nat) (u : Value) : KeepX b w (w1.setCell ⟨b, o, none⟩ u) := ⟨by simpa [World.setCell] using h.1, fun g hg hb => by
  rw [← h.2 g hg hb]
  simp [World.setCell, Array.getElem?_modify, Ne.symm hb]⟩
/-- An answer to it. -/
def AnsI (d dep : Nat) (x : IT) (u : Int) (W0 w : World) (b : Nat) (e : Ending) (w' : World) : Prop :=
  ∃ (q : Bool) (u' : Int), e = .returned (.bool q) ∧ w'.heap[b]? = some (.cells #[.int .i64 u'] 3 (0, 0)) ∧ Below W0.heap.size W0 w' ∧ KeepX b w w' ∧ (q = true → okIG d dep x ∧ u' + (cntI d x : Nat) ≤ u ∧ 0 ≤ u')
/-- The lists of an item that are done. -/
def PK (x : IT) : Nat → List IT
  | 0 => []
  | 1 => x.kids
  | _ => x.kids ++ x.table
theorem one_cellG {w : World} {b : Nat} {c0 : Value} {T : TypeId} (h : w.heap[b]? = some (.cells #[c0] T (0, 0))) : w.cell? ⟨b, 0, none⟩ = some c0 ∧ (∀ o, w.frozen? ⟨b, o, none⟩ = false) := by
  refine ⟨?_, fun o => ?_⟩ <;> simp [World.cell?, World.frozen?, h]
theorem set_cellG {w : World} {b : Nat} {c0 c1 : Value} {T : TypeId} (h : w.heap[b]? = some (.cells #[c0] T (0, 0))) : (w.setCell ⟨b, 0, none⟩ c1).heap[b]? = some (.cells #[c1] T (0, 0)) := by
  simp [World.setCell, Array.getElem?_modify, h]
theorem SentsD.len {S : Nat → Prop} {w : World} {v : Value} {l : List ST} (h : SentsD S w v l) : l.length * 40 ≤ 140737488355328 := by
  obtain ⟨ps, rfl, _, h3, _⟩ := h
  simpa using h3
theorem two_cellG {w : World} {b : Nat} {c0 c1 : Value} {T : TypeId} (h : w.heap[b]? = some (.cells #[c0, c1] T (0, 0))) : w.cell? ⟨b, 0, none⟩ = some c0 ∧ w.cell? ⟨b, 1, none⟩ = some c1 := by
  refine ⟨?_, ?_⟩ <;> simp [World.cell?, h]

end Go.Proofs.YtllhlmdhnmdihaaDoor
