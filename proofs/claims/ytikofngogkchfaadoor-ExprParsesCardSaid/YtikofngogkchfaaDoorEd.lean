/- Trees as they lie, and how deep they are. -/
import Derived.Test.YtikofngogkchfaaDoorEs
namespace Go.Proofs.YtikofngogkchfaaDoor
open Go.RowKit
set_option linter.unusedVariables false

/-- The cells of a node whose kids are this slice. -/
def Nd.cells : Nd → Value → List Value
  | .leaf op vk vi vb vt t i, s => [.int .i64 op, .int .i64 vk, .int .i64 vi, .bool vb, .string ⟨vt.toArray⟩, .string ⟨t.toArray⟩, .int .i64 i, s]
  | .un op _, s => [.int .i64 op, .int .i64 0, .int .i64 0, .bool false, .string ⟨#[]⟩, .string ⟨#[]⟩, .int .i64 0, s]
  | .bin op _ _, s => [.int .i64 op, .int .i64 0, .int .i64 0, .bool false, .string ⟨#[]⟩, .string ⟨#[]⟩, .int .i64 0, s]
/-- Its value. -/
def Nd.val (n : Nd) (s : Value) : Value := .agg (n.cells s).toArray
/-- The kids of a tree as they lie, in blocks that may be. -/
def KidsAt (w : World) (ok : Nat → Prop) : Nd → Value → Prop
  | .leaf .., s => s = .slice none 0 0
  | .un _ a, s => ∃ g sa, s = .slice (some ⟨g, 0, none⟩) 1 1 ∧ ok g ∧ w.heap[g]? = some (.cells (a.cells sa).toArray 26 (0, 0)) ∧ KidsAt w ok a sa
  | .bin _ a b, s => ∃ g sa sb, s = .slice (some ⟨g, 0, none⟩) 2 2 ∧ ok g ∧ w.heap[g]? = some (.cells (a.cells sa ++ b.cells sb).toArray 26 (0, 0)) ∧ KidsAt w ok a sa ∧ KidsAt w ok b sb
theorem KidsAt.keep {w w' : World} {ok ok' : Nat → Prop} (hk : ∀ g, ok g → g < w.heap.size → w'.heap[g]? = w.heap[g]? ∧ ok' g) : ∀ {n : Nd} {s : Value}, KidsAt w ok n s → KidsAt w' ok' n s := by
  intro n
  have lt : ∀ {g : Nat} {o : Obj}, w.heap[g]? = some o → g < w.heap.size := fun h => (Array.getElem?_eq_some_iff.1 h).1
  induction n with
  | leaf => intro s h; exact h
  | un op a ih =>
    rintro s ⟨g, sa, h1, h2, h3, h4⟩
    exact ⟨g, sa, h1, (hk g h2 (lt h3)).2, (hk g h2 (lt h3)).1.trans h3, ih h4⟩
  | bin op a b iha ihb =>
    rintro s ⟨g, sa, sb, h1, h2, h3, h4, h5⟩
    exact ⟨g, sa, sb, h1, (hk g h2 (lt h3)).2, (hk g h2 (lt h3)).1.trans h3, iha h4, ihb h5⟩
theorem KidsAt.below {w w' : World} {ok : Nat → Prop} {n : Nd} {s : Value} (h : KidsAt w ok n s) (hb : Below w.heap.size w w') : KidsAt w' ok n s := h.keep fun g ho hg => ⟨hb.block g hg, ho⟩
theorem KidsAt.mono {w : World} {ok ok' : Nat → Prop} {n : Nd} {s : Value} (h : KidsAt w ok n s) (hm : ∀ g, ok g → g < w.heap.size → ok' g) : KidsAt w ok' n s := h.keep fun g ho hg => ⟨rfl, hm g ho hg⟩
theorem KidsAt.chg {w w' : World} {S : List Nat} {ok : Nat → Prop} {n : Nd} {s : Value} (h : KidsAt w ok n s) (hc : Chg S w w') (hs : ∀ g, ok g → g ∉ S) : KidsAt w' ok n s :=
  h.keep fun g h1 h2 => ⟨hc.block g h2 (hs g h1), h1⟩
theorem Nd.slice_one {w : World} {ok : Nat → Prop} {n : Nd} {s : Value} (h : KidsAt w ok n s) : (n.cells s).toArray.all (·.oneCell') = true := by
  have hs : s.oneCell' = true := by
    cases n with
    | leaf => cases h; rfl
    | un => obtain ⟨g, sa, rfl, _⟩ := h; rfl
    | bin => obtain ⟨g, sa, sb, rfl, _⟩ := h; rfl
  cases n <;> simp [Nd.cells, Value.oneCell'] <;> exact hs
/-- A node's kids, one by one: where they lie. -/
theorem Nd.cells_len (n : Nd) (s : Value) : (n.cells s).length = 8 := by cases n <;> rfl
theorem Nd.kids_form {w : World} {ok : Nat → Prop} {n : Nd} {s : Value} (h : KidsAt w ok n s) : ∃ p m, s = .slice p m m ∧ m ≤ 2 := by
  cases n with
  | leaf => exact ⟨none, 0, h, by omega⟩
  | un => obtain ⟨g, sa, rfl, _⟩ := h; exact ⟨_, 1, rfl, by omega⟩
  | bin => obtain ⟨g, sa, sb, rfl, _⟩ := h; exact ⟨_, 2, rfl, by omega⟩
/-- The cells of one kid, or of two. -/
theorem kid_cells {w : World} {g : Nat} {a : Nd} {sa : Value} {pre post : List Value} {T : TypeId} (h : w.heap[g]? = some (.cells (pre ++ a.cells sa ++ post).toArray T (0, 0))) :
    ∃ op vk vi vb vt t i, a.val sa = .agg #[.int .i64 op, .int .i64 vk, .int .i64 vi, .bool vb, .string vt, .string t, .int .i64 i, sa] ∧
      w.cell? ⟨g, pre.length, none⟩ = some (.int .i64 op) ∧ w.cell? ⟨g, pre.length + 1, none⟩ = some (.int .i64 vk) ∧ w.cell? ⟨g, pre.length + 2, none⟩ = some (.int .i64 vi) ∧ w.cell? ⟨g, pre.length + 3, none⟩ = some (.bool vb)
      ∧ w.cell? ⟨g, pre.length + 4, none⟩ = some (.string vt) ∧ w.cell? ⟨g, pre.length + 5, none⟩ = some (.string t) ∧ w.cell? ⟨g, pre.length + 6, none⟩ = some (.int .i64 i) ∧ w.cell? ⟨g, pre.length + 7, none⟩ = some sa := by
  have hc : ∀ j u, (a.cells sa)[j]? = some u → w.cell? ⟨g, pre.length + j, none⟩ = some u := by
    intro j u hu
    have hj := (List.getElem?_eq_some_iff.1 hu).1
    rw [cell_of_row w g (pre.length + j) _ T (0, 0) h, List.getElem?_toArray, List.append_assoc, List.getElem?_append_right (by omega), Nat.add_sub_cancel_left, List.getElem?_append_left hj, hu]
  cases a with
  | leaf op vk vi vb vt t i => exact ⟨op, vk, vi, vb, _, _, i, rfl, hc 0 _ rfl, hc 1 _ rfl, hc 2 _ rfl, hc 3 _ rfl, hc 4 _ rfl, hc 5 _ rfl, hc 6 _ rfl, hc 7 _ rfl⟩
  | un op a => exact ⟨op, 0, 0, false, _, _, 0, rfl, hc 0 _ rfl, hc 1 _ rfl, hc 2 _ rfl, hc 3 _ rfl, hc 4 _ rfl, hc 5 _ rfl, hc 6 _ rfl, hc 7 _ rfl⟩
  | bin op a b => exact ⟨op, 0, 0, false, _, _, 0, rfl, hc 0 _ rfl, hc 1 _ rfl, hc 2 _ rfl, hc 3 _ rfl, hc 4 _ rfl, hc 5 _ rfl, hc 6 _ rfl, hc 7 _ rfl⟩
/-- A store of a whole row into a block. -/
theorem Chg.setRow' {S : List Nat} {w w' : World} (h : Chg S w w') (b : Nat) (cs : Array Value) (hb : b ∈ S ∨ w.heap.size ≤ b) : Chg S w (w'.setRow b cs) :=
  ⟨h.os, h.tape, h.output, by rw [size_setRow]; exact h.size, fun i hi hn => by
    rw [← h.block i hi hn]
    simp only [World.setRow, Array.getElem?_modify]
    rw [if_neg (by rintro rfl; exact hb.elim hn (fun h => by omega))]⟩
theorem setRow_at (w : World) (b : Nat) (cs old : Array Value) (T : TypeId) (z : Nat × Nat) (h : w.heap[b]? = some (.cells old T z)) : (w.setRow b cs).heap[b]? = some (.cells cs T z) := by
  simp [World.setRow, Array.getElem?_modify, h]
theorem setRow_far (w : World) (b g : Nat) (cs : Array Value) (h : g ≠ b) : (w.setRow b cs).heap[g]? = w.heap[g]? := by
  simp only [World.setRow, Array.getElem?_modify]
  rw [if_neg (by omega)]
end Go.Proofs.YtikofngogkchfaaDoor
