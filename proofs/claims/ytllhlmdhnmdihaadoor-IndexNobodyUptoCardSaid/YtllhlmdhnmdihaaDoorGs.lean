/- model.Flat: the visitor that lists the items. Written by tools/gengs.py. -/
import Derived.Test.YtllhlmdhnmdihaaDoorGj
namespace Go.Proofs.YtllhlmdhnmdihaaDoor
open Go Go.RowKit Go.Deep Go.Shelf
set_option linter.unusedVariables false
set_option linter.unusedSimpArgs false

/-- An item without what is below it. -/
def bare (x : IT) : IT := .mk x.id x.nm x.kind x.entry x.exit x.man x.req x.rep x.auto x.free x.after x.roles [] []
/-- What the listing has in memory: the list's variable in block B, the list, its items' own memory. -/
def LSt (W0 : World) (B : Nat) (s : List IT) (T : Nat → Prop) (W : World) : Prop :=
  T B ∧ (∀ k, T k → k < W.heap.size) ∧ W0.heap.size ≤ B ∧ ∃ (L : List (List Value × IT)) (v : Value), L.map (·.2) = s ∧ W.heap[B]? = some (.cells #[v] 34 (0, 0)) ∧ OwnS W (B + 1) 36 14 v L.length (rowsI L) ∧
    (∀ k, v.ownBlock = some k → T k) ∧ ∀ p ∈ L, ∃ d, ItemV (fun k => T k ∧ B + 1 ≤ k ∧ v.ownBlock ≠ some k) W d p.1 p.2
theorem LSt.keep {W0 : World} {B : Nat} {s : List IT} {T : Nat → Prop} {W W' : World} (h : LSt W0 B s T W) (hs : W.heap.size ≤ W'.heap.size) (hk : ∀ k, T k → k < W.heap.size → W'.heap[k]? = W.heap[k]?) : LSt W0 B s T W' := by
  obtain ⟨h1, h2, h0, L, v, h3, h4, h5, h6, h7⟩ := h
  refine ⟨h1, fun k hkt => Nat.lt_of_lt_of_le (h2 k hkt) hs, h0, L, v, h3, (hk _ h1 (h2 _ h1)).trans h4, h5.keep (fun g hg => hk g (h6 g hg) (h5.lt g hg)), h6, fun p hp => ?_⟩
  obtain ⟨d, hd⟩ := h7 p hp
  exact ⟨d, hd.keep hs (fun k hS hl => hk k hS.1 hl)⟩
/-- A row of the list is set. -/
theorem OwnS.setRow {w : World} {base : Nat} {E : TypeId} {g off c n : Nat} {xs : List Value} (h : OwnS w base E 14 (.slice (some ⟨g, off, none⟩) n c) n xs) (i : Nat) (ys : List Value) (hi : i + ys.length ≤ xs.length) : OwnS (putL w g (off + i) ys) base E 14 (.slice (some ⟨g, off, none⟩) n c) n (xs.take i ++ ys ++ xs.drop (i + ys.length)) := by
  have hxl := h.1
  rcases h.2 with ⟨hv, _⟩ | ⟨g', off', cap, cur, hv, hb, hg, k1, k2, k3, k4⟩
  · cases hv
  simp only [Value.slice.injEq, Option.some.injEq, Addr.mk.injEq, and_true, true_and] at hv
  obtain ⟨⟨rfl, rfl⟩, rfl⟩ := hv
  have hO : Own1 w g off E n 14 c xs := ⟨cur, hg, hxl, k1, k2, fun j hj => by
    have : xs[j]? = ((cur.toList.drop off).take (n * 14))[j]? := by rw [k4]
    rw [this, List.getElem?_take, if_pos (by omega), List.getElem?_drop]
    simp⟩
  have hlen : (xs.take i ++ ys ++ xs.drop (i + ys.length)).length = n * 14 := by
    rw [← hxl]
    simp only [List.length_append, List.length_take, List.length_drop]
    omega
  obtain ⟨cur2, hg2, hl2, _, _, hx2⟩ := hO.putL ys i hi
  have hsz : cur2.size = cur.size := by
    have key : ∀ (ys : List Value) (w : World) (o : Nat) (cur cur2 : Array Value), w.heap[g]? = some (.cells cur E (0, 0)) → (putL w g o ys).heap[g]? = some (.cells cur2 E (0, 0)) → cur2.size = cur.size := by
      intro ys
      induction ys with
      | nil =>
        intro w o cur cur2 h1 h2
        rw [show (putL w g o []).heap[g]? = w.heap[g]? from rfl, h1] at h2
        simp only [Option.some.injEq, Obj.cells.injEq] at h2
        rw [h2.1]
      | cons y r ih =>
        intro w o cur cur2 h1 h2
        have := ih (w.setCell ⟨g, o, none⟩ y) (o + 1) (cur.setIfInBounds o y) cur2 (by simp [World.setCell, Array.getElem?_modify, h1]) h2
        simpa using this
    exact key ys w (off + i) cur cur2 hg hg2
  refine ⟨hlen, .inr ⟨g, off, c, cur2, rfl, hb, hg2, k1, k2, by omega, ?_⟩⟩
  refine List.ext_getElem? fun j => ?_
  by_cases hj : j < n * 14
  · rw [List.getElem?_take, if_pos hj, List.getElem?_drop]
    have := hx2 j (by rw [hlen]; exact hj)
    rw [← this]
    simp
  · rw [List.getElem?_take, if_neg hj, List.getElem?_eq_none (by rw [hlen]; omega)]
theorem OwnS.baseG {w : World} {base : Nat} {e : TypeId} {size : Nat} {v : Value} {n : Nat} {xs : List Value} (h : OwnS w base e size v n xs) : ∀ g, v.ownBlock = some g → base ≤ g := by
  intro k hk
  rcases h.2 with ⟨rfl, _⟩ | ⟨g, off, cap, cur, rfl, hb, _⟩
  · simp [Value.ownBlock] at hk
  · simp [Value.ownBlock] at hk
    omega
theorem OwnS.weak {w : World} {base base' : Nat} {e : TypeId} {size : Nat} {v : Value} {n : Nat} {xs : List Value} (h : OwnS w base e size v n xs) (hb : base' ≤ base) : OwnS w base' e size v n xs := by
  refine ⟨h.1, h.2.imp (fun h => h) ?_⟩
  rintro ⟨g, off, cap, cur, h1, h2, h3⟩
  exact ⟨g, off, cap, cur, h1, Nat.le_trans hb h2, h3⟩
/-- A whole struct out of a box, behind a guard that is met. -/
theorem wpList_load_rowG {P : Program} {ops : Array Oper} {rest : List Oper} {o : Oper} {a : Act} {w : World} {Q : Exit → Act → World → Prop} (hw : Region.wanted o (yielded ops a.tmps) = true) (ty : TypeId) (x : Operand) (ho : o.op = .load ty x)
    (g : Nat) (hx : a.eval x = .pointer (some ⟨g, 0, none⟩)) (t : TypeId) (cs : Array Value) (fr : Nat × Nat) (d : TypeDesc) (hg : w.heap[g]? = some (.cells cs t fr))
    (hu : P.underlying ty = some d) (hd : (match d with | .struct _ | .array _ _ => true | _ => false) = true) (hi : (P.info? ty).map (·.size) = some cs.size)
    (h : wpList P ops Q rest (a.put o.dst (.agg cs)) w) : wpList P ops Q (o :: rest) a w := by
  show (if Region.wanted o (yielded ops a.tmps) then _ else _)
  rw [if_pos hw]
  exact .inl (wp_load_row ty x ho g hx t cs fr d hg hu hd hi h)
theorem cellsG18 {w : World} {b : Nat} {c0 c1 c2 c3 c4 c5 c6 c7 c8 c9 c10 c11 c12 c13 c14 c15 c16 c17 : Value} {T : TypeId} (h : w.heap[b]? = some (.cells #[c0, c1, c2, c3, c4, c5, c6, c7, c8, c9, c10, c11, c12, c13, c14, c15, c16, c17] T (0, 0))) :
    w.cell? ⟨b, 0, none⟩ = some c0 ∧ w.cell? ⟨b, 1, none⟩ = some c1 ∧ w.cell? ⟨b, 2, none⟩ = some c2 ∧ w.cell? ⟨b, 3, none⟩ = some c3 ∧ w.cell? ⟨b, 4, none⟩ = some c4 ∧ w.cell? ⟨b, 5, none⟩ = some c5 ∧ w.cell? ⟨b, 6, none⟩ = some c6 ∧ w.cell? ⟨b, 7, none⟩ = some c7 ∧ w.cell? ⟨b, 8, none⟩ = some c8 ∧ w.cell? ⟨b, 9, none⟩ = some c9 ∧ w.cell? ⟨b, 10, none⟩ = some c10 ∧ w.cell? ⟨b, 11, none⟩ = some c11 ∧ w.cell? ⟨b, 12, none⟩ = some c12 ∧ w.cell? ⟨b, 13, none⟩ = some c13 ∧ w.cell? ⟨b, 14, none⟩ = some c14 ∧ w.cell? ⟨b, 15, none⟩ = some c15 ∧ w.cell? ⟨b, 16, none⟩ = some c16 ∧ w.cell? ⟨b, 17, none⟩ = some c17 := by
  refine ⟨?_, ?_, ?_, ?_, ?_, ?_, ?_, ?_, ?_, ?_, ?_, ?_, ?_, ?_, ?_, ?_, ?_, ?_⟩ <;> simp [World.cell?, h]
end Go.Proofs.YtllhlmdhnmdihaaDoor
