/- Rows in memory: as they read (Row), of a call's own (Own1), blocks that stay (Keeps); an append onto nil; a struct of any size loaded from within a block. -/
import Derived.Test.YtfljpnfjndjhpaaByS
import Derived.OwnWalk
import Derived.WalkSpells
import Derived.Deep.AppendSrc
import Derived.Deep.RegionLaw
namespace Go.Proofs.Ytfljpnfjndjhpaa
open Go Go.RowKit
set_option linter.unusedVariables false
set_option linter.unusedSimpArgs false

/-- Blocks from B on are as they were. -/
def Keeps (B : Nat) (w w' : World) : Prop := w.heap.size ≤ w'.heap.size ∧ ∀ k, B ≤ k → k < w.heap.size → w'.heap[k]? = w.heap[k]?
theorem Keeps.refl (B : Nat) (w : World) : Keeps B w w := ⟨Nat.le_refl _, fun _ _ _ => rfl⟩
theorem Keeps.trans {B : Nat} {w w1 w2 : World} (h : Keeps B w w1) (k : Keeps B w1 w2) : Keeps B w w2 := ⟨Nat.le_trans h.1 k.1, fun g hb hg => (k.2 g hb (Nat.lt_of_lt_of_le hg h.1)).trans (h.2 g hb hg)⟩
theorem Keeps.ofBelow {w w' : World} (B : Nat) (h : Below w.heap.size w w') : Keeps B w w' := ⟨h.size, fun k _ hk => h.block k hk⟩
theorem Keeps.setCell (B : Nat) (w : World) {b o : Nat} (hb : b < B) (u : Value) : Keeps B w (w.setCell ⟨b, o, none⟩ u) := by
  refine ⟨by simp [World.setCell], fun k hk _ => ?_⟩
  have : b ≠ k := by omega
  simp [World.setCell, Array.getElem?_modify, this]
/-- A slice of n elements of so many cells, as it reads, in a block from B on. -/
def Row (B : Nat) (w : World) (v : Value) (n size : Nat) (xs : List Value) : Prop :=
  ∃ g off c, v = .slice (some ⟨g, off, none⟩) n c ∧ B ≤ g ∧ xs.length = n * size ∧ n ≤ c ∧ c ≤ maxLen ∧ g < w.heap.size ∧ (∀ j u, xs[j]? = some u → w.cell? ⟨g, off + j, none⟩ = some u) ∧ (∀ u ∈ xs, u.oneCell' = true)
theorem Row.keep {B : Nat} {w w' : World} {v : Value} {n size : Nat} {xs : List Value} (h : Row B w v n size xs) (hb : Keeps B w w') : Row B w' v n size xs := by
  obtain ⟨g, off, c, e, hB, h1, h2, h3, hg, h4, h5⟩ := h
  refine ⟨g, off, c, e, hB, h1, h2, h3, Nat.lt_of_lt_of_le hg hb.1, fun j u hu => ?_, h5⟩
  have := hb.2 g hB hg
  rw [← h4 j u hu]
  simp [World.cell?, this]
theorem Row.mono {B B' : Nat} {w : World} {v : Value} {n size : Nat} {xs : List Value} (h : Row B w v n size xs) (hb : B' ≤ B) : Row B' w v n size xs := by
  obtain ⟨g, off, c, e, hB, r⟩ := h
  exact ⟨g, off, c, e, Nat.le_trans hb hB, r⟩
theorem Row.below {B : Nat} {w w' : World} {v : Value} {n size : Nat} {xs : List Value} (h : Row B w v n size xs) (hb : Below w.heap.size w w') : Row B w' v n size xs := h.keep (.ofBelow B hb)
theorem Row.src {P : Program} {t e' : TypeId} (hk : P.underlying t = some (.slice e')) {B : Nat} {w : World} {v : Value} {n size : Nat} {xs : List Value} (h : Row B w v n size xs) : Src P size t v n xs w := by
  obtain ⟨g, off, c, rfl, hB, h1, h2, h3, hg, h4, h5⟩ := h
  refine Src.ofSlice w hk ⟨g, off, none⟩ n c xs h1 (fun j u hu => ?_) h5
  rw [Addr.add_lit]
  exact h4 j u hu
theorem rowX_form {B : Nat} {w : World} {v : Value} {n size : Nat} {xs : List Value} (h : Row B w v n size xs) : ∃ g off c, v = .slice (some ⟨g, off, none⟩) n c := by
  obtain ⟨g, off, c, e, _⟩ := h
  exact ⟨g, off, c, e⟩
/-- A row of a call's own, cell for cell. -/
def Own1 (w : World) (g off : Nat) (E : TypeId) (n size c : Nat) (xs : List Value) : Prop :=
  ∃ cur, w.heap[g]? = some (.cells cur E (0, 0)) ∧ xs.length = n * size ∧ n ≤ c ∧ c ≤ maxLen ∧ ∀ j, j < xs.length → cur[off + j]? = xs[j]?
theorem OwnS.own1 {w : World} {base : Nat} {e : TypeId} {size : Nat} {v : Value} {n : Nat} {xs : List Value} (h : OwnS w base e size v n xs) (hn : 0 < n) :
    ∃ g off c, v = .slice (some ⟨g, off, none⟩) n c ∧ base ≤ g ∧ g < w.heap.size ∧ Own1 w g off e n size c xs := by
  have hl := h.1
  rcases h.2 with ⟨_, h0⟩ | ⟨g, off, cap, cur, rfl, hb, hg, k1, k2, k3, k4⟩
  · omega
  · refine ⟨g, off, cap, rfl, hb, (Array.getElem?_eq_some_iff.1 hg).1, cur, hg, hl, k1, k2, fun j hj => ?_⟩
    have : xs[j]? = ((cur.toList.drop off).take (n * size))[j]? := by rw [k4]
    rw [this, List.getElem?_take, if_pos (by omega), List.getElem?_drop]
    simp
theorem Own1.cell {w : World} {g off : Nat} {E : TypeId} {n size c : Nat} {xs : List Value} (h : Own1 w g off E n size c xs) (j : Nat) (u : Value) (hj : xs[j]? = some u) : w.cell? ⟨g, off + j, none⟩ = some u := by
  obtain ⟨cur, hg, hl, _, _, hx⟩ := h
  have hjl := (List.getElem?_eq_some_iff.1 hj).1
  rw [cell_of_row w g (off + j) cur E (0, 0) hg, ← hj, ← hx j hjl]
theorem Own1.frozen {w : World} {g off : Nat} {E : TypeId} {n size c : Nat} {xs : List Value} (h : Own1 w g off E n size c xs) (o : Nat) : w.frozen? ⟨g, o, none⟩ = false := by
  obtain ⟨cur, hg, _⟩ := h
  simp [World.frozen?, hg]
theorem Own1.keep {w w' : World} {g off : Nat} {E : TypeId} {n size c : Nat} {xs : List Value} (h : Own1 w g off E n size c xs) (hk : w'.heap[g]? = w.heap[g]?) : Own1 w' g off E n size c xs := by
  obtain ⟨cur, hg, r⟩ := h
  exact ⟨cur, hk.trans hg, r⟩
theorem Own1.set {w : World} {g off : Nat} {E : TypeId} {n size c : Nat} {xs : List Value} (h : Own1 w g off E n size c xs) (j : Nat) (hj : j < xs.length) (u : Value) : Own1 (w.setCell ⟨g, off + j, none⟩ u) g off E n size c (xs.set j u) := by
  obtain ⟨cur, hg, hl, h1, h2, hx⟩ := h
  have hsz : off + j < cur.size := by
    have := hx j hj
    rw [List.getElem?_eq_getElem hj] at this
    exact (Array.getElem?_eq_some_iff.1 this).1
  refine ⟨cur.setIfInBounds (off + j) u, by simp [World.setCell, Array.getElem?_modify, hg], by simpa using hl, h1, h2, fun i hi => ?_⟩
  rw [List.length_set] at hi
  rw [Array.getElem?_setIfInBounds, List.getElem?_set]
  by_cases e : j = i
  · subst e
    simp [hsz, hj]
  · rw [if_neg (by omega), if_neg e]
    exact hx i hi
theorem Own1.set0 {w : World} {g off : Nat} {E : TypeId} {n size c : Nat} {xs : List Value} (h : Own1 w g off E n size c xs) (hj : 0 < xs.length) (u : Value) : Own1 (w.setCell ⟨g, off, none⟩ u) g off E n size c (xs.set 0 u) := h.set 0 hj u
theorem setX_far (w : World) {b g o : Nat} (h : g ≠ b) (v : Value) : (w.setCell ⟨b, o, none⟩ v).heap[g]? = w.heap[g]? := by simp [World.setCell, Array.getElem?_modify, Ne.symm h]
theorem Own1.row {w : World} {g off : Nat} {E : TypeId} {n size c : Nat} {xs : List Value} (h : Own1 w g off E n size c xs) (h1 : ∀ u ∈ xs, u.oneCell' = true) (B : Nat) (hB : B ≤ g) : Row B w (.slice (some ⟨g, off, none⟩) n c) n size xs := by
  have h' := h
  obtain ⟨cur, hg, hl, hc, hm, hx⟩ := h
  exact ⟨g, off, c, rfl, hB, hl, hc, hm, (Array.getElem?_eq_some_iff.1 hg).1, fun j u hu => h'.cell j u hu, h1⟩

theorem Row.at {B : Nat} {w : World} {g off n c size : Nat} {xs : List Value} (h : Row B w (.slice (some ⟨g, off, none⟩) n c) n size xs) : ∀ j u, xs[j]? = some u → w.cell? ⟨g, off + j, none⟩ = some u := by
  obtain ⟨g', off', c', hv, _, _, _, _, _, h4, _⟩ := h
  simp only [Value.slice.injEq, Option.some.injEq, Addr.mk.injEq, true_and, and_true] at hv
  obtain ⟨⟨rfl, rfl⟩, rfl⟩ := hv
  exact h4
theorem Row.lt {B : Nat} {w : World} {g off n c size : Nat} {xs : List Value} (h : Row B w (.slice (some ⟨g, off, none⟩) n c) n size xs) : g < w.heap.size := by
  obtain ⟨g', off', c', hv, _, _, _, _, hg, _⟩ := h
  simp only [Value.slice.injEq, Option.some.injEq, Addr.mk.injEq, true_and, and_true] at hv
  obtain ⟨⟨rfl, rfl⟩, rfl⟩ := hv
  exact hg

theorem row_block {W : World} {g n size : Nat} {cs : Array Value} {T : TypeId} (h : W.heap[g]? = some (.cells cs T (0, 0))) (hs : cs.size = n * size) (hn : n ≤ 1000) (h1 : ∀ u ∈ cs.toList, u.oneCell' = true) : Row 0 W (.slice (some ⟨g, 0, none⟩) n n) n size cs.toList := by
  refine ⟨g, 0, n, rfl, Nat.zero_le _, by simpa using hs, Nat.le_refl _, by unfold maxLen; omega, (Array.getElem?_eq_some_iff.1 h).1, fun j u hu => ?_, h1⟩
  rw [cell_of_row W g (0 + j) _ _ _ h, Nat.zero_add, ← hu]
  simp

section
variable {P : Program}
/-- An append onto nil. -/
theorem run_append_nil (w : World) (base : Nat) (t tx ty e : TypeId) (i : TypeInfo) (z : Value) (size bytes : Nat) (ht : P.underlying t = some (.slice e)) (hi : P.info? e = some i) (hz : i.zero = some z)
    (hsize : i.size = size) (hby : i.bytes = bytes) (hzs : z.cells.size = size) (hpos : 0 < size)
    (x : Value) (m : Nat) (news : List Value) (hs : Src P size tx x m news w)
    (h63 : m ≤ maxLen) (hbytes : m * bytes ≤ 140737488355328) (hbase : base ≤ w.heap.size) :
    ∃ v' w', (Builtin.append_ #[t, tx] ty #[.slice none 0 0, x]).run P w = .ok v' w' ∧ w'.ownsRow base e size v' m news ∧ w.grownBy w' none := by
  subst hby
  subst hsize
  have hsmall : m ≤ 9223372036854775807 := by simp only [maxLen] at h63; omega
  have hnl : news.length = m * i.size := hs.newsLen
  by_cases hm : m = 0
  · subst hm
    have hn : news = [] := List.eq_nil_of_length_eq_zero (by simpa using hnl)
    subst hn
    refine ⟨.slice none 0 0, w, ?_, World.ownsRow_nil _ _ _ _, ⟨rfl, rfl, rfl, Nat.le_refl _, fun _ _ _ => rfl⟩⟩
    have hc := hs.cells
    have hlx := hs.len
    rcases hs.kind with ⟨e', hk⟩ | hk <;>
      simp [Builtin.append_, run_underlying ht, run_underlying hk, sizeOf, typeInfo, hi, hlx, hc]
  · have hr := run_append_grow_src (P := P) w t tx ty e i z ht hi hz none 0 0 [] (run_firstCells_none w.drew i.size 0 0 0) x m news hs (by omega) (by omega) (growslice_fits (by omega) (by simpa using hbytes))
    have hge := grownCap_ge w (0 + m) 0 e
    have hcm : grownCap w (0 + m) 0 e ≤ maxLen := grownCap_le_maxLen w (0 + m) 0 e (by omega)
    refine ⟨_, _, hr, ⟨hnl, .inr ⟨w.heap.size, _, _, by rw [Nat.zero_add], hbase, heap_alloc_new w.drew _, by omega, hcm, ?_, ?_⟩⟩, ⟨rfl, rfl, rfl, by simp, fun k hk _ => Below.heap_alloc w.drew _ k hk⟩⟩
    · simp only [Array.size_append, List.size_toArray, size_zeroCells, hzs, List.nil_append]
      rw [hnl, ← Nat.add_mul]
      first | exact Nat.mul_le_mul_right _ (by omega) | (congr 1; omega) | (refine Nat.le_of_eq ?_; congr 1; omega)
    · simp only [Array.toList_append, List.nil_append]
      rw [← hnl]
      exact List.take_left
theorem wpList_append_nil {ops : Array Oper} {rest : List Oper} {o : Oper} {a : Act} {w : World} {Q : Exit → Act → World → Prop} (hgd : o.guard = none) (s x : Operand) (t tx : TypeId)
    (ho : o.op = .call { callee := .builtin .append, args := #[s, x], argTypes := #[t, tx] })
    (base : Nat) (e : TypeId) (i : TypeInfo) (z : Value) (size bytes : Nat) (ht : P.underlying t = some (.slice e)) (hi : P.info? e = some i) (hz : i.zero = some z)
    (hsize : i.size = size) (hby : i.bytes = bytes) (hzs : z.cells.size = size) (hpos : 0 < size)
    (hs : a.eval s = .slice none 0 0) (xv : Value) (m : Nat) (news : List Value) (hx : a.eval x = xv) (hsrc : Src P size tx xv m news w)
    (h63 : m ≤ maxLen) (hbytes : m * bytes ≤ 140737488355328) (hbase : base ≤ w.heap.size)
    (h : ∀ v' w', w'.ownsRow base e size v' m news → w.grownBy w' none → wpList P ops Q rest (a.put o.dst v') w') : wpList P ops Q (o :: rest) a w := by
  refine wpList_plain hgd fun K hK => ?_
  obtain ⟨v', w', hr, h2, h3⟩ := run_append_nil (P := P) w base t tx o.type e i z size bytes ht hi hz hsize hby hzs hpos xv m news hsrc h63 hbytes hbase
  unfold Oper.wp execOp
  simp only [ho, resolve, invoke, builtin, Sem.run_bind, Sem.run_pure, Result.andThen_ok, List.map_toArray, List.map_cons, List.map_nil, hs, hx, hr]
  exact hK _ _ (h v' w' h2 h3)
theorem step_append_nil {ops : Array Oper} {o : Oper} {a : Act} {w : World} {Q : Exit → Act → World → Prop} {K : Act → World → Prop} {E : Prop} (hgd : o.guard = none) (s x : Operand) (t tx : TypeId)
    (ho : o.op = .call { callee := .builtin .append, args := #[s, x], argTypes := #[t, tx] })
    (base : Nat) (e : TypeId) (i : TypeInfo) (z : Value) (size bytes : Nat) (ht : P.underlying t = some (.slice e)) (hi : P.info? e = some i) (hz : i.zero = some z)
    (hsize : i.size = size) (hby : i.bytes = bytes) (hzs : z.cells.size = size) (hpos : 0 < size)
    (hs : a.eval s = .slice none 0 0) (xv : Value) (m : Nat) (news : List Value) (hx : a.eval x = xv) (hsrc : Src P size tx xv m news w)
    (h63 : m ≤ maxLen) (hbytes : m * bytes ≤ 140737488355328) (hbase : base ≤ w.heap.size)
    (h : ∀ v' w', w'.ownsRow base e size v' m news → w.grownBy w' none → K (a.put o.dst v') w') :
    if Region.wanted o (yielded ops a.tmps) = true then Oper.wp P o a w K Q else E := by
  have hw : Region.wanted o (yielded ops a.tmps) = true := by simp [Region.wanted, hgd]
  rw [if_pos hw]
  obtain ⟨v', w', hr, h2, h3⟩ := run_append_nil (P := P) w base t tx o.type e i z size bytes ht hi hz hsize hby hzs hpos xv m news hsrc h63 hbytes hbase
  unfold Oper.wp execOp
  simp only [ho, resolve, invoke, builtin, Sem.run_bind, Sem.run_pure, Result.andThen_ok, List.map_toArray, List.map_cons, List.map_nil, hs, hx, hr]
  exact h v' w' h2 h3
end

section
variable {P : Program}
theorem run_loadVar_cells (w : World) (a : Addr) (ty : TypeId) (cs : Array Value) (d : TypeDesc) (hc : ∀ j v, cs[j]? = some v → w.cell? (a.add j) = some v)
    (hu : P.underlying ty = some d) (hd : (match d with | .struct _ | .array _ _ => true | _ => false) = true) (hi : (P.info? ty).map (·.size) = some cs.size) :
    (loadVar ty a).run P w = .ok (.agg cs) w := by
  have hl : (loadCells a cs.toList.length).run P w = .ok cs.toList.toArray w :=
    run_loadCells_list (P := P) w a cs.toList (fun j v hv => hc j v (by simpa using hv))
  cases hq : P.info? ty with
  | none => simp [hq] at hi
  | some i =>
    have hs : i.size = cs.size := by simpa [hq] using hi
    have hagg : (isAgg ty).run P w = .ok true w := by
      unfold isAgg
      rw [Sem.run_bind, run_underlying hu w]
      cases d <;> simp_all
    simp only [Array.length_toList, Array.toArray_toList] at hl
    simp [loadVar, Sem.run_bind, hagg, sizeOf, typeInfo, hq, hs, hl]
theorem wpList_load_cells {ops : Array Oper} {rest : List Oper} {o : Oper} {a : Act} {w : World} {Q : Exit → Act → World → Prop} (hgd : o.guard = none) (ty : TypeId) (x : Operand) (ho : o.op = .load ty x)
    (b : Addr) (hx : a.eval x = .pointer (some b)) (cs : Array Value) (d : TypeDesc) (hc : ∀ j v, cs[j]? = some v → w.cell? (b.add j) = some v)
    (hu : P.underlying ty = some d) (hd : (match d with | .struct _ | .array _ _ => true | _ => false) = true) (hi : (P.info? ty).map (·.size) = some cs.size)
    (h : wpList P ops Q rest (a.put o.dst (.agg cs)) w) : wpList P ops Q (o :: rest) a w := by
  refine wpList_plain hgd fun K hK => ?_
  unfold Oper.wp execOp
  simp only [ho, hx, Instr.loadAt, Instr.sureAddr, Sem.run_bind, Sem.run_pure, Result.andThen_ok, run_loadVar_cells w b ty cs d hc hu hd hi]
  exact hK _ _ h
end
end Go.Proofs.Ytfljpnfjndjhpaa
