/- Rows in memory: as they read (Row), of a call's own (Own1), blocks that stay (Keeps); an append onto nil; a struct of any size loaded from within a block. -/
import Derived.Test.YtpcajjbdlfookaaGreatDoorMp06
import Derived.OwnWalk
import Derived.WalkSpells
import Derived.Deep.AppendSrc
import Derived.Deep.RegionLaw
import Derived.Test.YtpcajjbdlfookaaGreatDoorMp09
import Derived.Deep.AppendLies
import Derived.RegionDies
import Derived.Test.YtpcajjbdlfookaaGreatDoorMp08
namespace Go.Proofs.YtpcajjbdlfookaaGreatDoor
open Go Go.RowKit
set_option linter.unusedVariables false
set_option linter.unusedSimpArgs false

/-- Blocks from B on are as they were. -/
def Keeps (B : Nat) (w w' : World) : Prop := w.heap.size ≤ w'.heap.size ∧ ∀ k, B ≤ k → k < w.heap.size → w'.heap[k]? = w.heap[k]?
theorem Keeps.refl (B : Nat) (w : World) : Keeps B w w := ⟨Nat.le_refl _, fun _ _ _ => rfl⟩
theorem Keeps.trans {B : Nat} {w w1 w2 : World} (h : Keeps B w w1) (k : Keeps B w1 w2) : Keeps B w w2 := ⟨Nat.le_trans h.1 k.1, fun g hb hg => (k.2 g hb (Nat.lt_of_lt_of_le hg h.1)).trans (h.2 g hb hg)⟩
theorem Keeps.ofBelow {w w' : World} (B : Nat) (h : Below w.heap.size w w') : Keeps B w w' := ⟨h.size, fun k _ hk => h.block k hk⟩
theorem Keeps.setCell (B : Nat) (w : World) {b o : Nat} (hb : b < B) (u : Value) : Keeps B w (w.setCell ⟨b, o, none⟩ u) := by
  refine ⟨by simp [World.setCell], fun k hk _ => ?_⟩
  have : b ≠ k := by omega
  simp [World.setCell, Array.getElem?_modify, this]
/-- A slice of n elements of so many cells, as it reads, in a block from B on. -/
def Row (B : Nat) (w : World) (v : Value) (n size : Nat) (xs : List Value) : Prop :=
  ∃ g off c, v = .slice (some ⟨g, off, none⟩) n c ∧ B ≤ g ∧ xs.length = n * size ∧ n ≤ c ∧ c ≤ maxLen ∧ g < w.heap.size ∧ (∀ j u, xs[j]? = some u → w.cell? ⟨g, off + j, none⟩ = some u) ∧ (∀ u ∈ xs, u.oneCell' = true)
theorem Row.keep {B : Nat} {w w' : World} {v : Value} {n size : Nat} {xs : List Value} (h : Row B w v n size xs) (hb : Keeps B w w') : Row B w' v n size xs := by
  obtain ⟨g, off, c, e, hB, h1, h2, h3, hg, h4, h5⟩ := h
  refine ⟨g, off, c, e, hB, h1, h2, h3, Nat.lt_of_lt_of_le hg hb.1, fun j u hu => ?_, h5⟩
  have := hb.2 g hB hg
  rw [← h4 j u hu]
  simp [World.cell?, this]
theorem Row.mono {B B' : Nat} {w : World} {v : Value} {n size : Nat} {xs : List Value} (h : Row B w v n size xs) (hb : B' ≤ B) : Row B' w v n size xs := by
  obtain ⟨g, off, c, e, hB, r⟩ := h
  exact ⟨g, off, c, e, Nat.le_trans hb hB, r⟩
theorem Row.below {B : Nat} {w w' : World} {v : Value} {n size : Nat} {xs : List Value} (h : Row B w v n size xs) (hb : Below w.heap.size w w') : Row B w' v n size xs := h.keep (.ofBelow B hb)
theorem Row.src {P : Program} {t e' : TypeId} (hk : P.underlying t = some (.slice e')) {B : Nat} {w : World} {v : Value} {n size : Nat} {xs : List Value} (h : Row B w v n size xs) : Src P size t v n xs w := by
  obtain ⟨g, off, c, rfl, hB, h1, h2, h3, hg, h4, h5⟩ := h
  refine Src.ofSlice w hk ⟨g, off, none⟩ n c xs h1 (fun j u hu => ?_) h5
  rw [Addr.add_lit]
  exact h4 j u hu
theorem rowX_form {B : Nat} {w : World} {v : Value} {n size : Nat} {xs : List Value} (h : Row B w v n size xs) : ∃ g off c, v = .slice (some ⟨g, off, none⟩) n c := by
  obtain ⟨g, off, c, e, _⟩ := h
  exact ⟨g, off, c, e⟩
/-- A row of a call's own, cell for cell. -/
def Own1 (w : World) (g off : Nat) (E : TypeId) (n size c : Nat) (xs : List Value) : Prop :=
  ∃ cur, w.heap[g]? = some (.cells cur E (0, 0)) ∧ xs.length = n * size ∧ n ≤ c ∧ c ≤ maxLen ∧ ∀ j, j < xs.length → cur[off + j]? = xs[j]?
theorem OwnS.own1 {w : World} {base : Nat} {e : TypeId} {size : Nat} {v : Value} {n : Nat} {xs : List Value} (h : OwnS w base e size v n xs) (hn : 0 < n) :
    ∃ g off c, v = .slice (some ⟨g, off, none⟩) n c ∧ base ≤ g ∧ g < w.heap.size ∧ Own1 w g off e n size c xs := by
  have hl := h.1
  rcases h.2 with ⟨_, h0⟩ | ⟨g, off, cap, cur, rfl, hb, hg, k1, k2, k3, k4⟩
  · omega
  · refine ⟨g, off, cap, rfl, hb, (Array.getElem?_eq_some_iff.1 hg).1, cur, hg, hl, k1, k2, fun j hj => ?_⟩
    have : xs[j]? = ((cur.toList.drop off).take (n * size))[j]? := by rw [k4]
    rw [this, List.getElem?_take, if_pos (by omega), List.getElem?_drop]
    simp
theorem Own1.cell {w : World} {g off : Nat} {E : TypeId} {n size c : Nat} {xs : List Value} (h : Own1 w g off E n size c xs) (j : Nat) (u : Value) (hj : xs[j]? = some u) : w.cell? ⟨g, off + j, none⟩ = some u := by
  obtain ⟨cur, hg, hl, _, _, hx⟩ := h
  have hjl := (List.getElem?_eq_some_iff.1 hj).1
  rw [cell_of_row w g (off + j) cur E (0, 0) hg, ← hj, ← hx j hjl]
theorem Own1.frozen {w : World} {g off : Nat} {E : TypeId} {n size c : Nat} {xs : List Value} (h : Own1 w g off E n size c xs) (o : Nat) : w.frozen? ⟨g, o, none⟩ = false := by
  obtain ⟨cur, hg, _⟩ := h
  simp [World.frozen?, hg]
theorem Own1.keep {w w' : World} {g off : Nat} {E : TypeId} {n size c : Nat} {xs : List Value} (h : Own1 w g off E n size c xs) (hk : w'.heap[g]? = w.heap[g]?) : Own1 w' g off E n size c xs := by
  obtain ⟨cur, hg, r⟩ := h
  exact ⟨cur, hk.trans hg, r⟩
theorem Own1.set {w : World} {g off : Nat} {E : TypeId} {n size c : Nat} {xs : List Value} (h : Own1 w g off E n size c xs) (j : Nat) (hj : j < xs.length) (u : Value) : Own1 (w.setCell ⟨g, off + j, none⟩ u) g off E n size c (xs.set j u) := by
  obtain ⟨cur, hg, hl, h1, h2, hx⟩ := h
  have hsz : off + j < cur.size := by
    have := hx j hj
    rw [List.getElem?_eq_getElem hj] at this
    exact (Array.getElem?_eq_some_iff.1 this).1
  refine ⟨cur.setIfInBounds (off + j) u, by simp [World.setCell, Array.getElem?_modify, hg], by simpa using hl, h1, h2, fun i hi => ?_⟩
  rw [List.length_set] at hi
  rw [Array.getElem?_setIfInBounds, List.getElem?_set]
  by_cases e : j = i
  · subst e
    simp [hsz, hj]
  · rw [if_neg (by omega), if_neg e]
    exact hx i hi
theorem Own1.set0 {w : World} {g off : Nat} {E : TypeId} {n size c : Nat} {xs : List Value} (h : Own1 w g off E n size c xs) (hj : 0 < xs.length) (u : Value) : Own1 (w.setCell ⟨g, off, none⟩ u) g off E n size c (xs.set 0 u) := h.set 0 hj u
theorem setX_far (w : World) {b g o : Nat} (h : g ≠ b) (v : Value) : (w.setCell ⟨b, o, none⟩ v).heap[g]? = w.heap[g]? := by simp [World.setCell, Array.getElem?_modify, Ne.symm h]
theorem Own1.row {w : World} {g off : Nat} {E : TypeId} {n size c : Nat} {xs : List Value} (h : Own1 w g off E n size c xs) (h1 : ∀ u ∈ xs, u.oneCell' = true) (B : Nat) (hB : B ≤ g) : Row B w (.slice (some ⟨g, off, none⟩) n c) n size xs := by
  have h' := h
  obtain ⟨cur, hg, hl, hc, hm, hx⟩ := h
  exact ⟨g, off, c, rfl, hB, hl, hc, hm, (Array.getElem?_eq_some_iff.1 hg).1, fun j u hu => h'.cell j u hu, h1⟩

theorem Row.at {B : Nat} {w : World} {g off n c size : Nat} {xs : List Value} (h : Row B w (.slice (some ⟨g, off, none⟩) n c) n size xs) : ∀ j u, xs[j]? = some u → w.cell? ⟨g, off + j, none⟩ = some u := by
  obtain ⟨g', off', c', hv, _, _, _, _, _, h4, _⟩ := h
  simp only [Value.slice.injEq, Option.some.injEq, Addr.mk.injEq, true_and, and_true] at hv
  obtain ⟨⟨rfl, rfl⟩, rfl⟩ := hv
  exact h4
theorem Row.lt {B : Nat} {w : World} {g off n c size : Nat} {xs : List Value} (h : Row B w (.slice (some ⟨g, off, none⟩) n c) n size xs) : g < w.heap.size := by
  obtain ⟨g', off', c', hv, _, _, _, _, hg, _⟩ := h
  simp only [Value.slice.injEq, Option.some.injEq, Addr.mk.injEq, true_and, and_true] at hv
  obtain ⟨⟨rfl, rfl⟩, rfl⟩ := hv
  exact hg

theorem row_block {W : World} {g n size : Nat} {cs : Array Value} {T : TypeId} (h : W.heap[g]? = some (.cells cs T (0, 0))) (hs : cs.size = n * size) (hn : n ≤ 1000) (h1 : ∀ u ∈ cs.toList, u.oneCell' = true) : Row 0 W (.slice (some ⟨g, 0, none⟩) n n) n size cs.toList := by
  refine ⟨g, 0, n, rfl, Nat.zero_le _, by simpa using hs, Nat.le_refl _, by unfold maxLen; omega, (Array.getElem?_eq_some_iff.1 h).1, fun j u hu => ?_, h1⟩
  rw [cell_of_row W g (0 + j) _ _ _ h, Nat.zero_add, ← hu]
  simp

section
variable {P : Program}
/-- An append onto nil. -/
theorem run_append_nil (w : World) (base : Nat) (t tx ty e : TypeId) (i : TypeInfo) (z : Value) (size bytes : Nat) (ht : P.underlying t = some (.slice e)) (hi : P.info? e = some i) (hz : i.zero = some z)
    (hsize : i.size = size) (hby : i.bytes = bytes) (hzs : z.cells.size = size) (hpos : 0 < size)
    (x : Value) (m : Nat) (news : List Value) (hs : Src P size tx x m news w)
    (h63 : m ≤ maxLen) (hbytes : m * bytes ≤ 140737488355328) (hbase : base ≤ w.heap.size) :
    ∃ v' w', (Builtin.append_ #[t, tx] ty #[.slice none 0 0, x]).run P w = .ok v' w' ∧ w'.ownsRow base e size v' m news ∧ w.grownBy w' none := by
  subst hby
  subst hsize
  have hsmall : m ≤ 9223372036854775807 := by simp only [maxLen] at h63; omega
  have hnl : news.length = m * i.size := hs.newsLen
  by_cases hm : m = 0
  · subst hm
    have hn : news = [] := List.eq_nil_of_length_eq_zero (by simpa using hnl)
    subst hn
    refine ⟨.slice none 0 0, w, ?_, World.ownsRow_nil _ _ _ _, ⟨rfl, rfl, rfl, Nat.le_refl _, fun _ _ _ => rfl⟩⟩
    have hc := hs.cells
    have hlx := hs.len
    rcases hs.kind with ⟨e', hk⟩ | hk <;>
      simp [Builtin.append_, run_underlying ht, run_underlying hk, sizeOf, typeInfo, hi, hlx, hc]
  · have hr := run_append_grow_src (P := P) w t tx ty e i z ht hi hz none 0 0 [] (run_firstCells_none w.drew i.size 0 0 0) x m news hs (by omega) (by omega) (growslice_fits (by omega) (by simpa using hbytes))
    have hge := grownCap_ge w (0 + m) 0 e
    have hcm : grownCap w (0 + m) 0 e ≤ maxLen := grownCap_le_maxLen w (0 + m) 0 e (by omega)
    refine ⟨_, _, hr, ⟨hnl, .inr ⟨w.heap.size, _, _, by rw [Nat.zero_add], hbase, heap_alloc_new w.drew _, by omega, hcm, ?_, ?_⟩⟩, ⟨rfl, rfl, rfl, by simp, fun k hk _ => Below.heap_alloc w.drew _ k hk⟩⟩
    · simp only [Array.size_append, List.size_toArray, size_zeroCells, hzs, List.nil_append]
      rw [hnl, ← Nat.add_mul]
      first | exact Nat.mul_le_mul_right _ (by omega) | (congr 1; omega) | (refine Nat.le_of_eq ?_; congr 1; omega)
    · simp only [Array.toList_append, List.nil_append]
      rw [← hnl]
      exact List.take_left
theorem wpList_append_nil {ops : Array Oper} {rest : List Oper} {o : Oper} {a : Act} {w : World} {Q : Exit → Act → World → Prop} (hgd : o.guard = none) (s x : Operand) (t tx : TypeId)
    (ho : o.op = .call { callee := .builtin .append, args := #[s, x], argTypes := #[t, tx] })
    (base : Nat) (e : TypeId) (i : TypeInfo) (z : Value) (size bytes : Nat) (ht : P.underlying t = some (.slice e)) (hi : P.info? e = some i) (hz : i.zero = some z)
    (hsize : i.size = size) (hby : i.bytes = bytes) (hzs : z.cells.size = size) (hpos : 0 < size)
    (hs : a.eval s = .slice none 0 0) (xv : Value) (m : Nat) (news : List Value) (hx : a.eval x = xv) (hsrc : Src P size tx xv m news w)
    (h63 : m ≤ maxLen) (hbytes : m * bytes ≤ 140737488355328) (hbase : base ≤ w.heap.size)
    (h : ∀ v' w', w'.ownsRow base e size v' m news → w.grownBy w' none → wpList P ops Q rest (a.put o.dst v') w') : wpList P ops Q (o :: rest) a w := by
  refine wpList_plain hgd fun K hK => ?_
  obtain ⟨v', w', hr, h2, h3⟩ := run_append_nil (P := P) w base t tx o.type e i z size bytes ht hi hz hsize hby hzs hpos xv m news hsrc h63 hbytes hbase
  unfold Oper.wp execOp
  simp only [ho, resolve, invoke, builtin, Sem.run_bind, Sem.run_pure, Result.andThen_ok, List.map_toArray, List.map_cons, List.map_nil, hs, hx, hr]
  exact hK _ _ (h v' w' h2 h3)
theorem step_append_nil {ops : Array Oper} {o : Oper} {a : Act} {w : World} {Q : Exit → Act → World → Prop} {K : Act → World → Prop} {E : Prop} (hgd : o.guard = none) (s x : Operand) (t tx : TypeId)
    (ho : o.op = .call { callee := .builtin .append, args := #[s, x], argTypes := #[t, tx] })
    (base : Nat) (e : TypeId) (i : TypeInfo) (z : Value) (size bytes : Nat) (ht : P.underlying t = some (.slice e)) (hi : P.info? e = some i) (hz : i.zero = some z)
    (hsize : i.size = size) (hby : i.bytes = bytes) (hzs : z.cells.size = size) (hpos : 0 < size)
    (hs : a.eval s = .slice none 0 0) (xv : Value) (m : Nat) (news : List Value) (hx : a.eval x = xv) (hsrc : Src P size tx xv m news w)
    (h63 : m ≤ maxLen) (hbytes : m * bytes ≤ 140737488355328) (hbase : base ≤ w.heap.size)
    (h : ∀ v' w', w'.ownsRow base e size v' m news → w.grownBy w' none → K (a.put o.dst v') w') :
    if Region.wanted o (yielded ops a.tmps) = true then Oper.wp P o a w K Q else E := by
  have hw : Region.wanted o (yielded ops a.tmps) = true := by simp [Region.wanted, hgd]
  rw [if_pos hw]
  obtain ⟨v', w', hr, h2, h3⟩ := run_append_nil (P := P) w base t tx o.type e i z size bytes ht hi hz hsize hby hzs hpos xv m news hsrc h63 hbytes hbase
  unfold Oper.wp execOp
  simp only [ho, resolve, invoke, builtin, Sem.run_bind, Sem.run_pure, Result.andThen_ok, List.map_toArray, List.map_cons, List.map_nil, hs, hx, hr]
  exact h v' w' h2 h3
end

section
variable {P : Program}
theorem run_loadVar_cells (w : World) (a : Addr) (ty : TypeId) (cs : Array Value) (d : TypeDesc) (hc : ∀ j v, cs[j]? = some v → w.cell? (a.add j) = some v)
    (hu : P.underlying ty = some d) (hd : (match d with | .struct _ | .array _ _ => true | _ => false) = true) (hi : (P.info? ty).map (·.size) = some cs.size) :
    (loadVar ty a).run P w = .ok (.agg cs) w := by
  have hl : (loadCells a cs.toList.length).run P w = .ok cs.toList.toArray w :=
    run_loadCells_list (P := P) w a cs.toList (fun j v hv => hc j v (by simpa using hv))
  cases hq : P.info? ty with
  | none => simp [hq] at hi
  | some i =>
    have hs : i.size = cs.size := by simpa [hq] using hi
    have hagg : (isAgg ty).run P w = .ok true w := by
      unfold isAgg
      rw [Sem.run_bind, run_underlying hu w]
      cases d <;> simp_all
    simp only [Array.length_toList, Array.toArray_toList] at hl
    simp [loadVar, Sem.run_bind, hagg, sizeOf, typeInfo, hq, hs, hl]
theorem wpList_load_cells {ops : Array Oper} {rest : List Oper} {o : Oper} {a : Act} {w : World} {Q : Exit → Act → World → Prop} (hgd : o.guard = none) (ty : TypeId) (x : Operand) (ho : o.op = .load ty x)
    (b : Addr) (hx : a.eval x = .pointer (some b)) (cs : Array Value) (d : TypeDesc) (hc : ∀ j v, cs[j]? = some v → w.cell? (b.add j) = some v)
    (hu : P.underlying ty = some d) (hd : (match d with | .struct _ | .array _ _ => true | _ => false) = true) (hi : (P.info? ty).map (·.size) = some cs.size)
    (h : wpList P ops Q rest (a.put o.dst (.agg cs)) w) : wpList P ops Q (o :: rest) a w := by
  refine wpList_plain hgd fun K hK => ?_
  unfold Oper.wp execOp
  simp only [ho, hx, Instr.loadAt, Instr.sureAddr, Sem.run_bind, Sem.run_pure, Result.andThen_ok, run_loadVar_cells w b ty cs d hc hu hd hi]
  exact hK _ _ h
end
end Go.Proofs.YtpcajjbdlfookaaGreatDoor

/- xmltree: rows of attributes and of elements, cell for cell; slices.Clone. -/
namespace Go.Proofs.YtpcajjbdlfookaaGreatDoor
open Go Go.RowKit Go.Deep
set_option linter.unusedVariables false
set_option linter.unusedSimpArgs false

theorem flat_len {α β : Type} {f : α → List β} {s : Nat} (hs : ∀ x, (f x).length = s) (L : List α) : (L.flatMap f).length = L.length * s := by
  induction L with
  | nil => simp
  | cons x t ih => rw [List.flatMap_cons, List.length_append, hs, ih, List.length_cons, Nat.succ_mul]; omega
theorem flat_at {α β : Type} {f : α → List β} {s : Nat} (hs : ∀ x, (f x).length = s) : ∀ (L : List α) (k j : Nat) (hk : k < L.length), j < s → (L.flatMap f)[k * s + j]? = (f L[k])[j]?
  | [], k, j, hk, hj => by simp at hk
  | x :: t, 0, j, hk, hj => by
    rw [List.flatMap_cons, Nat.zero_mul, Nat.zero_add, List.getElem?_append_left (by rw [hs]; exact hj)]
    rfl
  | x :: t, k + 1, j, hk, hj => by
    rw [List.flatMap_cons, List.getElem?_append_right (by rw [hs, Nat.succ_mul]; omega), hs, show (k + 1) * s + j - s = k * s + j from by rw [Nat.succ_mul]; omega, flat_at hs t k j (by simpa using hk) hj]
    rfl
theorem flat_put {α β : Type} {f : α → List β} {s : Nat} (hs : ∀ x, (f x).length = s) (L : List α) (k j : Nat) (hk : k < L.length) (hj : j < s) {u : β} (hu : (L.flatMap f)[k * s + j]? = some u) : (f L[k])[j]? = some u := by rw [← flat_at hs L k j hk hj, hu]
theorem OwnS.belowT {w w' : World} {base : Nat} {e : TypeId} {size : Nat} {v : Value} {n : Nat} {xs : List Value} (h : OwnS w base e size v n xs) (hb : Below w.heap.size w w') : OwnS w' base e size v n xs :=
  h.keep fun g hg => hb.block g (h.lt g hg)
theorem OwnS.baseT {w : World} {base : Nat} {e : TypeId} {size : Nat} {v : Value} {n : Nat} {xs : List Value} (h : OwnS w base e size v n xs) : ∀ g, v.ownBlock = some g → base ≤ g := by
  intro k hk
  rcases h.2 with ⟨rfl, _⟩ | ⟨g, off, cap, cur, rfl, hb, _⟩
  · simp [Value.ownBlock] at hk
  · simp [Value.ownBlock] at hk
    omega
def pcell (a : PT) : List Value := [.string a.1, .string a.2.1, .string a.2.2]
def pcells (l : List PT) : List Value := l.flatMap pcell
theorem pcell_len (x : PT) : (pcell x).length = 3 := rfl
/-- An element as it lies in a row: with its slices. -/
abbrev EV := ET × Value × Value
def ecell (x : EV) : List Value := [.string x.1.space, .string x.1.name, x.2.1, x.2.2, .string x.1.text]
def ecells (L : List EV) : List Value := L.flatMap ecell
theorem ecell_len (x : EV) : (ecell x).length = 5 := rfl
/-- What lies below the elements of a row reads as it should. -/
def KidsV (ok : Nat → Prop) (w : World) (d : Nat) (L : List EV) : Prop := ∀ x ∈ L, PairsR ok w x.2.1 x.1.attrs ∧ KidsD ok w d x.2.2 x.1.kids
theorem KidsV.keep {ok ok' : Nat → Prop} {w w' : World} {d : Nat} {L : List EV} (h : KidsV ok w d L) (hs : w.heap.size ≤ w'.heap.size) (hk : ∀ b, ok b → b < w.heap.size → w'.heap[b]? = w.heap[b]? ∧ ok' b) : KidsV ok' w' d L := fun x hx => ⟨(h x hx).1.keep hs hk, (h x hx).2.keep hs hk⟩
theorem KidsV.below {ok : Nat → Prop} {w w' : World} {d : Nat} {L : List EV} (h : KidsV ok w d L) (hb : Below w.heap.size w w') : KidsV ok w' d L := h.keep hb.size fun b ho hl => ⟨hb.block b hl, ho⟩
theorem KidsV.mono {ok ok' : Nat → Prop} {w : World} {d : Nat} {L : List EV} (h : KidsV ok w d L) (hm : ∀ b, ok b → b < w.heap.size → ok' b) : KidsV ok' w d L := h.keep (Nat.le_refl _) fun b ho hl => ⟨rfl, hm b ho hl⟩
theorem KidsV.elem {ok : Nat → Prop} {w : World} {d : Nat} {L : List EV} (h : KidsV ok w d L) {k : Nat} (hk : k < L.length) : ElemD ok w d (.agg #[.string L[k].1.space, .string L[k].1.name, L[k].2.1, L[k].2.2, .string L[k].1.text]) L[k].1 := ⟨_, _, rfl, h _ (List.getElem_mem hk)⟩

/-- What an append takes from attributes. -/
theorem PairsR.src {ok : Nat → Prop} {w : World} {v : Value} {l : List PT} (h : PairsR ok w v l) : Src Tryz.prog 3 24 v l.length (pcells l) w := by
  obtain ⟨a, c, rfl, h1, h2, h3, h4⟩ := h
  have hlen : (pcells l).length = l.length * 3 := flat_len pcell_len l
  have hone : ∀ u ∈ pcells l, u.oneCell' = true := by
    intro u hu
    obtain ⟨x, _, hx⟩ := List.mem_flatMap.1 hu
    simp [pcell] at hx
    rcases hx with rfl | rfl | rfl <;> rfl
  cases a with
  | none =>
    have h0 : l.length = 0 := by have := h3 rfl; omega
    obtain rfl := List.eq_nil_of_length_eq_zero h0
    exact Src.ofNil w Tryz.underlying24 c
  | some a =>
    refine Src.ofSlice w Tryz.underlying24 a _ c _ hlen (fun j u hj => ?_) hone
    have hjl : j < l.length * 3 := by rw [← hlen]; exact (List.getElem?_eq_some_iff.1 hj).1
    obtain ⟨b, o, ha, _, _, hx⟩ := h4 (by omega)
    obtain rfl : a = ⟨b, o, none⟩ := by simpa using ha
    have hk : j / 3 < l.length := by omega
    have hu := flat_put pcell_len l (j / 3) (j % 3) hk (by omega) (u := u) (by rw [show j / 3 * 3 + j % 3 = j by omega]; exact hj)
    obtain ⟨c0, c1, c2⟩ := hx (j / 3) hk
    rw [Addr.add_lit]
    have hr : j % 3 = 0 ∨ j % 3 = 1 ∨ j % 3 = 2 := by omega
    rcases hr with hr | hr | hr <;> rw [hr] at hu
    · simp [pcell] at hu; subst hu; rw [← c0]; congr 2; omega
    · simp [pcell] at hu; subst hu; rw [← c1]; congr 2; omega
    · simp [pcell] at hu; subst hu; rw [← c2]; congr 2; omega
theorem PairsR.ofOwn {ok : Nat → Prop} {w : World} {base : Nat} {v : Value} {l : List PT} (h : OwnS w base 58 3 v l.length (pcells l)) (hok : ∀ b, base ≤ b → ok b) : PairsR ok w v l := by
  obtain ⟨p, c, hv, h1, h2, h3⟩ := h.form
  refine ⟨p, c, hv, h1, h2, h3, fun hp => ?_⟩
  rcases h.2 with ⟨_, h0⟩ | ⟨g, off, cap, cur, hv2, hb, hg, _⟩
  · omega
  · rw [hv] at hv2
    cases hv2
    refine ⟨g, off, rfl, (Array.getElem?_eq_some_iff.1 hg).1, hok _ hb, fun k hk => ?_⟩
    have hc := fun j (hj : j < 3) u (hu : (pcell l[k])[j]? = some u) => h.cell hv (k * 3 + j) u (by unfold pcells; rw [flat_at pcell_len l k j hk hj]; exact hu)
    exact ⟨hc 0 (by omega) _ rfl, by rw [Nat.add_assoc]; exact hc 1 (by omega) _ rfl, by rw [Nat.add_assoc]; exact hc 2 (by omega) _ rfl⟩
/-- Elements, cell for cell. -/
theorem KidsD.cells {ok : Nat → Prop} {w : World} {d : Nat} {v : Value} {l : List ET} (h : KidsD ok w (d + 1) v l) : ∃ L : List EV, L.map (·.1) = l ∧ KidsV ok w d L ∧ ∀ w', Below w.heap.size w w' → Src Tryz.prog 5 25 v L.length (ecells L) w' := by
  obtain ⟨a, c, rfl, h1, h2, h3, h4⟩ := h
  cases a with
  | none =>
    have h0 : l.length = 0 := by have := h3 rfl; omega
    obtain rfl := List.eq_nil_of_length_eq_zero h0
    exact ⟨[], rfl, fun x hx => by simp at hx, fun w' _ => Src.ofNil w' Tryz.underlying25 c⟩
  | some a =>
    rcases Nat.eq_zero_or_pos l.length with h0 | h0
    · obtain rfl := List.eq_nil_of_length_eq_zero h0
      exact ⟨[], rfl, fun x hx => by simp at hx, fun w' _ => Src.ofSlice w' Tryz.underlying25 a 0 c [] (by simp) (by simp) (by simp)⟩
    obtain ⟨b, o, ha, _, _, hx⟩ := h4 h0
    obtain rfl : a = ⟨b, o, none⟩ := by simpa using ha
    obtain ⟨L, hL, hp⟩ := list_ofT (P := fun k (x : EV) => ∀ (hk : k < l.length), x.1 = l[k] ∧ (w.cell? ⟨b, o + k * 5, none⟩ = some (.string x.1.space) ∧ w.cell? ⟨b, o + k * 5 + 1, none⟩ = some (.string x.1.name) ∧ w.cell? ⟨b, o + k * 5 + 2, none⟩ = some x.2.1 ∧ w.cell? ⟨b, o + k * 5 + 3, none⟩ = some x.2.2 ∧ w.cell? ⟨b, o + k * 5 + 4, none⟩ = some (.string x.1.text)) ∧
      PairsR ok w x.2.1 x.1.attrs ∧ KidsD ok w d x.2.2 x.1.kids) l.length (fun i hi => by
        obtain ⟨av, kv, hc, hp, hk⟩ := hx i hi
        exact ⟨(l[i], av, kv), fun _ => ⟨rfl, hc, hp, hk⟩⟩)
    have hlen : (ecells L).length = L.length * 5 := flat_len ecell_len L
    have hkv : KidsV ok w d L := fun x hx => by
      obtain ⟨k, hk, rfl⟩ := List.getElem_of_mem hx
      exact (hp k hk (by rw [← hL]; exact hk)).2.2
    have hone : ∀ u ∈ ecells L, u.oneCell' = true := by
      intro u hu
      obtain ⟨x, hx, hxu⟩ := List.mem_flatMap.1 hu
      obtain ⟨p1, c1, e1, -⟩ := (hkv x hx).1.form
      obtain ⟨p2, c2, e2, -⟩ := (hkv x hx).2.form
      simp only [ecell, e1, e2, List.mem_cons, List.not_mem_nil, or_false] at hxu
      rcases hxu with rfl | rfl | rfl | rfl | rfl <;> rfl
    refine ⟨L, ?_, hkv, ?_⟩
    · apply List.ext_getElem
      · rw [List.length_map, hL]
      · intro k h5 h6
        rw [List.getElem_map]
        exact (hp k (by rw [hL]; exact h6) h6).1
    · intro w' hb'
      rw [← hL]
      refine Src.ofSlice w' Tryz.underlying25 _ _ c _ hlen (fun j u hj => ?_) hone
      have hjl : j < L.length * 5 := by rw [← hlen]; exact (List.getElem?_eq_some_iff.1 hj).1
      have hk : j / 5 < L.length := by omega
      have hu := flat_put ecell_len L (j / 5) (j % 5) hk (by omega) (u := u) (by rw [show j / 5 * 5 + j % 5 = j by omega]; exact hj)
      obtain ⟨_, ⟨c0, c1, c2, c3, c4⟩, _⟩ := hp (j / 5) hk (by rw [← hL]; exact hk)
      rw [Addr.add_lit]
      have hr : j % 5 = 0 ∨ j % 5 = 1 ∨ j % 5 = 2 ∨ j % 5 = 3 ∨ j % 5 = 4 := by omega
      rcases hr with hr | hr | hr | hr | hr <;> rw [hr] at hu
      · simp [ecell] at hu; subst hu; rw [← (hb'.cell (World.block_lt_of_cell? w _ c0)).trans c0]; congr 2; omega
      · simp [ecell] at hu; subst hu; rw [← (hb'.cell (World.block_lt_of_cell? w _ c1)).trans c1]; congr 2; omega
      · simp [ecell] at hu; subst hu; rw [← (hb'.cell (World.block_lt_of_cell? w _ c2)).trans c2]; congr 2; omega
      · simp [ecell] at hu; subst hu; rw [← (hb'.cell (World.block_lt_of_cell? w _ c3)).trans c3]; congr 2; omega
      · simp [ecell] at hu; subst hu; rw [← (hb'.cell (World.block_lt_of_cell? w _ c4)).trans c4]; congr 2; omega
theorem KidsD.ofOwn {ok : Nat → Prop} {w : World} {base d : Nat} {v : Value} {L : List EV} (h : OwnS w base 27 5 v L.length (ecells L)) (hok : ∀ b, base ≤ b → ok b) (hk : KidsV ok w d L) : KidsD ok w (d + 1) v (L.map (·.1)) := by
  obtain ⟨p, c, hv, h1, h2, h3⟩ := h.form
  refine ⟨p, c, by rw [List.length_map]; exact hv, by rw [List.length_map]; exact h1, h2, h3, fun hp => ?_⟩
  rw [List.length_map] at hp
  rcases h.2 with ⟨_, h0⟩ | ⟨g, off, cap, cur, hv2, hb, hg, _⟩
  · omega
  · rw [hv] at hv2
    cases hv2
    refine ⟨g, off, rfl, (Array.getElem?_eq_some_iff.1 hg).1, hok _ hb, fun k hk2 => ?_⟩
    rw [List.length_map] at hk2
    have hc := fun j (hj : j < 5) u (hu : (ecell L[k])[j]? = some u) => h.cell hv (k * 5 + j) u (by unfold ecells; rw [flat_at ecell_len L k j hk2 hj]; exact hu)
    obtain ⟨hp1, hk1⟩ := hk _ (List.getElem_mem hk2)
    rw [List.getElem_map]
    exact ⟨L[k].2.1, L[k].2.2, ⟨hc 0 (by omega) _ rfl, by rw [Nat.add_assoc]; exact hc 1 (by omega) _ rfl, by rw [Nat.add_assoc]; exact hc 2 (by omega) _ rfl, by rw [Nat.add_assoc]; exact hc 3 (by omega) _ rfl, by rw [Nat.add_assoc]; exact hc 4 (by omega) _ rfl⟩, hp1, hk1⟩

theorem infoPr : (Tryz.prog.info? 58).map (fun i => (i.zero, i.size, i.bytes)) = some (some (.agg #[.string ⟨#[]⟩, .string ⟨#[]⟩, .string ⟨#[]⟩]), 3, 48) := by kernel_rfl
theorem infoPrX : ∃ i0, Tryz.prog.info? 58 = some i0 ∧ i0.zero = some (.agg #[.string ⟨#[]⟩, .string ⟨#[]⟩, .string ⟨#[]⟩]) ∧ i0.size = 3 ∧ i0.bytes = 48 := by
  have h := infoPr
  cases hi : Tryz.prog.info? 58 with
  | none => rw [hi] at h; simp at h
  | some i =>
    rw [hi] at h
    simp at h
    exact ⟨i, rfl, h.1, h.2.1, h.2.2⟩
theorem infoEl : (Tryz.prog.info? 27).map (fun i => (i.zero, i.size, i.bytes)) = some (some (.agg #[.string ⟨#[]⟩, .string ⟨#[]⟩, .slice none 0 0, .slice none 0 0, .string ⟨#[]⟩]), 5, 96) := by kernel_rfl
theorem infoElX : ∃ i0, Tryz.prog.info? 27 = some i0 ∧ i0.zero = some (.agg #[.string ⟨#[]⟩, .string ⟨#[]⟩, .slice none 0 0, .slice none 0 0, .string ⟨#[]⟩]) ∧ i0.size = 5 ∧ i0.bytes = 96 := by
  have h := infoEl
  cases hi : Tryz.prog.info? 27 with
  | none => rw [hi] at h; simp at h
  | some i =>
    rw [hi] at h
    simp at h
    exact ⟨i, rfl, h.1, h.2.1, h.2.2⟩
theorem emptyT_own (w : World) (E : TypeId) (size : Nat) : OwnS (w.alloc (.cells #[] E)) w.heap.size E size (.slice (some ⟨w.heap.size, 0, none⟩) 0 0) 0 [] :=
  ⟨by simp, .inr ⟨_, 0, 0, #[], rfl, Nat.le_refl _, heap_alloc_new w _, Nat.le_refl _, Nat.zero_le _, by simp, by simp⟩⟩
/-- What a copy of a row is. -/
def CloneT (w : World) (E : TypeId) (size n : Nat) (xs : List Value) (e : Ending) (w' : World) : Prop := ∃ v', e = .returned v' ∧ OwnS w' w.heap.size E size v' n xs ∧ Below w.heap.size w w'
end Go.Proofs.YtpcajjbdlfookaaGreatDoor

/- xmltree: growing rows. -/
namespace Go.Proofs.YtpcajjbdlfookaaGreatDoor
open Go Go.RowKit Go.Deep
set_option linter.unusedVariables false

theorem rowT_lt {w : World} {base n size : Nat} {e : TypeId} {v : Value} {xs : List Value} (h : w.ownsRow base e size v n xs) : ∀ g, v.ownBlock = some g → base ≤ g ∧ g < w.heap.size := by
  intro k hk
  rcases h.2 with ⟨rfl, _⟩ | ⟨g, cap, cur, rfl, hb, hg, _⟩
  · simp [Value.ownBlock] at hk
  · simp [Value.ownBlock] at hk
    subst hk
    exact ⟨hb, (Array.getElem?_eq_some_iff.1 hg).1⟩
theorem rowT_keep {w w' : World} {base n size : Nat} {e : TypeId} {v : Value} {xs : List Value} (h : w.ownsRow base e size v n xs) (hb : ∀ g, v.ownBlock = some g → w'.heap[g]? = w.heap[g]?) : w'.ownsRow base e size v n xs := by
  refine ⟨h.1, h.2.imp id ?_⟩
  rintro ⟨g, cap, cur, rfl, h2, h3, h4⟩
  exact ⟨g, cap, cur, rfl, h2, (hb g rfl).trans h3, h4⟩
theorem rowT_below {w w' : World} {base n size : Nat} {e : TypeId} {v : Value} {xs : List Value} (h : w.ownsRow base e size v n xs) (hb : Below w.heap.size w w') : w'.ownsRow base e size v n xs :=
  rowT_keep h fun g hg => hb.block g (rowT_lt h g hg).2
theorem rowT_form {w : World} {base n size : Nat} {e : TypeId} {v : Value} {xs : List Value} (h : w.ownsRow base e size v n xs) : ∃ p c, v = .slice p n c := by
  rcases h.2 with ⟨rfl, rfl⟩ | ⟨g, cap, cur, rfl, _⟩
  · exact ⟨_, _, rfl⟩
  · exact ⟨_, _, rfl⟩
end Go.Proofs.YtpcajjbdlfookaaGreatDoor

/- xmltree: the names of a tag's attributes, as they are written; the keys of attributes. -/
namespace Go.Proofs.YtpcajjbdlfookaaGreatDoor
open Go Go.RowKit Go.Deep
set_option linter.unusedVariables false
set_option linter.unusedSimpArgs false
/-- A token with its place, as cells. -/
abbrev tokP (t : Tk) (s : Value) (at_ : Int) : Value := .agg #[.int .i64 (t.kind : Nat), .string ⟨t.name.toArray⟩, s, .bool t.empty, .string ⟨t.text.toArray⟩, .int .i64 at_]
abbrev strLx (x : List UInt8) : Value := .string ⟨x.toArray⟩
theorem infoStr : (Tryz.prog.info? 9).map (fun i => (i.zero, i.size, i.bytes)) = some (some (.string ⟨#[]⟩), 1, 16) := by kernel_rfl
theorem infoStrX : ∃ i0, Tryz.prog.info? 9 = some i0 ∧ i0.zero = some (.string ⟨#[]⟩) ∧ i0.size = 1 ∧ i0.bytes = 16 := by
  have h := infoStr
  cases hi : Tryz.prog.info? 9 with
  | none => rw [hi] at h; simp at h
  | some i =>
    rw [hi] at h
    simp at h
    exact ⟨i, rfl, h.1, h.2.1, h.2.2⟩
theorem infoKey : (Tryz.prog.info? 90).map (fun i => (i.zero, i.size, i.bytes)) = some (some (.agg #[.string ⟨#[]⟩, .string ⟨#[]⟩]), 2, 32) := by kernel_rfl
theorem infoKeyX : ∃ i0, Tryz.prog.info? 90 = some i0 ∧ i0.zero = some (.agg #[.string ⟨#[]⟩, .string ⟨#[]⟩]) ∧ i0.size = 2 ∧ i0.bytes = 32 := by
  have h := infoKey
  cases hi : Tryz.prog.info? 90 with
  | none => rw [hi] at h; simp at h
  | some i =>
    rw [hi] at h
    simp at h
    exact ⟨i, rfl, h.1, h.2.1, h.2.2⟩
theorem cellsE6 {w : World} {b : Nat} {c0 c1 c2 c3 c4 c5 : Value} {T : TypeId} (h : w.heap[b]? = some (.cells #[c0, c1, c2, c3, c4, c5] T (0, 0))) : w.cell? ⟨b, 0, none⟩ = some c0 ∧ w.cell? ⟨b, 1, none⟩ = some c1 ∧ w.cell? ⟨b, 2, none⟩ = some c2 ∧ w.cell? ⟨b, 3, none⟩ = some c3 ∧ w.cell? ⟨b, 4, none⟩ = some c4 ∧ w.cell? ⟨b, 5, none⟩ = some c5 ∧ (∀ o, w.frozen? ⟨b, o, none⟩ = false) := by
  refine ⟨?_, ?_, ?_, ?_, ?_, ?_, fun o => ?_⟩ <;> simp [World.cell?, World.frozen?, h]
theorem AtsIs.at {w : World} {v : Value} {l : List (List UInt8 × List UInt8)} (h : AtsIs w v l) {k : Nat} (hk : k < l.length) : ∃ b o c, v = .slice (some ⟨b, o, none⟩) l.length c ∧ b < w.heap.size ∧ w.cell? ⟨b, o + k * 2, none⟩ = some (strLx l[k].1) ∧ w.cell? ⟨b, o + k * 2 + 1, none⟩ = some (strLx l[k].2) := by
  obtain ⟨p, c, e, h1, h2, h3, h4⟩ := h
  obtain ⟨b, o, hp, -, hx⟩ := h4 (by omega)
  have hf : ∀ j, j < 2 → (l.flatMap fun x => [Value.string ⟨x.1.toArray⟩, Value.string ⟨x.2.toArray⟩])[k * 2 + j]? = [strLx l[k].1, strLx l[k].2][j]? := fun j hj => flat_at (f := fun x : List UInt8 × List UInt8 => [Value.string ⟨x.1.toArray⟩, Value.string ⟨x.2.toArray⟩]) (fun x => rfl) l k j hk hj
  have c0 := hx (k * 2 + 0) _ (hf 0 (by omega))
  have c1 := hx (k * 2 + 1) _ (hf 1 (by omega))
  exact ⟨b, o, c, by rw [e, hp], World.block_lt_of_cell? w _ c0, c0, by rw [Nat.add_assoc]; exact c1⟩
theorem AtsIs.form {w : World} {v : Value} {l : List (List UInt8 × List UInt8)} (h : AtsIs w v l) : ∃ p c, v = .slice p l.length c ∧ l.length ≤ c ∧ c ≤ maxLen := by
  obtain ⟨p, c, e, h1, h2, _⟩ := h
  exact ⟨p, c, e, h1, h2⟩

set_option maxRecDepth 100000 in
set_option maxHeartbeats 2000000 in
theorem written_c (w : World) (k0 t0 m0 x0 f0 : Value) (s : Value) (l : List (List UInt8 × List UInt8)) (h : AtsIs w s l) (hl : l.length ≤ 1048576) : Calls Tryz.prog 87 #[.agg #[k0, t0, s, m0, x0, f0]] w fun e w' => ∃ v', e = .returned v' ∧ w'.ownsRow w.heap.size 9 1 v' l.length (l.map fun x => strLx x.1) ∧ Below w.heap.size w w' := by
  obtain ⟨i0, hi, hz0, hz1, hz2⟩ := infoStrX
  obtain ⟨pa, ca, hav, hla, hma⟩ := h.form
  have H1 := Lib.hid h
  subst hav
  obtain ⟨N, hN⟩ : ∃ N, N = l.length := ⟨_, rfl⟩
  rw [← hN] at hl H1 ⊢
  have HN := Lib.hid hN
  have HB0 := Lib.hid (box_belT w (.cells #[k0, t0, .slice pa N ca, m0, x0, f0] 69))
  obtain ⟨z0, z1, z2, z3, z4, z5, zz⟩ := cellsE6 (heap_alloc_new w (.cells #[k0, t0, .slice pa N ca, m0, x0, f0] 69))
  clear h hla hma hN
  go_enter Tryz.func87, Tryz.ntmps87
  go_wp2_with fail
  clear z0 z1 z2 z3 z4 z5 zz
  go_loopw [3, 10] (fun v i wr => ∃ k : Nat, k ≤ N ∧ i = .int .i64 k ∧ Hid (wr.ownsRow w.heap.size 9 1 v k ((l.take k).map fun x => strLx x.1)) ∧ Below w.heap.size w wr) (fun _ i _ => N - (intOf i).toNat)
  case atStart => exact ⟨0, by omega, rfl, Lib.hid (World.ownsRow_nil _ _ _ _), HB0.out⟩
  case round =>
    obtain ⟨k, hk, rfl, HOW, hbr⟩ := hrel
    have HBR := Lib.hid hbr
    clear hbr
    obtain ⟨pv, cv, hv⟩ := rowT_form HOW.out
    subst hv
    by_cases hlt : k < N
    · have hkl : k < l.length := by rw [← HN.out]; exact hlt
      obtain ⟨b, o, cc, hv2, hbl, c0, c1⟩ := H1.out.at hkl
      rw [← HN.out] at hv2
      cases hv2
      have e0 := (HBR.out.cell (p := ⟨b, o + k * 2, none⟩) hbl).trans c0
      have e1 := (HBR.out.cell (p := ⟨b, o + k * 2 + 1, none⟩) hbl).trans c1
      have htake := Lib.hid (show (l.take (k + 1)).map (fun x => strLx x.1) = (l.take k).map (fun x => strLx x.1) ++ [strLx l[k].1] from by rw [List.take_succ_eq_append_getElem hkl, List.map_append]; rfl)
      obtain ⟨T1, hT1⟩ : ∃ T, T = strLx l[k].1 := ⟨_, rfl⟩
      obtain ⟨T2, hT2⟩ : ∃ T, T = strLx l[k].2 := ⟨_, rfl⟩
      obtain ⟨u1, hu1⟩ : ∃ u : ByteArray, T1 = .string u := ⟨_, hT1⟩
      obtain ⟨u2, hu2⟩ : ∃ u : ByteArray, T2 = .string u := ⟨_, hT2⟩
      rw [← hT1] at e0 htake
      rw [← hT2] at e1
      subst hu1 hu2
      have HA := Lib.hid ((box_belT wr (.cells #[.string u1, .string u2] 114)).trans ((box_belT (wr.alloc (.cells #[.string u1, .string u2] 114)) (.cells #[.string u1] 9)).mono (by simp)))
      clear c0 c1 hT1 hT2 hkl
      have hbz := HBR.out.size
      go_wp2_with (at_builtin; go_loud (refine wpList_append_lies _ (by rfl) _ _ 115 (by rfl) w.heap.size 9 i0 (.string ⟨#[]⟩) 1 16 Tryz.underlying115 hi hz0 hz1 hz2 rfl (by omega) (.slice pv k cv) k _ (by rfl) (rowT_below HOW.out (by first | exact HA.out | exact HA.out.drew | exact Go.below_drewN HA.out _)) ⟨wr.heap.size + 1, 0, none⟩ 1 1 [.string u1] (by rfl) (by simp) (World.news_of_block (by simpa using heap_alloc_new (wr.alloc (.cells #[.string u1, .string u2] 114)) (.cells #[.string u1] 9))) (by simp [Value.oneCell']) (by omega) (by unfold maxLen; omega) (by omega) (by simp; omega) (wr.heap.size + 2) (by simp) ?_))
      intro g6 cap6 w6 hown6 hgrow6 hat6 hlt6
      have HPUSH := Lib.hid (show w6.ownsRow w.heap.size 9 1 (.slice (some ⟨g6, 0, none⟩) (k + 1) cap6) (k + 1) ((l.take (k + 1)).map fun x => strLx x.1) ∧ Below w.heap.size w w6 from
        ⟨by rw [htake.out, List.map_take]; exact hown6, (HBR.out.trans (HA.out.mono HBR.out.size)).grown hgrow6 (by simp; omega) (fun b e => by have := rowT_lt HOW.out b e; omega)⟩)
      clear hown6 hgrow6 hat6 hlt6 e0 e1
      go_wp2_with fail
      go_roundw
      case rel => exact ⟨k + 1, by omega, by go_num, Lib.hid HPUSH.out.1, HPUSH.out.2⟩
      case measure => simp [intOf]; omega
    · have hkN : k = N := by omega
      subst hkN
      have HE := Lib.hid (show wr.ownsRow w.heap.size 9 1 (.slice pv k cv) k (l.map fun x => strLx x.1) from by
        have := HOW.out
        rwa [show l.take k = l from by rw [HN.out]; exact List.take_length] at this)
      go_wp2_with fail
      go_ret
      exact ⟨_, rfl, HE.out, HBR.out⟩
/-- The keys of attributes, as cells. -/
def kcells (l : List PT) : List Value := l.flatMap fun p => [.string p.1, .string p.2.1]
theorem PairsR.at' {ok : Nat → Prop} {w : World} {v : Value} {l : List PT} (h : PairsR ok w v l) {k : Nat} (hk : k < l.length) : ∃ b o c, v = .slice (some ⟨b, o, none⟩) l.length c ∧ b < w.heap.size ∧ ok b ∧ w.cell? ⟨b, o + k * 3, none⟩ = some (.string l[k].1) ∧ w.cell? ⟨b, o + k * 3 + 1, none⟩ = some (.string l[k].2.1) ∧ w.cell? ⟨b, o + k * 3 + 2, none⟩ = some (.string l[k].2.2) := by
  obtain ⟨a, c, e, h1, h2, h3, h4⟩ := h
  obtain ⟨b, o, ha, hb, ho, hx⟩ := h4 (by omega)
  obtain ⟨c0, c1, c2⟩ := hx k hk
  exact ⟨b, o, c, by rw [e, ha], hb, ho, c0, c1, c2⟩
set_option maxRecDepth 100000 in
set_option maxHeartbeats 2000000 in
theorem keys_c {ok : Nat → Prop} (w : World) (s : Value) (l : List PT) (h : PairsR ok w s l) (hl : l.length ≤ 1048576) : Calls Tryz.prog 52 #[s] w fun e w' => ∃ v', e = .returned v' ∧ w'.ownsRow w.heap.size 90 2 v' l.length (kcells l) ∧ Below w.heap.size w w' := by
  obtain ⟨i0, hi, hz0, hz1, hz2⟩ := infoKeyX
  obtain ⟨pa, ca, hav, hla, hma⟩ := h.form
  have H1 := Lib.hid h
  subst hav
  obtain ⟨N, hN⟩ : ∃ N, N = l.length := ⟨_, rfl⟩
  rw [← hN] at hl H1 ⊢
  have HN := Lib.hid hN
  clear h hla hma hN
  go_enter Tryz.func52, Tryz.ntmps52
  go_wp2_with fail
  go_loopw [3, 8] (fun v i wr => ∃ k : Nat, k ≤ N ∧ i = .int .i64 k ∧ Hid (wr.ownsRow w.heap.size 90 2 v k (kcells (l.take k))) ∧ Below w.heap.size w wr) (fun _ i _ => N - (intOf i).toNat)
  case atStart => exact ⟨0, by omega, rfl, Lib.hid (World.ownsRow_nil _ _ _ _), Below.refl _ _⟩
  case round =>
    obtain ⟨k, hk, rfl, HOW, hbr⟩ := hrel
    have HBR := Lib.hid hbr
    clear hbr
    obtain ⟨pv, cv, hv⟩ := rowT_form HOW.out
    subst hv
    by_cases hlt : k < N
    · have hkl : k < l.length := by rw [← HN.out]; exact hlt
      obtain ⟨b, o, cc, hv2, hbl, -, c0, c1, c2⟩ := H1.out.at' hkl
      rw [← HN.out] at hv2
      cases hv2
      have e0 := (HBR.out.cell (p := ⟨b, o + k * 3, none⟩) hbl).trans c0
      have e1 := (HBR.out.cell (p := ⟨b, o + k * 3 + 1, none⟩) hbl).trans c1
      have e2 := (HBR.out.cell (p := ⟨b, o + k * 3 + 2, none⟩) hbl).trans c2
      have htake := Lib.hid (show kcells (l.take (k + 1)) = kcells (l.take k) ++ [.string l[k].1, .string l[k].2.1] from by unfold kcells; rw [List.take_succ_eq_append_getElem hkl, List.flatMap_append]; rfl)
      generalize l[k] = x at *
      obtain ⟨u1, u2, u3⟩ := x
      dsimp only at e0 e1 e2 htake
      have HA := Lib.hid ((box_belT wr (.cells #[.string u1, .string u2, .string u3] 58)).trans ((box_belT (wr.alloc (.cells #[.string u1, .string u2, .string u3] 58)) (.cells #[.string u1, .string u2] 90)).mono (by simp)))
      clear c0 c1 c2 hkl
      have hbz := HBR.out.size
      go_wp2_with (at_builtin; go_loud (refine wpList_append_lies _ (by rfl) _ _ 91 (by rfl) w.heap.size 90 i0 (.agg #[.string ⟨#[]⟩, .string ⟨#[]⟩]) 2 32 Tryz.underlying91 hi hz0 hz1 hz2 rfl (by omega) (.slice pv k cv) k _ (by rfl) (rowT_below HOW.out (by first | exact HA.out | exact HA.out.drew | exact Go.below_drewN HA.out _)) ⟨wr.heap.size + 1, 0, none⟩ 1 1 [.string u1, .string u2] (by rfl) (by simp) (World.news_of_block (by simpa using heap_alloc_new (wr.alloc (.cells #[.string u1, .string u2, .string u3] 58)) (.cells #[.string u1, .string u2] 90))) (by simp [Value.oneCell']) (by omega) (by unfold maxLen; omega) (by omega) (by simp; omega) (wr.heap.size + 2) (by simp) ?_))
      intro g6 cap6 w6 hown6 hgrow6 hat6 hlt6
      have HPUSH := Lib.hid (show w6.ownsRow w.heap.size 90 2 (.slice (some ⟨g6, 0, none⟩) (k + 1) cap6) (k + 1) (kcells (l.take (k + 1))) ∧ Below w.heap.size w w6 from
        ⟨by rw [htake.out]; exact hown6, (HBR.out.trans (HA.out.mono HBR.out.size)).grown hgrow6 (by simp; omega) (fun b e => by have := rowT_lt HOW.out b e; omega)⟩)
      clear hown6 hgrow6 hat6 hlt6 e0 e1 e2
      go_wp2_with fail
      go_roundw
      case rel => exact ⟨k + 1, by omega, by go_num, Lib.hid HPUSH.out.1, HPUSH.out.2⟩
      case measure => simp [intOf]; omega
    · have hkN : k = N := by omega
      subst hkN
      have HE := Lib.hid (show wr.ownsRow w.heap.size 90 2 (.slice pv k cv) k (kcells l) from by
        have := HOW.out
        rwa [show l.take k = l from by rw [HN.out]; exact List.take_length] at this)
      go_wp2_with fail
      go_ret
      exact ⟨_, rfl, HE.out, HBR.out⟩
end Go.Proofs.YtpcajjbdlfookaaGreatDoor
