/- Cases: an append onto nil; an element of a row of six cells is put. Written by tools/genzcA.py. -/
import Derived.Test.YtllhlmdhnmdihaaDoorMi06
import Derived.Deep.RegionLaw
import Derived.Deep.DeepCutAuto
import Derived.Test.YtllhlmdhnmdihaaDoorByS
import Derived.Test.YtllhlmdhnmdihaaDoorGx
import Derived.OwnWalk
import Derived.WalkSpells
import Derived.Deep.AppendSrc
namespace Go.Proofs.YtllhlmdhnmdihaaDoor
open Go Go.RowKit Go.Shelf
set_option linter.unusedVariables false
set_option linter.unusedSimpArgs false

section
variable {P : Program}
/-- An append onto nil. -/
theorem run_append_nil (w : World) (base : Nat) (t tx ty e : TypeId) (i : TypeInfo) (z : Value) (size bytes : Nat) (ht : P.underlying t = some (.slice e)) (hi : P.info? e = some i) (hz : i.zero = some z)
    (hsize : i.size = size) (hby : i.bytes = bytes) (hzs : z.cells.size = size) (hpos : 0 < size)
    (x : Value) (m : Nat) (news : List Value) (hs : Src P size tx x m news w)
    (h63 : m ≤ maxLen) (hbytes : m * bytes ≤ 140737488355328) (hbase : base ≤ w.heap.size) :
    ∃ v' w', (Builtin.append_ #[t, tx] ty #[.slice none 0 0, x]).run P w = .ok v' w' ∧ w'.ownsRow base e size v' m news ∧ w.grownBy w' none := by
  subst hby
  subst hsize
  have hsmall : m ≤ 9223372036854775807 := by simp only [maxLen] at h63; omega
  have hnl : news.length = m * i.size := hs.newsLen
  by_cases hm : m = 0
  · subst hm
    have hn : news = [] := List.eq_nil_of_length_eq_zero (by simpa using hnl)
    subst hn
    refine ⟨.slice none 0 0, w, ?_, World.ownsRow_nil _ _ _ _, ⟨rfl, rfl, rfl, Nat.le_refl _, fun _ _ _ => rfl⟩⟩
    have hc := hs.cells
    have hlx := hs.len
    rcases hs.kind with ⟨e', hk⟩ | hk <;>
      simp [Builtin.append_, run_underlying ht, run_underlying hk, sizeOf, typeInfo, hi, hlx, hc]
  · have hr := run_append_grow_src (P := P) w t tx ty e i z ht hi hz none 0 0 [] (run_firstCells_none w.drew i.size 0 0 0) x m news hs (by omega) (by omega) (growslice_fits (by omega) (by simpa using hbytes))
    have hge := grownCap_ge w (0 + m) 0 e
    have hcm : grownCap w (0 + m) 0 e ≤ maxLen := grownCap_le_maxLen w (0 + m) 0 e (by omega)
    refine ⟨_, _, hr, ⟨hnl, .inr ⟨w.heap.size, _, _, by rw [Nat.zero_add], hbase, heap_alloc_new w.drew _, by omega, hcm, ?_, ?_⟩⟩, ⟨rfl, rfl, rfl, by simp, fun k hk _ => Below.heap_alloc w.drew _ k hk⟩⟩
    · simp only [Array.size_append, List.size_toArray, size_zeroCells, hzs, List.nil_append]
      rw [hnl, ← Nat.add_mul]
      first | exact Nat.mul_le_mul_right _ (by omega) | (congr 1; omega) | (refine Nat.le_of_eq ?_; congr 1; omega)
    · simp only [Array.toList_append, List.nil_append]
      rw [← hnl]
      exact List.take_left
theorem wpList_append_nil {ops : Array Oper} {rest : List Oper} {o : Oper} {a : Act} {w : World} {Q : Exit → Act → World → Prop} (hgd : o.guard = none) (s x : Operand) (t tx : TypeId)
    (ho : o.op = .call { callee := .builtin .append, args := #[s, x], argTypes := #[t, tx] })
    (base : Nat) (e : TypeId) (i : TypeInfo) (z : Value) (size bytes : Nat) (ht : P.underlying t = some (.slice e)) (hi : P.info? e = some i) (hz : i.zero = some z)
    (hsize : i.size = size) (hby : i.bytes = bytes) (hzs : z.cells.size = size) (hpos : 0 < size)
    (hs : a.eval s = .slice none 0 0) (xv : Value) (m : Nat) (news : List Value) (hx : a.eval x = xv) (hsrc : Src P size tx xv m news w)
    (h63 : m ≤ maxLen) (hbytes : m * bytes ≤ 140737488355328) (hbase : base ≤ w.heap.size)
    (h : ∀ v' w', w'.ownsRow base e size v' m news → w.grownBy w' none → wpList P ops Q rest (a.put o.dst v') w') : wpList P ops Q (o :: rest) a w := by
  refine wpList_plain hgd fun K hK => ?_
  obtain ⟨v', w', hr, h2, h3⟩ := run_append_nil (P := P) w base t tx o.type e i z size bytes ht hi hz hsize hby hzs hpos xv m news hsrc h63 hbytes hbase
  unfold Oper.wp execOp
  simp only [ho, resolve, invoke, builtin, Sem.run_bind, Sem.run_pure, Result.andThen_ok, List.map_toArray, List.map_cons, List.map_nil, hs, hx, hr]
  exact hK _ _ (h v' w' h2 h3)
theorem step_append_nil {ops : Array Oper} {o : Oper} {a : Act} {w : World} {Q : Exit → Act → World → Prop} {K : Act → World → Prop} {E : Prop} (hgd : o.guard = none) (s x : Operand) (t tx : TypeId)
    (ho : o.op = .call { callee := .builtin .append, args := #[s, x], argTypes := #[t, tx] })
    (base : Nat) (e : TypeId) (i : TypeInfo) (z : Value) (size bytes : Nat) (ht : P.underlying t = some (.slice e)) (hi : P.info? e = some i) (hz : i.zero = some z)
    (hsize : i.size = size) (hby : i.bytes = bytes) (hzs : z.cells.size = size) (hpos : 0 < size)
    (hs : a.eval s = .slice none 0 0) (xv : Value) (m : Nat) (news : List Value) (hx : a.eval x = xv) (hsrc : Src P size tx xv m news w)
    (h63 : m ≤ maxLen) (hbytes : m * bytes ≤ 140737488355328) (hbase : base ≤ w.heap.size)
    (h : ∀ v' w', w'.ownsRow base e size v' m news → w.grownBy w' none → K (a.put o.dst v') w') :
    if Region.wanted o (yielded ops a.tmps) = true then Oper.wp P o a w K Q else E := by
  have hw : Region.wanted o (yielded ops a.tmps) = true := by simp [Region.wanted, hgd]
  rw [if_pos hw]
  obtain ⟨v', w', hr, h2, h3⟩ := run_append_nil (P := P) w base t tx o.type e i z size bytes ht hi hz hsize hby hzs hpos xv m news hsrc h63 hbytes hbase
  unfold Oper.wp execOp
  simp only [ho, resolve, invoke, builtin, Sem.run_bind, Sem.run_pure, Result.andThen_ok, List.map_toArray, List.map_cons, List.map_nil, hs, hx, hr]
  exact h v' w' h2 h3
end

/-- A copy of a case: the same, in memory of its own. -/
def CopyC (w : World) (c : CV) (e : Ending) (w' : World) : Prop :=
  ∃ vI vD, e = .returned (.agg #[.int .i64 c.id, .string c.model, vI, vD, .int .i64 c.clock]) ∧ InstsOwn w' w.heap.size vI c.insts ∧ DocsOwn w' w.heap.size vD c.docs ∧ Below w.heap.size w w'
theorem cells5w {w : World} {b : Nat} {c0 c1 c2 c3 c4 : Value} {T : TypeId} (h : w.heap[b]? = some (.cells #[c0, c1, c2, c3, c4] T (0, 0))) (v2 v3 : Value) :
    ((w.setCell ⟨b, 2, none⟩ v2).setCell ⟨b, 3, none⟩ v3).heap[b]? = some (.cells #[c0, c1, v2, v3, c4] T (0, 0)) := by
  simp [World.setCell, Array.getElem?_modify, h]
theorem set2_far {w : World} {b g : Nat} (v2 v3 : Value) (h : g ≠ b) : ((w.setCell ⟨b, 2, none⟩ v2).setCell ⟨b, 3, none⟩ v3).heap[g]? = w.heap[g]? := by
  simp [World.setCell, Array.getElem?_modify, Ne.symm h]

theorem cells_setI {cur : Array Value} {l : List IV} {n : Nat} (hl : l.length = n) (hcs : n * 6 ≤ cur.size) (ht : cur.toList.take (n * 6) = flatI l) {k : Nat} (hk : k < n) (x : IV) {L : List Value}
    (hL : ∀ q r, r < 6 → L[q * 6 + r]? = if q = k then x.cells[r]? else cur.toList[q * 6 + r]?) : L.take (n * 6) = flatI (l.set k x) := by
  apply List.ext_getElem?
  intro j
  by_cases hj : j < n * 6
  · have hd : j = j / 6 * 6 + j % 6 := by omega
    have hq : j / 6 < n := by omega
    rw [List.getElem?_take, if_pos hj, hd, hL (j / 6) (j % 6) (by omega), flatI_get (l.set k x) (j / 6) (by rw [List.length_set]; omega) (j % 6) (by omega), List.getElem_set]
    by_cases he : j / 6 = k
    · rw [if_pos he, if_pos he.symm]
    · rw [if_neg he, if_neg (Ne.symm he), ← flatI_get l (j / 6) (by omega) (j % 6) (by omega), ← ht, List.getElem?_take, if_pos (by omega)]
  · have h1 : (L.take (n * 6)).length ≤ n * 6 := by rw [List.length_take]; omega
    have h2 : (flatI (l.set k x)).length ≤ n * 6 := by rw [flatI_len, List.length_set, hl]; exact Nat.le_refl _
    rw [List.getElem?_eq_none (by omega), List.getElem?_eq_none (by omega)]
theorem bare_setI {l l' : List IV} {k : Nat} {x y : IV} (h1 : l'.map IV.bare = l.map IV.bare) (hy : l[k]? = some y) (hxy : x.bare = y.bare) : (l'.set k x).map IV.bare = l.map IV.bare := by
  rw [List.map_set, h1]
  apply List.ext_getElem?
  intro j
  rw [List.getElem?_set, List.length_map]
  by_cases hj : k = j
  · subst hj
    have := (List.getElem?_eq_some_iff.1 hy).1
    rw [if_pos rfl, if_pos this, List.getElem?_map, hy, Option.map_some, hxy]
  · rw [if_neg hj]

theorem cells_setD {cur : Array Value} {l : List DV} {n : Nat} (hl : l.length = n) (hcs : n * 6 ≤ cur.size) (ht : cur.toList.take (n * 6) = flatD l) {k : Nat} (hk : k < n) (x : DV) {L : List Value}
    (hL : ∀ q r, r < 6 → L[q * 6 + r]? = if q = k then x.cells[r]? else cur.toList[q * 6 + r]?) : L.take (n * 6) = flatD (l.set k x) := by
  apply List.ext_getElem?
  intro j
  by_cases hj : j < n * 6
  · have hd : j = j / 6 * 6 + j % 6 := by omega
    have hq : j / 6 < n := by omega
    rw [List.getElem?_take, if_pos hj, hd, hL (j / 6) (j % 6) (by omega), flatD_get (l.set k x) (j / 6) (by rw [List.length_set]; omega) (j % 6) (by omega), List.getElem_set]
    by_cases he : j / 6 = k
    · rw [if_pos he, if_pos he.symm]
    · rw [if_neg he, if_neg (Ne.symm he), ← flatD_get l (j / 6) (by omega) (j % 6) (by omega), ← ht, List.getElem?_take, if_pos (by omega)]
  · have h1 : (L.take (n * 6)).length ≤ n * 6 := by rw [List.length_take]; omega
    have h2 : (flatD (l.set k x)).length ≤ n * 6 := by rw [flatD_len, List.length_set, hl]; exact Nat.le_refl _
    rw [List.getElem?_eq_none (by omega), List.getElem?_eq_none (by omega)]
theorem bare_setD {l l' : List DV} {k : Nat} {x y : DV} (h1 : l'.map DV.bare = l.map DV.bare) (hy : l[k]? = some y) (hxy : x.bare = y.bare) : (l'.set k x).map DV.bare = l.map DV.bare := by
  rw [List.map_set, h1]
  apply List.ext_getElem?
  intro j
  rw [List.getElem?_set, List.length_map]
  by_cases hj : k = j
  · subst hj
    have := (List.getElem?_eq_some_iff.1 hy).1
    rw [if_pos rfl, if_pos this, List.getElem?_map, hy, Option.map_some, hxy]
  · rw [if_neg hj]

/-- Six cells of a row. -/
abbrev putR (w : World) (g m : Nat) (c0 c1 c2 c3 c4 c5 : Value) : World :=
  ((((((w.setCell ⟨g, m, none⟩ c0).setCell ⟨g, m + 1, none⟩ c1).setCell ⟨g, m + 2, none⟩ c2).setCell ⟨g, m + 3, none⟩ c3).setCell ⟨g, m + 4, none⟩ c4).setCell ⟨g, m + 5, none⟩ c5)
abbrev put6 (cur : Array Value) (m : Nat) (c0 c1 c2 c3 c4 c5 : Value) : Array Value :=
  ((((((cur.setIfInBounds m c0).setIfInBounds (m + 1) c1).setIfInBounds (m + 2) c2).setIfInBounds (m + 3) c3).setIfInBounds (m + 4) c4).setIfInBounds (m + 5) c5)
theorem putR_at {w : World} {g : Nat} {cur : Array Value} {T : TypeId} {z : Nat × Nat} (h : w.heap[g]? = some (.cells cur T z)) (m : Nat) (c0 c1 c2 c3 c4 c5 : Value) :
    (putR w g m c0 c1 c2 c3 c4 c5).heap[g]? = some (.cells (put6 cur m c0 c1 c2 c3 c4 c5) T z) := by
  unfold putR put6
  simp [World.setCell, Array.getElem?_modify, h]
theorem putR_far (w : World) (b m g : Nat) (hg : g ≠ b) (c0 c1 c2 c3 c4 c5 : Value) : (putR w b m c0 c1 c2 c3 c4 c5).heap[g]? = w.heap[g]? := by
  unfold putR
  simp [World.setCell, Array.getElem?_modify, Ne.symm hg]
theorem putR_below {w0 w : World} {B b : Nat} (h : Below B w0 w) (hb : B ≤ b) (m : Nat) (c0 c1 c2 c3 c4 c5 : Value) : Below B w0 (putR w b m c0 c1 c2 c3 c4 c5) :=
  (((((h.setCell (p := ⟨b, m, none⟩) hb c0).setCell (p := ⟨b, m + 1, none⟩) hb c1).setCell (p := ⟨b, m + 2, none⟩) hb c2).setCell (p := ⟨b, m + 3, none⟩) hb c3).setCell (p := ⟨b, m + 4, none⟩) hb c4).setCell (p := ⟨b, m + 5, none⟩) hb c5
theorem put6_get (cur : Array Value) (k : Nat) (hk : k * 6 + 6 ≤ cur.size) (c0 c1 c2 c3 c4 c5 : Value) (q r : Nat) (hr : r < 6) :
    (put6 cur (k * 6) c0 c1 c2 c3 c4 c5).toList[q * 6 + r]? = if q = k then [c0, c1, c2, c3, c4, c5][r]? else cur.toList[q * 6 + r]? := by
  have hk2 : k * 6 + 6 ≤ cur.toList.length := by simpa using hk
  unfold put6
  simp only [Array.toList_setIfInBounds]
  generalize cur.toList = L at hk2
  by_cases hq : q = k
  · subst hq
    rw [if_pos rfl]
    rcases (show r = 0 ∨ r = 1 ∨ r = 2 ∨ r = 3 ∨ r = 4 ∨ r = 5 by omega) with rfl | rfl | rfl | rfl | rfl | rfl <;> simp [List.getElem?_set] <;> omega
  · rw [if_neg hq]
    simp only [List.getElem?_set, List.length_set]
    repeat rw [if_neg (by omega)]
/-- Rows of two types lie apart. -/
theorem ownr_far {w : World} {b g n s : Nat} {e T : TypeId} {v : Value} {xs : List Value} {cur : Array Value} {z : Nat × Nat} (hne : e ≠ T) (hg : w.heap[g]? = some (.cells cur T z)) (h : w.ownsRow b e s v n xs) : ∀ k, v.ownBlock = some k → k ≠ g := by
  intro k hk he
  rcases h.2 with ⟨rfl, _⟩ | ⟨g1, cap, cur1, rfl, _, h3, _⟩
  · simp [Value.ownBlock] at hk
  · simp [Value.ownBlock] at hk
    subst hk he
    rw [hg] at h3
    simp only [Option.some.injEq, Obj.cells.injEq] at h3
    exact hne h3.2.1.symm
theorem ownS_far {w : World} {b g n s : Nat} {e T : TypeId} {v : Value} {xs : List Value} {cur : Array Value} {z : Nat × Nat} (hne : e ≠ T) (hg : w.heap[g]? = some (.cells cur T z)) (h : OwnS w b e s v n xs) : ∀ k, v.ownBlock = some k → k ≠ g := by
  intro k hk he
  rcases h.2 with ⟨rfl, _⟩ | ⟨g1, off, cap, cur1, rfl, _, h3, _⟩
  · simp [Value.ownBlock] at hk
  · simp [Value.ownBlock] at hk
    subst hk he
    rw [hg] at h3
    simp only [Option.some.injEq, Obj.cells.injEq] at h3
    exact hne h3.2.1.symm
theorem InstsHalf.step {w W : World} {base g n c : Nat} {l : List IV} {k : Nat} {x y : IV} (h : InstsHalf w base (.slice (some ⟨g, 0, none⟩) n c) l k) (hk : k < l.length) (hb : Below w.heap.size w W) (hy : l[k]? = some y) (hxy : x.bare = y.bare)
    (hx : OwnS W base 3 1 x.lv x.ls.length (icells x.ls)) : InstsHalf (putR W g (k * 6) (.string x.path) (.string x.item) (.int .i64 x.st) (.int .i64 x.bf) x.lv (.int .i64 x.due)) base (.slice (some ⟨g, 0, none⟩) n c) l (k + 1) := by
  obtain ⟨l', h1, h2, h3, h4⟩ := h
  have hl : l'.length = l.length := by simpa using congrArg List.length h1
  have h2' := ownr_below h2 hb
  rcases h2'.2 with ⟨hv, h0⟩ | ⟨g1, cap, cur, hv, hbg, hg, e1, e2, e3, e4⟩
  · cases hv
  · simp only [Value.slice.injEq, Option.some.injEq, Addr.mk.injEq, and_true] at hv
    obtain ⟨rfl, rfl, rfl⟩ := hv
    have hcz : l'.length * 6 ≤ cur.size := by have := Nat.mul_le_mul_right 6 e1; omega
    refine ⟨l'.set k x, bare_setI h1 hy hxy, ⟨by rw [flatI_len], .inr ⟨g, c, _, by rw [List.length_set], hbg, putR_at hg _ _ _ _ _ _ _, by rw [List.length_set]; exact e1, e2, by simpa [put6] using e3, ?_⟩⟩, fun j z hz hj => ?_, fun j hj => ?_⟩
    · rw [List.length_set]
      exact cells_setI rfl hcz e4 (by omega) x (fun q r hr => put6_get cur k (by omega) _ _ _ _ _ _ q r hr)
    · have hw : OwnS W base 3 1 z.lv z.ls.length (icells z.ls) := by
        rw [List.getElem?_set] at hz
        by_cases he : k = j
        · rw [if_pos he, if_pos (by omega)] at hz
          cases hz
          exact hx
        · rw [if_neg he] at hz
          exact ownS_below (h3 j z hz (by omega)) hb
      exact hw.keep fun b hb2 => putR_far W g _ b (ownS_far (by decide) hg hw b hb2) _ _ _ _ _ _
    · rw [List.getElem?_set, if_neg (by omega)]
      exact h4 j (by omega)
theorem DocsHalf.step {w W : World} {base g n c : Nat} {l : List DV} {k : Nat} {y : DV} {v : Value} (h : DocsHalf w base (.slice (some ⟨g, 0, none⟩) n c) l k) (hk : k < l.length) (hb : Below w.heap.size w W) (hy : l[k]? = some y)
    (hx : OwnS W base 9 1 v y.rs.length (tcells y.rs)) : DocsHalf (W.setCell ⟨g, k * 6 + 5, none⟩ v) base (.slice (some ⟨g, 0, none⟩) n c) l (k + 1) := by
  obtain ⟨l', h1, h2, h3, h4⟩ := h
  have hl : l'.length = l.length := by simpa using congrArg List.length h1
  have h2' := ownr_below h2 hb
  rcases h2'.2 with ⟨hv, h0⟩ | ⟨g1, cap, cur, hv, hbg, hg, e1, e2, e3, e4⟩
  · cases hv
  · simp only [Value.slice.injEq, Option.some.injEq, Addr.mk.injEq, and_true] at hv
    obtain ⟨rfl, rfl, rfl⟩ := hv
    have hcz : l'.length * 6 ≤ cur.size := by have := Nat.mul_le_mul_right 6 e1; omega
    have hat : (W.setCell ⟨g, k * 6 + 5, none⟩ v).heap[g]? = some (.cells (cur.setIfInBounds (k * 6 + 5) v) 55 (0, 0)) := by simp [World.setCell, Array.getElem?_modify, hg]
    have hfar : ∀ b, b ≠ g → (W.setCell ⟨g, k * 6 + 5, none⟩ v).heap[b]? = W.heap[b]? := fun b hb => Below.heap_setCell _ _ _ _ hb
    have hky : l'[k]? = some y := by rw [h4 k (Nat.le_refl _)]; exact hy
    refine ⟨l'.set k { y with rv := v }, bare_setD h1 hy rfl, ⟨by rw [flatD_len], .inr ⟨g, c, _, by rw [List.length_set], hbg, hat, by rw [List.length_set]; exact e1, e2, by simpa using e3, ?_⟩⟩, fun j z hz hj => ?_, fun j hj => ?_⟩
    · rw [List.length_set]
      refine cells_setD rfl hcz e4 (by omega) { y with rv := v } (fun q r hr => ?_)
      rw [Array.toList_setIfInBounds, List.getElem?_set]
      by_cases hq : q = k
      · subst hq
        rw [if_pos rfl]
        by_cases h5 : r = 5
        · subst h5
          rw [if_pos rfl, if_pos (by simp; omega)]
          rfl
        · rw [if_neg (by omega)]
          have hq' : q < l'.length := by omega
          have := flatD_get l' q hq' r hr
          rw [← e4, List.getElem?_take, if_pos (by omega)] at this
          rw [this]
          have : l'[q] = y := by rw [List.getElem?_eq_getElem hq'] at hky; exact Option.some.inj hky
          rw [this]
          rcases (show r = 0 ∨ r = 1 ∨ r = 2 ∨ r = 3 ∨ r = 4 by omega) with rfl | rfl | rfl | rfl | rfl <;> rfl
      · rw [if_neg hq, if_neg (by omega)]
    · have hw : OwnS W base 9 1 z.rv z.rs.length (tcells z.rs) := by
        rw [List.getElem?_set] at hz
        by_cases he : k = j
        · rw [if_pos he, if_pos (by omega)] at hz
          cases hz
          exact hx
        · rw [if_neg he] at hz
          exact ownS_below (h3 j z hz (by omega)) hb
      exact hw.keep fun b hb2 => hfar b (ownS_far (by decide) hg hw b hb2)
    · rw [List.getElem?_set, if_neg (by omega)]
      exact h4 j (by omega)
/-- A list of instances stays while a row of another type is written. -/
theorem InstsOwn.far {w W : World} {base g : Nat} {v : Value} {l : List IV} {T : TypeId} {cur : Array Value} {z : Nat × Nat} (h : InstsOwn w base v l) (h1 : 51 ≠ T) (h2 : 3 ≠ T) (hg : w.heap[g]? = some (.cells cur T z)) (hf : ∀ b, b ≠ g → W.heap[b]? = w.heap[b]?) : InstsOwn W base v l := by
  obtain ⟨l', k1, k2, k3⟩ := h
  exact ⟨l', k1, ownr_keep k2 fun b hb => hf b (ownr_far h1 hg k2 b hb), fun x hx => (k3 x hx).keep fun b hb => hf b (ownS_far h2 hg (k3 x hx) b hb)⟩
theorem DocsOwn.far {w W : World} {base g : Nat} {v : Value} {l : List DV} {T : TypeId} {cur : Array Value} {z : Nat × Nat} (h : DocsOwn w base v l) (h1 : 55 ≠ T) (h2 : 9 ≠ T) (hg : w.heap[g]? = some (.cells cur T z)) (hf : ∀ b, b ≠ g → W.heap[b]? = w.heap[b]?) : DocsOwn W base v l := by
  obtain ⟨l', k1, k2, k3⟩ := h
  exact ⟨l', k1, ownr_keep k2 fun b hb => hf b (ownr_far h1 hg k2 b hb), fun x hx => (k3 x hx).keep fun b hb => hf b (ownS_far h2 hg (k3 x hx) b hb)⟩
end Go.Proofs.YtllhlmdhnmdihaaDoor

/- An index: rows as they read; slices.Clone of hooks. Written by tools/genindex2.py. -/
namespace Go.Proofs.YtllhlmdhnmdihaaDoor
open Go Go.RowKit Go.Shelf
set_option linter.unusedVariables false
set_option linter.unusedSimpArgs false

/-- Blocks from B on are as they were. -/
def Keeps (B : Nat) (w w' : World) : Prop := w.heap.size ≤ w'.heap.size ∧ ∀ k, B ≤ k → k < w.heap.size → w'.heap[k]? = w.heap[k]?
theorem Keeps.refl (B : Nat) (w : World) : Keeps B w w := ⟨Nat.le_refl _, fun _ _ _ => rfl⟩
theorem Keeps.trans {B : Nat} {w w1 w2 : World} (h : Keeps B w w1) (k : Keeps B w1 w2) : Keeps B w w2 := ⟨Nat.le_trans h.1 k.1, fun g hb hg => (k.2 g hb (Nat.lt_of_lt_of_le hg h.1)).trans (h.2 g hb hg)⟩
theorem Keeps.ofBelow {w w' : World} (B : Nat) (h : Below w.heap.size w w') : Keeps B w w' := ⟨h.size, fun k _ hk => h.block k hk⟩
theorem Keeps.setCell (B : Nat) (w : World) {b o : Nat} (hb : b < B) (u : Value) : Keeps B w (w.setCell ⟨b, o, none⟩ u) := by
  refine ⟨by simp [World.setCell], fun k hk _ => ?_⟩
  have : b ≠ k := by omega
  simp [World.setCell, Array.getElem?_modify, this]
/-- A slice of n elements of so many cells, as it reads, in a block from B on. -/
def Row (B : Nat) (w : World) (v : Value) (n size : Nat) (xs : List Value) : Prop :=
  ∃ g off c, v = .slice (some ⟨g, off, none⟩) n c ∧ B ≤ g ∧ xs.length = n * size ∧ n ≤ c ∧ c ≤ maxLen ∧ g < w.heap.size ∧ (∀ j u, xs[j]? = some u → w.cell? ⟨g, off + j, none⟩ = some u) ∧ (∀ u ∈ xs, u.oneCell' = true)
theorem Row.keep {B : Nat} {w w' : World} {v : Value} {n size : Nat} {xs : List Value} (h : Row B w v n size xs) (hb : Keeps B w w') : Row B w' v n size xs := by
  obtain ⟨g, off, c, e, hB, h1, h2, h3, hg, h4, h5⟩ := h
  refine ⟨g, off, c, e, hB, h1, h2, h3, Nat.lt_of_lt_of_le hg hb.1, fun j u hu => ?_, h5⟩
  have := hb.2 g hB hg
  rw [← h4 j u hu]
  simp [World.cell?, this]
theorem Row.mono {B B' : Nat} {w : World} {v : Value} {n size : Nat} {xs : List Value} (h : Row B w v n size xs) (hb : B' ≤ B) : Row B' w v n size xs := by
  obtain ⟨g, off, c, e, hB, r⟩ := h
  exact ⟨g, off, c, e, Nat.le_trans hb hB, r⟩
theorem Row.below {B : Nat} {w w' : World} {v : Value} {n size : Nat} {xs : List Value} (h : Row B w v n size xs) (hb : Below w.heap.size w w') : Row B w' v n size xs := h.keep (.ofBelow B hb)
theorem Row.src {P : Program} {t e' : TypeId} (hk : P.underlying t = some (.slice e')) {B : Nat} {w : World} {v : Value} {n size : Nat} {xs : List Value} (h : Row B w v n size xs) : Src P size t v n xs w := by
  obtain ⟨g, off, c, rfl, hB, h1, h2, h3, hg, h4, h5⟩ := h
  refine Src.ofSlice w hk ⟨g, off, none⟩ n c xs h1 (fun j u hu => ?_) h5
  rw [Addr.add_lit]
  exact h4 j u hu
theorem rowX_form {B : Nat} {w : World} {v : Value} {n size : Nat} {xs : List Value} (h : Row B w v n size xs) : ∃ g off c, v = .slice (some ⟨g, off, none⟩) n c := by
  obtain ⟨g, off, c, e, _⟩ := h
  exact ⟨g, off, c, e⟩
/-- What a copy of a row is. -/
def CloneOf (w : World) (E : TypeId) (size n : Nat) (xs : List Value) (e : Ending) (w' : World) : Prop := ∃ v', e = .returned v' ∧ OwnS w' w.heap.size E size v' n xs ∧ Below w.heap.size w w'
theorem emptyX_own (w : World) (E : TypeId) (size : Nat) : OwnS (w.alloc (.cells #[] E)) w.heap.size E size (.slice (some ⟨w.heap.size, 0, none⟩) 0 0) 0 [] :=
  ⟨by simp, .inr ⟨_, 0, 0, #[], rfl, Nat.le_refl _, heap_alloc_new w _, Nat.le_refl _, Nat.zero_le _, by simp, by simp⟩⟩

set_option maxRecDepth 100000 in
theorem cloneHook_nil (w : World) : Calls Tryd.prog 12 #[.slice none 0 0] w fun e w' => e = .returned (.slice none 0 0) ∧ w' = w := by
  have hnil := @Lib.run_eql_slice_nil Tryd.prog
  have hu := Tryd.underlying45
  go_enter Tryd.func12, Tryd.ntmps12
  go_wp2_with fail
  go_ret
  exact ⟨rfl, rfl⟩
theorem infoXHook : (Tryd.prog.info? 63).map (fun i => (i.zero, i.size, i.bytes)) = some (some (.agg #[.string ⟨#[]⟩, .bool false, .int .i64 0, .int .i64 0]), 4, 40) := by kernel_rfl
set_option maxRecDepth 100000 in
theorem cloneHook_c (w : World) (v : Value) (n : Nat) (xs : List Value) (B : Nat) (h : Row B w v n 4 xs) (hn : n ≤ 1000) : Calls Tryd.prog 12 #[v] w (CloneOf w 63 4 n xs) := by
  obtain ⟨i0, hi, hz0, hz1, hz2⟩ := info_parts infoXHook
  have HS := Lib.hid (fun (W : World) (hb : Below w.heap.size w W) => (h.below hb).src (P := Tryd.prog) (t := 45) Tryd.underlying45)
  obtain ⟨g, off, c, hv⟩ := rowX_form h
  have HN := Lib.hid hn
  clear h hn
  subst hv
  have hnil := @Lib.run_eql_slice_nil Tryd.prog
  have hu := Tryd.underlying45
  go_enter Tryd.func12, Tryd.ntmps12
  go_wp2_with (at_builtin; refine wpList_append_S rfl _ _ 45 45 rfl w.heap.size 63 i0 (.agg #[.string ⟨#[]⟩, .bool false, .int .i64 0, .int .i64 0]) 4 40 Tryd.underlying45 hi hz0 hz1 hz2 rfl (Nat.succ_pos _) (.slice (some ⟨w.heap.size, 0, none⟩) 0 0) 0 [] rfl (emptyX_own _ _ _) _ n xs rfl (HS.out _ ((Below.refl _ _).alloc (Nat.le_refl _) _)) ?c1 ?c2 ?c3 ?_)
  case c1 => have := HN.out; unfold maxLen; omega
  case c2 => have := HN.out; omega
  case c3 => simp
  intro v' w' hown hgrow hl
  have HO := Lib.hid hown
  have HB := Lib.hid (show Below w.heap.size w w' from ((Below.refl _ _).alloc (Nat.le_refl _) _).grown hgrow (by simp) (fun k ek => by
    have : w.heap.size = k := Option.some.inj ek
    omega))
  clear hown hgrow hl
  go_wp2_with fail
  go_ret
  exact ⟨_, rfl, HO.out, HB.out⟩

theorem Own1.row {w : World} {g off : Nat} {E : TypeId} {n size c : Nat} {xs : List Value} (h : Own1 w g off E n size c xs) (h1 : ∀ u ∈ xs, u.oneCell' = true) (B : Nat) (hB : B ≤ g) : Row B w (.slice (some ⟨g, off, none⟩) n c) n size xs := by
  have h' := h
  obtain ⟨cur, hg, hl, hc, hm, hx⟩ := h
  exact ⟨g, off, c, rfl, hB, hl, hc, hm, (Array.getElem?_eq_some_iff.1 hg).1, fun j u hu => h'.cell j u hu, h1⟩
end Go.Proofs.YtllhlmdhnmdihaaDoor
