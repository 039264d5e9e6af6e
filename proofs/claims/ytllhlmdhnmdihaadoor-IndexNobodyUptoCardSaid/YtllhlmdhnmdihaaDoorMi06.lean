/- Cases: a case that a call made: its documents; rows half copied. Written by tools/genzb.py. -/
import Derived.Test.YtllhlmdhnmdihaaDoorMi05
namespace Go.Proofs.YtllhlmdhnmdihaaDoor
open Go Go.RowKit Go.Shelf
set_option linter.unusedVariables false
set_option linter.unusedSimpArgs false

theorem tcells_one (xs : List ByteArray) : ∀ u ∈ tcells xs, u.oneCell' = true := by
  intro u hu
  simp only [tcells, List.mem_map] at hu
  obtain ⟨b, _, rfl⟩ := hu
  rfl
theorem infoText : (Tryd.prog.info? 9).map (fun i => (i.zero, i.size, i.bytes)) = some (some (.string ⟨#[]⟩), 1, 16) := by kernel_rfl
theorem infoDoc : (Tryd.prog.info? 55).map (fun i => (i.zero, i.size, i.bytes)) = some (some (.agg #[.string ⟨#[]⟩, .int .i64 0, .int .i64 0, .bool false, .string ⟨#[]⟩, .slice none 0 0]), 6, 80) := by kernel_rfl

/-- An instance without the place of its latches. -/
def DV.bare (x : DV) : DV := { x with rv := .slice none 0 0 }
def flatD (l : List DV) : List Value := l.flatMap DV.cells
theorem flatD_snoc (l : List DV) (x : DV) : flatD (l ++ [x]) = flatD l ++ x.cells := by simp [flatD]
/-- A list of instances in memory from a block on. -/
def DocsOwn (w : World) (base : Nat) (v : Value) (l : List DV) : Prop :=
  ∃ l' : List DV, l'.map DV.bare = l.map DV.bare ∧ w.ownsRow base 55 6 v l'.length (flatD l') ∧ ∀ x ∈ l', OwnS w base 9 1 x.rv x.rs.length (tcells x.rs)
theorem DocsOwn.nil (w : World) (base : Nat) : DocsOwn w base (.slice none 0 0) [] := ⟨[], rfl, World.ownsRow_nil _ _ _ _, by simp⟩
theorem DocsOwn.len {w : World} {base : Nat} {v : Value} {l : List DV} (h : DocsOwn w base v l) : ∃ l' : List DV, l'.length = l.length ∧ w.ownsRow base 55 6 v l.length (flatD l') := by
  obtain ⟨l', h1, h2, _⟩ := h
  have hl : l'.length = l.length := by simpa using congrArg List.length h1
  exact ⟨l', hl, hl ▸ h2⟩
theorem DocsOwn.below {w w' : World} {base : Nat} {v : Value} {l : List DV} (h : DocsOwn w base v l) (hb : Below w.heap.size w w') : DocsOwn w' base v l := by
  obtain ⟨l', h1, h2, h3⟩ := h
  exact ⟨l', h1, ownr_below h2 hb, fun x hx => ownS_below (h3 x hx) hb⟩
/-- One more. -/
theorem DocsOwn.push {w W1 W3 W4 : World} {base : Nat} {v v2 : Value} {l : List DV} {y x : DV} {o : Obj} {l' : List DV} (h1 : l'.map DV.bare = l.map DV.bare) (h2 : w.ownsRow base 55 6 v l'.length (flatD l')) (h3 : ∀ x ∈ l', OwnS w base 9 1 x.rv x.rs.length (tcells x.rs))
    (hb : Below w.heap.size w W3) (hx : OwnS W3 base 9 1 x.rv x.rs.length (tcells x.rs)) (hxy : x.bare = y.bare)
    (hown : W4.ownsRow base 55 6 v2 (l'.length + 1) (flatD l' ++ x.cells)) (hg : (W3.alloc o).grownBy W4 v.ownBlock) : DocsOwn W4 base v2 (l ++ [y]) := by
  have h2' := ownr_below (ownr_below h2 hb) ((Below.refl _ W3).alloc (Nat.le_refl _) o)
  refine ⟨l' ++ [x], by simp [h1, hxy], by rw [flatD_snoc, List.length_append]; exact hown, fun z hz => ?_⟩
  rcases List.mem_append.1 hz with hz | hz
  · exact own_grow (by decide) h2' (ownS_below (ownS_below (h3 z hz) hb) ((Below.refl _ W3).alloc (Nat.le_refl _) o)) hg
  · rw [List.mem_singleton] at hz
    subst hz
    exact own_grow (by decide) h2' (ownS_below hx ((Below.refl _ W3).alloc (Nat.le_refl _) o)) hg
theorem DocsOwn.up {w : World} {base b' : Nat} {v : Value} {l : List DV} (h : DocsOwn w base v l) (hb : b' ≤ base) : DocsOwn w b' v l := by
  obtain ⟨l', h1, h2, h3⟩ := h
  refine ⟨l', h1, ⟨h2.1, h2.2.imp id ?_⟩, fun x hx => (h3 x hx).up hb⟩
  rintro ⟨g, cap, cur, e1, e2, e3⟩
  exact ⟨g, cap, cur, e1, Nat.le_trans hb e2, e3⟩

theorem flatD_get (l : List DV) (k : Nat) (hk : k < l.length) (j : Nat) (hj : j < 6) : (flatD l)[k * 6 + j]? = (l[k].cells)[j]? := by
  induction l generalizing k with
  | nil => simp at hk
  | cons x r ih =>
    have hx : x.cells.length = 6 := rfl
    cases k with
    | zero =>
      show (x.cells ++ flatD r)[0 * 6 + j]? = _
      rw [List.getElem?_append_left (by omega), Nat.zero_mul, Nat.zero_add]
      rfl
    | succ k =>
      show (x.cells ++ flatD r)[(k + 1) * 6 + j]? = _
      rw [List.getElem?_append_right (by omega), show (k + 1) * 6 + j - x.cells.length = k * 6 + j from by omega, ih k (by simpa using hk)]
      rfl
theorem DocsOwn.is {w w0 : World} {base : Nat} {v : Value} {l : List DV} (h : DocsOwn w base v l) (hl : ∀ x ∈ l, DVok w0 x) : ∃ l', DocsIs w v l' ∧ l'.map DV.bare = l.map DV.bare := by
  obtain ⟨l', h1, h2, h3⟩ := h
  refine ⟨l', ⟨?_, fun x hx => ?_⟩, h1⟩
  · rcases h2.2 with ⟨rfl, h0⟩ | ⟨g, cap, cur, hv, hb, hg, e1, e2, e3, e4⟩
    · rw [h0]
      exact ⟨none, 0, rfl, by simp, by simp, by simp, by simp⟩
    · refine ⟨_, cap, hv, e1, e2, by simp, fun hp => ⟨g, 0, rfl, (Array.getElem?_eq_some_iff.1 hg).1, fun k hk j hj => ?_⟩⟩
      rw [Nat.zero_add, cell_of_row w g _ cur 55 (0, 0) hg]
      have := flatD_get l' k hk j hj
      rw [← e4, List.getElem?_take, if_pos (by omega)] at this
      unfold rowD
      rw [List.getElem?_eq_getElem hk]
      show _ = (l'[k].cells)[j]?
      rw [← this]
      simp
  · obtain ⟨y, hy, hxy⟩ : ∃ y ∈ l, y.bare = x.bare := by
      have : x.bare ∈ l.map DV.bare := by rw [← h1]; exact List.mem_map.2 ⟨x, hx, rfl⟩
      obtain ⟨y, hy, he⟩ := List.mem_map.1 this
      exact ⟨y, hy, he⟩
    have hk := hl y hy
    obtain ⟨path, vk, vi, vb, vt, rv, rs⟩ := x
    obtain ⟨path2, vk2, vi2, vb2, vt2, rv2, rs2⟩ := y
    simp only [DV.bare, DV.mk.injEq] at hxy
    obtain ⟨rfl, rfl, rfl, rfl, rfl, _, rfl⟩ := hxy
    refine ⟨hk.path, hk.vt, hk.vk, hk.vi, ?_⟩
    have h4 := h3 _ hx
    dsimp only at h4 ⊢
    rw [show rs2.length = (tcells rs2).length from by simp [tcells]] at h4
    exact rdv_of_ownS h4
theorem flatI_len (l : List IV) : (flatI l).length = l.length * 6 := by
  induction l with
  | nil => rfl
  | cons x r ih => 
    show (x.cells ++ flatI r).length = _
    rw [List.length_append, ih, List.length_cons]
    have : x.cells.length = 6 := rfl
    omega
theorem flatI_one (l : List IV) (hl : ∀ x ∈ l, ∀ u ∈ x.cells, u.oneCell' = true) : ∀ u ∈ flatI l, u.oneCell' = true := by
  intro u hu
  unfold flatI at hu
  rw [List.mem_flatMap] at hu
  obtain ⟨x, hx, hu⟩ := hu
  exact hl x hx u hu
theorem InstsIs.src {w : World} {v : Value} {l : List IV} (h : InstsIs w v l) : Src Tryd.prog 6 22 v l.length (flatI l) w := by
  have h1 : ∀ x ∈ l, ∀ u ∈ x.cells, u.oneCell' = true := by
    intro x hx u hu
    obtain ⟨p, c, hp⟩ := (h.2 x hx).rl.form
    unfold IV.cells at hu
    rw [hp] at hu
    simp only [List.mem_cons, List.not_mem_nil, or_false] at hu
    rcases hu with rfl | rfl | rfl | rfl | rfl | rfl <;> rfl
  obtain ⟨a, c, rfl, h2, h3, h4, h5⟩ := h.1
  cases a with
  | none =>
    have := h4 rfl
    have h0 : l = [] := List.eq_nil_of_length_eq_zero (by omega)
    subst h0
    exact Src.ofNil w Tryd.underlying22 c
  | some a =>
    refine Src.ofSlice w Tryd.underlying22 a _ c (flatI l) (flatI_len l) (fun j u hj => ?_) (flatI_one l h1)
    have hjl := (List.getElem?_eq_some_iff.1 hj).1
    rw [flatI_len] at hjl
    obtain ⟨b, o, hp, hb, hx⟩ := h5 (by omega)
    obtain rfl : a = ⟨b, o, none⟩ := by simpa using hp
    have hd : j = j / 6 * 6 + j % 6 := by omega
    have hk : j / 6 < l.length := by omega
    have := hx (j / 6) hk (j % 6) (by omega)
    rw [Addr.add_lit]
    rw [← hd] at this
    rw [this]
    unfold rowI
    rw [List.getElem?_eq_getElem hk]
    show (l[j / 6].cells)[j % 6]? = _
    rw [← flatI_get l (j / 6) hk (j % 6) (by omega), ← hd, hj]
/-- A row whose first k are copied, the others still the originals'. -/
def InstsHalf (w : World) (base : Nat) (v : Value) (l : List IV) (k : Nat) : Prop :=
  ∃ l' : List IV, l'.map IV.bare = l.map IV.bare ∧ w.ownsRow base 51 6 v l'.length (flatI l') ∧ (∀ (j : Nat) x, l'[j]? = some x → j < k → OwnS w base 3 1 x.lv x.ls.length (icells x.ls)) ∧ ∀ j : Nat, k ≤ j → l'[j]? = l[j]?
theorem InstsHalf.zero {w : World} {base : Nat} {v : Value} {l : List IV} (h : w.ownsRow base 51 6 v l.length (flatI l)) : InstsHalf w base v l 0 :=
  ⟨l, rfl, h, fun j x hj hk => by omega, fun j hj => rfl⟩
theorem InstsHalf.full {w : World} {base : Nat} {v : Value} {l : List IV} {k : Nat} (h : InstsHalf w base v l k) (hk : l.length ≤ k) : InstsOwn w base v l := by
  obtain ⟨l', h1, h2, h3, h4⟩ := h
  have hl : l'.length = l.length := by simpa using congrArg List.length h1
  refine ⟨l', h1, h2, fun x hx => ?_⟩
  obtain ⟨i, hi, rfl⟩ := List.getElem_of_mem hx
  exact h3 i _ (List.getElem?_eq_getElem hi) (by omega)
theorem InstsHalf.below {w w' : World} {base : Nat} {v : Value} {l : List IV} {k : Nat} (h : InstsHalf w base v l k) (hb : Below w.heap.size w w') : InstsHalf w' base v l k := by
  obtain ⟨l', h1, h2, h3, h4⟩ := h
  exact ⟨l', h1, ownr_below h2 hb, fun j x hj hk => ownS_below (h3 j x hj hk) hb, h4⟩
/-- The k-th, still the original's, as it lies. -/
theorem InstsHalf.row {w : World} {base : Nat} {a : Option Addr} {n c : Nat} {l : List IV} {k : Nat} (h : InstsHalf w base (.slice a n c) l k) (hk : k < l.length) {x : IV} (hx : l[k]? = some x) :
    ∃ g, a = some ⟨g, 0, none⟩ ∧ base ≤ g ∧ g < w.heap.size ∧ (∃ cur, w.heap[g]? = some (.cells cur 51 (0, 0))) ∧ (∀ o, w.frozen? ⟨g, o, none⟩ = false) ∧ ∀ j, j < 6 → w.cell? ⟨g, 0 + (k * 6 + j), none⟩ = x.cells[j]? := by
  obtain ⟨l', h1, h2, h3, h4⟩ := h
  have hl : l'.length = l.length := by simpa using congrArg List.length h1
  rcases h2.2 with ⟨hv, h0⟩ | ⟨g, cap, cur, hv, hb, hg, e1, e2, e3, e4⟩
  · omega
  · simp only [Value.slice.injEq] at hv
    refine ⟨g, hv.1, hb, (Array.getElem?_eq_some_iff.1 hg).1, ⟨cur, hg⟩, fun o => by simp [World.frozen?, hg], fun j hj => ?_⟩
    rw [Nat.zero_add, cell_of_row w g _ cur 51 (0, 0) hg]
    have hk' : k < l'.length := by omega
    have := flatI_get l' k hk' j hj
    rw [← e4, List.getElem?_take, if_pos (by omega)] at this
    have hkx : l'[k] = x := by
      have := (h4 k (Nat.le_refl _)).trans hx
      rw [List.getElem?_eq_getElem hk'] at this
      exact Option.some.inj this
    rw [← hkx, ← this]
    simp

theorem flatD_len (l : List DV) : (flatD l).length = l.length * 6 := by
  induction l with
  | nil => rfl
  | cons x r ih => 
    show (x.cells ++ flatD r).length = _
    rw [List.length_append, ih, List.length_cons]
    have : x.cells.length = 6 := rfl
    omega
theorem flatD_one (l : List DV) (hl : ∀ x ∈ l, ∀ u ∈ x.cells, u.oneCell' = true) : ∀ u ∈ flatD l, u.oneCell' = true := by
  intro u hu
  unfold flatD at hu
  rw [List.mem_flatMap] at hu
  obtain ⟨x, hx, hu⟩ := hu
  exact hl x hx u hu
theorem DocsIs.src {w : World} {v : Value} {l : List DV} (h : DocsIs w v l) : Src Tryd.prog 6 23 v l.length (flatD l) w := by
  have h1 : ∀ x ∈ l, ∀ u ∈ x.cells, u.oneCell' = true := by
    intro x hx u hu
    obtain ⟨p, c, hp⟩ := (h.2 x hx).rr.form
    unfold DV.cells at hu
    rw [hp] at hu
    simp only [List.mem_cons, List.not_mem_nil, or_false] at hu
    rcases hu with rfl | rfl | rfl | rfl | rfl | rfl <;> rfl
  obtain ⟨a, c, rfl, h2, h3, h4, h5⟩ := h.1
  cases a with
  | none =>
    have := h4 rfl
    have h0 : l = [] := List.eq_nil_of_length_eq_zero (by omega)
    subst h0
    exact Src.ofNil w Tryd.underlying23 c
  | some a =>
    refine Src.ofSlice w Tryd.underlying23 a _ c (flatD l) (flatD_len l) (fun j u hj => ?_) (flatD_one l h1)
    have hjl := (List.getElem?_eq_some_iff.1 hj).1
    rw [flatD_len] at hjl
    obtain ⟨b, o, hp, hb, hx⟩ := h5 (by omega)
    obtain rfl : a = ⟨b, o, none⟩ := by simpa using hp
    have hd : j = j / 6 * 6 + j % 6 := by omega
    have hk : j / 6 < l.length := by omega
    have := hx (j / 6) hk (j % 6) (by omega)
    rw [Addr.add_lit]
    rw [← hd] at this
    rw [this]
    unfold rowD
    rw [List.getElem?_eq_getElem hk]
    show (l[j / 6].cells)[j % 6]? = _
    rw [← flatD_get l (j / 6) hk (j % 6) (by omega), ← hd, hj]
/-- A row whose first k are copied, the others still the originals'. -/
def DocsHalf (w : World) (base : Nat) (v : Value) (l : List DV) (k : Nat) : Prop :=
  ∃ l' : List DV, l'.map DV.bare = l.map DV.bare ∧ w.ownsRow base 55 6 v l'.length (flatD l') ∧ (∀ (j : Nat) x, l'[j]? = some x → j < k → OwnS w base 9 1 x.rv x.rs.length (tcells x.rs)) ∧ ∀ j : Nat, k ≤ j → l'[j]? = l[j]?
theorem DocsHalf.zero {w : World} {base : Nat} {v : Value} {l : List DV} (h : w.ownsRow base 55 6 v l.length (flatD l)) : DocsHalf w base v l 0 :=
  ⟨l, rfl, h, fun j x hj hk => by omega, fun j hj => rfl⟩
theorem DocsHalf.full {w : World} {base : Nat} {v : Value} {l : List DV} {k : Nat} (h : DocsHalf w base v l k) (hk : l.length ≤ k) : DocsOwn w base v l := by
  obtain ⟨l', h1, h2, h3, h4⟩ := h
  have hl : l'.length = l.length := by simpa using congrArg List.length h1
  refine ⟨l', h1, h2, fun x hx => ?_⟩
  obtain ⟨i, hi, rfl⟩ := List.getElem_of_mem hx
  exact h3 i _ (List.getElem?_eq_getElem hi) (by omega)
theorem DocsHalf.below {w w' : World} {base : Nat} {v : Value} {l : List DV} {k : Nat} (h : DocsHalf w base v l k) (hb : Below w.heap.size w w') : DocsHalf w' base v l k := by
  obtain ⟨l', h1, h2, h3, h4⟩ := h
  exact ⟨l', h1, ownr_below h2 hb, fun j x hj hk => ownS_below (h3 j x hj hk) hb, h4⟩
/-- The k-th, still the original's, as it lies. -/
theorem DocsHalf.row {w : World} {base : Nat} {a : Option Addr} {n c : Nat} {l : List DV} {k : Nat} (h : DocsHalf w base (.slice a n c) l k) (hk : k < l.length) {x : DV} (hx : l[k]? = some x) :
    ∃ g, a = some ⟨g, 0, none⟩ ∧ base ≤ g ∧ g < w.heap.size ∧ (∃ cur, w.heap[g]? = some (.cells cur 55 (0, 0))) ∧ (∀ o, w.frozen? ⟨g, o, none⟩ = false) ∧ ∀ j, j < 6 → w.cell? ⟨g, 0 + (k * 6 + j), none⟩ = x.cells[j]? := by
  obtain ⟨l', h1, h2, h3, h4⟩ := h
  have hl : l'.length = l.length := by simpa using congrArg List.length h1
  rcases h2.2 with ⟨hv, h0⟩ | ⟨g, cap, cur, hv, hb, hg, e1, e2, e3, e4⟩
  · omega
  · simp only [Value.slice.injEq] at hv
    refine ⟨g, hv.1, hb, (Array.getElem?_eq_some_iff.1 hg).1, ⟨cur, hg⟩, fun o => by simp [World.frozen?, hg], fun j hj => ?_⟩
    rw [Nat.zero_add, cell_of_row w g _ cur 55 (0, 0) hg]
    have hk' : k < l'.length := by omega
    have := flatD_get l' k hk' j hj
    rw [← e4, List.getElem?_take, if_pos (by omega)] at this
    have hkx : l'[k] = x := by
      have := (h4 k (Nat.le_refl _)).trans hx
      rw [List.getElem?_eq_getElem hk'] at this
      exact Option.some.inj this
    rw [← hkx, ← this]
    simp

end Go.Proofs.YtllhlmdhnmdihaaDoor
