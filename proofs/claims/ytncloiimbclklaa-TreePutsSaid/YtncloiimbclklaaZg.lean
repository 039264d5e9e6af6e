/- Cases: a case that a call made: its documents; rows half copied. Written by tools/genzb.py. -/
import Derived.Test.YtncloiimbclklaaZa
import Derived.Deep.RegionLaw
import Derived.Deep.DeepCutAuto
import Derived.Deep.AppendLies
import Derived.Deep.QuietTactic
import Derived.Test.YtncloiimbclklaaBulk
namespace Go.Proofs.Ytncloiimbclklaa
open Go Go.RowKit Go.Shelf
set_option linter.unusedVariables false
set_option linter.unusedSimpArgs false

theorem tcells_one (xs : List ByteArray) : ∀ u ∈ tcells xs, u.oneCell' = true := by
  intro u hu
  simp only [tcells, List.mem_map] at hu
  obtain ⟨b, _, rfl⟩ := hu
  rfl
theorem infoText : (Try.prog.info? 9).map (fun i => (i.zero, i.size, i.bytes)) = some (some (.string ⟨#[]⟩), 1, 16) := by kernel_rfl
theorem infoDoc : (Try.prog.info? 49).map (fun i => (i.zero, i.size, i.bytes)) = some (some (.agg #[.string ⟨#[]⟩, .int .i64 0, .int .i64 0, .bool false, .string ⟨#[]⟩, .slice none 0 0]), 6, 80) := by kernel_rfl

/-- An instance without the place of its latches. -/
def DV.bare (x : DV) : DV := { x with rv := .slice none 0 0 }
def flatD (l : List DV) : List Value := l.flatMap DV.cells
theorem flatD_snoc (l : List DV) (x : DV) : flatD (l ++ [x]) = flatD l ++ x.cells := by simp [flatD]
/-- A list of instances in memory from a block on. -/
def DocsOwn (w : World) (base : Nat) (v : Value) (l : List DV) : Prop :=
  ∃ l' : List DV, l'.map DV.bare = l.map DV.bare ∧ w.ownsRow base 49 6 v l'.length (flatD l') ∧ ∀ x ∈ l', OwnS w base 9 1 x.rv x.rs.length (tcells x.rs)
theorem DocsOwn.nil (w : World) (base : Nat) : DocsOwn w base (.slice none 0 0) [] := ⟨[], rfl, World.ownsRow_nil _ _ _ _, by simp⟩
theorem DocsOwn.len {w : World} {base : Nat} {v : Value} {l : List DV} (h : DocsOwn w base v l) : ∃ l' : List DV, l'.length = l.length ∧ w.ownsRow base 49 6 v l.length (flatD l') := by
  obtain ⟨l', h1, h2, _⟩ := h
  have hl : l'.length = l.length := by simpa using congrArg List.length h1
  exact ⟨l', hl, hl ▸ h2⟩
theorem DocsOwn.below {w w' : World} {base : Nat} {v : Value} {l : List DV} (h : DocsOwn w base v l) (hb : Below w.heap.size w w') : DocsOwn w' base v l := by
  obtain ⟨l', h1, h2, h3⟩ := h
  exact ⟨l', h1, ownr_below h2 hb, fun x hx => ownS_below (h3 x hx) hb⟩
/-- One more. -/
theorem DocsOwn.push {w W1 W3 W4 : World} {base : Nat} {v v2 : Value} {l : List DV} {y x : DV} {o : Obj} {l' : List DV} (h1 : l'.map DV.bare = l.map DV.bare) (h2 : w.ownsRow base 49 6 v l'.length (flatD l')) (h3 : ∀ x ∈ l', OwnS w base 9 1 x.rv x.rs.length (tcells x.rs))
    (hb : Below w.heap.size w W3) (hx : OwnS W3 base 9 1 x.rv x.rs.length (tcells x.rs)) (hxy : x.bare = y.bare)
    (hown : W4.ownsRow base 49 6 v2 (l'.length + 1) (flatD l' ++ x.cells)) (hg : (W3.alloc o).grownBy W4 v.ownBlock) : DocsOwn W4 base v2 (l ++ [y]) := by
  have h2' := ownr_below (ownr_below h2 hb) ((Below.refl _ W3).alloc (Nat.le_refl _) o)
  refine ⟨l' ++ [x], by simp [h1, hxy], by rw [flatD_snoc, List.length_append]; exact hown, fun z hz => ?_⟩
  rcases List.mem_append.1 hz with hz | hz
  · exact own_grow (by decide) h2' (ownS_below (ownS_below (h3 z hz) hb) ((Below.refl _ W3).alloc (Nat.le_refl _) o)) hg
  · rw [List.mem_singleton] at hz
    subst hz
    exact own_grow (by decide) h2' (ownS_below hx ((Below.refl _ W3).alloc (Nat.le_refl _) o)) hg
theorem DocsOwn.up {w : World} {base b' : Nat} {v : Value} {l : List DV} (h : DocsOwn w base v l) (hb : b' ≤ base) : DocsOwn w b' v l := by
  obtain ⟨l', h1, h2, h3⟩ := h
  refine ⟨l', h1, ⟨h2.1, h2.2.imp id ?_⟩, fun x hx => (h3 x hx).up hb⟩
  rintro ⟨g, cap, cur, e1, e2, e3⟩
  exact ⟨g, cap, cur, e1, Nat.le_trans hb e2, e3⟩

theorem flatD_get (l : List DV) (k : Nat) (hk : k < l.length) (j : Nat) (hj : j < 6) : (flatD l)[k * 6 + j]? = (l[k].cells)[j]? := by
  induction l generalizing k with
  | nil => simp at hk
  | cons x r ih =>
    have hx : x.cells.length = 6 := rfl
    cases k with
    | zero =>
      show (x.cells ++ flatD r)[0 * 6 + j]? = _
      rw [List.getElem?_append_left (by omega), Nat.zero_mul, Nat.zero_add]
      rfl
    | succ k =>
      show (x.cells ++ flatD r)[(k + 1) * 6 + j]? = _
      rw [List.getElem?_append_right (by omega), show (k + 1) * 6 + j - x.cells.length = k * 6 + j from by omega, ih k (by simpa using hk)]
      rfl
theorem DocsOwn.is {w w0 : World} {base : Nat} {v : Value} {l : List DV} (h : DocsOwn w base v l) (hl : ∀ x ∈ l, DVok w0 x) : ∃ l', DocsIs w v l' ∧ l'.map DV.bare = l.map DV.bare := by
  obtain ⟨l', h1, h2, h3⟩ := h
  refine ⟨l', ⟨?_, fun x hx => ?_⟩, h1⟩
  · rcases h2.2 with ⟨rfl, h0⟩ | ⟨g, cap, cur, hv, hb, hg, e1, e2, e3, e4⟩
    · rw [h0]
      exact ⟨none, 0, rfl, by simp, by simp, by simp, by simp⟩
    · refine ⟨_, cap, hv, e1, e2, by simp, fun hp => ⟨g, 0, rfl, (Array.getElem?_eq_some_iff.1 hg).1, fun k hk j hj => ?_⟩⟩
      rw [Nat.zero_add, cell_of_row w g _ cur 49 (0, 0) hg]
      have := flatD_get l' k hk j hj
      rw [← e4, List.getElem?_take, if_pos (by omega)] at this
      unfold rowD
      rw [List.getElem?_eq_getElem hk]
      show _ = (l'[k].cells)[j]?
      rw [← this]
      simp
  · obtain ⟨y, hy, hxy⟩ : ∃ y ∈ l, y.bare = x.bare := by
      have : x.bare ∈ l.map DV.bare := by rw [← h1]; exact List.mem_map.2 ⟨x, hx, rfl⟩
      obtain ⟨y, hy, he⟩ := List.mem_map.1 this
      exact ⟨y, hy, he⟩
    have hk := hl y hy
    obtain ⟨path, vk, vi, vb, vt, rv, rs⟩ := x
    obtain ⟨path2, vk2, vi2, vb2, vt2, rv2, rs2⟩ := y
    simp only [DV.bare, DV.mk.injEq] at hxy
    obtain ⟨rfl, rfl, rfl, rfl, rfl, _, rfl⟩ := hxy
    refine ⟨hk.path, hk.vt, hk.vk, hk.vi, ?_⟩
    have h4 := h3 _ hx
    dsimp only at h4 ⊢
    rw [show rs2.length = (tcells rs2).length from by simp [tcells]] at h4
    exact rdv_of_ownS h4
theorem flatI_len (l : List IV) : (flatI l).length = l.length * 6 := by
  induction l with
  | nil => rfl
  | cons x r ih => 
    show (x.cells ++ flatI r).length = _
    rw [List.length_append, ih, List.length_cons]
    have : x.cells.length = 6 := rfl
    omega
theorem flatI_one (l : List IV) (hl : ∀ x ∈ l, ∀ u ∈ x.cells, u.oneCell' = true) : ∀ u ∈ flatI l, u.oneCell' = true := by
  intro u hu
  unfold flatI at hu
  rw [List.mem_flatMap] at hu
  obtain ⟨x, hx, hu⟩ := hu
  exact hl x hx u hu
theorem InstsIs.src {w : World} {v : Value} {l : List IV} (h : InstsIs w v l) : Src Try.prog 6 22 v l.length (flatI l) w := by
  have h1 : ∀ x ∈ l, ∀ u ∈ x.cells, u.oneCell' = true := by
    intro x hx u hu
    obtain ⟨p, c, hp⟩ := (h.2 x hx).rl.form
    unfold IV.cells at hu
    rw [hp] at hu
    simp only [List.mem_cons, List.not_mem_nil, or_false] at hu
    rcases hu with rfl | rfl | rfl | rfl | rfl | rfl <;> rfl
  obtain ⟨a, c, rfl, h2, h3, h4, h5⟩ := h.1
  cases a with
  | none =>
    have := h4 rfl
    have h0 : l = [] := List.eq_nil_of_length_eq_zero (by omega)
    subst h0
    exact Src.ofNil w Try.underlying22 c
  | some a =>
    refine Src.ofSlice w Try.underlying22 a _ c (flatI l) (flatI_len l) (fun j u hj => ?_) (flatI_one l h1)
    have hjl := (List.getElem?_eq_some_iff.1 hj).1
    rw [flatI_len] at hjl
    obtain ⟨b, o, hp, hb, hx⟩ := h5 (by omega)
    obtain rfl : a = ⟨b, o, none⟩ := by simpa using hp
    have hd : j = j / 6 * 6 + j % 6 := by omega
    have hk : j / 6 < l.length := by omega
    have := hx (j / 6) hk (j % 6) (by omega)
    rw [Addr.add_lit]
    rw [← hd] at this
    rw [this]
    unfold rowI
    rw [List.getElem?_eq_getElem hk]
    show (l[j / 6].cells)[j % 6]? = _
    rw [← flatI_get l (j / 6) hk (j % 6) (by omega), ← hd, hj]
/-- A row whose first k are copied, the others still the originals'. -/
def InstsHalf (w : World) (base : Nat) (v : Value) (l : List IV) (k : Nat) : Prop :=
  ∃ l' : List IV, l'.map IV.bare = l.map IV.bare ∧ w.ownsRow base 30 6 v l'.length (flatI l') ∧ (∀ (j : Nat) x, l'[j]? = some x → j < k → OwnS w base 3 1 x.lv x.ls.length (icells x.ls)) ∧ ∀ j : Nat, k ≤ j → l'[j]? = l[j]?
theorem InstsHalf.zero {w : World} {base : Nat} {v : Value} {l : List IV} (h : w.ownsRow base 30 6 v l.length (flatI l)) : InstsHalf w base v l 0 :=
  ⟨l, rfl, h, fun j x hj hk => by omega, fun j hj => rfl⟩
theorem InstsHalf.full {w : World} {base : Nat} {v : Value} {l : List IV} {k : Nat} (h : InstsHalf w base v l k) (hk : l.length ≤ k) : InstsOwn w base v l := by
  obtain ⟨l', h1, h2, h3, h4⟩ := h
  have hl : l'.length = l.length := by simpa using congrArg List.length h1
  refine ⟨l', h1, h2, fun x hx => ?_⟩
  obtain ⟨i, hi, rfl⟩ := List.getElem_of_mem hx
  exact h3 i _ (List.getElem?_eq_getElem hi) (by omega)
theorem InstsHalf.below {w w' : World} {base : Nat} {v : Value} {l : List IV} {k : Nat} (h : InstsHalf w base v l k) (hb : Below w.heap.size w w') : InstsHalf w' base v l k := by
  obtain ⟨l', h1, h2, h3, h4⟩ := h
  exact ⟨l', h1, ownr_below h2 hb, fun j x hj hk => ownS_below (h3 j x hj hk) hb, h4⟩
/-- The k-th, still the original's, as it lies. -/
theorem InstsHalf.row {w : World} {base : Nat} {a : Option Addr} {n c : Nat} {l : List IV} {k : Nat} (h : InstsHalf w base (.slice a n c) l k) (hk : k < l.length) {x : IV} (hx : l[k]? = some x) :
    ∃ g, a = some ⟨g, 0, none⟩ ∧ base ≤ g ∧ g < w.heap.size ∧ (∃ cur, w.heap[g]? = some (.cells cur 30 (0, 0))) ∧ (∀ o, w.frozen? ⟨g, o, none⟩ = false) ∧ ∀ j, j < 6 → w.cell? ⟨g, 0 + (k * 6 + j), none⟩ = x.cells[j]? := by
  obtain ⟨l', h1, h2, h3, h4⟩ := h
  have hl : l'.length = l.length := by simpa using congrArg List.length h1
  rcases h2.2 with ⟨hv, h0⟩ | ⟨g, cap, cur, hv, hb, hg, e1, e2, e3, e4⟩
  · omega
  · simp only [Value.slice.injEq] at hv
    refine ⟨g, hv.1, hb, (Array.getElem?_eq_some_iff.1 hg).1, ⟨cur, hg⟩, fun o => by simp [World.frozen?, hg], fun j hj => ?_⟩
    rw [Nat.zero_add, cell_of_row w g _ cur 30 (0, 0) hg]
    have hk' : k < l'.length := by omega
    have := flatI_get l' k hk' j hj
    rw [← e4, List.getElem?_take, if_pos (by omega)] at this
    have hkx : l'[k] = x := by
      have := (h4 k (Nat.le_refl _)).trans hx
      rw [List.getElem?_eq_getElem hk'] at this
      exact Option.some.inj this
    rw [← hkx, ← this]
    simp

theorem flatD_len (l : List DV) : (flatD l).length = l.length * 6 := by
  induction l with
  | nil => rfl
  | cons x r ih => 
    show (x.cells ++ flatD r).length = _
    rw [List.length_append, ih, List.length_cons]
    have : x.cells.length = 6 := rfl
    omega
theorem flatD_one (l : List DV) (hl : ∀ x ∈ l, ∀ u ∈ x.cells, u.oneCell' = true) : ∀ u ∈ flatD l, u.oneCell' = true := by
  intro u hu
  unfold flatD at hu
  rw [List.mem_flatMap] at hu
  obtain ⟨x, hx, hu⟩ := hu
  exact hl x hx u hu
theorem DocsIs.src {w : World} {v : Value} {l : List DV} (h : DocsIs w v l) : Src Try.prog 6 23 v l.length (flatD l) w := by
  have h1 : ∀ x ∈ l, ∀ u ∈ x.cells, u.oneCell' = true := by
    intro x hx u hu
    obtain ⟨p, c, hp⟩ := (h.2 x hx).rr.form
    unfold DV.cells at hu
    rw [hp] at hu
    simp only [List.mem_cons, List.not_mem_nil, or_false] at hu
    rcases hu with rfl | rfl | rfl | rfl | rfl | rfl <;> rfl
  obtain ⟨a, c, rfl, h2, h3, h4, h5⟩ := h.1
  cases a with
  | none =>
    have := h4 rfl
    have h0 : l = [] := List.eq_nil_of_length_eq_zero (by omega)
    subst h0
    exact Src.ofNil w Try.underlying23 c
  | some a =>
    refine Src.ofSlice w Try.underlying23 a _ c (flatD l) (flatD_len l) (fun j u hj => ?_) (flatD_one l h1)
    have hjl := (List.getElem?_eq_some_iff.1 hj).1
    rw [flatD_len] at hjl
    obtain ⟨b, o, hp, hb, hx⟩ := h5 (by omega)
    obtain rfl : a = ⟨b, o, none⟩ := by simpa using hp
    have hd : j = j / 6 * 6 + j % 6 := by omega
    have hk : j / 6 < l.length := by omega
    have := hx (j / 6) hk (j % 6) (by omega)
    rw [Addr.add_lit]
    rw [← hd] at this
    rw [this]
    unfold rowD
    rw [List.getElem?_eq_getElem hk]
    show (l[j / 6].cells)[j % 6]? = _
    rw [← flatD_get l (j / 6) hk (j % 6) (by omega), ← hd, hj]
/-- A row whose first k are copied, the others still the originals'. -/
def DocsHalf (w : World) (base : Nat) (v : Value) (l : List DV) (k : Nat) : Prop :=
  ∃ l' : List DV, l'.map DV.bare = l.map DV.bare ∧ w.ownsRow base 49 6 v l'.length (flatD l') ∧ (∀ (j : Nat) x, l'[j]? = some x → j < k → OwnS w base 9 1 x.rv x.rs.length (tcells x.rs)) ∧ ∀ j : Nat, k ≤ j → l'[j]? = l[j]?
theorem DocsHalf.zero {w : World} {base : Nat} {v : Value} {l : List DV} (h : w.ownsRow base 49 6 v l.length (flatD l)) : DocsHalf w base v l 0 :=
  ⟨l, rfl, h, fun j x hj hk => by omega, fun j hj => rfl⟩
theorem DocsHalf.full {w : World} {base : Nat} {v : Value} {l : List DV} {k : Nat} (h : DocsHalf w base v l k) (hk : l.length ≤ k) : DocsOwn w base v l := by
  obtain ⟨l', h1, h2, h3, h4⟩ := h
  have hl : l'.length = l.length := by simpa using congrArg List.length h1
  refine ⟨l', h1, h2, fun x hx => ?_⟩
  obtain ⟨i, hi, rfl⟩ := List.getElem_of_mem hx
  exact h3 i _ (List.getElem?_eq_getElem hi) (by omega)
theorem DocsHalf.below {w w' : World} {base : Nat} {v : Value} {l : List DV} {k : Nat} (h : DocsHalf w base v l k) (hb : Below w.heap.size w w') : DocsHalf w' base v l k := by
  obtain ⟨l', h1, h2, h3, h4⟩ := h
  exact ⟨l', h1, ownr_below h2 hb, fun j x hj hk => ownS_below (h3 j x hj hk) hb, h4⟩
/-- The k-th, still the original's, as it lies. -/
theorem DocsHalf.row {w : World} {base : Nat} {a : Option Addr} {n c : Nat} {l : List DV} {k : Nat} (h : DocsHalf w base (.slice a n c) l k) (hk : k < l.length) {x : DV} (hx : l[k]? = some x) :
    ∃ g, a = some ⟨g, 0, none⟩ ∧ base ≤ g ∧ g < w.heap.size ∧ (∃ cur, w.heap[g]? = some (.cells cur 49 (0, 0))) ∧ (∀ o, w.frozen? ⟨g, o, none⟩ = false) ∧ ∀ j, j < 6 → w.cell? ⟨g, 0 + (k * 6 + j), none⟩ = x.cells[j]? := by
  obtain ⟨l', h1, h2, h3, h4⟩ := h
  have hl : l'.length = l.length := by simpa using congrArg List.length h1
  rcases h2.2 with ⟨hv, h0⟩ | ⟨g, cap, cur, hv, hb, hg, e1, e2, e3, e4⟩
  · omega
  · simp only [Value.slice.injEq] at hv
    refine ⟨g, hv.1, hb, (Array.getElem?_eq_some_iff.1 hg).1, ⟨cur, hg⟩, fun o => by simp [World.frozen?, hg], fun j hj => ?_⟩
    rw [Nat.zero_add, cell_of_row w g _ cur 49 (0, 0) hg]
    have hk' : k < l'.length := by omega
    have := flatD_get l' k hk' j hj
    rw [← e4, List.getElem?_take, if_pos (by omega)] at this
    have hkx : l'[k] = x := by
      have := (h4 k (Nat.le_refl _)).trans hx
      rw [List.getElem?_eq_getElem hk'] at this
      exact Option.some.inj this
    rw [← hkx, ← this]
    simp

end Go.Proofs.Ytncloiimbclklaa

/- Cases: an append onto nil; an element of a row of six cells is put. Written by tools/genzcA.py. -/
namespace Go.Proofs.Ytncloiimbclklaa
open Go Go.RowKit Go.Shelf
set_option linter.unusedVariables false
set_option linter.unusedSimpArgs false

section
variable {P : Program}
/-- An append onto nil. -/
theorem run_append_nil (w : World) (base : Nat) (t tx ty e : TypeId) (i : TypeInfo) (z : Value) (size bytes : Nat) (ht : P.underlying t = some (.slice e)) (hi : P.info? e = some i) (hz : i.zero = some z)
    (hsize : i.size = size) (hby : i.bytes = bytes) (hzs : z.cells.size = size) (hpos : 0 < size)
    (x : Value) (m : Nat) (news : List Value) (hs : Src P size tx x m news w)
    (h63 : m ≤ maxLen) (hbytes : m * bytes ≤ 140737488355328) (hbase : base ≤ w.heap.size) :
    ∃ v' w', (Builtin.append_ #[t, tx] ty #[.slice none 0 0, x]).run P w = .ok v' w' ∧ w'.ownsRow base e size v' m news ∧ w.grownBy w' none := by
  subst hby
  subst hsize
  have hsmall : m ≤ 9223372036854775807 := by simp only [maxLen] at h63; omega
  have hnl : news.length = m * i.size := hs.newsLen
  by_cases hm : m = 0
  · subst hm
    have hn : news = [] := List.eq_nil_of_length_eq_zero (by simpa using hnl)
    subst hn
    refine ⟨.slice none 0 0, w, ?_, World.ownsRow_nil _ _ _ _, ⟨rfl, rfl, rfl, Nat.le_refl _, fun _ _ _ => rfl⟩⟩
    have hc := hs.cells
    have hlx := hs.len
    rcases hs.kind with ⟨e', hk⟩ | hk <;>
      simp [Builtin.append_, run_underlying ht, run_underlying hk, sizeOf, typeInfo, hi, hlx, hc]
  · have hr := run_append_grow_src (P := P) w t tx ty e i z ht hi hz none 0 0 [] (run_firstCells_none w.drew i.size 0 0 0) x m news hs (by omega) (by omega) (growslice_fits (by omega) (by simpa using hbytes))
    have hge := grownCap_ge w (0 + m) 0 e
    have hcm : grownCap w (0 + m) 0 e ≤ maxLen := grownCap_le_maxLen w (0 + m) 0 e (by omega)
    refine ⟨_, _, hr, ⟨hnl, .inr ⟨w.heap.size, _, _, by rw [Nat.zero_add], hbase, heap_alloc_new w.drew _, by omega, hcm, ?_, ?_⟩⟩, ⟨rfl, rfl, rfl, by simp, fun k hk _ => Below.heap_alloc w.drew _ k hk⟩⟩
    · simp only [Array.size_append, List.size_toArray, size_zeroCells, hzs, List.nil_append]
      rw [hnl, ← Nat.add_mul]
      first | exact Nat.mul_le_mul_right _ (by omega) | (congr 1; omega) | (refine Nat.le_of_eq ?_; congr 1; omega)
    · simp only [Array.toList_append, List.nil_append]
      rw [← hnl]
      exact List.take_left
theorem wpList_append_nil {ops : Array Oper} {rest : List Oper} {o : Oper} {a : Act} {w : World} {Q : Exit → Act → World → Prop} (hgd : o.guard = none) (s x : Operand) (t tx : TypeId)
    (ho : o.op = .call { callee := .builtin .append, args := #[s, x], argTypes := #[t, tx] })
    (base : Nat) (e : TypeId) (i : TypeInfo) (z : Value) (size bytes : Nat) (ht : P.underlying t = some (.slice e)) (hi : P.info? e = some i) (hz : i.zero = some z)
    (hsize : i.size = size) (hby : i.bytes = bytes) (hzs : z.cells.size = size) (hpos : 0 < size)
    (hs : a.eval s = .slice none 0 0) (xv : Value) (m : Nat) (news : List Value) (hx : a.eval x = xv) (hsrc : Src P size tx xv m news w)
    (h63 : m ≤ maxLen) (hbytes : m * bytes ≤ 140737488355328) (hbase : base ≤ w.heap.size)
    (h : ∀ v' w', w'.ownsRow base e size v' m news → w.grownBy w' none → wpList P ops Q rest (a.put o.dst v') w') : wpList P ops Q (o :: rest) a w := by
  refine wpList_plain hgd fun K hK => ?_
  obtain ⟨v', w', hr, h2, h3⟩ := run_append_nil (P := P) w base t tx o.type e i z size bytes ht hi hz hsize hby hzs hpos xv m news hsrc h63 hbytes hbase
  unfold Oper.wp execOp
  simp only [ho, resolve, invoke, builtin, Sem.run_bind, Sem.run_pure, Result.andThen_ok, List.map_toArray, List.map_cons, List.map_nil, hs, hx, hr]
  exact hK _ _ (h v' w' h2 h3)
theorem step_append_nil {ops : Array Oper} {o : Oper} {a : Act} {w : World} {Q : Exit → Act → World → Prop} {K : Act → World → Prop} {E : Prop} (hgd : o.guard = none) (s x : Operand) (t tx : TypeId)
    (ho : o.op = .call { callee := .builtin .append, args := #[s, x], argTypes := #[t, tx] })
    (base : Nat) (e : TypeId) (i : TypeInfo) (z : Value) (size bytes : Nat) (ht : P.underlying t = some (.slice e)) (hi : P.info? e = some i) (hz : i.zero = some z)
    (hsize : i.size = size) (hby : i.bytes = bytes) (hzs : z.cells.size = size) (hpos : 0 < size)
    (hs : a.eval s = .slice none 0 0) (xv : Value) (m : Nat) (news : List Value) (hx : a.eval x = xv) (hsrc : Src P size tx xv m news w)
    (h63 : m ≤ maxLen) (hbytes : m * bytes ≤ 140737488355328) (hbase : base ≤ w.heap.size)
    (h : ∀ v' w', w'.ownsRow base e size v' m news → w.grownBy w' none → K (a.put o.dst v') w') :
    if Region.wanted o (yielded ops a.tmps) = true then Oper.wp P o a w K Q else E := by
  have hw : Region.wanted o (yielded ops a.tmps) = true := by simp [Region.wanted, hgd]
  rw [if_pos hw]
  obtain ⟨v', w', hr, h2, h3⟩ := run_append_nil (P := P) w base t tx o.type e i z size bytes ht hi hz hsize hby hzs hpos xv m news hsrc h63 hbytes hbase
  unfold Oper.wp execOp
  simp only [ho, resolve, invoke, builtin, Sem.run_bind, Sem.run_pure, Result.andThen_ok, List.map_toArray, List.map_cons, List.map_nil, hs, hx, hr]
  exact h v' w' h2 h3
end

/-- A copy of a case: the same, in memory of its own. -/
def CopyC (w : World) (c : CV) (e : Ending) (w' : World) : Prop :=
  ∃ vI vD, e = .returned (.agg #[.int .i64 c.id, .string c.model, vI, vD, .int .i64 c.clock]) ∧ InstsOwn w' w.heap.size vI c.insts ∧ DocsOwn w' w.heap.size vD c.docs ∧ Below w.heap.size w w'
theorem cells5w {w : World} {b : Nat} {c0 c1 c2 c3 c4 : Value} {T : TypeId} (h : w.heap[b]? = some (.cells #[c0, c1, c2, c3, c4] T (0, 0))) (v2 v3 : Value) :
    ((w.setCell ⟨b, 2, none⟩ v2).setCell ⟨b, 3, none⟩ v3).heap[b]? = some (.cells #[c0, c1, v2, v3, c4] T (0, 0)) := by
  simp [World.setCell, Array.getElem?_modify, h]
theorem set2_far {w : World} {b g : Nat} (v2 v3 : Value) (h : g ≠ b) : ((w.setCell ⟨b, 2, none⟩ v2).setCell ⟨b, 3, none⟩ v3).heap[g]? = w.heap[g]? := by
  simp [World.setCell, Array.getElem?_modify, Ne.symm h]

theorem cells_setI {cur : Array Value} {l : List IV} {n : Nat} (hl : l.length = n) (hcs : n * 6 ≤ cur.size) (ht : cur.toList.take (n * 6) = flatI l) {k : Nat} (hk : k < n) (x : IV) {L : List Value}
    (hL : ∀ q r, r < 6 → L[q * 6 + r]? = if q = k then x.cells[r]? else cur.toList[q * 6 + r]?) : L.take (n * 6) = flatI (l.set k x) := by
  apply List.ext_getElem?
  intro j
  by_cases hj : j < n * 6
  · have hd : j = j / 6 * 6 + j % 6 := by omega
    have hq : j / 6 < n := by omega
    rw [List.getElem?_take, if_pos hj, hd, hL (j / 6) (j % 6) (by omega), flatI_get (l.set k x) (j / 6) (by rw [List.length_set]; omega) (j % 6) (by omega), List.getElem_set]
    by_cases he : j / 6 = k
    · rw [if_pos he, if_pos he.symm]
    · rw [if_neg he, if_neg (Ne.symm he), ← flatI_get l (j / 6) (by omega) (j % 6) (by omega), ← ht, List.getElem?_take, if_pos (by omega)]
  · have h1 : (L.take (n * 6)).length ≤ n * 6 := by rw [List.length_take]; omega
    have h2 : (flatI (l.set k x)).length ≤ n * 6 := by rw [flatI_len, List.length_set, hl]; exact Nat.le_refl _
    rw [List.getElem?_eq_none (by omega), List.getElem?_eq_none (by omega)]
theorem bare_setI {l l' : List IV} {k : Nat} {x y : IV} (h1 : l'.map IV.bare = l.map IV.bare) (hy : l[k]? = some y) (hxy : x.bare = y.bare) : (l'.set k x).map IV.bare = l.map IV.bare := by
  rw [List.map_set, h1]
  apply List.ext_getElem?
  intro j
  rw [List.getElem?_set, List.length_map]
  by_cases hj : k = j
  · subst hj
    have := (List.getElem?_eq_some_iff.1 hy).1
    rw [if_pos rfl, if_pos this, List.getElem?_map, hy, Option.map_some, hxy]
  · rw [if_neg hj]

theorem cells_setD {cur : Array Value} {l : List DV} {n : Nat} (hl : l.length = n) (hcs : n * 6 ≤ cur.size) (ht : cur.toList.take (n * 6) = flatD l) {k : Nat} (hk : k < n) (x : DV) {L : List Value}
    (hL : ∀ q r, r < 6 → L[q * 6 + r]? = if q = k then x.cells[r]? else cur.toList[q * 6 + r]?) : L.take (n * 6) = flatD (l.set k x) := by
  apply List.ext_getElem?
  intro j
  by_cases hj : j < n * 6
  · have hd : j = j / 6 * 6 + j % 6 := by omega
    have hq : j / 6 < n := by omega
    rw [List.getElem?_take, if_pos hj, hd, hL (j / 6) (j % 6) (by omega), flatD_get (l.set k x) (j / 6) (by rw [List.length_set]; omega) (j % 6) (by omega), List.getElem_set]
    by_cases he : j / 6 = k
    · rw [if_pos he, if_pos he.symm]
    · rw [if_neg he, if_neg (Ne.symm he), ← flatD_get l (j / 6) (by omega) (j % 6) (by omega), ← ht, List.getElem?_take, if_pos (by omega)]
  · have h1 : (L.take (n * 6)).length ≤ n * 6 := by rw [List.length_take]; omega
    have h2 : (flatD (l.set k x)).length ≤ n * 6 := by rw [flatD_len, List.length_set, hl]; exact Nat.le_refl _
    rw [List.getElem?_eq_none (by omega), List.getElem?_eq_none (by omega)]
theorem bare_setD {l l' : List DV} {k : Nat} {x y : DV} (h1 : l'.map DV.bare = l.map DV.bare) (hy : l[k]? = some y) (hxy : x.bare = y.bare) : (l'.set k x).map DV.bare = l.map DV.bare := by
  rw [List.map_set, h1]
  apply List.ext_getElem?
  intro j
  rw [List.getElem?_set, List.length_map]
  by_cases hj : k = j
  · subst hj
    have := (List.getElem?_eq_some_iff.1 hy).1
    rw [if_pos rfl, if_pos this, List.getElem?_map, hy, Option.map_some, hxy]
  · rw [if_neg hj]

/-- Six cells of a row. -/
abbrev putR (w : World) (g m : Nat) (c0 c1 c2 c3 c4 c5 : Value) : World :=
  ((((((w.setCell ⟨g, m, none⟩ c0).setCell ⟨g, m + 1, none⟩ c1).setCell ⟨g, m + 2, none⟩ c2).setCell ⟨g, m + 3, none⟩ c3).setCell ⟨g, m + 4, none⟩ c4).setCell ⟨g, m + 5, none⟩ c5)
abbrev put6 (cur : Array Value) (m : Nat) (c0 c1 c2 c3 c4 c5 : Value) : Array Value :=
  ((((((cur.setIfInBounds m c0).setIfInBounds (m + 1) c1).setIfInBounds (m + 2) c2).setIfInBounds (m + 3) c3).setIfInBounds (m + 4) c4).setIfInBounds (m + 5) c5)
theorem putR_at {w : World} {g : Nat} {cur : Array Value} {T : TypeId} {z : Nat × Nat} (h : w.heap[g]? = some (.cells cur T z)) (m : Nat) (c0 c1 c2 c3 c4 c5 : Value) :
    (putR w g m c0 c1 c2 c3 c4 c5).heap[g]? = some (.cells (put6 cur m c0 c1 c2 c3 c4 c5) T z) := by
  unfold putR put6
  simp [World.setCell, Array.getElem?_modify, h]
theorem putR_far (w : World) (b m g : Nat) (hg : g ≠ b) (c0 c1 c2 c3 c4 c5 : Value) : (putR w b m c0 c1 c2 c3 c4 c5).heap[g]? = w.heap[g]? := by
  unfold putR
  simp [World.setCell, Array.getElem?_modify, Ne.symm hg]
theorem putR_below {w0 w : World} {B b : Nat} (h : Below B w0 w) (hb : B ≤ b) (m : Nat) (c0 c1 c2 c3 c4 c5 : Value) : Below B w0 (putR w b m c0 c1 c2 c3 c4 c5) :=
  (((((h.setCell (p := ⟨b, m, none⟩) hb c0).setCell (p := ⟨b, m + 1, none⟩) hb c1).setCell (p := ⟨b, m + 2, none⟩) hb c2).setCell (p := ⟨b, m + 3, none⟩) hb c3).setCell (p := ⟨b, m + 4, none⟩) hb c4).setCell (p := ⟨b, m + 5, none⟩) hb c5
theorem put6_get (cur : Array Value) (k : Nat) (hk : k * 6 + 6 ≤ cur.size) (c0 c1 c2 c3 c4 c5 : Value) (q r : Nat) (hr : r < 6) :
    (put6 cur (k * 6) c0 c1 c2 c3 c4 c5).toList[q * 6 + r]? = if q = k then [c0, c1, c2, c3, c4, c5][r]? else cur.toList[q * 6 + r]? := by
  have hk2 : k * 6 + 6 ≤ cur.toList.length := by simpa using hk
  unfold put6
  simp only [Array.toList_setIfInBounds]
  generalize cur.toList = L at hk2
  by_cases hq : q = k
  · subst hq
    rw [if_pos rfl]
    rcases (show r = 0 ∨ r = 1 ∨ r = 2 ∨ r = 3 ∨ r = 4 ∨ r = 5 by omega) with rfl | rfl | rfl | rfl | rfl | rfl <;> simp [List.getElem?_set] <;> omega
  · rw [if_neg hq]
    simp only [List.getElem?_set, List.length_set]
    repeat rw [if_neg (by omega)]
/-- Rows of two types lie apart. -/
theorem ownr_far {w : World} {b g n s : Nat} {e T : TypeId} {v : Value} {xs : List Value} {cur : Array Value} {z : Nat × Nat} (hne : e ≠ T) (hg : w.heap[g]? = some (.cells cur T z)) (h : w.ownsRow b e s v n xs) : ∀ k, v.ownBlock = some k → k ≠ g := by
  intro k hk he
  rcases h.2 with ⟨rfl, _⟩ | ⟨g1, cap, cur1, rfl, _, h3, _⟩
  · simp [Value.ownBlock] at hk
  · simp [Value.ownBlock] at hk
    subst hk he
    rw [hg] at h3
    simp only [Option.some.injEq, Obj.cells.injEq] at h3
    exact hne h3.2.1.symm
theorem ownS_far {w : World} {b g n s : Nat} {e T : TypeId} {v : Value} {xs : List Value} {cur : Array Value} {z : Nat × Nat} (hne : e ≠ T) (hg : w.heap[g]? = some (.cells cur T z)) (h : OwnS w b e s v n xs) : ∀ k, v.ownBlock = some k → k ≠ g := by
  intro k hk he
  rcases h.2 with ⟨rfl, _⟩ | ⟨g1, off, cap, cur1, rfl, _, h3, _⟩
  · simp [Value.ownBlock] at hk
  · simp [Value.ownBlock] at hk
    subst hk he
    rw [hg] at h3
    simp only [Option.some.injEq, Obj.cells.injEq] at h3
    exact hne h3.2.1.symm
theorem InstsHalf.step {w W : World} {base g n c : Nat} {l : List IV} {k : Nat} {x y : IV} (h : InstsHalf w base (.slice (some ⟨g, 0, none⟩) n c) l k) (hk : k < l.length) (hb : Below w.heap.size w W) (hy : l[k]? = some y) (hxy : x.bare = y.bare)
    (hx : OwnS W base 3 1 x.lv x.ls.length (icells x.ls)) : InstsHalf (putR W g (k * 6) (.string x.path) (.string x.item) (.int .i64 x.st) (.int .i64 x.bf) x.lv (.int .i64 x.due)) base (.slice (some ⟨g, 0, none⟩) n c) l (k + 1) := by
  obtain ⟨l', h1, h2, h3, h4⟩ := h
  have hl : l'.length = l.length := by simpa using congrArg List.length h1
  have h2' := ownr_below h2 hb
  rcases h2'.2 with ⟨hv, h0⟩ | ⟨g1, cap, cur, hv, hbg, hg, e1, e2, e3, e4⟩
  · cases hv
  · simp only [Value.slice.injEq, Option.some.injEq, Addr.mk.injEq, and_true] at hv
    obtain ⟨rfl, rfl, rfl⟩ := hv
    have hcz : l'.length * 6 ≤ cur.size := by have := Nat.mul_le_mul_right 6 e1; omega
    refine ⟨l'.set k x, bare_setI h1 hy hxy, ⟨by rw [flatI_len], .inr ⟨g, c, _, by rw [List.length_set], hbg, putR_at hg _ _ _ _ _ _ _, by rw [List.length_set]; exact e1, e2, by simpa [put6] using e3, ?_⟩⟩, fun j z hz hj => ?_, fun j hj => ?_⟩
    · rw [List.length_set]
      exact cells_setI rfl hcz e4 (by omega) x (fun q r hr => put6_get cur k (by omega) _ _ _ _ _ _ q r hr)
    · have hw : OwnS W base 3 1 z.lv z.ls.length (icells z.ls) := by
        rw [List.getElem?_set] at hz
        by_cases he : k = j
        · rw [if_pos he, if_pos (by omega)] at hz
          cases hz
          exact hx
        · rw [if_neg he] at hz
          exact ownS_below (h3 j z hz (by omega)) hb
      exact hw.keep fun b hb2 => putR_far W g _ b (ownS_far (by decide) hg hw b hb2) _ _ _ _ _ _
    · rw [List.getElem?_set, if_neg (by omega)]
      exact h4 j (by omega)
theorem DocsHalf.step {w W : World} {base g n c : Nat} {l : List DV} {k : Nat} {y : DV} {v : Value} (h : DocsHalf w base (.slice (some ⟨g, 0, none⟩) n c) l k) (hk : k < l.length) (hb : Below w.heap.size w W) (hy : l[k]? = some y)
    (hx : OwnS W base 9 1 v y.rs.length (tcells y.rs)) : DocsHalf (W.setCell ⟨g, k * 6 + 5, none⟩ v) base (.slice (some ⟨g, 0, none⟩) n c) l (k + 1) := by
  obtain ⟨l', h1, h2, h3, h4⟩ := h
  have hl : l'.length = l.length := by simpa using congrArg List.length h1
  have h2' := ownr_below h2 hb
  rcases h2'.2 with ⟨hv, h0⟩ | ⟨g1, cap, cur, hv, hbg, hg, e1, e2, e3, e4⟩
  · cases hv
  · simp only [Value.slice.injEq, Option.some.injEq, Addr.mk.injEq, and_true] at hv
    obtain ⟨rfl, rfl, rfl⟩ := hv
    have hcz : l'.length * 6 ≤ cur.size := by have := Nat.mul_le_mul_right 6 e1; omega
    have hat : (W.setCell ⟨g, k * 6 + 5, none⟩ v).heap[g]? = some (.cells (cur.setIfInBounds (k * 6 + 5) v) 49 (0, 0)) := by simp [World.setCell, Array.getElem?_modify, hg]
    have hfar : ∀ b, b ≠ g → (W.setCell ⟨g, k * 6 + 5, none⟩ v).heap[b]? = W.heap[b]? := fun b hb => Below.heap_setCell _ _ _ _ hb
    have hky : l'[k]? = some y := by rw [h4 k (Nat.le_refl _)]; exact hy
    refine ⟨l'.set k { y with rv := v }, bare_setD h1 hy rfl, ⟨by rw [flatD_len], .inr ⟨g, c, _, by rw [List.length_set], hbg, hat, by rw [List.length_set]; exact e1, e2, by simpa using e3, ?_⟩⟩, fun j z hz hj => ?_, fun j hj => ?_⟩
    · rw [List.length_set]
      refine cells_setD rfl hcz e4 (by omega) { y with rv := v } (fun q r hr => ?_)
      rw [Array.toList_setIfInBounds, List.getElem?_set]
      by_cases hq : q = k
      · subst hq
        rw [if_pos rfl]
        by_cases h5 : r = 5
        · subst h5
          rw [if_pos rfl, if_pos (by simp; omega)]
          rfl
        · rw [if_neg (by omega)]
          have hq' : q < l'.length := by omega
          have := flatD_get l' q hq' r hr
          rw [← e4, List.getElem?_take, if_pos (by omega)] at this
          rw [this]
          have : l'[q] = y := by rw [List.getElem?_eq_getElem hq'] at hky; exact Option.some.inj hky
          rw [this]
          rcases (show r = 0 ∨ r = 1 ∨ r = 2 ∨ r = 3 ∨ r = 4 by omega) with rfl | rfl | rfl | rfl | rfl <;> rfl
      · rw [if_neg hq, if_neg (by omega)]
    · have hw : OwnS W base 9 1 z.rv z.rs.length (tcells z.rs) := by
        rw [List.getElem?_set] at hz
        by_cases he : k = j
        · rw [if_pos he, if_pos (by omega)] at hz
          cases hz
          exact hx
        · rw [if_neg he] at hz
          exact ownS_below (h3 j z hz (by omega)) hb
      exact hw.keep fun b hb2 => hfar b (ownS_far (by decide) hg hw b hb2)
    · rw [List.getElem?_set, if_neg (by omega)]
      exact h4 j (by omega)
/-- A list of instances stays while a row of another type is written. -/
theorem InstsOwn.far {w W : World} {base g : Nat} {v : Value} {l : List IV} {T : TypeId} {cur : Array Value} {z : Nat × Nat} (h : InstsOwn w base v l) (h1 : 30 ≠ T) (h2 : 3 ≠ T) (hg : w.heap[g]? = some (.cells cur T z)) (hf : ∀ b, b ≠ g → W.heap[b]? = w.heap[b]?) : InstsOwn W base v l := by
  obtain ⟨l', k1, k2, k3⟩ := h
  exact ⟨l', k1, ownr_keep k2 fun b hb => hf b (ownr_far h1 hg k2 b hb), fun x hx => (k3 x hx).keep fun b hb => hf b (ownS_far h2 hg (k3 x hx) b hb)⟩
theorem DocsOwn.far {w W : World} {base g : Nat} {v : Value} {l : List DV} {T : TypeId} {cur : Array Value} {z : Nat × Nat} (h : DocsOwn w base v l) (h1 : 49 ≠ T) (h2 : 9 ≠ T) (hg : w.heap[g]? = some (.cells cur T z)) (hf : ∀ b, b ≠ g → W.heap[b]? = w.heap[b]?) : DocsOwn W base v l := by
  obtain ⟨l', k1, k2, k3⟩ := h
  exact ⟨l', k1, ownr_keep k2 fun b hb => hf b (ownr_far h1 hg k2 b hb), fun x hx => (k3 x hx).keep fun b hb => hf b (ownS_far h2 hg (k3 x hx) b hb)⟩
end Go.Proofs.Ytncloiimbclklaa

/- Cases: tree.Copy. Written by tools/genzd.py. -/
namespace Go.Proofs.Ytncloiimbclklaa
open Go Go.RowKit Go.Shelf
set_option linter.unusedVariables false
set_option linter.unusedSimpArgs false

/-- A case stored into a box, cell for cell. -/
abbrev putC (w : World) (b : Nat) (c0 c1 c2 c3 c4 : Value) : World :=
  (((((w.setCell ⟨b, 0, none⟩ c0).setCell ⟨b, 1, none⟩ c1).setCell ⟨b, 2, none⟩ c2).setCell ⟨b, 3, none⟩ c3).setCell ⟨b, 4, none⟩ c4)
theorem putC_at {w : World} {b : Nat} {z0 z1 z2 z3 z4 : Value} {T : TypeId} (h : w.heap[b]? = some (.cells #[z0, z1, z2, z3, z4] T (0, 0))) (c0 c1 c2 c3 c4 : Value) :
    (putC w b c0 c1 c2 c3 c4).heap[b]? = some (.cells #[c0, c1, c2, c3, c4] T (0, 0)) := by
  unfold putC
  simp [World.setCell, Array.getElem?_modify, h]
theorem putC_below {w0 w : World} {B b : Nat} (h : Below B w0 w) (hb : B ≤ b) (c0 c1 c2 c3 c4 : Value) : Below B w0 (putC w b c0 c1 c2 c3 c4) :=
  ((((h.setCell (p := ⟨b, 0, none⟩) hb c0).setCell (p := ⟨b, 1, none⟩) hb c1).setCell (p := ⟨b, 2, none⟩) hb c2).setCell (p := ⟨b, 3, none⟩) hb c3).setCell (p := ⟨b, 4, none⟩) hb c4
theorem putC_far (w : World) (b g : Nat) (hg : g ≠ b) (c0 c1 c2 c3 c4 : Value) : (putC w b c0 c1 c2 c3 c4).heap[g]? = w.heap[g]? := by
  unfold putC
  simp [World.setCell, Array.getElem?_modify, Ne.symm hg]
theorem infoC5 : (Try.prog.info? 25).map (·.size) = some 5 := by kernel_rfl

set_option maxRecDepth 100000 in
set_option maxHeartbeats 2000000 in
theorem copy_c (w : World) (c : CV) (h : CVok w c) (hs : ∀ x ∈ c.insts, x.ls.length ≤ 40) (hs2 : ∀ x ∈ c.docs, x.rs.length ≤ 40) (hc4 : c.insts.length ≤ 40) (hd4 : c.docs.length ≤ 100) : Calls Try.prog 20 #[c.val] w (CopyC w c) := by
  obtain ⟨i0, hi, hz0, hz1, hz2⟩ := info_parts infoInst
  obtain ⟨i1, hi1, hz10, hz11, hz12⟩ := info_parts infoDoc
  obtain ⟨i2, hi2, hz20, hz21, hz22⟩ := info_parts infoText
  have HI := Lib.hid h.insts
  have HD := Lib.hid h.docs
  have HSI := Lib.hid (fun (W : World) (hb : Below w.heap.size w W) => (h.insts.below hb).src)
  have HSD := Lib.hid (fun (W : World) (hb : Below w.heap.size w W) => (h.docs.below hb).src)
  have hl := h.insts.1
  have hl2 := h.docs.1
  have HS := Lib.hid hs
  have HS2 := Lib.hid hs2
  obtain ⟨id, mo, iv, dv, cl, is, ds⟩ := c
  dsimp only at HI HD HSI HSD HS HS2 hl hl2 hc4 hd4
  obtain ⟨a, ca, hiv, hn1, hn2, _, _⟩ := hl
  obtain ⟨a2, ca2, hdv, hm1, hm2, _, _⟩ := hl2
  subst hiv hdv
  have HC4 := Lib.hid hc4
  have HD4 := Lib.hid hd4
  unfold CV.val
  dsimp only
  obtain ⟨w0, hw0⟩ : ∃ x, x = (w.alloc (.cells #[.int .i64 id, .string mo, .slice a is.length ca, .slice a2 ds.length ca2, .int .i64 cl] 25)).alloc (.cells #[.int .i64 0, .string ⟨#[]⟩, .slice none 0 0, .slice none 0 0, .int .i64 0] 25) := ⟨_, rfl⟩
  have HBW := Lib.hid (show Below w.heap.size w w0 from by rw [hw0]; exact (box_bel' w _).alloc (box_bel' w _).size _)
  have HQ := Lib.hid (show w0.heap[w.heap.size]? = some (.cells #[.int .i64 id, .string mo, .slice a is.length ca, .slice a2 ds.length ca2, .int .i64 cl] 25 (0, 0)) from by rw [hw0]; exact two_old w _ _)
  have HQ2 := Lib.hid (show w0.heap[w.heap.size + 1]? = some (.cells #[.int .i64 0, .string ⟨#[]⟩, .slice none 0 0, .slice none 0 0, .int .i64 0] 25 (0, 0)) from by rw [hw0]; exact two_new w _ _)
  have HSW := Lib.hid (show w0.heap.size = w.heap.size + 2 from by rw [hw0]; simp)
  have HW0 := Lib.hid hw0
  clear h hs hs2 hn1 hn2 hm1 hm2 hc4 hd4 hw0
  go_enter Try.func20, Try.ntmps20
  go_wp2_with fail
  rw [← HW0.out]
  go_cut [] (fun wx => ∃ vI vD, wx.heap[w.heap.size]? = some (.cells #[.int .i64 id, .string mo, vI, vD, .int .i64 cl] 25 (0, 0)) ∧ wx.heap[w.heap.size + 1]? = some (.cells #[.int .i64 0, .string ⟨#[]⟩, .slice none 0 0, .slice none 0 0, .int .i64 0] 25 (0, 0)) ∧ wx.ownsRow (w.heap.size + 2) 30 6 vI is.length (flatI is) ∧ wx.ownsRow (w.heap.size + 2) 49 6 vD ds.length (flatD ds) ∧ Below w.heap.size w wx)
  case first =>
    obtain ⟨d0, d1, d2, d3, d4, dz⟩ := cells5 HQ.out
    go_region_law (first
      | (refine step_append_nil (by rfl) _ _ 22 22 (by rfl) (w.heap.size + 2) 30 i0 (.agg #[.string ⟨#[]⟩, .string ⟨#[]⟩, .int .i64 0, .int .i64 0, .slice none 0 0, .int .i64 0]) 6 80 Try.underlying22 hi hz0 hz1 hz2 rfl (by decide) (by rfl) (.slice a is.length ca) is.length (flatI is) (by rfl) (HSI.out _ (by first | exact HBW.out | exact HBW.out.drew | exact below_drewN HBW.out _)) (by have := HC4.out; unfold maxLen; omega) (by have := HC4.out; omega) (by simp [HSW.out]) ?_
         intro v1 w1 hown1 hgrow1
         obtain ⟨p1, kk1, hv1, _⟩ := (OwnS.ofRow hown1).form
         subst hv1
         have HO1 := Lib.hid hown1
         have HG1 := Lib.hid hgrow1
         have hb1 : Below w.heap.size w w1 := (show Below w.heap.size w _ from by first | exact HBW.out | exact HBW.out.drew | exact below_drewN HBW.out _).grown hgrow1 (by simp [HSW.out] <;> omega) (fun k ek => by cases ek)
         have HB1 := Lib.hid hb1
         have hq1 : w1.heap[w.heap.size]? = some (.cells #[.int .i64 id, .string mo, .slice a is.length ca, .slice a2 ds.length ca2, .int .i64 cl] 25 (0, 0)) := (hgrow1.block w.heap.size (by simp [HSW.out]) (by simp)).trans HQ.out
         have hq2 : w1.heap[w.heap.size + 1]? = some (.cells #[.int .i64 0, .string ⟨#[]⟩, .slice none 0 0, .slice none 0 0, .int .i64 0] 25 (0, 0)) := (hgrow1.block (w.heap.size + 1) (by simp [HSW.out]) (by simp)).trans HQ2.out
         have HQ3 := Lib.hid hq1
         have HQ4 := Lib.hid hq2
         obtain ⟨e0, e1, e2, e3, e4, ez⟩ := cells5 hq1
         clear hown1 hgrow1 hb1 hq1 hq2)
      | (refine step_append_nil (by rfl) _ _ 23 23 (by rfl) (w.heap.size + 2) 49 i1 (.agg #[.string ⟨#[]⟩, .int .i64 0, .int .i64 0, .bool false, .string ⟨#[]⟩, .slice none 0 0]) 6 80 Try.underlying23 hi1 hz10 hz11 hz12 rfl (by decide) (by rfl) (.slice a2 ds.length ca2) ds.length (flatD ds) (by rfl) (HSD.out _ (by first | exact HB1.out | exact HB1.out.drew | exact below_drewN HB1.out _)) (by have := HD4.out; unfold maxLen; omega) (by have := HD4.out; omega) (by have := HG1.out.size; simp [HSW.out] at this; simp; omega) ?_
         intro v2 w2 hown2 hgrow2
         obtain ⟨p2, kk2, hv2, _⟩ := (OwnS.ofRow hown2).form
         subst hv2
         have HO2 := Lib.hid hown2
         have HG2 := Lib.hid hgrow2
         have hq3 := (hgrow2.block w.heap.size (by have := HG1.out.size; simp [HSW.out] at this; simp; omega) (by simp)).trans HQ3.out
         obtain ⟨k0, k1, k2, k3, k4, kz⟩ := cells5 hq3
         clear hown2 hgrow2)
      | fail "no arm")
    all_goals
      have HQ5 := Lib.hid hq3
      clear hq3 k0 k1 k2 k3 k4 kz d0 d1 d2 d3 d4 dz e0 e1 e2 e3 e4 ez
      go_wp2_with fail
      go_meet
      have hs1 : w.heap.size + 2 ≤ w1.heap.size := by have := HG1.out.size; simp [HSW.out] at this; omega
      refine ⟨_, _, cells5w HQ5.out _ _, (set2_far _ _ (by omega)).trans ((HG2.out.block (w.heap.size + 1) (by first | omega | (simp; omega)) (by simp)).trans HQ4.out), ownr_keep HO1.out (fun g hg => (set2_far _ _ (by have := (ownr_lt HO1.out g hg).1; omega)).trans (HG2.out.block g (by have := (ownr_lt HO1.out g hg).2; first | exact this | simpa using this) (by simp))), ownr_keep HO2.out (fun g hg => set2_far _ _ (by have := (ownr_lt HO2.out g hg).1; omega)), ?_⟩
      have hb2 : Below w.heap.size w w2 := (show Below w.heap.size w _ from by first | exact HB1.out | exact HB1.out.drew | exact below_drewN HB1.out _).grown HG2.out (by first | omega | (simp; omega)) (fun k ek => by cases ek)
      exact (hb2.setCell (p := ⟨w.heap.size, 2, none⟩) (Nat.le_refl _) _).setCell (p := ⟨w.heap.size, 3, none⟩) (Nat.le_refl _) _
  case rest =>
    obtain ⟨vI, vD, hq, hq2, ho1, ho2, hb⟩ := hcut
    obtain ⟨pI, cI, hvI, _⟩ := (OwnS.ofRow ho1).form
    obtain ⟨pD, cD, hvD, _⟩ := (OwnS.ofRow ho2).form
    subst hvI hvD
    have HQ3 := Lib.hid hq
    have HQ4 := Lib.hid hq2
    have HO1 := Lib.hid ho1
    have HO2 := Lib.hid ho2
    have HB := Lib.hid hb
    obtain ⟨d0, d1, d2, d3, d4, dz⟩ := cells5 hq
    clear hq hq2 ho1 ho2 hb
    have hn : is.length ≤ 9223372036854775807 := by have := HC4.out; omega
    have hn2 : ds.length ≤ 9223372036854775807 := by have := HD4.out; omega
    go_wp2_with fail
    go_loopw [18] (fun i wr => ∃ k : Nat, k ≤ is.length ∧ i = .int .i64 k ∧ InstsHalf wr (w.heap.size + 2) (.slice pI is.length cI) is k ∧ wr.ownsRow (w.heap.size + 2) 49 6 (.slice pD ds.length cD) ds.length (flatD ds) ∧ wr.heap[w.heap.size]? = some (.cells #[.int .i64 id, .string mo, .slice pI is.length cI, .slice pD ds.length cD, .int .i64 cl] 25 (0, 0)) ∧ wr.heap[w.heap.size + 1]? = some (.cells #[.int .i64 0, .string ⟨#[]⟩, .slice none 0 0, .slice none 0 0, .int .i64 0] 25 (0, 0)) ∧ Below w.heap.size w wr) (fun i _ => is.length - (intOf i).toNat)
    case atStart => exact ⟨0, by omega, rfl, InstsHalf.zero HO1.out, HO2.out, HQ3.out, HQ4.out, HB.out⟩
    case round =>
      clear d0 d1 d2 d3 d4 dz
      obtain ⟨k, hk, rfl, hha, hdo, hq, hq2, hbr⟩ := hrel
      have HHA := Lib.hid hha
      have HDO := Lib.hid hdo
      have HQR := Lib.hid hq
      have HQR2 := Lib.hid hq2
      have HBR := Lib.hid hbr
      clear hha hdo hq hq2 hbr
      by_cases hlt : k < is.length
      · obtain ⟨x, hx⟩ : ∃ x, x = is[k] := ⟨_, rfl⟩
        have hx' : is[k]? = some x := by rw [List.getElem?_eq_getElem hlt, hx]
        have HX := Lib.hid hx'
        have hxo := (HI.out.2 x (by rw [hx]; exact List.getElem_mem hlt)).below HBR.out
        have HXO := Lib.hid hxo
        have HX4 := Lib.hid (HS.out x (by rw [hx]; exact List.getElem_mem hlt))
        have HC := Lib.hid (fun (W : World) (hb : Below wr.heap.size wr W) => copied_c W x (HXO.out.below hb) HX4.out)
        obtain ⟨g, hpi, hgb, hgl, ⟨cur, hcur⟩, hfz, hrow⟩ := HHA.out.row hlt hx'
        subst hpi
        obtain ⟨pl, cp, hlv⟩ := hxo.rl.form
        obtain ⟨path, item, st, bf, lv, ls, due⟩ := x
        dsimp only at hlv HX4
        subst hlv
        unfold IV.cells at HC hrow
        dsimp only at HC hrow
        have c0 := hrow 0 (by omega)
        have c1 := hrow 1 (by omega)
        have c2 := hrow 2 (by omega)
        have c3 := hrow 3 (by omega)
        have c4 := hrow 4 (by omega)
        have c5 := hrow 5 (by omega)
        simp only [List.getElem?_cons_zero, List.getElem?_cons_succ, Nat.add_zero, Nat.zero_add] at c0 c1 c2 c3 c4 c5
        obtain ⟨e0, e1, e2, e3, e4, ez⟩ := cells5 HQR.out
        have HCU := Lib.hid hcur
        have HGB := Lib.hid (And.intro hgb hgl)
        have HBX := Lib.hid (fun o => box_bel' wr o)
        have HCC := Lib.hid (And.intro c0 (And.intro c1 (And.intro c2 (And.intro c3 (And.intro c4 c5)))))
        obtain ⟨f0, f1, f2, f3, f4, f5, fz⟩ := cells6 (heap_alloc_new wr (.cells #[.string path, .string item, .int .i64 st, .int .i64 bf, .slice pl (icells ls).length cp, .int .i64 due] 30))
        have hez : (wr.alloc (.cells #[.string path, .string item, .int .i64 st, .int .i64 bf, .slice pl (icells ls).length cp, .int .i64 due] 30)).cell? ⟨w.heap.size, 2, none⟩ = some (.slice (some ⟨g, 0, none⟩) is.length cI) := ((HBX.out _).cell (p := ⟨w.heap.size, 2, none⟩) (Array.getElem?_eq_some_iff.1 HQR.out).1).trans e2
        clear hrow hx hx' hxo hcur hfz hgb hgl
        go_wp2_with fail
        go_region_law (first
          | (go_simp
             go_at_call 30
             refine (HC.out _ ?_).mono ?_
             · first | exact HBX.out _ | exact (HBX.out _).drew | exact below_drewN (HBX.out _) _
             rintro e w3 ⟨v', rfl, hown3, hb3⟩
             dsimp only at hown3
             obtain ⟨pa, cc, hv', _⟩ := hown3.form
             subst hv'
             have hb4 : Below (wr.heap.size + 1) (wr.alloc (.cells #[.string path, .string item, .int .i64 st, .int .i64 bf, .slice pl (icells ls).length cp, .int .i64 due] 30)) w3 := by
               have hz : ∀ n, n ≤ wr.heap.size + 1 → n ≤ (wr.alloc (.cells #[.string path, .string item, .int .i64 st, .int .i64 bf, .slice pl (icells ls).length cp, .int .i64 due] 30)).heap.size := by simp
               first
                 | exact hb3.mono (by simp)
                 | exact (Below.refl _ _).drew.trans (hb3.mono (by simp))
                 | exact (below_drewN (Below.refl _ _) _).trans (hb3.mono (by simp))
             have hb5 : Below wr.heap.size wr w3 := (HBX.out _).trans (hb4.mono (by omega))
             have HB5 := Lib.hid hb5
             have HO3 := Lib.hid (hown3.up (b' := w.heap.size + 2) (by have := HGB.out; simp; omega))
             obtain ⟨q0, q1, q2, q3, q4, qz⟩ := cells5 ((hb5.block w.heap.size (Array.getElem?_eq_some_iff.1 HQR.out).1).trans HQR.out)
             have s0 := (hb5.cell (p := ⟨g, k * 6, none⟩) HGB.out.2).trans HCC.out.1
             have s1 := (hb5.cell (p := ⟨g, k * 6 + 1, none⟩) HGB.out.2).trans HCC.out.2.1
             have s2 := (hb5.cell (p := ⟨g, k * 6 + 2, none⟩) HGB.out.2).trans HCC.out.2.2.1
             have s3 := (hb5.cell (p := ⟨g, k * 6 + 3, none⟩) HGB.out.2).trans HCC.out.2.2.2.1
             have s4 := (hb5.cell (p := ⟨g, k * 6 + 4, none⟩) HGB.out.2).trans HCC.out.2.2.2.2.1
             have s5 := (hb5.cell (p := ⟨g, k * 6 + 5, none⟩) HGB.out.2).trans HCC.out.2.2.2.2.2
             have sz : ∀ o, w3.frozen? ⟨g, o, none⟩ = false := fun o => by
               have := (hb5.block g HGB.out.2).trans HCU.out
               simp [World.frozen?, this]
             clear hown3 hb3 hb4 hb5)
          | fail "no arm")
        all_goals
          clear s0 s1 s2 s3 s4 s5 sz q0 q1 q2 q3 q4 qz f0 f1 f2 f3 f4 f5 fz e0 e1 e2 e3 e4 ez c0 c1 c2 c3 c4 c5
          go_wp2_with fail
          go_roundw
          case rel =>
            have hcu := (HB5.out.block g HGB.out.2).trans HCU.out
            have hfar : ∀ b, b ≠ g → (putR w3 g (k * 6) (.string path) (.string item) (.int .i64 st) (.int .i64 bf) (.slice pa ls.length cc) (.int .i64 due)).heap[b]? = w3.heap[b]? := fun b hb => putR_far w3 g (k * 6) b hb _ _ _ _ _ _
            refine ⟨k + 1, by omega, by go_num, InstsHalf.step (x := ⟨path, item, st, bf, .slice pa ls.length cc, ls, due⟩) HHA.out hlt HB5.out HX.out rfl HO3.out, ?_, ?_, ?_, putR_below (HBR.out.trans (HB5.out.mono HBR.out.size)) (by have := HGB.out.1; omega) _ _ _ _ _ _ _⟩
            · have hd := ownr_below HDO.out HB5.out
              exact ownr_keep hd fun b hb => hfar b (ownr_far (by decide) hcu hd b hb)
            · exact (hfar _ (by have := HGB.out.1; omega)).trans ((HB5.out.block w.heap.size (Array.getElem?_eq_some_iff.1 HQR.out).1).trans HQR.out)
            · exact (hfar _ (by have := HGB.out.1; omega)).trans ((HB5.out.block (w.heap.size + 1) (Array.getElem?_eq_some_iff.1 HQR2.out).1).trans HQR2.out)
          case measure => simp [intOf]; omega
      · have HIO := Lib.hid (HHA.out.full (by omega))
        obtain ⟨d0, d1, d2, d3, d4, dz⟩ := cells5 HQR.out
        go_wp2_with fail
        have HQ7 := Lib.hid HQR.out
        have HQ8 := Lib.hid HQR2.out
        have HD7 := Lib.hid HDO.out
        have HB7 := Lib.hid HBR.out
        clear HQ3 HQ4 HO1 HO2 HHA HDO HQR HQR2 HB HBR d0 d1 d2 d3 d4 dz
        go_loopw [33] (fun i wx => ∃ m : Nat, m ≤ ds.length ∧ i = .int .i64 m ∧ DocsHalf wx (w.heap.size + 2) (.slice pD ds.length cD) ds m ∧ InstsOwn wx (w.heap.size + 2) (.slice pI is.length cI) is ∧ wx.heap[w.heap.size]? = some (.cells #[.int .i64 id, .string mo, .slice pI is.length cI, .slice pD ds.length cD, .int .i64 cl] 25 (0, 0)) ∧ wx.heap[w.heap.size + 1]? = some (.cells #[.int .i64 0, .string ⟨#[]⟩, .slice none 0 0, .slice none 0 0, .int .i64 0] 25 (0, 0)) ∧ Below w.heap.size w wx) (fun i _ => ds.length - (intOf i).toNat)
        case atStart => exact ⟨0, by omega, rfl, DocsHalf.zero HD7.out, HIO.out, HQ7.out, HQ8.out, HB7.out⟩
        case round =>
          obtain ⟨m, hm, rfl, hha, hio, hq, hq2, hbr⟩ := hrel
          have HHA := Lib.hid hha
          have HIS := Lib.hid hio
          have HQR := Lib.hid hq
          have HQR2 := Lib.hid hq2
          have HBR := Lib.hid hbr
          clear hha hio hq hq2 hbr
          by_cases hlt : m < ds.length
          · obtain ⟨x, hx⟩ : ∃ x, x = ds[m] := ⟨_, rfl⟩
            have hx' : ds[m]? = some x := by rw [List.getElem?_eq_getElem hlt, hx]
            have HX := Lib.hid hx'
            have hxo := (HD.out.2 x (by rw [hx]; exact List.getElem_mem hlt)).below HBR.out
            have HX4 := Lib.hid (HS2.out x (by rw [hx]; exact List.getElem_mem hlt))
            have HSR := Lib.hid (fun (W : World) (hb : Below wr.heap.size wr W) => (hxo.rr.below hb).src (t := 47) Try.underlying47 (tcells_one x.rs))
            obtain ⟨g, hpi, hgb, hgl, ⟨cur, hcur⟩, hfz, hrow⟩ := HHA.out.row hlt hx'
            subst hpi
            obtain ⟨pl, cp, hlv⟩ := hxo.rr.form
            obtain ⟨path, vk, vi, vb, vt, rv, rs⟩ := x
            dsimp only at hlv HX4 HSR
            subst hlv
            unfold DV.cells at hrow
            dsimp only at hrow
            have c0 := hrow 0 (by omega)
            have c1 := hrow 1 (by omega)
            have c2 := hrow 2 (by omega)
            have c3 := hrow 3 (by omega)
            have c4 := hrow 4 (by omega)
            have c5 := hrow 5 (by omega)
            simp only [List.getElem?_cons_zero, List.getElem?_cons_succ, Nat.add_zero, Nat.zero_add] at c0 c1 c2 c3 c4 c5
            obtain ⟨e0, e1, e2, e3, e4, ez⟩ := cells5 HQR.out
            have HCU := Lib.hid hcur
            have HGB := Lib.hid (And.intro hgb hgl)
            have HBX := Lib.hid (fun o => box_bel' wr o)
            have HCC := Lib.hid c5
            obtain ⟨f0, f1, f2, f3, f4, f5, fz⟩ := cells6 (heap_alloc_new wr (.cells #[.string path, .int .i64 vk, .int .i64 vi, .bool vb, .string vt, .slice pl (tcells rs).length cp] 49))
            have hez : (wr.alloc (.cells #[.string path, .int .i64 vk, .int .i64 vi, .bool vb, .string vt, .slice pl (tcells rs).length cp] 49)).cell? ⟨w.heap.size, 3, none⟩ = some (.slice (some ⟨g, 0, none⟩) ds.length cD) := ((HBX.out _).cell (p := ⟨w.heap.size, 3, none⟩) (Array.getElem?_eq_some_iff.1 HQR.out).1).trans e3
            clear hrow hx hx' hxo hcur hfz hgb hgl
            have hlt8 : (tcells rs).length = rs.length := by simp [tcells]
            have HL8 := Lib.hid hlt8
            clear hlt8
            go_wp2_with fail
            go_region_law (first
              | (refine step_append_nil (by rfl) _ _ 47 47 (by rfl) (w.heap.size + 2) 9 i2 (.string ⟨#[]⟩) 1 16 Try.underlying47 hi2 hz20 hz21 hz22 rfl (by decide) (by rfl) (.slice pl (tcells rs).length cp) (tcells rs).length (tcells rs) (by rfl) (HSR.out _ (by first | exact HBX.out _ | exact (HBX.out _).drew | exact below_drewN (HBX.out _) _)) (by have := HX4.out; have := HL8.out; unfold maxLen; omega) (by have := HX4.out; have := HL8.out; omega) (by have := HGB.out; simp; omega) ?_
                 intro v3 w3 hown3 hgrow3
                 obtain ⟨p3, k3, hv3, _⟩ := (OwnS.ofRow hown3).form
                 subst hv3
                 have hb4 : Below (wr.heap.size + 1) (wr.alloc (.cells #[.string path, .int .i64 vk, .int .i64 vi, .bool vb, .string vt, .slice pl (tcells rs).length cp] 49)) w3 := (show Below (wr.heap.size + 1) (wr.alloc (.cells #[.string path, .int .i64 vk, .int .i64 vi, .bool vb, .string vt, .slice pl (tcells rs).length cp] 49)) _ from by first | exact Below.refl _ _ | exact (Below.refl _ _).drew | exact below_drewN (Below.refl _ _) _).grown hgrow3 (by simp) (fun k ek => by cases ek)
                 have hb5 : Below wr.heap.size wr w3 := (HBX.out _).trans (hb4.mono (by omega))
                 have HB5 := Lib.hid hb5
                 have HO3 := Lib.hid (OwnS.ofRow hown3)
                 obtain ⟨q0, q1, q2, q3, q4, qz⟩ := cells5 ((hb5.block w.heap.size (Array.getElem?_eq_some_iff.1 HQR.out).1).trans HQR.out)
                 have s5 := (hb5.cell (p := ⟨g, m * 6 + 5, none⟩) HGB.out.2).trans HCC.out
                 have sz : ∀ o, w3.frozen? ⟨g, o, none⟩ = false := fun o => by
                   have := (hb5.block g HGB.out.2).trans HCU.out
                   simp [World.frozen?, this]
                 clear hown3 hgrow3 hb4 hb5)
              | fail "no arm")
            all_goals
              clear s5 sz q0 q1 q2 q3 q4 qz f0 f1 f2 f3 f4 f5 fz e0 e1 e2 e3 e4 ez c0 c1 c2 c3 c4 c5 hez
              go_wp2_with fail
              go_roundw
              case rel =>
                have hcu := (HB5.out.block g HGB.out.2).trans HCU.out
                have hfar : ∀ b, b ≠ g → (w3.setCell ⟨g, m * 6 + 5, none⟩ (.slice p3 (tcells rs).length k3)).heap[b]? = w3.heap[b]? := fun b hb => Below.heap_setCell _ _ _ _ hb
                refine ⟨m + 1, by omega, by go_num, DocsHalf.step HHA.out hlt HB5.out HX.out (by have := HO3.out; rw [HL8.out] at this ⊢; exact this), InstsOwn.far (HIS.out.below HB5.out) (by decide) (by decide) hcu hfar, ?_, ?_, (HBR.out.trans (HB5.out.mono HBR.out.size)).setCell (p := ⟨g, m * 6 + 5, none⟩) (by have := HGB.out.1; show _ ≤ g; omega) _⟩
                · exact (hfar _ (by have := HGB.out.1; omega)).trans ((HB5.out.block w.heap.size (Array.getElem?_eq_some_iff.1 HQR.out).1).trans HQR.out)
                · exact (hfar _ (by have := HGB.out.1; omega)).trans ((HB5.out.block (w.heap.size + 1) (Array.getElem?_eq_some_iff.1 HQR2.out).1).trans HQR2.out)
              case measure => simp [intOf]; omega
          · have HDF := Lib.hid (HHA.out.full (by omega))
            obtain ⟨d0, d1, d2, d3, d4, dz⟩ := cells5 HQR.out
            obtain ⟨f0, f1, f2, f3, f4, fz⟩ := cells5 HQR2.out
            go_wp2_with fail
            have hf := fun b (hb : b ≠ w.heap.size + 1) => putC_far wr (w.heap.size + 1) b hb (.int .i64 id) (.string mo) (.slice pI is.length cI) (.slice pD ds.length cD) (.int .i64 cl)
            refine bodyPost_ret (results_cell_row Try.results20 _ _ (w.heap.size + 1) 25 _ (0, 0) _ rfl (putC_at HQR2.out _ _ _ _ _) Try.underlying25 rfl infoC5) rfl ?_
            exact ⟨_, _, rfl, (InstsOwn.far HIS.out (by decide) (by decide) HQR2.out hf).up (by omega), (DocsOwn.far HDF.out (by decide) (by decide) HQR2.out hf).up (by omega), putC_below HBR.out (by omega) _ _ _ _ _⟩
end Go.Proofs.Ytncloiimbclklaa

/- Cases: a copy of a document (the reference's). Written by tools/genze.py. -/
namespace Go.Proofs.Ytncloiimbclklaa
open Go Go.RowKit Go.Shelf
set_option linter.unusedVariables false
set_option linter.unusedSimpArgs false

theorem infoD6 : (Try.prog.info? 49).map (·.size) = some 6 := by kernel_rfl
/-- A copy of a document: the same, but for where the references lie. -/
def CopyAsD (w : World) (x : DV) (e : Ending) (w' : World) : Prop :=
  ∃ v', e = .returned (.agg #[.string x.path, .int .i64 x.vk, .int .i64 x.vi, .bool x.vb, .string x.vt, v']) ∧ OwnS w' w.heap.size 9 1 v' x.rs.length (tcells x.rs) ∧ Below w.heap.size w w'

set_option maxRecDepth 100000 in
set_option maxHeartbeats 1000000 in
theorem rcopiedD_c (w : World) (x : DV) (h : DVok w x) (hs : x.rs.length ≤ 40) : Calls Try.prog 45 #[.agg x.cells.toArray] w (CopyAsD w x) := by
  obtain ⟨i0, hi, hz0, hz1, hz2⟩ := info_parts infoText
  obtain ⟨path, vk, vi, vb, vt, rv, rs⟩ := x
  have hlen : (tcells rs).length = rs.length := by simp [tcells]
  have HS := Lib.hid (fun (W : World) (hb : Below w.heap.size w W) => (h.rr.below hb).src (t := 47) Try.underlying47 (tcells_one rs))
  dsimp only at HS hs
  obtain ⟨p, cp, hlv⟩ := h.rr.form
  dsimp only at hlv
  subst hlv
  rw [hlen] at HS ⊢
  unfold DV.cells
  dsimp only
  have HB2 := Lib.hid (fun o o2 => (box_bel' w o).alloc (box_bel' w o).size o2)
  have HB3 := Lib.hid (fun o o2 o3 => ((box_bel' w o).alloc (box_bel' w o).size o2).alloc ((box_bel' w o).alloc (box_bel' w o).size o2).size o3)
  have HE := Lib.hid (fun o o2 => (show OwnS ((((w.alloc o).alloc o2)).alloc (.cells #[] 9)) (w.heap.size + 2) 9 1 (.slice (some ⟨w.heap.size + 1 + 1, 0, none⟩) 0 0) 0 [] from by
    have := ownS_empty ((w.alloc o).alloc o2) (w.heap.size + 2) 9 1 (by simp)
    rwa [World.size_alloc, World.size_alloc] at this))
  have HSZ := Lib.hid hs
  clear h hlen hs
  go_enter Try.func45, Try.ntmps45
  go_wp2_with (at_builtin; refine wpList_append_S rfl _ _ 47 47 rfl (w.heap.size + 2) 9 i0 (.string ⟨#[]⟩) 1 16 Try.underlying47 hi hz0 hz1 hz2 rfl (by decide) _ 0 [] rfl (HE.out _ _) _ rs.length (tcells rs) rfl (HS.out _ (HB3.out _ _ _)) ?c1 ?c2 ?c3 ?_)
  case c1 => have := HSZ.out; unfold maxLen; omega
  case c2 => have := HSZ.out; omega
  case c3 => simp
  intro v' w1 hown hgrow how
  have HOW := Lib.hid hown
  have HB4 := Lib.hid ((HB3.out _ _ _).grown hgrow (by simp; omega) (fun k ek => by simp [Value.ownBlock] at ek; omega))
  have HG := Lib.hid hgrow
  obtain ⟨pa, ca, hv', _⟩ := hown.form
  subst hv'
  have hg := hgrow.block
  obtain ⟨c0, c1, c2, c3, c4, c5, cz⟩ := cells6 ((hg w.heap.size (by simp; omega) (by simp [Value.ownBlock]; omega)).trans (three_old w _ _ _))
  have hx := (hg (w.heap.size + 1) (by simp) (by simp [Value.ownBlock])).trans (three_mid w _ _ _)
  have HX := Lib.hid hx
  obtain ⟨r0, r1, r2, r3, r4, r5, rz⟩ := cells6 hx
  clear hown hgrow hg hx how
  go_wp2_with fail
  have hx2 := (Below.heap_setCell w1 ⟨w.heap.size, 5, none⟩ (.slice pa rs.length ca) (w.heap.size + 1) (by simp)).trans HX.out
  refine bodyPost_ret (results_cell_row Try.results45 _ _ (w.heap.size + 1) 49 _ (0, 0) _ rfl (putI_at hx2 _ _ _ _ _ _) Try.underlying49 rfl infoD6) rfl ?_
  refine ⟨_, rfl, ?_, putI_below (HB4.out.setCell (p := ⟨w.heap.size, 5, none⟩) (Nat.le_refl _) _) (by omega) _ _ _ _ _ _⟩
  refine (HOW.out.keep (fun g hg => ?_)).up (by omega)
  have hge := HOW.out.base g hg
  rw [putI_far _ _ _ (by omega)]
  exact Below.heap_setCell _ _ _ _ (by show g ≠ w.heap.size; omega)
end Go.Proofs.Ytncloiimbclklaa

/- Cases: a copy of a case (the reference's). Written by tools/genzf.py. -/
namespace Go.Proofs.Ytncloiimbclklaa
open Go Go.RowKit Go.Shelf
set_option linter.unusedVariables false
set_option linter.unusedSimpArgs false

theorem InstsOwn.grow {W W' : World} {base b n s : Nat} {e : TypeId} {v vI : Value} {l : List IV} {xs : List Value} (h : InstsOwn W base vI l) (h1 : e ≠ 30) (h2 : e ≠ 3) (hr : W.ownsRow b e s v n xs) (hg : W.grownBy W' v.ownBlock) : InstsOwn W' base vI l := by
  obtain ⟨l', k1, k2, k3⟩ := h
  exact ⟨l', k1, ownr_keep k2 fun g hb => hg.block g (ownr_lt k2 g hb).2 (own_apart h1 hr (OwnS.ofRow k2) g hb), fun x hx => own_grow h2 hr (k3 x hx) hg⟩
set_option maxRecDepth 100000 in
set_option maxHeartbeats 2000000 in
theorem rcopy_c (w : World) (c : CV) (h : CVok w c) (hs : ∀ x ∈ c.insts, x.ls.length ≤ 40) (hs2 : ∀ x ∈ c.docs, x.rs.length ≤ 40) (hc4 : c.insts.length ≤ 40) (hd4 : c.docs.length ≤ 100) : Calls Try.prog 21 #[c.val] w (CopyC w c) := by
  obtain ⟨i0, hi, hz0, hz1, hz2⟩ := info_parts infoInst
  obtain ⟨i1, hi1, hz10, hz11, hz12⟩ := info_parts infoDoc
  have HI := Lib.hid h.insts
  have HD := Lib.hid h.docs
  have hl := h.insts.1
  have hl2 := h.docs.1
  have HS := Lib.hid hs
  have HS2 := Lib.hid hs2
  obtain ⟨id, mo, iv, dv, cl, is, ds⟩ := c
  dsimp only at HI HD HS HS2 hl hl2 hc4 hd4
  obtain ⟨a, ca, hiv, hn1, hn2, _, _⟩ := hl
  obtain ⟨a2, ca2, hdv, hm1, hm2, _, _⟩ := hl2
  subst hiv hdv
  have HC4 := Lib.hid hc4
  have HD4 := Lib.hid hd4
  have hni : is.length ≤ 9223372036854775807 := by omega
  have hnd : ds.length ≤ 9223372036854775807 := by omega
  unfold CV.val
  dsimp only
  obtain ⟨w0, hw0⟩ : ∃ x, x = (w.alloc (.cells #[.int .i64 id, .string mo, .slice a is.length ca, .slice a2 ds.length ca2, .int .i64 cl] 25)).alloc (.cells #[.int .i64 0, .string ⟨#[]⟩, .slice none 0 0, .slice none 0 0, .int .i64 0] 25) := ⟨_, rfl⟩
  have HBW := Lib.hid (show Below w.heap.size w w0 from by rw [hw0]; exact (box_bel' w _).alloc (box_bel' w _).size _)
  have HQ := Lib.hid (show w0.heap[w.heap.size]? = some (.cells #[.int .i64 id, .string mo, .slice a is.length ca, .slice a2 ds.length ca2, .int .i64 cl] 25 (0, 0)) from by rw [hw0]; exact two_old w _ _)
  have HQ2 := Lib.hid (show w0.heap[w.heap.size + 1]? = some (.cells #[.int .i64 0, .string ⟨#[]⟩, .slice none 0 0, .slice none 0 0, .int .i64 0] 25 (0, 0)) from by rw [hw0]; exact two_new w _ _)
  have HSW := Lib.hid (show w0.heap.size = w.heap.size + 2 from by rw [hw0]; simp)
  have HW0 := Lib.hid hw0
  clear h hs hs2 hn1 hn2 hm1 hm2 hc4 hd4 hw0
  go_enter Try.func21, Try.ntmps21
  go_wp2_with fail
  rw [← HW0.out]
  obtain ⟨d0, d1, d2, d3, d4, dz⟩ := cells5 HQ.out
  go_quiet (fail)
  go_wp2_with fail
  obtain ⟨wS, hwS⟩ : ∃ x, x = ((w0.drewN nq).setCell ⟨w.heap.size, 2, none⟩ (.slice none 0 0)).setCell ⟨w.heap.size, 3, none⟩ (.slice none 0 0) := ⟨_, rfl⟩
  have HBS := Lib.hid (show Below w.heap.size w wS from by rw [hwS]; exact ((below_drewN HBW.out _).setCell (p := ⟨w.heap.size, 2, none⟩) (Nat.le_refl _) _).setCell (p := ⟨w.heap.size, 3, none⟩) (Nat.le_refl _) _)
  have HQS := Lib.hid (show wS.heap[w.heap.size]? = some (.cells #[.int .i64 id, .string mo, .slice none 0 0, .slice none 0 0, .int .i64 cl] 25 (0, 0)) from by rw [hwS]; exact cells5w (w := w0.drewN nq) HQ.out _ _)
  have HQS2 := Lib.hid (show wS.heap[w.heap.size + 1]? = some (.cells #[.int .i64 0, .string ⟨#[]⟩, .slice none 0 0, .slice none 0 0, .int .i64 0] 25 (0, 0)) from by rw [hwS]; exact (set2_far (w := w0.drewN nq) _ _ (by omega)).trans HQ2.out)
  have HSS := Lib.hid (show w.heap.size + 2 ≤ wS.heap.size from by rw [hwS]; have := HSW.out; simp [World.size_setCell]; omega)
  rw [← hwS]
  clear hwS d0 d1 d2 d3 d4 dz
  go_loopw [17] (fun i wr => ∃ (k : Nat) (v : Value), k ≤ is.length ∧ i = .int .i64 k ∧ InstsOwn wr (w.heap.size + 2) v (is.take k) ∧ wr.heap[w.heap.size]? = some (.cells #[.int .i64 id, .string mo, v, .slice none 0 0, .int .i64 cl] 25 (0, 0)) ∧ wr.heap[w.heap.size + 1]? = some (.cells #[.int .i64 0, .string ⟨#[]⟩, .slice none 0 0, .slice none 0 0, .int .i64 0] 25 (0, 0)) ∧ w.heap.size + 2 ≤ wr.heap.size ∧ Below w.heap.size w wr) (fun i _ => is.length - (intOf i).toNat)
  case atStart => exact ⟨0, _, by omega, rfl, InstsOwn.nil _ _, HQS.out, HQS2.out, HSS.out, HBS.out⟩
  case round =>
    obtain ⟨k, v, hk, rfl, hall, hq, hq2, hsz, hbr⟩ := hrel
    have HAL := Lib.hid hall
    have HQR := Lib.hid hq
    have HQR2 := Lib.hid hq2
    have HBR := Lib.hid hbr
    have HSZ := Lib.hid hsz
    obtain ⟨l', hb1, hown, hls⟩ := hall
    obtain ⟨pv, cv, hv, _⟩ := (OwnS.ofRow hown).form
    subst hv
    have HB1 := Lib.hid hb1
    have HOW := Lib.hid hown
    have HLS := Lib.hid hls
    have hll : l'.length ≤ is.length := by
      have := congrArg List.length hb1
      simp only [List.length_map] at this
      rw [List.length_take] at this
      omega
    clear hbr hb1 hown hls hq hq2 hsz
    by_cases hlt : k < is.length
    · obtain ⟨x, hx⟩ : ∃ x, x = is[k] := ⟨_, rfl⟩
      have hrow : rowI is k = x.cells := by unfold rowI; rw [List.getElem?_eq_getElem hlt, ← hx]; rfl
      have hxo := (HI.out.2 x (by rw [hx]; exact List.getElem_mem hlt)).below HBR.out
      have HXO := Lib.hid hxo
      have HX4 := Lib.hid (HS.out x (by rw [hx]; exact List.getElem_mem hlt))
      have HN := Lib.hid (show is.take (k + 1) = is.take k ++ [x] from by rw [List.take_succ_eq_append_getElem hlt, hx])
      have HC := Lib.hid (fun (W : World) (hb : Below wr.heap.size wr W) => rcopied_c W x (HXO.out.below hb) HX4.out)
      obtain ⟨pl, cp, hlv⟩ := hxo.rl.form
      obtain ⟨path, item, st, bf, lv, ls, due⟩ := x
      dsimp only at hlv HX4
      subst hlv
      unfold IV.cells at HC
      dsimp only at HC
      obtain ⟨g, o, ha, hg, c0, c1, c2, c3, c4, c5⟩ := (HI.out.1.below HBR.out).row hlt hrow
      subst ha
      have HBX := Lib.hid (fun o => box_bel' wr o)
      obtain ⟨e0, e1, e2, e3, e4, ez⟩ := cells5 HQR.out
      obtain ⟨f0, f1, f2, f3, f4, f5, fz⟩ := cells6 (heap_alloc_new wr (.cells #[.string path, .string item, .int .i64 st, .int .i64 bf, .slice pl (icells ls).length cp, .int .i64 due] 30))
      have hez : (wr.alloc (.cells #[.string path, .string item, .int .i64 st, .int .i64 bf, .slice pl (icells ls).length cp, .int .i64 due] 30)).cell? ⟨w.heap.size, 2, none⟩ = some (.slice pv l'.length cv) := ((HBX.out _).cell (p := ⟨w.heap.size, 2, none⟩) (Array.getElem?_eq_some_iff.1 HQR.out).1).trans e2
      clear hrow hxo hx
      go_wp2_with fail
      go_region_law (first
        | (go_simp
           go_at_call 31
           refine (HC.out _ ?_).mono ?_
           · first | exact HBX.out _ | exact (HBX.out _).drew | exact below_drewN (HBX.out _) _
           rintro e w3 ⟨v', rfl, hown3, hb3⟩
           dsimp only at hown3
           obtain ⟨pa, cc, hv', _⟩ := hown3.form
           subst hv'
           have hb4 : Below (wr.heap.size + 1) (wr.alloc (.cells #[.string path, .string item, .int .i64 st, .int .i64 bf, .slice pl (icells ls).length cp, .int .i64 due] 30)) w3 := by
             first
               | exact hb3.mono (by simp)
               | exact (Below.refl _ _).drew.trans (hb3.mono (by simp))
               | exact (below_drewN (Below.refl _ _) _).trans (hb3.mono (by simp))
           have hb5 : Below wr.heap.size wr w3 := (HBX.out _).trans (hb4.mono (by omega))
           have HB5 := Lib.hid hb5
           have HO3 := Lib.hid (hown3.up (b' := w.heap.size + 2) (by have := HSZ.out; simp; omega))
           have hq5 := (hb5.block w.heap.size (Array.getElem?_eq_some_iff.1 HQR.out).1).trans HQR.out
           have HQ5 := Lib.hid hq5
           obtain ⟨q0, q1, q2, q3, q4, qz⟩ := cells5 hq5
           have r2 := (((Below.refl w3.heap.size w3).alloc (Nat.le_refl _) (.cells #[.string path, .string item, .int .i64 st, .int .i64 bf, .slice pa ls.length cc, .int .i64 due] 30)).cell (p := ⟨w.heap.size, 2, none⟩) (Array.getElem?_eq_some_iff.1 hq5).1).trans q2
           have HOW3 := Lib.hid (ownr_below HOW.out hb5)
           have HA := Lib.hid ((Below.refl w3.heap.size w3).alloc (Nat.le_refl _) (.cells #[.string path, .string item, .int .i64 st, .int .i64 bf, .slice pa ls.length cc, .int .i64 due] 30))
           clear hown3 hb3 hb4 hb5 hq5)
        | (refine step_append_lies _ (by rfl) _ _ 22 (by rfl) (w.heap.size + 2) 30 i0 (.agg #[.string ⟨#[]⟩, .string ⟨#[]⟩, .int .i64 0, .int .i64 0, .slice none 0 0, .int .i64 0]) 6 80 Try.underlying22 hi hz0 hz1 hz2 rfl (by omega) (.slice pv l'.length cv) l'.length (flatI l') (by rfl) (ownr_below HOW3.out (by first | exact HA.out | exact HA.out.drew | exact below_drewN HA.out _)) ⟨w3.heap.size, 0, none⟩ 1 1 [.string path, .string item, .int .i64 st, .int .i64 bf, .slice pa ls.length cc, .int .i64 due] (by rfl) (by simp) (World.news_of_block (heap_alloc_new w3 _)) (by simp [Value.oneCell']) (by omega) (by have := HC4.out; unfold maxLen; omega) (by have := HC4.out; omega) (by have := HSZ.out; have := HB5.out.size; simp; omega) (w3.heap.size + 1) (by simp) ?_
           intro g6 cap6 w6 hown6 hgrow6 hat6 hlt6
           have HOW6 := Lib.hid hown6
           have HG6 := Lib.hid hgrow6
           have hq6 : w6.heap[w.heap.size]? = some (.cells #[.int .i64 id, .string mo, .slice pv l'.length cv, .slice none 0 0, .int .i64 cl] 25 (0, 0)) := (hgrow6.block w.heap.size (by have := HSZ.out; have := HB5.out.size; simp; omega) (fun e => by have := (ownr_lt HOW.out w.heap.size e.symm).1; omega)).trans (((HA.out.block w.heap.size (by have := HSZ.out; have := HB5.out.size; omega))).trans HQ5.out)
           have HQ6 := Lib.hid hq6
           obtain ⟨t0, t1, t2, t3, t4, tz⟩ := cells5 hq6
           clear hown6 hgrow6 hat6 hlt6 hq6)
        | fail "no arm")
      all_goals
        clear t0 t1 t2 t3 t4 tz q0 q1 q2 q3 q4 qz f0 f1 f2 f3 f4 f5 fz e0 e1 e2 e3 e4 ez c0 c1 c2 c3 c4 c5 r2 hez
        go_wp2_with fail
        go_roundw
        case rel =>
          have hgr : (w3.alloc (.cells #[.string path, .string item, .int .i64 st, .int .i64 bf, .slice pa ls.length cc, .int .i64 due] 30)).grownBy w6 (Value.slice pv l'.length cv).ownBlock := HG6.out
          have hp := InstsOwn.push (y := ⟨path, item, st, bf, .slice pl (icells ls).length cp, ls, due⟩) (x := ⟨path, item, st, bf, .slice pa ls.length cc, ls, due⟩) (l := is.take k) (W1 := w3) HB1.out HOW.out HLS.out HB5.out HO3.out rfl HOW6.out hgr
          rw [← HN.out] at hp
          have hfar : ∀ b, b ≠ w.heap.size → (w6.setCell ⟨w.heap.size, 2, none⟩ (.slice (some ⟨g6, 0, none⟩) (l'.length + 1) cap6)).heap[b]? = w6.heap[b]? := fun b hb => Below.heap_setCell _ _ _ _ hb
          have hs6 : w.heap.size + 2 ≤ w6.heap.size := by have := HSZ.out; have := HB5.out.size; have := hgr.size; simp at this; omega
          have hb6 : Below w.heap.size w w6 := ((HBR.out.trans (HB5.out.mono HBR.out.size)).trans (HA.out.mono (Nat.le_trans HBR.out.size HB5.out.size))).grown hgr (by have := HSZ.out; have := HB5.out.size; simp; omega) (fun g hg => by have := (ownr_lt HOW.out g hg).1; omega)
          refine ⟨k + 1, _, by omega, by go_num, InstsOwn.far hp (by decide) (by decide) HQ6.out hfar, by simp [World.setCell, Array.getElem?_modify, HQ6.out], ?_, by simpa [World.size_setCell] using hs6, hb6.setCell (p := ⟨w.heap.size, 2, none⟩) (Nat.le_refl _) _⟩
          exact (hfar _ (by omega)).trans ((hgr.block (w.heap.size + 1) (by have := HSZ.out; have := HB5.out.size; simp; omega) (fun e => by have := (ownr_lt HOW.out _ e.symm).1; omega)).trans ((HA.out.block (w.heap.size + 1) (by have := HSZ.out; have := HB5.out.size; omega)).trans ((HB5.out.block (w.heap.size + 1) (by have := HSZ.out; omega)).trans HQR2.out)))
        case measure => simp [intOf]; omega
    · have HIO := Lib.hid (show InstsOwn wr (w.heap.size + 2) (.slice pv l'.length cv) is from by have := HAL.out; rwa [List.take_of_length_le (by omega)] at this)
      go_wp2_with fail
      have HQ7 := Lib.hid HQR.out
      have HQ8 := Lib.hid HQR2.out
      have HB7 := Lib.hid HBR.out
      have HS7 := Lib.hid HSZ.out
      clear hlt hll HQR HQR2 HBR HSZ HAL HB1 HOW HLS HBS HQS HQS2 HSS hk
      generalize l'.length = nI at *
      clear l'
      obtain ⟨pI, hpI⟩ : ∃ x, x = pv := ⟨_, rfl⟩
      obtain ⟨cI, hcI⟩ : ∃ x, x = cv := ⟨_, rfl⟩
      subst hpI hcI
      go_loopw [31] (fun i wr => ∃ (k : Nat) (v : Value), k ≤ ds.length ∧ i = .int .i64 k ∧ DocsOwn wr (w.heap.size + 2) v (ds.take k) ∧ InstsOwn wr (w.heap.size + 2) (.slice pI nI cI) is ∧ wr.heap[w.heap.size]? = some (.cells #[.int .i64 id, .string mo, .slice pI nI cI, v, .int .i64 cl] 25 (0, 0)) ∧ wr.heap[w.heap.size + 1]? = some (.cells #[.int .i64 0, .string ⟨#[]⟩, .slice none 0 0, .slice none 0 0, .int .i64 0] 25 (0, 0)) ∧ w.heap.size + 2 ≤ wr.heap.size ∧ Below w.heap.size w wr) (fun i _ => ds.length - (intOf i).toNat)
      case atStart => exact ⟨0, _, by omega, rfl, DocsOwn.nil _ _, HIO.out, HQ7.out, HQ8.out, HS7.out, HB7.out⟩
      case round =>
        obtain ⟨k, v, hk, rfl, hall, hio, hq, hq2, hsz, hbr⟩ := hrel
        have HIR := Lib.hid hio
        have HAL := Lib.hid hall
        have HQR := Lib.hid hq
        have HQR2 := Lib.hid hq2
        have HBR := Lib.hid hbr
        have HSZ := Lib.hid hsz
        obtain ⟨l', hb1, hown, hls⟩ := hall
        obtain ⟨pv, cv, hv, _⟩ := (OwnS.ofRow hown).form
        subst hv
        have HB1 := Lib.hid hb1
        have HOW := Lib.hid hown
        have HLS := Lib.hid hls
        have hll : l'.length ≤ ds.length := by
          have := congrArg List.length hb1
          simp only [List.length_map] at this
          rw [List.length_take] at this
          omega
        clear hbr hb1 hown hls hq hq2 hsz hio
        by_cases hlt : k < ds.length
        · obtain ⟨x, hx⟩ : ∃ x, x = ds[k] := ⟨_, rfl⟩
          have hrow : rowD ds k = x.cells := by unfold rowD; rw [List.getElem?_eq_getElem hlt, ← hx]; rfl
          have hxo := (HD.out.2 x (by rw [hx]; exact List.getElem_mem hlt)).below HBR.out
          have HXO := Lib.hid hxo
          have HX4 := Lib.hid (HS2.out x (by rw [hx]; exact List.getElem_mem hlt))
          have HN := Lib.hid (show ds.take (k + 1) = ds.take k ++ [x] from by rw [List.take_succ_eq_append_getElem hlt, hx])
          have HC := Lib.hid (fun (W : World) (hb : Below wr.heap.size wr W) => rcopiedD_c W x (HXO.out.below hb) HX4.out)
          obtain ⟨pl, cp, hlv⟩ := hxo.rr.form
          obtain ⟨path, vk, vi, vb, vt, rv, rs⟩ := x
          dsimp only at hlv HX4
          subst hlv
          unfold DV.cells at HC
          dsimp only at HC
          obtain ⟨g, o, ha, hg, c0, c1, c2, c3, c4, c5⟩ := (HD.out.1.below HBR.out).row hlt hrow
          subst ha
          have HBX := Lib.hid (fun o => box_bel' wr o)
          obtain ⟨e0, e1, e2, e3, e4, ez⟩ := cells5 HQR.out
          obtain ⟨f0, f1, f2, f3, f4, f5, fz⟩ := cells6 (heap_alloc_new wr (.cells #[.string path, .int .i64 vk, .int .i64 vi, .bool vb, .string vt, .slice pl (tcells rs).length cp] 49))
          have hez : (wr.alloc (.cells #[.string path, .int .i64 vk, .int .i64 vi, .bool vb, .string vt, .slice pl (tcells rs).length cp] 49)).cell? ⟨w.heap.size, 3, none⟩ = some (.slice pv l'.length cv) := ((HBX.out _).cell (p := ⟨w.heap.size, 3, none⟩) (Array.getElem?_eq_some_iff.1 HQR.out).1).trans e3
          clear hrow hxo hx
          go_wp2_with fail
          go_region_law (first
            | (go_simp
               go_at_call 45
               refine (HC.out _ ?_).mono ?_
               · first | exact HBX.out _ | exact (HBX.out _).drew | exact below_drewN (HBX.out _) _
               rintro e w3 ⟨v', rfl, hown3, hb3⟩
               dsimp only at hown3
               obtain ⟨pa, cc, hv', _⟩ := hown3.form
               subst hv'
               have hb4 : Below (wr.heap.size + 1) (wr.alloc (.cells #[.string path, .int .i64 vk, .int .i64 vi, .bool vb, .string vt, .slice pl (tcells rs).length cp] 49)) w3 := by
                 first
                   | exact hb3.mono (by simp)
                   | exact (Below.refl _ _).drew.trans (hb3.mono (by simp))
                   | exact (below_drewN (Below.refl _ _) _).trans (hb3.mono (by simp))
               have hb5 : Below wr.heap.size wr w3 := (HBX.out _).trans (hb4.mono (by omega))
               have HB5 := Lib.hid hb5
               have HO3 := Lib.hid (hown3.up (b' := w.heap.size + 2) (by have := HSZ.out; simp; omega))
               have hq5 := (hb5.block w.heap.size (Array.getElem?_eq_some_iff.1 HQR.out).1).trans HQR.out
               have HQ5 := Lib.hid hq5
               obtain ⟨q0, q1, q2, q3, q4, qz⟩ := cells5 hq5
               have r2 := (((Below.refl w3.heap.size w3).alloc (Nat.le_refl _) (.cells #[.string path, .int .i64 vk, .int .i64 vi, .bool vb, .string vt, .slice pa rs.length cc] 49)).cell (p := ⟨w.heap.size, 3, none⟩) (Array.getElem?_eq_some_iff.1 hq5).1).trans q3
               have HOW3 := Lib.hid (ownr_below HOW.out hb5)
               have HA := Lib.hid ((Below.refl w3.heap.size w3).alloc (Nat.le_refl _) (.cells #[.string path, .int .i64 vk, .int .i64 vi, .bool vb, .string vt, .slice pa rs.length cc] 49))
               clear hown3 hb3 hb4 hb5 hq5)
            | (refine step_append_lies _ (by rfl) _ _ 23 (by rfl) (w.heap.size + 2) 49 i1 (.agg #[.string ⟨#[]⟩, .int .i64 0, .int .i64 0, .bool false, .string ⟨#[]⟩, .slice none 0 0]) 6 80 Try.underlying23 hi1 hz10 hz11 hz12 rfl (by omega) (.slice pv l'.length cv) l'.length (flatD l') (by rfl) (ownr_below HOW3.out (by first | exact HA.out | exact HA.out.drew | exact below_drewN HA.out _)) ⟨w3.heap.size, 0, none⟩ 1 1 [.string path, .int .i64 vk, .int .i64 vi, .bool vb, .string vt, .slice pa rs.length cc] (by rfl) (by simp) (World.news_of_block (heap_alloc_new w3 _)) (by simp [Value.oneCell']) (by omega) (by have := HD4.out; unfold maxLen; omega) (by have := HD4.out; omega) (by have := HSZ.out; have := HB5.out.size; simp; omega) (w3.heap.size + 1) (by simp) ?_
               intro g6 cap6 w6 hown6 hgrow6 hat6 hlt6
               have HOW6 := Lib.hid hown6
               have HG6 := Lib.hid hgrow6
               have hq6 : w6.heap[w.heap.size]? = some (.cells #[.int .i64 id, .string mo, .slice pI nI cI, .slice pv l'.length cv, .int .i64 cl] 25 (0, 0)) := (hgrow6.block w.heap.size (by have := HSZ.out; have := HB5.out.size; simp; omega) (fun e => by have := (ownr_lt HOW.out w.heap.size e.symm).1; omega)).trans (((HA.out.block w.heap.size (by have := HSZ.out; have := HB5.out.size; omega))).trans HQ5.out)
               have HQ6 := Lib.hid hq6
               obtain ⟨t0, t1, t2, t3, t4, tz⟩ := cells5 hq6
               clear hown6 hgrow6 hat6 hlt6 hq6)
            | fail "no arm")
          all_goals
            clear t0 t1 t2 t3 t4 tz q0 q1 q2 q3 q4 qz f0 f1 f2 f3 f4 f5 fz e0 e1 e2 e3 e4 ez c0 c1 c2 c3 c4 c5 r2 hez
            go_wp2_with fail
            go_roundw
            case rel =>
              have hgr : (w3.alloc (.cells #[.string path, .int .i64 vk, .int .i64 vi, .bool vb, .string vt, .slice pa rs.length cc] 49)).grownBy w6 (Value.slice pv l'.length cv).ownBlock := HG6.out
              have hp := DocsOwn.push (y := ⟨path, vk, vi, vb, vt, .slice pl (tcells rs).length cp, rs⟩) (x := ⟨path, vk, vi, vb, vt, .slice pa rs.length cc, rs⟩) (l := ds.take k) (W1 := w3) HB1.out HOW.out HLS.out HB5.out HO3.out rfl HOW6.out hgr
              rw [← HN.out] at hp
              have hfar : ∀ b, b ≠ w.heap.size → (w6.setCell ⟨w.heap.size, 3, none⟩ (.slice (some ⟨g6, 0, none⟩) (l'.length + 1) cap6)).heap[b]? = w6.heap[b]? := fun b hb => Below.heap_setCell _ _ _ _ hb
              have hs6 : w.heap.size + 2 ≤ w6.heap.size := by have := HSZ.out; have := HB5.out.size; have := hgr.size; simp at this; omega
              have hb6 : Below w.heap.size w w6 := ((HBR.out.trans (HB5.out.mono HBR.out.size)).trans (HA.out.mono (Nat.le_trans HBR.out.size HB5.out.size))).grown hgr (by have := HSZ.out; have := HB5.out.size; simp; omega) (fun g hg => by have := (ownr_lt HOW.out g hg).1; omega)
              refine ⟨k + 1, _, by omega, by go_num, DocsOwn.far hp (by decide) (by decide) HQ6.out hfar, InstsOwn.far (InstsOwn.grow ((HIR.out.below HB5.out).below HA.out) (by decide) (by decide) (ownr_below HOW3.out HA.out) hgr) (by decide) (by decide) HQ6.out hfar, by simp [World.setCell, Array.getElem?_modify, HQ6.out], ?_, by simpa [World.size_setCell] using hs6, hb6.setCell (p := ⟨w.heap.size, 3, none⟩) (Nat.le_refl _) _⟩
              exact (hfar _ (by omega)).trans ((hgr.block (w.heap.size + 1) (by have := HSZ.out; have := HB5.out.size; simp; omega) (fun e => by have := (ownr_lt HOW.out _ e.symm).1; omega)).trans ((HA.out.block (w.heap.size + 1) (by have := HSZ.out; have := HB5.out.size; omega)).trans ((HB5.out.block (w.heap.size + 1) (by have := HSZ.out; omega)).trans HQR2.out)))
            case measure => simp [intOf]; omega
        · have HDF := Lib.hid (show DocsOwn wr (w.heap.size + 2) (.slice pv l'.length cv) ds from by have := HAL.out; rwa [List.take_of_length_le (by omega)] at this)
          obtain ⟨d0, d1, d2, d3, d4, dz⟩ := cells5 HQR.out
          obtain ⟨f0, f1, f2, f3, f4, fz⟩ := cells5 HQR2.out
          go_wp2_with fail
          have hf := fun b (hb : b ≠ w.heap.size + 1) => putC_far wr (w.heap.size + 1) b hb (.int .i64 id) (.string mo) (.slice pI nI cI) (.slice pv l'.length cv) (.int .i64 cl)
          refine bodyPost_ret (results_cell_row Try.results21 _ _ (w.heap.size + 1) 25 _ (0, 0) _ rfl (putC_at HQR2.out _ _ _ _ _) Try.underlying25 rfl infoC5) rfl ?_
          exact ⟨_, _, rfl, (InstsOwn.far HIR.out (by decide) (by decide) HQR2.out hf).up (by omega), (DocsOwn.far HDF.out (by decide) (by decide) HQR2.out hf).up (by omega), putC_below HBR.out (by omega) _ _ _ _ _⟩
end Go.Proofs.Ytncloiimbclklaa

/- Cases: the laws' awake; a found instance in one form. -/
namespace Go.Proofs.Ytncloiimbclklaa
open Go Go.RowKit Go.Shelf
set_option linter.unusedVariables false
set_option linter.unusedSimpArgs false

theorem txt2 : (⟨(txt 2).toArray⟩ : ByteArray) = ⟨#[50]⟩ := by decide +kernel

set_option maxRecDepth 100000 in
theorem path_c (w : World) : Calls Try.prog 27 #[.string ⟨#[112, 46, 49]⟩, .string ⟨#[116]⟩, .int .i64 2] w fun e w' => e = .returned (.string ⟨#[112, 46, 49, 47, 116, 46, 50]⟩) ∧ Below w.heap.size w w' := by
  have HT := Lib.hid (fun w => text_c w 2 (by omega) (by omega))
  rw [txt2] at HT
  go_enter Try.func27, Try.ntmps27
  go_wp2_with (go_at_call 52; refine (HT.out _).mono ?_; rintro e w' ⟨rfl, hb⟩; have HB := Lib.hid hb; clear hb)
  go_ret
  refine ⟨?_, HB.out⟩
  show Ending.returned (.string ((⟨#[112, 46, 49]⟩ : ByteArray) ++ ⟨#[47]⟩ ++ ((⟨#[116]⟩ : ByteArray) ++ ⟨#[46]⟩ ++ ⟨#[50]⟩))) = _
  rw [show ((⟨#[112, 46, 49]⟩ : ByteArray) ++ ⟨#[47]⟩ ++ ((⟨#[116]⟩ : ByteArray) ++ ⟨#[46]⟩ ++ ⟨#[50]⟩)) = ⟨#[112, 46, 49, 47, 116, 46, 50]⟩ from by decide +kernel]

theorem li : Lib.lastIndex [112, 46, 49, 47, 116, 46, 50] [47] = 3 := by decide +kernel
theorem ex3 : (⟨#[112, 46, 49, 47, 116, 46, 50]⟩ : ByteArray).extract 0 3 = ⟨#[112, 46, 49]⟩ := by decide +kernel
set_option maxRecDepth 100000 in
theorem up_c (w : World) : Calls Try.prog 28 #[.string ⟨#[112, 46, 49, 47, 116, 46, 50]⟩] w fun e w' => e = .returned (.string ⟨#[112, 46, 49]⟩) ∧ Below w.heap.size w w' := by
  have HL := fun w => Try.strings_LastIndex ⟨#[112, 46, 49, 47, 116, 46, 50]⟩ ⟨#[47]⟩ (by decide) w
  rw [show (⟨#[47]⟩ : ByteArray).data.toList = [47] from rfl, show (⟨#[112, 46, 49, 47, 116, 46, 50]⟩ : ByteArray).data.toList = [112, 46, 49, 47, 116, 46, 50] from rfl, li] at HL
  have HL' := Lib.hid HL
  have HX := Lib.hid ex3
  obtain ⟨X, hX⟩ : ∃ X : ByteArray, X = ⟨#[112, 46, 49, 47, 116, 46, 50]⟩ := ⟨_, rfl⟩
  have hs : 3 ≤ X.size := by rw [hX]; decide
  rw [← hX] at HL' HX ⊢
  have hm : max (0 : Int) 3 = 3 := by decide
  clear hX HL
  go_enter Try.func28, Try.ntmps28
  go_wp2_with (go_at_call 53; refine (HL'.out _).mono ?_; rintro e w' ⟨rfl, rfl⟩)
  go_ret
  exact ⟨by rw [← HX.out]; rfl, Below.refl _ _⟩

theorem awake_c (w : World) : Calls Try.prog 7 #[] w fun e w' => e = .returned (.bool true) ∧ Below w.heap.size w w' := by
  have HP := Lib.hid path_c
  have HU := Lib.hid up_c
  have q1 : ((⟨#[112, 46, 49, 47, 116, 46, 50]⟩ : ByteArray).toList == [112, 46, 49, 47, 116, 46, 50]) = true := by decide +kernel
  have q2 : ((⟨#[112, 46, 49]⟩ : ByteArray).toList == [112, 46, 49]) = true := by decide +kernel
  go_enter Try.func7, Try.ntmps7
  go_wp2_with (first
    | (go_at_call 28; refine (HU.out _).mono ?_; rintro e w' ⟨rfl, hb⟩; have HB2 := Lib.hid (bel_tr HB1.out hb); clear hb)
    | (go_at_call 27; refine (HP.out _).mono ?_; rintro e w' ⟨rfl, hb⟩; have HB1 := Lib.hid hb; clear hb))
  go_ret
  exact ⟨rfl, HB2.out⟩


/-- What a search finds, but for where its latches lie. -/
def foundX (o : Option IV) : IV := (o.getD ⟨⟨#[]⟩, ⟨#[]⟩, 0, 0, .slice none 0 0, [], 0⟩).bare
theorem FoundAs.iv {w w0 w' : World} {o : Option IV} {e : Ending} (h : FoundAs w o e w') (hl : ∀ x, o = some x → IVok w0 x) :
    ∃ x : IV, e = .returned (.tuple #[.agg x.cells.toArray, .bool o.isSome]) ∧ IVok w' x ∧ x.bare = foundX o ∧ Below w.heap.size w w' := by
  cases o with
  | none =>
    obtain ⟨he, hb⟩ := h
    exact ⟨⟨⟨#[]⟩, ⟨#[]⟩, 0, 0, .slice none 0 0, [], 0⟩, he, ⟨by decide, by decide, by decide, by decide, by decide, RdV.nil _⟩, rfl, hb⟩
  | some x =>
    obtain ⟨v', he, ho, hb⟩ := h
    have hx := hl x rfl
    refine ⟨{ x with lv := v' }, he, ⟨hx.path, hx.item, hx.st, hx.bf, hx.due, ?_⟩, rfl, hb⟩
    rw [show x.ls.length = (icells x.ls).length from by simp [icells]] at ho
    exact rdv_of_ownS ho
theorem find_mem {l : List IV} {f : IV → Bool} {x : IV} (h : l.find? f = some x) : x ∈ l := List.mem_of_find?_eq_some h
theorem CopyC.cv {w w' : World} {c : CV} {e : Ending} (h : CopyC w c e w') (hc : CVok w c) :
    ∃ c2 : CV, e = .returned c2.val ∧ CVok w' c2 ∧ c2.id = c.id ∧ c2.model = c.model ∧ c2.clock = c.clock ∧ c2.insts.map IV.bare = c.insts.map IV.bare ∧ c2.docs.map DV.bare = c.docs.map DV.bare ∧ Below w.heap.size w w' := by
  obtain ⟨vI, vD, he, hi, hd, hb⟩ := h
  obtain ⟨li, h1, h2⟩ := hi.is (w0 := w) (fun x hx => hc.insts.2 x hx)
  obtain ⟨ld, h3, h4⟩ := hd.is (w0 := w) (fun x hx => hc.docs.2 x hx)
  exact ⟨⟨c.id, c.model, vI, vD, c.clock, li, ld⟩, he, ⟨hc.id, hc.clock, hc.model, h1, h3⟩, rfl, rfl, rfl, h2, h4, hb⟩
theorem sameD_bare {x y : DV} (h : x.bare = y.bare) : sameD x y = true := by
  obtain ⟨path, vk, vi, vb, vt, rv, rs⟩ := x
  obtain ⟨path2, vk2, vi2, vb2, vt2, rv2, rs2⟩ := y
  simp only [DV.bare, DV.mk.injEq] at h
  obtain ⟨rfl, rfl, rfl, rfl, rfl, _, rfl⟩ := h
  simp [sameD, sameVal, sameT]
theorem zip_all {α β : Type} {f : α → α → Bool} {g : α → β} (hf : ∀ x y, g x = g y → f x y = true) : ∀ {l1 l2 : List α}, l1.map g = l2.map g → ((l1.zip l2).all fun p => f p.1 p.2) = true
  | [], _, _ => by simp
  | x :: r, [], h => by simp
  | x :: r, y :: s, h => by
    simp only [List.map_cons, List.cons.injEq] at h
    simp only [List.zip_cons_cons, List.all_cons, Bool.and_eq_true]
    exact ⟨hf x y h.1, zip_all hf h.2⟩
theorem sameC_of {x y : CV} (h1 : x.id = y.id) (h2 : x.model = y.model) (h3 : x.clock = y.clock) (h4 : x.insts.map IV.bare = y.insts.map IV.bare) (h5 : x.docs.map DV.bare = y.docs.map DV.bare) : sameC x y = true := by
  have l4 : x.insts.length = y.insts.length := by simpa using congrArg List.length h4
  have l5 : x.docs.length = y.docs.length := by simpa using congrArg List.length h5
  unfold sameC sameDs
  rw [h1, h2, h3, decide_eq_true l4, decide_eq_true l5, zip_all (fun _ _ => sameD_bare) h5, zip_all (fun _ _ => sameI_bare) h4]
  simp
end Go.Proofs.Ytncloiimbclklaa
