/- Cases: slices.Equal at string and at int. Written by tools/genyw.py off XYs. -/
import Derived.Test.YtdnfoeoiommclaaDoorYv
import Derived.Deep.RegionLaw
import Derived.Deep.DeepCutAuto
namespace Go.Proofs.YtdnfoeoiommclaaDoor
open Go Go.RowKit Go.Shelf
set_option linter.unusedVariables false
set_option linter.unusedSimpArgs false

def sameZ (x y : List Int) : Bool := decide (x.length = y.length) && decide (x = y)

end Go.Proofs.YtdnfoeoiommclaaDoor

/- Cases: whether two instances are the same (the program's). Written by tools/genyx.py. -/
namespace Go.Proofs.YtdnfoeoiommclaaDoor
open Go Go.RowKit Go.Shelf
set_option linter.unusedVariables false
set_option linter.unusedSimpArgs false

end Go.Proofs.YtdnfoeoiommclaaDoor

/- Cases: whether two documents are the same (the program's). Written by tools/genyy.py. -/
namespace Go.Proofs.YtdnfoeoiommclaaDoor
open Go Go.RowKit Go.Shelf
set_option linter.unusedVariables false
set_option linter.unusedSimpArgs false

theorem run_eqlV (w : World) (k k2 n n2 : Int) (b b2 : Bool) (t t2 : ByteArray) : (binOp .eql 53 (.agg #[.int .i64 k, .int .i64 n, .bool b, .string t]) (.agg #[.int .i64 k2, .int .i64 n2, .bool b2, .string t2])).run Tryd.prog w = .ok (.bool (sameVal k k2 n n2 b b2 t t2)) w := by
  rw [run_eql_struct, run_equalIn_agg _ _ _ _ _ structV heldV]
  have hf := fieldsV
  generalize (Tryd.prog.fieldsOf 53).toList = fs at hf
  unfold sameVal
  rcases fs with _ | ⟨f0, _ | ⟨f1, _ | ⟨f2, _ | ⟨f3, _ | ⟨f4, r⟩⟩⟩⟩⟩
  · simp at hf
  · simp at hf
  · simp at hf
  · simp at hf
  · simp only [List.map_cons, List.map_nil, List.cons.injEq, Prod.mk.injEq, and_true] at hf
    obtain ⟨⟨n0, t0, o0⟩, ⟨n1, t1, o1⟩, ⟨n2', t2', o2⟩, n3, t3, o3⟩ := hf
    simp only [Op.eqFields, t0, t1, t2', t3, o0, o1, o2, o3]
    simp only [bne_iff_ne] at n0 n1 n2' n3
    rw [if_pos n0, if_pos n1, if_pos n2', if_pos n3]
    obtain ⟨q1, h1⟩ : ∃ q, (k == k2) = q := ⟨_, rfl⟩
    obtain ⟨q2, h2⟩ : ∃ q, (n == n2) = q := ⟨_, rfl⟩
    obtain ⟨q3, h3⟩ : ∃ q, (b == b2) = q := ⟨_, rfl⟩
    obtain ⟨q4, h4⟩ : ∃ q, (t.toList == t2.toList) = q := ⟨_, rfl⟩
    cases q1 <;> cases q2 <;> cases q3 <;> cases q4 <;> simp [go_sem, part, h1, h2, h3, h4]
  · simp at hf

end Go.Proofs.YtdnfoeoiommclaaDoor

/- Cases: slices.EqualFunc at the program's sameInst and sameDoc. Written by tools/genyz.py. -/
namespace Go.Proofs.YtdnfoeoiommclaaDoor
open Go Go.RowKit Go.Shelf
set_option linter.unusedVariables false
set_option linter.unusedSimpArgs false

def sameIs (l1 l2 : List IV) : Bool := decide (l1.length = l2.length) && (l1.zip l2).all fun p => sameI p.1 p.2

end Go.Proofs.YtdnfoeoiommclaaDoor

/- Cases: whether two cases are the same (the program's). Written by tools/genza.py. -/
namespace Go.Proofs.YtdnfoeoiommclaaDoor
open Go Go.RowKit Go.Shelf
set_option linter.unusedVariables false
set_option linter.unusedSimpArgs false

end Go.Proofs.YtdnfoeoiommclaaDoor

/- Cases: a case that a call made: its documents; rows half copied. Written by tools/genzb.py. -/
namespace Go.Proofs.YtdnfoeoiommclaaDoor
open Go Go.RowKit Go.Shelf
set_option linter.unusedVariables false
set_option linter.unusedSimpArgs false

theorem tcells_one (xs : List ByteArray) : ∀ u ∈ tcells xs, u.oneCell' = true := by
  intro u hu
  simp only [tcells, List.mem_map] at hu
  obtain ⟨b, _, rfl⟩ := hu
  rfl
theorem infoText : (Tryd.prog.info? 9).map (fun i => (i.zero, i.size, i.bytes)) = some (some (.string ⟨#[]⟩), 1, 16) := by kernel_rfl
theorem infoDoc : (Tryd.prog.info? 55).map (fun i => (i.zero, i.size, i.bytes)) = some (some (.agg #[.string ⟨#[]⟩, .int .i64 0, .int .i64 0, .bool false, .string ⟨#[]⟩, .slice none 0 0]), 6, 80) := by kernel_rfl

/-- An instance without the place of its latches. -/
def DV.bare (x : DV) : DV := { x with rv := .slice none 0 0 }
def flatD (l : List DV) : List Value := l.flatMap DV.cells
theorem flatD_snoc (l : List DV) (x : DV) : flatD (l ++ [x]) = flatD l ++ x.cells := by simp [flatD]
/-- A list of instances in memory from a block on. -/
def DocsOwn (w : World) (base : Nat) (v : Value) (l : List DV) : Prop :=
  ∃ l' : List DV, l'.map DV.bare = l.map DV.bare ∧ w.ownsRow base 55 6 v l'.length (flatD l') ∧ ∀ x ∈ l', OwnS w base 9 1 x.rv x.rs.length (tcells x.rs)
theorem DocsOwn.nil (w : World) (base : Nat) : DocsOwn w base (.slice none 0 0) [] := ⟨[], rfl, World.ownsRow_nil _ _ _ _, by simp⟩
theorem DocsOwn.len {w : World} {base : Nat} {v : Value} {l : List DV} (h : DocsOwn w base v l) : ∃ l' : List DV, l'.length = l.length ∧ w.ownsRow base 55 6 v l.length (flatD l') := by
  obtain ⟨l', h1, h2, _⟩ := h
  have hl : l'.length = l.length := by simpa using congrArg List.length h1
  exact ⟨l', hl, hl ▸ h2⟩
theorem DocsOwn.below {w w' : World} {base : Nat} {v : Value} {l : List DV} (h : DocsOwn w base v l) (hb : Below w.heap.size w w') : DocsOwn w' base v l := by
  obtain ⟨l', h1, h2, h3⟩ := h
  exact ⟨l', h1, ownr_below h2 hb, fun x hx => ownS_below (h3 x hx) hb⟩
/-- One more. -/
theorem DocsOwn.push {w W1 W3 W4 : World} {base : Nat} {v v2 : Value} {l : List DV} {y x : DV} {o : Obj} {l' : List DV} (h1 : l'.map DV.bare = l.map DV.bare) (h2 : w.ownsRow base 55 6 v l'.length (flatD l')) (h3 : ∀ x ∈ l', OwnS w base 9 1 x.rv x.rs.length (tcells x.rs))
    (hb : Below w.heap.size w W3) (hx : OwnS W3 base 9 1 x.rv x.rs.length (tcells x.rs)) (hxy : x.bare = y.bare)
    (hown : W4.ownsRow base 55 6 v2 (l'.length + 1) (flatD l' ++ x.cells)) (hg : (W3.alloc o).grownBy W4 v.ownBlock) : DocsOwn W4 base v2 (l ++ [y]) := by
  have h2' := ownr_below (ownr_below h2 hb) ((Below.refl _ W3).alloc (Nat.le_refl _) o)
  refine ⟨l' ++ [x], by simp [h1, hxy], by rw [flatD_snoc, List.length_append]; exact hown, fun z hz => ?_⟩
  rcases List.mem_append.1 hz with hz | hz
  · exact own_grow (by decide) h2' (ownS_below (ownS_below (h3 z hz) hb) ((Below.refl _ W3).alloc (Nat.le_refl _) o)) hg
  · rw [List.mem_singleton] at hz
    subst hz
    exact own_grow (by decide) h2' (ownS_below hx ((Below.refl _ W3).alloc (Nat.le_refl _) o)) hg
theorem DocsOwn.up {w : World} {base b' : Nat} {v : Value} {l : List DV} (h : DocsOwn w base v l) (hb : b' ≤ base) : DocsOwn w b' v l := by
  obtain ⟨l', h1, h2, h3⟩ := h
  refine ⟨l', h1, ⟨h2.1, h2.2.imp id ?_⟩, fun x hx => (h3 x hx).up hb⟩
  rintro ⟨g, cap, cur, e1, e2, e3⟩
  exact ⟨g, cap, cur, e1, Nat.le_trans hb e2, e3⟩

theorem flatD_get (l : List DV) (k : Nat) (hk : k < l.length) (j : Nat) (hj : j < 6) : (flatD l)[k * 6 + j]? = (l[k].cells)[j]? := by
  induction l generalizing k with
  | nil => simp at hk
  | cons x r ih =>
    have hx : x.cells.length = 6 := rfl
    cases k with
    | zero =>
      show (x.cells ++ flatD r)[0 * 6 + j]? = _
      rw [List.getElem?_append_left (by omega), Nat.zero_mul, Nat.zero_add]
      rfl
    | succ k =>
      show (x.cells ++ flatD r)[(k + 1) * 6 + j]? = _
      rw [List.getElem?_append_right (by omega), show (k + 1) * 6 + j - x.cells.length = k * 6 + j from by omega, ih k (by simpa using hk)]
      rfl
theorem DocsOwn.is {w w0 : World} {base : Nat} {v : Value} {l : List DV} (h : DocsOwn w base v l) (hl : ∀ x ∈ l, DVok w0 x) : ∃ l', DocsIs w v l' ∧ l'.map DV.bare = l.map DV.bare := by
  obtain ⟨l', h1, h2, h3⟩ := h
  refine ⟨l', ⟨?_, fun x hx => ?_⟩, h1⟩
  · rcases h2.2 with ⟨rfl, h0⟩ | ⟨g, cap, cur, hv, hb, hg, e1, e2, e3, e4⟩
    · rw [h0]
      exact ⟨none, 0, rfl, by simp, by simp, by simp, by simp⟩
    · refine ⟨_, cap, hv, e1, e2, by simp, fun hp => ⟨g, 0, rfl, (Array.getElem?_eq_some_iff.1 hg).1, fun k hk j hj => ?_⟩⟩
      rw [Nat.zero_add, cell_of_row w g _ cur 55 (0, 0) hg]
      have := flatD_get l' k hk j hj
      rw [← e4, List.getElem?_take, if_pos (by omega)] at this
      unfold rowD
      rw [List.getElem?_eq_getElem hk]
      show _ = (l'[k].cells)[j]?
      rw [← this]
      simp
  · obtain ⟨y, hy, hxy⟩ : ∃ y ∈ l, y.bare = x.bare := by
      have : x.bare ∈ l.map DV.bare := by rw [← h1]; exact List.mem_map.2 ⟨x, hx, rfl⟩
      obtain ⟨y, hy, he⟩ := List.mem_map.1 this
      exact ⟨y, hy, he⟩
    have hk := hl y hy
    obtain ⟨path, vk, vi, vb, vt, rv, rs⟩ := x
    obtain ⟨path2, vk2, vi2, vb2, vt2, rv2, rs2⟩ := y
    simp only [DV.bare, DV.mk.injEq] at hxy
    obtain ⟨rfl, rfl, rfl, rfl, rfl, _, rfl⟩ := hxy
    refine ⟨hk.path, hk.vt, hk.vk, hk.vi, ?_⟩
    have h4 := h3 _ hx
    dsimp only at h4 ⊢
    rw [show rs2.length = (tcells rs2).length from by simp [tcells]] at h4
    exact rdv_of_ownS h4
theorem flatI_len (l : List IV) : (flatI l).length = l.length * 6 := by
  induction l with
  | nil => rfl
  | cons x r ih => 
    show (x.cells ++ flatI r).length = _
    rw [List.length_append, ih, List.length_cons]
    have : x.cells.length = 6 := rfl
    omega
theorem flatI_one (l : List IV) (hl : ∀ x ∈ l, ∀ u ∈ x.cells, u.oneCell' = true) : ∀ u ∈ flatI l, u.oneCell' = true := by
  intro u hu
  unfold flatI at hu
  rw [List.mem_flatMap] at hu
  obtain ⟨x, hx, hu⟩ := hu
  exact hl x hx u hu
theorem InstsIs.src {w : World} {v : Value} {l : List IV} (h : InstsIs w v l) : Src Tryd.prog 6 22 v l.length (flatI l) w := by
  have h1 : ∀ x ∈ l, ∀ u ∈ x.cells, u.oneCell' = true := by
    intro x hx u hu
    obtain ⟨p, c, hp⟩ := (h.2 x hx).rl.form
    unfold IV.cells at hu
    rw [hp] at hu
    simp only [List.mem_cons, List.not_mem_nil, or_false] at hu
    rcases hu with rfl | rfl | rfl | rfl | rfl | rfl <;> rfl
  obtain ⟨a, c, rfl, h2, h3, h4, h5⟩ := h.1
  cases a with
  | none =>
    have := h4 rfl
    have h0 : l = [] := List.eq_nil_of_length_eq_zero (by omega)
    subst h0
    exact Src.ofNil w Tryd.underlying22 c
  | some a =>
    refine Src.ofSlice w Tryd.underlying22 a _ c (flatI l) (flatI_len l) (fun j u hj => ?_) (flatI_one l h1)
    have hjl := (List.getElem?_eq_some_iff.1 hj).1
    rw [flatI_len] at hjl
    obtain ⟨b, o, hp, hb, hx⟩ := h5 (by omega)
    obtain rfl : a = ⟨b, o, none⟩ := by simpa using hp
    have hd : j = j / 6 * 6 + j % 6 := by omega
    have hk : j / 6 < l.length := by omega
    have := hx (j / 6) hk (j % 6) (by omega)
    rw [Addr.add_lit]
    rw [← hd] at this
    rw [this]
    unfold rowI
    rw [List.getElem?_eq_getElem hk]
    show (l[j / 6].cells)[j % 6]? = _
    rw [← flatI_get l (j / 6) hk (j % 6) (by omega), ← hd, hj]
/-- A row whose first k are copied, the others still the originals'. -/
def InstsHalf (w : World) (base : Nat) (v : Value) (l : List IV) (k : Nat) : Prop :=
  ∃ l' : List IV, l'.map IV.bare = l.map IV.bare ∧ w.ownsRow base 51 6 v l'.length (flatI l') ∧ (∀ (j : Nat) x, l'[j]? = some x → j < k → OwnS w base 3 1 x.lv x.ls.length (icells x.ls)) ∧ ∀ j : Nat, k ≤ j → l'[j]? = l[j]?
theorem InstsHalf.zero {w : World} {base : Nat} {v : Value} {l : List IV} (h : w.ownsRow base 51 6 v l.length (flatI l)) : InstsHalf w base v l 0 :=
  ⟨l, rfl, h, fun j x hj hk => by omega, fun j hj => rfl⟩
theorem InstsHalf.full {w : World} {base : Nat} {v : Value} {l : List IV} {k : Nat} (h : InstsHalf w base v l k) (hk : l.length ≤ k) : InstsOwn w base v l := by
  obtain ⟨l', h1, h2, h3, h4⟩ := h
  have hl : l'.length = l.length := by simpa using congrArg List.length h1
  refine ⟨l', h1, h2, fun x hx => ?_⟩
  obtain ⟨i, hi, rfl⟩ := List.getElem_of_mem hx
  exact h3 i _ (List.getElem?_eq_getElem hi) (by omega)
theorem InstsHalf.below {w w' : World} {base : Nat} {v : Value} {l : List IV} {k : Nat} (h : InstsHalf w base v l k) (hb : Below w.heap.size w w') : InstsHalf w' base v l k := by
  obtain ⟨l', h1, h2, h3, h4⟩ := h
  exact ⟨l', h1, ownr_below h2 hb, fun j x hj hk => ownS_below (h3 j x hj hk) hb, h4⟩
/-- The k-th, still the original's, as it lies. -/
theorem InstsHalf.row {w : World} {base : Nat} {a : Option Addr} {n c : Nat} {l : List IV} {k : Nat} (h : InstsHalf w base (.slice a n c) l k) (hk : k < l.length) {x : IV} (hx : l[k]? = some x) :
    ∃ g, a = some ⟨g, 0, none⟩ ∧ base ≤ g ∧ g < w.heap.size ∧ (∃ cur, w.heap[g]? = some (.cells cur 51 (0, 0))) ∧ (∀ o, w.frozen? ⟨g, o, none⟩ = false) ∧ ∀ j, j < 6 → w.cell? ⟨g, 0 + (k * 6 + j), none⟩ = x.cells[j]? := by
  obtain ⟨l', h1, h2, h3, h4⟩ := h
  have hl : l'.length = l.length := by simpa using congrArg List.length h1
  rcases h2.2 with ⟨hv, h0⟩ | ⟨g, cap, cur, hv, hb, hg, e1, e2, e3, e4⟩
  · omega
  · simp only [Value.slice.injEq] at hv
    refine ⟨g, hv.1, hb, (Array.getElem?_eq_some_iff.1 hg).1, ⟨cur, hg⟩, fun o => by simp [World.frozen?, hg], fun j hj => ?_⟩
    rw [Nat.zero_add, cell_of_row w g _ cur 51 (0, 0) hg]
    have hk' : k < l'.length := by omega
    have := flatI_get l' k hk' j hj
    rw [← e4, List.getElem?_take, if_pos (by omega)] at this
    have hkx : l'[k] = x := by
      have := (h4 k (Nat.le_refl _)).trans hx
      rw [List.getElem?_eq_getElem hk'] at this
      exact Option.some.inj this
    rw [← hkx, ← this]
    simp

theorem flatD_len (l : List DV) : (flatD l).length = l.length * 6 := by
  induction l with
  | nil => rfl
  | cons x r ih => 
    show (x.cells ++ flatD r).length = _
    rw [List.length_append, ih, List.length_cons]
    have : x.cells.length = 6 := rfl
    omega
theorem flatD_one (l : List DV) (hl : ∀ x ∈ l, ∀ u ∈ x.cells, u.oneCell' = true) : ∀ u ∈ flatD l, u.oneCell' = true := by
  intro u hu
  unfold flatD at hu
  rw [List.mem_flatMap] at hu
  obtain ⟨x, hx, hu⟩ := hu
  exact hl x hx u hu
theorem DocsIs.src {w : World} {v : Value} {l : List DV} (h : DocsIs w v l) : Src Tryd.prog 6 23 v l.length (flatD l) w := by
  have h1 : ∀ x ∈ l, ∀ u ∈ x.cells, u.oneCell' = true := by
    intro x hx u hu
    obtain ⟨p, c, hp⟩ := (h.2 x hx).rr.form
    unfold DV.cells at hu
    rw [hp] at hu
    simp only [List.mem_cons, List.not_mem_nil, or_false] at hu
    rcases hu with rfl | rfl | rfl | rfl | rfl | rfl <;> rfl
  obtain ⟨a, c, rfl, h2, h3, h4, h5⟩ := h.1
  cases a with
  | none =>
    have := h4 rfl
    have h0 : l = [] := List.eq_nil_of_length_eq_zero (by omega)
    subst h0
    exact Src.ofNil w Tryd.underlying23 c
  | some a =>
    refine Src.ofSlice w Tryd.underlying23 a _ c (flatD l) (flatD_len l) (fun j u hj => ?_) (flatD_one l h1)
    have hjl := (List.getElem?_eq_some_iff.1 hj).1
    rw [flatD_len] at hjl
    obtain ⟨b, o, hp, hb, hx⟩ := h5 (by omega)
    obtain rfl : a = ⟨b, o, none⟩ := by simpa using hp
    have hd : j = j / 6 * 6 + j % 6 := by omega
    have hk : j / 6 < l.length := by omega
    have := hx (j / 6) hk (j % 6) (by omega)
    rw [Addr.add_lit]
    rw [← hd] at this
    rw [this]
    unfold rowD
    rw [List.getElem?_eq_getElem hk]
    show (l[j / 6].cells)[j % 6]? = _
    rw [← flatD_get l (j / 6) hk (j % 6) (by omega), ← hd, hj]
/-- A row whose first k are copied, the others still the originals'. -/
def DocsHalf (w : World) (base : Nat) (v : Value) (l : List DV) (k : Nat) : Prop :=
  ∃ l' : List DV, l'.map DV.bare = l.map DV.bare ∧ w.ownsRow base 55 6 v l'.length (flatD l') ∧ (∀ (j : Nat) x, l'[j]? = some x → j < k → OwnS w base 9 1 x.rv x.rs.length (tcells x.rs)) ∧ ∀ j : Nat, k ≤ j → l'[j]? = l[j]?
theorem DocsHalf.zero {w : World} {base : Nat} {v : Value} {l : List DV} (h : w.ownsRow base 55 6 v l.length (flatD l)) : DocsHalf w base v l 0 :=
  ⟨l, rfl, h, fun j x hj hk => by omega, fun j hj => rfl⟩
theorem DocsHalf.full {w : World} {base : Nat} {v : Value} {l : List DV} {k : Nat} (h : DocsHalf w base v l k) (hk : l.length ≤ k) : DocsOwn w base v l := by
  obtain ⟨l', h1, h2, h3, h4⟩ := h
  have hl : l'.length = l.length := by simpa using congrArg List.length h1
  refine ⟨l', h1, h2, fun x hx => ?_⟩
  obtain ⟨i, hi, rfl⟩ := List.getElem_of_mem hx
  exact h3 i _ (List.getElem?_eq_getElem hi) (by omega)
theorem DocsHalf.below {w w' : World} {base : Nat} {v : Value} {l : List DV} {k : Nat} (h : DocsHalf w base v l k) (hb : Below w.heap.size w w') : DocsHalf w' base v l k := by
  obtain ⟨l', h1, h2, h3, h4⟩ := h
  exact ⟨l', h1, ownr_below h2 hb, fun j x hj hk => ownS_below (h3 j x hj hk) hb, h4⟩
/-- The k-th, still the original's, as it lies. -/
theorem DocsHalf.row {w : World} {base : Nat} {a : Option Addr} {n c : Nat} {l : List DV} {k : Nat} (h : DocsHalf w base (.slice a n c) l k) (hk : k < l.length) {x : DV} (hx : l[k]? = some x) :
    ∃ g, a = some ⟨g, 0, none⟩ ∧ base ≤ g ∧ g < w.heap.size ∧ (∃ cur, w.heap[g]? = some (.cells cur 55 (0, 0))) ∧ (∀ o, w.frozen? ⟨g, o, none⟩ = false) ∧ ∀ j, j < 6 → w.cell? ⟨g, 0 + (k * 6 + j), none⟩ = x.cells[j]? := by
  obtain ⟨l', h1, h2, h3, h4⟩ := h
  have hl : l'.length = l.length := by simpa using congrArg List.length h1
  rcases h2.2 with ⟨hv, h0⟩ | ⟨g, cap, cur, hv, hb, hg, e1, e2, e3, e4⟩
  · omega
  · simp only [Value.slice.injEq] at hv
    refine ⟨g, hv.1, hb, (Array.getElem?_eq_some_iff.1 hg).1, ⟨cur, hg⟩, fun o => by simp [World.frozen?, hg], fun j hj => ?_⟩
    rw [Nat.zero_add, cell_of_row w g _ cur 55 (0, 0) hg]
    have hk' : k < l'.length := by omega
    have := flatD_get l' k hk' j hj
    rw [← e4, List.getElem?_take, if_pos (by omega)] at this
    have hkx : l'[k] = x := by
      have := (h4 k (Nat.le_refl _)).trans hx
      rw [List.getElem?_eq_getElem hk'] at this
      exact Option.some.inj this
    rw [← hkx, ← this]
    simp

end Go.Proofs.YtdnfoeoiommclaaDoor

/- Cases: an append onto nil; an element of a row of six cells is put. Written by tools/genzcA.py. -/
namespace Go.Proofs.YtdnfoeoiommclaaDoor
open Go Go.RowKit Go.Shelf
set_option linter.unusedVariables false
set_option linter.unusedSimpArgs false

section
variable {P : Program}
/-- An append onto nil. -/
theorem run_append_nil (w : World) (base : Nat) (t tx ty e : TypeId) (i : TypeInfo) (z : Value) (size bytes : Nat) (ht : P.underlying t = some (.slice e)) (hi : P.info? e = some i) (hz : i.zero = some z)
    (hsize : i.size = size) (hby : i.bytes = bytes) (hzs : z.cells.size = size) (hpos : 0 < size)
    (x : Value) (m : Nat) (news : List Value) (hs : Src P size tx x m news w)
    (h63 : m ≤ maxLen) (hbytes : m * bytes ≤ 140737488355328) (hbase : base ≤ w.heap.size) :
    ∃ v' w', (Builtin.append_ #[t, tx] ty #[.slice none 0 0, x]).run P w = .ok v' w' ∧ w'.ownsRow base e size v' m news ∧ w.grownBy w' none := by
  subst hby
  subst hsize
  have hsmall : m ≤ 9223372036854775807 := by simp only [maxLen] at h63; omega
  have hnl : news.length = m * i.size := hs.newsLen
  by_cases hm : m = 0
  · subst hm
    have hn : news = [] := List.eq_nil_of_length_eq_zero (by simpa using hnl)
    subst hn
    refine ⟨.slice none 0 0, w, ?_, World.ownsRow_nil _ _ _ _, ⟨rfl, rfl, rfl, Nat.le_refl _, fun _ _ _ => rfl⟩⟩
    have hc := hs.cells
    have hlx := hs.len
    rcases hs.kind with ⟨e', hk⟩ | hk <;>
      simp [Builtin.append_, run_underlying ht, run_underlying hk, sizeOf, typeInfo, hi, hlx, hc]
  · have hr := run_append_grow_src (P := P) w t tx ty e i z ht hi hz none 0 0 [] (run_firstCells_none w.drew i.size 0 0 0) x m news hs (by omega) (by omega) (growslice_fits (by omega) (by simpa using hbytes))
    have hge := grownCap_ge w (0 + m) 0 e
    have hcm : grownCap w (0 + m) 0 e ≤ maxLen := grownCap_le_maxLen w (0 + m) 0 e (by omega)
    refine ⟨_, _, hr, ⟨hnl, .inr ⟨w.heap.size, _, _, by rw [Nat.zero_add], hbase, heap_alloc_new w.drew _, by omega, hcm, ?_, ?_⟩⟩, ⟨rfl, rfl, rfl, by simp, fun k hk _ => Below.heap_alloc w.drew _ k hk⟩⟩
    · simp only [Array.size_append, List.size_toArray, size_zeroCells, hzs, List.nil_append]
      rw [hnl, ← Nat.add_mul]
      first | exact Nat.mul_le_mul_right _ (by omega) | (congr 1; omega) | (refine Nat.le_of_eq ?_; congr 1; omega)
    · simp only [Array.toList_append, List.nil_append]
      rw [← hnl]
      exact List.take_left
theorem wpList_append_nil {ops : Array Oper} {rest : List Oper} {o : Oper} {a : Act} {w : World} {Q : Exit → Act → World → Prop} (hgd : o.guard = none) (s x : Operand) (t tx : TypeId)
    (ho : o.op = .call { callee := .builtin .append, args := #[s, x], argTypes := #[t, tx] })
    (base : Nat) (e : TypeId) (i : TypeInfo) (z : Value) (size bytes : Nat) (ht : P.underlying t = some (.slice e)) (hi : P.info? e = some i) (hz : i.zero = some z)
    (hsize : i.size = size) (hby : i.bytes = bytes) (hzs : z.cells.size = size) (hpos : 0 < size)
    (hs : a.eval s = .slice none 0 0) (xv : Value) (m : Nat) (news : List Value) (hx : a.eval x = xv) (hsrc : Src P size tx xv m news w)
    (h63 : m ≤ maxLen) (hbytes : m * bytes ≤ 140737488355328) (hbase : base ≤ w.heap.size)
    (h : ∀ v' w', w'.ownsRow base e size v' m news → w.grownBy w' none → wpList P ops Q rest (a.put o.dst v') w') : wpList P ops Q (o :: rest) a w := by
  refine wpList_plain hgd fun K hK => ?_
  obtain ⟨v', w', hr, h2, h3⟩ := run_append_nil (P := P) w base t tx o.type e i z size bytes ht hi hz hsize hby hzs hpos xv m news hsrc h63 hbytes hbase
  unfold Oper.wp execOp
  simp only [ho, resolve, invoke, builtin, Sem.run_bind, Sem.run_pure, Result.andThen_ok, List.map_toArray, List.map_cons, List.map_nil, hs, hx, hr]
  exact hK _ _ (h v' w' h2 h3)
theorem step_append_nil {ops : Array Oper} {o : Oper} {a : Act} {w : World} {Q : Exit → Act → World → Prop} {K : Act → World → Prop} {E : Prop} (hgd : o.guard = none) (s x : Operand) (t tx : TypeId)
    (ho : o.op = .call { callee := .builtin .append, args := #[s, x], argTypes := #[t, tx] })
    (base : Nat) (e : TypeId) (i : TypeInfo) (z : Value) (size bytes : Nat) (ht : P.underlying t = some (.slice e)) (hi : P.info? e = some i) (hz : i.zero = some z)
    (hsize : i.size = size) (hby : i.bytes = bytes) (hzs : z.cells.size = size) (hpos : 0 < size)
    (hs : a.eval s = .slice none 0 0) (xv : Value) (m : Nat) (news : List Value) (hx : a.eval x = xv) (hsrc : Src P size tx xv m news w)
    (h63 : m ≤ maxLen) (hbytes : m * bytes ≤ 140737488355328) (hbase : base ≤ w.heap.size)
    (h : ∀ v' w', w'.ownsRow base e size v' m news → w.grownBy w' none → K (a.put o.dst v') w') :
    if Region.wanted o (yielded ops a.tmps) = true then Oper.wp P o a w K Q else E := by
  have hw : Region.wanted o (yielded ops a.tmps) = true := by simp [Region.wanted, hgd]
  rw [if_pos hw]
  obtain ⟨v', w', hr, h2, h3⟩ := run_append_nil (P := P) w base t tx o.type e i z size bytes ht hi hz hsize hby hzs hpos xv m news hsrc h63 hbytes hbase
  unfold Oper.wp execOp
  simp only [ho, resolve, invoke, builtin, Sem.run_bind, Sem.run_pure, Result.andThen_ok, List.map_toArray, List.map_cons, List.map_nil, hs, hx, hr]
  exact h v' w' h2 h3
end

/-- A copy of a case: the same, in memory of its own. -/
def CopyC (w : World) (c : CV) (e : Ending) (w' : World) : Prop :=
  ∃ vI vD, e = .returned (.agg #[.int .i64 c.id, .string c.model, vI, vD, .int .i64 c.clock]) ∧ InstsOwn w' w.heap.size vI c.insts ∧ DocsOwn w' w.heap.size vD c.docs ∧ Below w.heap.size w w'
theorem cells5w {w : World} {b : Nat} {c0 c1 c2 c3 c4 : Value} {T : TypeId} (h : w.heap[b]? = some (.cells #[c0, c1, c2, c3, c4] T (0, 0))) (v2 v3 : Value) :
    ((w.setCell ⟨b, 2, none⟩ v2).setCell ⟨b, 3, none⟩ v3).heap[b]? = some (.cells #[c0, c1, v2, v3, c4] T (0, 0)) := by
  simp [World.setCell, Array.getElem?_modify, h]
theorem set2_far {w : World} {b g : Nat} (v2 v3 : Value) (h : g ≠ b) : ((w.setCell ⟨b, 2, none⟩ v2).setCell ⟨b, 3, none⟩ v3).heap[g]? = w.heap[g]? := by
  simp [World.setCell, Array.getElem?_modify, Ne.symm h]

theorem cells_setI {cur : Array Value} {l : List IV} {n : Nat} (hl : l.length = n) (hcs : n * 6 ≤ cur.size) (ht : cur.toList.take (n * 6) = flatI l) {k : Nat} (hk : k < n) (x : IV) {L : List Value}
    (hL : ∀ q r, r < 6 → L[q * 6 + r]? = if q = k then x.cells[r]? else cur.toList[q * 6 + r]?) : L.take (n * 6) = flatI (l.set k x) := by
  apply List.ext_getElem?
  intro j
  by_cases hj : j < n * 6
  · have hd : j = j / 6 * 6 + j % 6 := by omega
    have hq : j / 6 < n := by omega
    rw [List.getElem?_take, if_pos hj, hd, hL (j / 6) (j % 6) (by omega), flatI_get (l.set k x) (j / 6) (by rw [List.length_set]; omega) (j % 6) (by omega), List.getElem_set]
    by_cases he : j / 6 = k
    · rw [if_pos he, if_pos he.symm]
    · rw [if_neg he, if_neg (Ne.symm he), ← flatI_get l (j / 6) (by omega) (j % 6) (by omega), ← ht, List.getElem?_take, if_pos (by omega)]
  · have h1 : (L.take (n * 6)).length ≤ n * 6 := by rw [List.length_take]; omega
    have h2 : (flatI (l.set k x)).length ≤ n * 6 := by rw [flatI_len, List.length_set, hl]; exact Nat.le_refl _
    rw [List.getElem?_eq_none (by omega), List.getElem?_eq_none (by omega)]
theorem bare_setI {l l' : List IV} {k : Nat} {x y : IV} (h1 : l'.map IV.bare = l.map IV.bare) (hy : l[k]? = some y) (hxy : x.bare = y.bare) : (l'.set k x).map IV.bare = l.map IV.bare := by
  rw [List.map_set, h1]
  apply List.ext_getElem?
  intro j
  rw [List.getElem?_set, List.length_map]
  by_cases hj : k = j
  · subst hj
    have := (List.getElem?_eq_some_iff.1 hy).1
    rw [if_pos rfl, if_pos this, List.getElem?_map, hy, Option.map_some, hxy]
  · rw [if_neg hj]

theorem cells_setD {cur : Array Value} {l : List DV} {n : Nat} (hl : l.length = n) (hcs : n * 6 ≤ cur.size) (ht : cur.toList.take (n * 6) = flatD l) {k : Nat} (hk : k < n) (x : DV) {L : List Value}
    (hL : ∀ q r, r < 6 → L[q * 6 + r]? = if q = k then x.cells[r]? else cur.toList[q * 6 + r]?) : L.take (n * 6) = flatD (l.set k x) := by
  apply List.ext_getElem?
  intro j
  by_cases hj : j < n * 6
  · have hd : j = j / 6 * 6 + j % 6 := by omega
    have hq : j / 6 < n := by omega
    rw [List.getElem?_take, if_pos hj, hd, hL (j / 6) (j % 6) (by omega), flatD_get (l.set k x) (j / 6) (by rw [List.length_set]; omega) (j % 6) (by omega), List.getElem_set]
    by_cases he : j / 6 = k
    · rw [if_pos he, if_pos he.symm]
    · rw [if_neg he, if_neg (Ne.symm he), ← flatD_get l (j / 6) (by omega) (j % 6) (by omega), ← ht, List.getElem?_take, if_pos (by omega)]
  · have h1 : (L.take (n * 6)).length ≤ n * 6 := by rw [List.length_take]; omega
    have h2 : (flatD (l.set k x)).length ≤ n * 6 := by rw [flatD_len, List.length_set, hl]; exact Nat.le_refl _
    rw [List.getElem?_eq_none (by omega), List.getElem?_eq_none (by omega)]
theorem bare_setD {l l' : List DV} {k : Nat} {x y : DV} (h1 : l'.map DV.bare = l.map DV.bare) (hy : l[k]? = some y) (hxy : x.bare = y.bare) : (l'.set k x).map DV.bare = l.map DV.bare := by
  rw [List.map_set, h1]
  apply List.ext_getElem?
  intro j
  rw [List.getElem?_set, List.length_map]
  by_cases hj : k = j
  · subst hj
    have := (List.getElem?_eq_some_iff.1 hy).1
    rw [if_pos rfl, if_pos this, List.getElem?_map, hy, Option.map_some, hxy]
  · rw [if_neg hj]

/-- Six cells of a row. -/
abbrev putR (w : World) (g m : Nat) (c0 c1 c2 c3 c4 c5 : Value) : World :=
  ((((((w.setCell ⟨g, m, none⟩ c0).setCell ⟨g, m + 1, none⟩ c1).setCell ⟨g, m + 2, none⟩ c2).setCell ⟨g, m + 3, none⟩ c3).setCell ⟨g, m + 4, none⟩ c4).setCell ⟨g, m + 5, none⟩ c5)
abbrev put6 (cur : Array Value) (m : Nat) (c0 c1 c2 c3 c4 c5 : Value) : Array Value :=
  ((((((cur.setIfInBounds m c0).setIfInBounds (m + 1) c1).setIfInBounds (m + 2) c2).setIfInBounds (m + 3) c3).setIfInBounds (m + 4) c4).setIfInBounds (m + 5) c5)
theorem putR_at {w : World} {g : Nat} {cur : Array Value} {T : TypeId} {z : Nat × Nat} (h : w.heap[g]? = some (.cells cur T z)) (m : Nat) (c0 c1 c2 c3 c4 c5 : Value) :
    (putR w g m c0 c1 c2 c3 c4 c5).heap[g]? = some (.cells (put6 cur m c0 c1 c2 c3 c4 c5) T z) := by
  unfold putR put6
  simp [World.setCell, Array.getElem?_modify, h]
theorem putR_far (w : World) (b m g : Nat) (hg : g ≠ b) (c0 c1 c2 c3 c4 c5 : Value) : (putR w b m c0 c1 c2 c3 c4 c5).heap[g]? = w.heap[g]? := by
  unfold putR
  simp [World.setCell, Array.getElem?_modify, Ne.symm hg]
theorem putR_below {w0 w : World} {B b : Nat} (h : Below B w0 w) (hb : B ≤ b) (m : Nat) (c0 c1 c2 c3 c4 c5 : Value) : Below B w0 (putR w b m c0 c1 c2 c3 c4 c5) :=
  (((((h.setCell (p := ⟨b, m, none⟩) hb c0).setCell (p := ⟨b, m + 1, none⟩) hb c1).setCell (p := ⟨b, m + 2, none⟩) hb c2).setCell (p := ⟨b, m + 3, none⟩) hb c3).setCell (p := ⟨b, m + 4, none⟩) hb c4).setCell (p := ⟨b, m + 5, none⟩) hb c5
theorem put6_get (cur : Array Value) (k : Nat) (hk : k * 6 + 6 ≤ cur.size) (c0 c1 c2 c3 c4 c5 : Value) (q r : Nat) (hr : r < 6) :
    (put6 cur (k * 6) c0 c1 c2 c3 c4 c5).toList[q * 6 + r]? = if q = k then [c0, c1, c2, c3, c4, c5][r]? else cur.toList[q * 6 + r]? := by
  have hk2 : k * 6 + 6 ≤ cur.toList.length := by simpa using hk
  unfold put6
  simp only [Array.toList_setIfInBounds]
  generalize cur.toList = L at hk2
  by_cases hq : q = k
  · subst hq
    rw [if_pos rfl]
    rcases (show r = 0 ∨ r = 1 ∨ r = 2 ∨ r = 3 ∨ r = 4 ∨ r = 5 by omega) with rfl | rfl | rfl | rfl | rfl | rfl <;> simp [List.getElem?_set] <;> omega
  · rw [if_neg hq]
    simp only [List.getElem?_set, List.length_set]
    repeat rw [if_neg (by omega)]
/-- Rows of two types lie apart. -/
theorem ownr_far {w : World} {b g n s : Nat} {e T : TypeId} {v : Value} {xs : List Value} {cur : Array Value} {z : Nat × Nat} (hne : e ≠ T) (hg : w.heap[g]? = some (.cells cur T z)) (h : w.ownsRow b e s v n xs) : ∀ k, v.ownBlock = some k → k ≠ g := by
  intro k hk he
  rcases h.2 with ⟨rfl, _⟩ | ⟨g1, cap, cur1, rfl, _, h3, _⟩
  · simp [Value.ownBlock] at hk
  · simp [Value.ownBlock] at hk
    subst hk he
    rw [hg] at h3
    simp only [Option.some.injEq, Obj.cells.injEq] at h3
    exact hne h3.2.1.symm
theorem ownS_far {w : World} {b g n s : Nat} {e T : TypeId} {v : Value} {xs : List Value} {cur : Array Value} {z : Nat × Nat} (hne : e ≠ T) (hg : w.heap[g]? = some (.cells cur T z)) (h : OwnS w b e s v n xs) : ∀ k, v.ownBlock = some k → k ≠ g := by
  intro k hk he
  rcases h.2 with ⟨rfl, _⟩ | ⟨g1, off, cap, cur1, rfl, _, h3, _⟩
  · simp [Value.ownBlock] at hk
  · simp [Value.ownBlock] at hk
    subst hk he
    rw [hg] at h3
    simp only [Option.some.injEq, Obj.cells.injEq] at h3
    exact hne h3.2.1.symm
theorem InstsHalf.step {w W : World} {base g n c : Nat} {l : List IV} {k : Nat} {x y : IV} (h : InstsHalf w base (.slice (some ⟨g, 0, none⟩) n c) l k) (hk : k < l.length) (hb : Below w.heap.size w W) (hy : l[k]? = some y) (hxy : x.bare = y.bare)
    (hx : OwnS W base 3 1 x.lv x.ls.length (icells x.ls)) : InstsHalf (putR W g (k * 6) (.string x.path) (.string x.item) (.int .i64 x.st) (.int .i64 x.bf) x.lv (.int .i64 x.due)) base (.slice (some ⟨g, 0, none⟩) n c) l (k + 1) := by
  obtain ⟨l', h1, h2, h3, h4⟩ := h
  have hl : l'.length = l.length := by simpa using congrArg List.length h1
  have h2' := ownr_below h2 hb
  rcases h2'.2 with ⟨hv, h0⟩ | ⟨g1, cap, cur, hv, hbg, hg, e1, e2, e3, e4⟩
  · cases hv
  · simp only [Value.slice.injEq, Option.some.injEq, Addr.mk.injEq, and_true] at hv
    obtain ⟨rfl, rfl, rfl⟩ := hv
    have hcz : l'.length * 6 ≤ cur.size := by have := Nat.mul_le_mul_right 6 e1; omega
    refine ⟨l'.set k x, bare_setI h1 hy hxy, ⟨by rw [flatI_len], .inr ⟨g, c, _, by rw [List.length_set], hbg, putR_at hg _ _ _ _ _ _ _, by rw [List.length_set]; exact e1, e2, by simpa [put6] using e3, ?_⟩⟩, fun j z hz hj => ?_, fun j hj => ?_⟩
    · rw [List.length_set]
      exact cells_setI rfl hcz e4 (by omega) x (fun q r hr => put6_get cur k (by omega) _ _ _ _ _ _ q r hr)
    · have hw : OwnS W base 3 1 z.lv z.ls.length (icells z.ls) := by
        rw [List.getElem?_set] at hz
        by_cases he : k = j
        · rw [if_pos he, if_pos (by omega)] at hz
          cases hz
          exact hx
        · rw [if_neg he] at hz
          exact ownS_below (h3 j z hz (by omega)) hb
      exact hw.keep fun b hb2 => putR_far W g _ b (ownS_far (by decide) hg hw b hb2) _ _ _ _ _ _
    · rw [List.getElem?_set, if_neg (by omega)]
      exact h4 j (by omega)
theorem DocsHalf.step {w W : World} {base g n c : Nat} {l : List DV} {k : Nat} {y : DV} {v : Value} (h : DocsHalf w base (.slice (some ⟨g, 0, none⟩) n c) l k) (hk : k < l.length) (hb : Below w.heap.size w W) (hy : l[k]? = some y)
    (hx : OwnS W base 9 1 v y.rs.length (tcells y.rs)) : DocsHalf (W.setCell ⟨g, k * 6 + 5, none⟩ v) base (.slice (some ⟨g, 0, none⟩) n c) l (k + 1) := by
  obtain ⟨l', h1, h2, h3, h4⟩ := h
  have hl : l'.length = l.length := by simpa using congrArg List.length h1
  have h2' := ownr_below h2 hb
  rcases h2'.2 with ⟨hv, h0⟩ | ⟨g1, cap, cur, hv, hbg, hg, e1, e2, e3, e4⟩
  · cases hv
  · simp only [Value.slice.injEq, Option.some.injEq, Addr.mk.injEq, and_true] at hv
    obtain ⟨rfl, rfl, rfl⟩ := hv
    have hcz : l'.length * 6 ≤ cur.size := by have := Nat.mul_le_mul_right 6 e1; omega
    have hat : (W.setCell ⟨g, k * 6 + 5, none⟩ v).heap[g]? = some (.cells (cur.setIfInBounds (k * 6 + 5) v) 55 (0, 0)) := by simp [World.setCell, Array.getElem?_modify, hg]
    have hfar : ∀ b, b ≠ g → (W.setCell ⟨g, k * 6 + 5, none⟩ v).heap[b]? = W.heap[b]? := fun b hb => Below.heap_setCell _ _ _ _ hb
    have hky : l'[k]? = some y := by rw [h4 k (Nat.le_refl _)]; exact hy
    refine ⟨l'.set k { y with rv := v }, bare_setD h1 hy rfl, ⟨by rw [flatD_len], .inr ⟨g, c, _, by rw [List.length_set], hbg, hat, by rw [List.length_set]; exact e1, e2, by simpa using e3, ?_⟩⟩, fun j z hz hj => ?_, fun j hj => ?_⟩
    · rw [List.length_set]
      refine cells_setD rfl hcz e4 (by omega) { y with rv := v } (fun q r hr => ?_)
      rw [Array.toList_setIfInBounds, List.getElem?_set]
      by_cases hq : q = k
      · subst hq
        rw [if_pos rfl]
        by_cases h5 : r = 5
        · subst h5
          rw [if_pos rfl, if_pos (by simp; omega)]
          rfl
        · rw [if_neg (by omega)]
          have hq' : q < l'.length := by omega
          have := flatD_get l' q hq' r hr
          rw [← e4, List.getElem?_take, if_pos (by omega)] at this
          rw [this]
          have : l'[q] = y := by rw [List.getElem?_eq_getElem hq'] at hky; exact Option.some.inj hky
          rw [this]
          rcases (show r = 0 ∨ r = 1 ∨ r = 2 ∨ r = 3 ∨ r = 4 by omega) with rfl | rfl | rfl | rfl | rfl <;> rfl
      · rw [if_neg hq, if_neg (by omega)]
    · have hw : OwnS W base 9 1 z.rv z.rs.length (tcells z.rs) := by
        rw [List.getElem?_set] at hz
        by_cases he : k = j
        · rw [if_pos he, if_pos (by omega)] at hz
          cases hz
          exact hx
        · rw [if_neg he] at hz
          exact ownS_below (h3 j z hz (by omega)) hb
      exact hw.keep fun b hb2 => hfar b (ownS_far (by decide) hg hw b hb2)
    · rw [List.getElem?_set, if_neg (by omega)]
      exact h4 j (by omega)
/-- A list of instances stays while a row of another type is written. -/
theorem InstsOwn.far {w W : World} {base g : Nat} {v : Value} {l : List IV} {T : TypeId} {cur : Array Value} {z : Nat × Nat} (h : InstsOwn w base v l) (h1 : 51 ≠ T) (h2 : 3 ≠ T) (hg : w.heap[g]? = some (.cells cur T z)) (hf : ∀ b, b ≠ g → W.heap[b]? = w.heap[b]?) : InstsOwn W base v l := by
  obtain ⟨l', k1, k2, k3⟩ := h
  exact ⟨l', k1, ownr_keep k2 fun b hb => hf b (ownr_far h1 hg k2 b hb), fun x hx => (k3 x hx).keep fun b hb => hf b (ownS_far h2 hg (k3 x hx) b hb)⟩
theorem DocsOwn.far {w W : World} {base g : Nat} {v : Value} {l : List DV} {T : TypeId} {cur : Array Value} {z : Nat × Nat} (h : DocsOwn w base v l) (h1 : 55 ≠ T) (h2 : 9 ≠ T) (hg : w.heap[g]? = some (.cells cur T z)) (hf : ∀ b, b ≠ g → W.heap[b]? = w.heap[b]?) : DocsOwn W base v l := by
  obtain ⟨l', k1, k2, k3⟩ := h
  exact ⟨l', k1, ownr_keep k2 fun b hb => hf b (ownr_far h1 hg k2 b hb), fun x hx => (k3 x hx).keep fun b hb => hf b (ownS_far h2 hg (k3 x hx) b hb)⟩
end Go.Proofs.YtdnfoeoiommclaaDoor
