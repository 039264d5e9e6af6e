/- An index at constants: rows as they read; slices.Clone at the model's types. Written by tools/genxa.py. -/
import Derived.Test.YtdnfoeoiommclaaDoorByS
import Derived.Test.YtdnfoeoiommclaaDoorYn
import Derived.OwnWalk
import Derived.WalkSpells
import Derived.Deep.AppendSrc
import Derived.Shelf.Abstract
namespace Go.Proofs.YtdnfoeoiommclaaDoor
open Go Go.RowKit Go.Shelf
set_option linter.unusedVariables false
set_option linter.unusedSimpArgs false

/-- Blocks from B on are as they were. -/
def Keeps (B : Nat) (w w' : World) : Prop := w.heap.size ≤ w'.heap.size ∧ ∀ k, B ≤ k → k < w.heap.size → w'.heap[k]? = w.heap[k]?
theorem Keeps.refl (B : Nat) (w : World) : Keeps B w w := ⟨Nat.le_refl _, fun _ _ _ => rfl⟩
theorem Keeps.trans {B : Nat} {w w1 w2 : World} (h : Keeps B w w1) (k : Keeps B w1 w2) : Keeps B w w2 := ⟨Nat.le_trans h.1 k.1, fun g hb hg => (k.2 g hb (Nat.lt_of_lt_of_le hg h.1)).trans (h.2 g hb hg)⟩
theorem Keeps.ofBelow {w w' : World} (B : Nat) (h : Below w.heap.size w w') : Keeps B w w' := ⟨h.size, fun k _ hk => h.block k hk⟩
theorem Keeps.setCell (B : Nat) (w : World) {b o : Nat} (hb : b < B) (u : Value) : Keeps B w (w.setCell ⟨b, o, none⟩ u) := by
  refine ⟨by simp [World.setCell], fun k hk _ => ?_⟩
  have : b ≠ k := by omega
  simp [World.setCell, Array.getElem?_modify, this]
/-- A slice of n elements of so many cells, as it reads, in a block from B on. -/
def Row (B : Nat) (w : World) (v : Value) (n size : Nat) (xs : List Value) : Prop :=
  ∃ g off c, v = .slice (some ⟨g, off, none⟩) n c ∧ B ≤ g ∧ xs.length = n * size ∧ n ≤ c ∧ c ≤ maxLen ∧ g < w.heap.size ∧ (∀ j u, xs[j]? = some u → w.cell? ⟨g, off + j, none⟩ = some u) ∧ (∀ u ∈ xs, u.oneCell' = true)
theorem Row.keep {B : Nat} {w w' : World} {v : Value} {n size : Nat} {xs : List Value} (h : Row B w v n size xs) (hb : Keeps B w w') : Row B w' v n size xs := by
  obtain ⟨g, off, c, e, hB, h1, h2, h3, hg, h4, h5⟩ := h
  refine ⟨g, off, c, e, hB, h1, h2, h3, Nat.lt_of_lt_of_le hg hb.1, fun j u hu => ?_, h5⟩
  have := hb.2 g hB hg
  rw [← h4 j u hu]
  simp [World.cell?, this]
theorem Row.mono {B B' : Nat} {w : World} {v : Value} {n size : Nat} {xs : List Value} (h : Row B w v n size xs) (hb : B' ≤ B) : Row B' w v n size xs := by
  obtain ⟨g, off, c, e, hB, r⟩ := h
  exact ⟨g, off, c, e, Nat.le_trans hb hB, r⟩
theorem Row.below {B : Nat} {w w' : World} {v : Value} {n size : Nat} {xs : List Value} (h : Row B w v n size xs) (hb : Below w.heap.size w w') : Row B w' v n size xs := h.keep (.ofBelow B hb)
theorem Row.src {P : Program} {t e' : TypeId} (hk : P.underlying t = some (.slice e')) {B : Nat} {w : World} {v : Value} {n size : Nat} {xs : List Value} (h : Row B w v n size xs) : Src P size t v n xs w := by
  obtain ⟨g, off, c, rfl, hB, h1, h2, h3, hg, h4, h5⟩ := h
  refine Src.ofSlice w hk ⟨g, off, none⟩ n c xs h1 (fun j u hu => ?_) h5
  rw [Addr.add_lit]
  exact h4 j u hu
theorem rowX_form {B : Nat} {w : World} {v : Value} {n size : Nat} {xs : List Value} (h : Row B w v n size xs) : ∃ g off c, v = .slice (some ⟨g, off, none⟩) n c := by
  obtain ⟨g, off, c, e, _⟩ := h
  exact ⟨g, off, c, e⟩
/-- What a copy of a row is. -/
def CloneOf (w : World) (E : TypeId) (size n : Nat) (xs : List Value) (e : Ending) (w' : World) : Prop := ∃ v', e = .returned v' ∧ OwnS w' w.heap.size E size v' n xs ∧ Below w.heap.size w w'
theorem emptyX_own (w : World) (E : TypeId) (size : Nat) : OwnS (w.alloc (.cells #[] E)) w.heap.size E size (.slice (some ⟨w.heap.size, 0, none⟩) 0 0) 0 [] :=
  ⟨by simp, .inr ⟨_, 0, 0, #[], rfl, Nat.le_refl _, heap_alloc_new w _, Nat.le_refl _, Nat.zero_le _, by simp, by simp⟩⟩

set_option maxRecDepth 100000 in
theorem cloneSent_nil (w : World) : Calls Tryd.prog 58 #[.slice none 0 0] w fun e w' => e = .returned (.slice none 0 0) ∧ w' = w := by
  have hnil := @Lib.run_eql_slice_nil Tryd.prog
  have hu := Tryd.underlying33
  go_enter Tryd.func58, Tryd.ntmps58
  go_wp2_with fail
  go_ret
  exact ⟨rfl, rfl⟩
theorem infoXSent : (Tryd.prog.info? 60).map (fun i => (i.zero, i.size, i.bytes)) = some (some (.agg #[.slice none 0 0, .string ⟨#[]⟩]), 2, 40) := by kernel_rfl
set_option maxRecDepth 100000 in
theorem cloneSent_c (w : World) (v : Value) (n : Nat) (xs : List Value) (B : Nat) (h : Row B w v n 2 xs) (hn : n ≤ 1000) : Calls Tryd.prog 58 #[v] w (CloneOf w 60 2 n xs) := by
  obtain ⟨i0, hi, hz0, hz1, hz2⟩ := info_parts infoXSent
  have HS := Lib.hid (fun (W : World) (hb : Below w.heap.size w W) => (h.below hb).src (P := Tryd.prog) (t := 33) Tryd.underlying33)
  obtain ⟨g, off, c, hv⟩ := rowX_form h
  have HN := Lib.hid hn
  clear h hn
  subst hv
  have hnil := @Lib.run_eql_slice_nil Tryd.prog
  have hu := Tryd.underlying33
  go_enter Tryd.func58, Tryd.ntmps58
  go_wp2_with (at_builtin; refine wpList_append_S rfl _ _ 33 33 rfl w.heap.size 60 i0 (.agg #[.slice none 0 0, .string ⟨#[]⟩]) 2 40 Tryd.underlying33 hi hz0 hz1 hz2 rfl (Nat.succ_pos _) (.slice (some ⟨w.heap.size, 0, none⟩) 0 0) 0 [] rfl (emptyX_own _ _ _) _ n xs rfl (HS.out _ ((Below.refl _ _).alloc (Nat.le_refl _) _)) ?c1 ?c2 ?c3 ?_)
  case c1 => have := HN.out; unfold maxLen; omega
  case c2 => have := HN.out; omega
  case c3 => simp
  intro v' w' hown hgrow hl
  have HO := Lib.hid hown
  have HB := Lib.hid (show Below w.heap.size w w' from ((Below.refl _ _).alloc (Nat.le_refl _) _).grown hgrow (by simp) (fun k ek => by
    have : w.heap.size = k := Option.some.inj ek
    omega))
  clear hown hgrow hl
  go_wp2_with fail
  go_ret
  exact ⟨_, rfl, HO.out, HB.out⟩

set_option maxRecDepth 100000 in
theorem cloneOn_nil (w : World) : Calls Tryd.prog 59 #[.slice none 0 0] w fun e w' => e = .returned (.slice none 0 0) ∧ w' = w := by
  have hnil := @Lib.run_eql_slice_nil Tryd.prog
  have hu := Tryd.underlying58
  go_enter Tryd.func59, Tryd.ntmps59
  go_wp2_with fail
  go_ret
  exact ⟨rfl, rfl⟩
theorem infoXOn : (Tryd.prog.info? 57).map (fun i => (i.zero, i.size, i.bytes)) = some (some (.agg #[.string ⟨#[]⟩, .string ⟨#[]⟩, .int .i64 0]), 3, 40) := by kernel_rfl
set_option maxRecDepth 100000 in
theorem cloneOn_c (w : World) (v : Value) (n : Nat) (xs : List Value) (B : Nat) (h : Row B w v n 3 xs) (hn : n ≤ 1000) : Calls Tryd.prog 59 #[v] w (CloneOf w 57 3 n xs) := by
  obtain ⟨i0, hi, hz0, hz1, hz2⟩ := info_parts infoXOn
  have HS := Lib.hid (fun (W : World) (hb : Below w.heap.size w W) => (h.below hb).src (P := Tryd.prog) (t := 58) Tryd.underlying58)
  obtain ⟨g, off, c, hv⟩ := rowX_form h
  have HN := Lib.hid hn
  clear h hn
  subst hv
  have hnil := @Lib.run_eql_slice_nil Tryd.prog
  have hu := Tryd.underlying58
  go_enter Tryd.func59, Tryd.ntmps59
  go_wp2_with (at_builtin; refine wpList_append_S rfl _ _ 58 58 rfl w.heap.size 57 i0 (.agg #[.string ⟨#[]⟩, .string ⟨#[]⟩, .int .i64 0]) 3 40 Tryd.underlying58 hi hz0 hz1 hz2 rfl (Nat.succ_pos _) (.slice (some ⟨w.heap.size, 0, none⟩) 0 0) 0 [] rfl (emptyX_own _ _ _) _ n xs rfl (HS.out _ ((Below.refl _ _).alloc (Nat.le_refl _) _)) ?c1 ?c2 ?c3 ?_)
  case c1 => have := HN.out; unfold maxLen; omega
  case c2 => have := HN.out; omega
  case c3 => simp
  intro v' w' hown hgrow hl
  have HO := Lib.hid hown
  have HB := Lib.hid (show Below w.heap.size w w' from ((Below.refl _ _).alloc (Nat.le_refl _) _).grown hgrow (by simp) (fun k ek => by
    have : w.heap.size = k := Option.some.inj ek
    omega))
  clear hown hgrow hl
  go_wp2_with fail
  go_ret
  exact ⟨_, rfl, HO.out, HB.out⟩

set_option maxRecDepth 100000 in
theorem cloneItem_nil (w : World) : Calls Tryd.prog 60 #[.slice none 0 0] w fun e w' => e = .returned (.slice none 0 0) ∧ w' = w := by
  have hnil := @Lib.run_eql_slice_nil Tryd.prog
  have hu := Tryd.underlying34
  go_enter Tryd.func60, Tryd.ntmps60
  go_wp2_with fail
  go_ret
  exact ⟨rfl, rfl⟩
theorem infoXItem : (Tryd.prog.info? 36).map (fun i => (i.zero, i.size, i.bytes)) = some (some (.agg #[.string ⟨#[]⟩, .string ⟨#[]⟩, .int .i64 0, .slice none 0 0, .slice none 0 0, .string ⟨#[]⟩, .string ⟨#[]⟩, .string ⟨#[]⟩, .bool false, .bool false, .int .i64 0, .slice none 0 0, .slice none 0 0, .slice none 0 0]), 14, 224) := by kernel_rfl
set_option maxRecDepth 100000 in
theorem cloneItem_c (w : World) (v : Value) (n : Nat) (xs : List Value) (B : Nat) (h : Row B w v n 14 xs) (hn : n ≤ 1000) : Calls Tryd.prog 60 #[v] w (CloneOf w 36 14 n xs) := by
  obtain ⟨i0, hi, hz0, hz1, hz2⟩ := info_parts infoXItem
  have HS := Lib.hid (fun (W : World) (hb : Below w.heap.size w W) => (h.below hb).src (P := Tryd.prog) (t := 34) Tryd.underlying34)
  obtain ⟨g, off, c, hv⟩ := rowX_form h
  have HN := Lib.hid hn
  clear h hn
  subst hv
  have hnil := @Lib.run_eql_slice_nil Tryd.prog
  have hu := Tryd.underlying34
  go_enter Tryd.func60, Tryd.ntmps60
  go_wp2_with (at_builtin; refine wpList_append_S rfl _ _ 34 34 rfl w.heap.size 36 i0 (.agg #[.string ⟨#[]⟩, .string ⟨#[]⟩, .int .i64 0, .slice none 0 0, .slice none 0 0, .string ⟨#[]⟩, .string ⟨#[]⟩, .string ⟨#[]⟩, .bool false, .bool false, .int .i64 0, .slice none 0 0, .slice none 0 0, .slice none 0 0]) 14 224 Tryd.underlying34 hi hz0 hz1 hz2 rfl (Nat.succ_pos _) (.slice (some ⟨w.heap.size, 0, none⟩) 0 0) 0 [] rfl (emptyX_own _ _ _) _ n xs rfl (HS.out _ ((Below.refl _ _).alloc (Nat.le_refl _) _)) ?c1 ?c2 ?c3 ?_)
  case c1 => have := HN.out; unfold maxLen; omega
  case c2 => have := HN.out; omega
  case c3 => simp
  intro v' w' hown hgrow hl
  have HO := Lib.hid hown
  have HB := Lib.hid (show Below w.heap.size w w' from ((Below.refl _ _).alloc (Nat.le_refl _) _).grown hgrow (by simp) (fun k ek => by
    have : w.heap.size = k := Option.some.inj ek
    omega))
  clear hown hgrow hl
  go_wp2_with fail
  go_ret
  exact ⟨_, rfl, HO.out, HB.out⟩

set_option maxRecDepth 100000 in
theorem cloneHook_nil (w : World) : Calls Tryd.prog 12 #[.slice none 0 0] w fun e w' => e = .returned (.slice none 0 0) ∧ w' = w := by
  have hnil := @Lib.run_eql_slice_nil Tryd.prog
  have hu := Tryd.underlying45
  go_enter Tryd.func12, Tryd.ntmps12
  go_wp2_with fail
  go_ret
  exact ⟨rfl, rfl⟩
theorem infoXHook : (Tryd.prog.info? 63).map (fun i => (i.zero, i.size, i.bytes)) = some (some (.agg #[.string ⟨#[]⟩, .bool false, .int .i64 0, .int .i64 0]), 4, 40) := by kernel_rfl
set_option maxRecDepth 100000 in
theorem cloneHook_c (w : World) (v : Value) (n : Nat) (xs : List Value) (B : Nat) (h : Row B w v n 4 xs) (hn : n ≤ 1000) : Calls Tryd.prog 12 #[v] w (CloneOf w 63 4 n xs) := by
  obtain ⟨i0, hi, hz0, hz1, hz2⟩ := info_parts infoXHook
  have HS := Lib.hid (fun (W : World) (hb : Below w.heap.size w W) => (h.below hb).src (P := Tryd.prog) (t := 45) Tryd.underlying45)
  obtain ⟨g, off, c, hv⟩ := rowX_form h
  have HN := Lib.hid hn
  clear h hn
  subst hv
  have hnil := @Lib.run_eql_slice_nil Tryd.prog
  have hu := Tryd.underlying45
  go_enter Tryd.func12, Tryd.ntmps12
  go_wp2_with (at_builtin; refine wpList_append_S rfl _ _ 45 45 rfl w.heap.size 63 i0 (.agg #[.string ⟨#[]⟩, .bool false, .int .i64 0, .int .i64 0]) 4 40 Tryd.underlying45 hi hz0 hz1 hz2 rfl (Nat.succ_pos _) (.slice (some ⟨w.heap.size, 0, none⟩) 0 0) 0 [] rfl (emptyX_own _ _ _) _ n xs rfl (HS.out _ ((Below.refl _ _).alloc (Nat.le_refl _) _)) ?c1 ?c2 ?c3 ?_)
  case c1 => have := HN.out; unfold maxLen; omega
  case c2 => have := HN.out; omega
  case c3 => simp
  intro v' w' hown hgrow hl
  have HO := Lib.hid hown
  have HB := Lib.hid (show Below w.heap.size w w' from ((Below.refl _ _).alloc (Nat.le_refl _) _).grown hgrow (by simp) (fun k ek => by
    have : w.heap.size = k := Option.some.inj ek
    omega))
  clear hown hgrow hl
  go_wp2_with fail
  go_ret
  exact ⟨_, rfl, HO.out, HB.out⟩

set_option maxRecDepth 100000 in
theorem cloneText_nil (w : World) : Calls Tryd.prog 45 #[.slice none 0 0] w fun e w' => e = .returned (.slice none 0 0) ∧ w' = w := by
  have hnil := @Lib.run_eql_slice_nil Tryd.prog
  have hu := Tryd.underlying31
  go_enter Tryd.func45, Tryd.ntmps45
  go_wp2_with fail
  go_ret
  exact ⟨rfl, rfl⟩
end Go.Proofs.YtdnfoeoiommclaaDoor

/- An index at constants: copies of sentries and items (one-element lists). -/
namespace Go.Proofs.YtdnfoeoiommclaaDoor
open Go Go.RowKit Go.Shelf
set_option linter.unusedVariables false
set_option linter.unusedSimpArgs false

/-- A row of a call's own, cell for cell. -/
def Own1 (w : World) (g off : Nat) (E : TypeId) (n size c : Nat) (xs : List Value) : Prop :=
  ∃ cur, w.heap[g]? = some (.cells cur E (0, 0)) ∧ xs.length = n * size ∧ n ≤ c ∧ c ≤ maxLen ∧ ∀ j, j < xs.length → cur[off + j]? = xs[j]?
theorem OwnS.own1 {w : World} {base : Nat} {e : TypeId} {size : Nat} {v : Value} {n : Nat} {xs : List Value} (h : OwnS w base e size v n xs) (hn : 0 < n) :
    ∃ g off c, v = .slice (some ⟨g, off, none⟩) n c ∧ base ≤ g ∧ g < w.heap.size ∧ Own1 w g off e n size c xs := by
  have hl := h.1
  rcases h.2 with ⟨_, h0⟩ | ⟨g, off, cap, cur, rfl, hb, hg, k1, k2, k3, k4⟩
  · omega
  · refine ⟨g, off, cap, rfl, hb, (Array.getElem?_eq_some_iff.1 hg).1, cur, hg, hl, k1, k2, fun j hj => ?_⟩
    have : xs[j]? = ((cur.toList.drop off).take (n * size))[j]? := by rw [k4]
    rw [this, List.getElem?_take, if_pos (by omega), List.getElem?_drop]
    simp
theorem Own1.cell {w : World} {g off : Nat} {E : TypeId} {n size c : Nat} {xs : List Value} (h : Own1 w g off E n size c xs) (j : Nat) (u : Value) (hj : xs[j]? = some u) : w.cell? ⟨g, off + j, none⟩ = some u := by
  obtain ⟨cur, hg, hl, _, _, hx⟩ := h
  have hjl := (List.getElem?_eq_some_iff.1 hj).1
  rw [cell_of_row w g (off + j) cur E (0, 0) hg, ← hj, ← hx j hjl]
theorem Own1.frozen {w : World} {g off : Nat} {E : TypeId} {n size c : Nat} {xs : List Value} (h : Own1 w g off E n size c xs) (o : Nat) : w.frozen? ⟨g, o, none⟩ = false := by
  obtain ⟨cur, hg, _⟩ := h
  simp [World.frozen?, hg]
theorem Own1.keep {w w' : World} {g off : Nat} {E : TypeId} {n size c : Nat} {xs : List Value} (h : Own1 w g off E n size c xs) (hk : w'.heap[g]? = w.heap[g]?) : Own1 w' g off E n size c xs := by
  obtain ⟨cur, hg, r⟩ := h
  exact ⟨cur, hk.trans hg, r⟩
theorem Own1.set {w : World} {g off : Nat} {E : TypeId} {n size c : Nat} {xs : List Value} (h : Own1 w g off E n size c xs) (j : Nat) (hj : j < xs.length) (u : Value) : Own1 (w.setCell ⟨g, off + j, none⟩ u) g off E n size c (xs.set j u) := by
  obtain ⟨cur, hg, hl, h1, h2, hx⟩ := h
  have hsz : off + j < cur.size := by
    have := hx j hj
    rw [List.getElem?_eq_getElem hj] at this
    exact (Array.getElem?_eq_some_iff.1 this).1
  refine ⟨cur.setIfInBounds (off + j) u, by simp [World.setCell, Array.getElem?_modify, hg], by simpa using hl, h1, h2, fun i hi => ?_⟩
  rw [List.length_set] at hi
  rw [Array.getElem?_setIfInBounds, List.getElem?_set]
  by_cases e : j = i
  · subst e
    simp [hsz, hj]
  · rw [if_neg (by omega), if_neg e]
    exact hx i hi
theorem Own1.set0 {w : World} {g off : Nat} {E : TypeId} {n size c : Nat} {xs : List Value} (h : Own1 w g off E n size c xs) (hj : 0 < xs.length) (u : Value) : Own1 (w.setCell ⟨g, off, none⟩ u) g off E n size c (xs.set 0 u) := h.set 0 hj u
theorem setX_far (w : World) {b g o : Nat} (h : g ≠ b) (v : Value) : (w.setCell ⟨b, o, none⟩ v).heap[g]? = w.heap[g]? := by simp [World.setCell, Array.getElem?_modify, Ne.symm h]
theorem Own1.row {w : World} {g off : Nat} {E : TypeId} {n size c : Nat} {xs : List Value} (h : Own1 w g off E n size c xs) (h1 : ∀ u ∈ xs, u.oneCell' = true) (B : Nat) (hB : B ≤ g) : Row B w (.slice (some ⟨g, off, none⟩) n c) n size xs := by
  have h' := h
  obtain ⟨cur, hg, hl, hc, hm, hx⟩ := h
  exact ⟨g, off, c, rfl, hB, hl, hc, hm, (Array.getElem?_eq_some_iff.1 hg).1, fun j u hu => h'.cell j u hu, h1⟩

set_option maxRecDepth 100000 in
theorem copiedSent_nil (w : World) : Calls Tryd.prog 44 #[.slice none 0 0] w fun e w' => e = .returned (.slice none 0 0) ∧ w' = w := by
  go_enter Tryd.func44, Tryd.ntmps44
  go_wp2_with (go_at_call 58; refine (cloneSent_nil _).mono ?_; rintro e w' ⟨rfl, rfl⟩)
  refine wp_loop_rounds 1 ?_
  rw [rounds_succ]
  go_wp2_with fail
  go_ret
  exact ⟨rfl, rfl⟩
set_option maxRecDepth 100000 in
theorem copiedItems_nil (w : World) : Calls Tryd.prog 46 #[.slice none 0 0] w fun e w' => e = .returned (.slice none 0 0) ∧ w' = w := by
  go_enter Tryd.func46, Tryd.ntmps46
  go_wp2_with (go_at_call 60; refine (cloneItem_nil _).mono ?_; rintro e w' ⟨rfl, rfl⟩)
  refine wp_loop_rounds 1 ?_
  rw [rounds_succ]
  go_wp2_with fail
  go_ret
  exact ⟨rfl, rfl⟩

/-- Sentries: one, with one on-part. -/
def SentIs (B : Nat) (w : World) (v : Value) : Prop := ∃ vOn, Row B w v 1 2 [vOn, .string ⟨#[]⟩] ∧ Row B w vOn 1 3 [.string ⟨#[97]⟩, .string ⟨#[]⟩, .int .i64 7]
theorem SentIs.keep {B : Nat} {w w' : World} {v : Value} (h : SentIs B w v) (hb : Keeps B w w') : SentIs B w' v := by
  obtain ⟨o, h1, h2⟩ := h
  exact ⟨o, h1.keep hb, h2.keep hb⟩
theorem SentIs.mono {B B' : Nat} {w : World} {v : Value} (h : SentIs B w v) (hb : B' ≤ B) : SentIs B' w v := by
  obtain ⟨o, h1, h2⟩ := h
  exact ⟨o, h1.mono hb, h2.mono hb⟩
theorem SentIs.below {B : Nat} {w w' : World} {v : Value} (h : SentIs B w v) (hb : Below w.heap.size w w') : SentIs B w' v := h.keep (.ofBelow B hb)
def Copied (P : Nat → World → Value → Prop) (w : World) (e : Ending) (w' : World) : Prop := ∃ a n c, e = .returned (.slice a n c) ∧ P w.heap.size w' (.slice a n c) ∧ Below w.heap.size w w'
set_option maxRecDepth 100000 in
theorem copiedSent_c (w : World) (v : Value) (B : Nat) (h : SentIs B w v) : Calls Tryd.prog 44 #[v] w (Copied SentIs w) := by
  obtain ⟨vOn, h1, h2⟩ := h
  have HC := Lib.hid (cloneSent_c w v 1 _ B h1 (by omega))
  have HD := Lib.hid (fun (W : World) (hb : Below w.heap.size w W) => cloneOn_c W vOn 1 _ B (h2.below hb) (by omega))
  obtain ⟨g0, o0, c0, hvo⟩ := rowX_form h2
  subst hvo
  clear h1 h2
  go_enter Tryd.func44, Tryd.ntmps44
  go_wp2_with (go_at_call 58; refine HC.out.mono ?_; rintro e w1 ⟨v1, rfl, ho1, hb1⟩; obtain ⟨g1, o1, c1, hv1, hg1, hl1, ow1⟩ := ho1.own1 (by omega); subst hv1; have HO1 := Lib.hid ow1; have HB1 := Lib.hid hb1; have HG1 := Lib.hid hg1; have k0 := ow1.cell 0 _ rfl; have k1 := ow1.cell 1 _ rfl; simp only [Nat.add_zero] at k0; clear ho1 ow1 hb1 hg1)
  refine wp_loop_rounds 2 ?_
  rw [rounds_succ]
  have hw1 := HB1.out.size
  go_wp2_with fail
  refine (HD.out _ (HB1.out.alloc hw1 _)).mono ?_
  rintro e w2 ⟨v2, rfl, ho2, hb2⟩
  have HB2 := Lib.hid ((HB1.out.alloc hw1 _).trans (hb2.mono (by simp; omega)))
  have ow2 : Own1 w2 g1 o1 _ _ _ _ _ := (HO1.out.keep (Below.heap_alloc w1 _ g1 hl1)).keep (hb2.block g1 (by simp; omega))
  have q0 := ow2.cell 0 _ rfl
  have q1 := ow2.cell 1 _ rfl
  have q2 := ow2.frozen
  simp only [Nat.add_zero] at q0
  obtain ⟨g2, o2, c2, hv2, hg2, hl2, own2⟩ := ho2.own1 (by omega)
  subst hv2
  have HO2 := Lib.hid ow2
  have HO3 := Lib.hid own2
  have HG2 := Lib.hid hg2
  clear k0 k1 ho2 hb2 ow2 own2 hg2
  go_wp2_with fail
  rw [rounds_succ]
  go_wp2_with fail
  go_ret
  have hne : g2 ≠ g1 := by have := HG2.out; simp at this; omega
  exact ⟨_, _, _, rfl, ⟨_, (HO2.out.set0 (by simp) _).row (by simp [Value.oneCell']) _ HG1.out, (HO3.out.keep (setX_far _ hne _)).row (by simp [Value.oneCell']) _ (by have := HG2.out; simp at this; omega)⟩, HB2.out.setCell (p := ⟨g1, o1, none⟩) HG1.out _⟩
end Go.Proofs.YtdnfoeoiommclaaDoor
