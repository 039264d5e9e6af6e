/- Copies of lists: slices.Clone at the model's types. Written by tools/gengd.py. -/
import Derived.Test.YtllhlmdhnmdihaaDoorGc
import Derived.Test.YtllhlmdhnmdihaaDoorByS
import Derived.Deep.AppendSrc
namespace Go.Proofs.YtllhlmdhnmdihaaDoor
open Go Go.RowKit Go.Deep
set_option linter.unusedVariables false
set_option linter.unusedSimpArgs false

/-- What a slice of this form gives to an append. -/
theorem RdN.srcA {P : Program} {t e' : TypeId} (hk : P.underlying t = some (.slice e')) {S : Nat → Prop} {w : World} {a : Addr} {c n size : Nat} {cs : List Value} (h : RdN S w (.slice (some a) n c) n size cs) : Src P size t (.slice (some a) n c) n cs w := by
  rcases Nat.eq_zero_or_pos n with h0 | h0
  · subst h0
    have : cs = [] := List.eq_nil_of_length_eq_zero (by simpa using h.1)
    subst this
    exact Src.ofSlice w hk a 0 c [] (by simp) (by simp) (by simp)
  · exact h.src hk h0
theorem RdN.nilA {S : Nat → Prop} {w : World} {c n size : Nat} {cs : List Value} (h : RdN S w (.slice none n c) n size cs) : n = 0 ∧ c = 0 ∧ cs = [] := by
  obtain ⟨h1, _, a, c', h3, h4, h5, h6, h7⟩ := h
  simp only [Value.slice.injEq, true_and] at h3
  obtain ⟨rfl, rfl⟩ := h3
  have := h6 rfl
  have hn : n = 0 := by omega
  subst hn
  exact ⟨rfl, this, List.eq_nil_of_length_eq_zero (by simpa using h1)⟩
theorem OwnS.rdn {w : World} {base : Nat} {E : TypeId} {size : Nat} {v : Value} {n : Nat} {xs : List Value} (h : OwnS w base E size v n xs) (h1 : ∀ u ∈ xs, u.oneCell' = true) : RdN (fun b => base ≤ b) w v n size xs := by
  refine ⟨h.1, h1, ?_⟩
  rcases h.2 with ⟨rfl, rfl⟩ | ⟨g, off, cap, cur, rfl, hb, hg, k1, k2, k3, k4⟩
  · exact ⟨none, 0, rfl, Nat.le_refl _, by unfold maxLen; omega, fun _ => rfl, by simp⟩
  · exact ⟨_, cap, rfl, k1, k2, by simp, fun _ => ⟨g, off, rfl, hb, (Array.getElem?_eq_some_iff.1 hg).1, fun j u hu => h.cell rfl j u hu⟩⟩
theorem OwnS.belowG {w w' : World} {base : Nat} {e : TypeId} {size : Nat} {v : Value} {n : Nat} {xs : List Value} (h : OwnS w base e size v n xs) (hb : Below w.heap.size w w') : OwnS w' base e size v n xs :=
  h.keep fun g hg => hb.block g (h.lt g hg)
theorem emptyG_own (w : World) (E : TypeId) (size : Nat) : OwnS (w.alloc (.cells #[] E)) w.heap.size E size (.slice (some ⟨w.heap.size, 0, none⟩) 0 0) 0 [] :=
  ⟨by simp, .inr ⟨_, 0, 0, #[], rfl, Nat.le_refl _, heap_alloc_new w _, Nat.le_refl _, Nat.zero_le _, by simp, by simp⟩⟩
/-- What a copy of a row is. -/
def CloneG (w : World) (E : TypeId) (size n : Nat) (xs : List Value) (e : Ending) (w' : World) : Prop := ∃ v', e = .returned v' ∧ OwnS w' w.heap.size E size v' n xs ∧ Below w.heap.size w w'
theorem infoG_parts {P : Program} {E : TypeId} {z : Value} {s b : Nat} (h : (P.info? E).map (fun i => (i.zero, i.size, i.bytes)) = some (some z, s, b)) : ∃ i0, P.info? E = some i0 ∧ i0.zero = some z ∧ i0.size = s ∧ i0.bytes = b := by
  cases hi : P.info? E with
  | none => rw [hi] at h; simp at h
  | some i =>
    rw [hi] at h
    simp at h
    exact ⟨i, rfl, h.1, h.2.1, h.2.2⟩

theorem infoGSent : (Tryd.prog.info? 60).map (fun i => (i.zero, i.size, i.bytes)) = some (some (.agg #[.slice none 0 0, .string ⟨#[]⟩]), 2, 40) := by kernel_rfl
set_option maxRecDepth 100000 in
theorem cloneSentG {S : Nat → Prop} (w : World) (v : Value) (n : Nat) (xs : List Value) (h : RdN S w v n 2 xs) (hn : n * 40 ≤ 140737488355328) : Calls Tryd.prog 59 #[v] w (CloneG w 60 2 n xs) := by
  obtain ⟨i0, hi, hz0, hz1, hz2⟩ := infoG_parts infoGSent
  have hnil := @Lib.run_eql_slice_nil Tryd.prog
  have hu := Tryd.underlying33
  obtain ⟨a, c, hv, _⟩ := h.form
  subst hv
  have HN := Lib.hid hn
  cases a with
  | none =>
    obtain ⟨rfl, rfl, rfl⟩ := h.nilA
    clear h hn
    go_enter Tryd.func59, Tryd.ntmps59
    go_wp2_with fail
    go_ret
    exact ⟨_, rfl, OwnS.nil _ _ _ _, Below.refl _ _⟩
  | some a =>
    have HS := Lib.hid (fun (o : Obj) => (h.keep (w' := w.alloc o) (by simp) (fun k _ hk => Below.heap_alloc _ _ _ hk)).srcA (P := Tryd.prog) (t := 33) Tryd.underlying33)
    clear h hn
    go_enter Tryd.func59, Tryd.ntmps59
    go_wp2_with (at_builtin; refine wpList_append_S rfl _ _ 33 33 rfl w.heap.size 60 i0 _ 2 40 Tryd.underlying33 hi hz0 hz1 hz2 rfl (Nat.succ_pos _) (.slice (some ⟨w.heap.size, 0, none⟩) 0 0) 0 [] rfl (emptyG_own _ _ _) _ n xs rfl (HS.out _) ?c1 ?c2 ?c3 ?_)
    case c1 => have := HN.out; unfold maxLen; omega
    case c2 => have := HN.out; omega
    case c3 => simp
    intro v' w' hown hgrow hl
    have HO := Lib.hid (show OwnS w' w.heap.size 60 2 v' n xs from by simpa using hown)
    have HB := Lib.hid (show Below w.heap.size w w' from ((Below.refl _ _).alloc (Nat.le_refl _) _).grown hgrow (by simp) (fun k ek => by
      have : w.heap.size = k := Option.some.inj ek
      omega))
    clear hown hgrow hl
    go_wp2_with fail
    go_ret
    exact ⟨_, rfl, HO.out, HB.out⟩
theorem infoGOn : (Tryd.prog.info? 57).map (fun i => (i.zero, i.size, i.bytes)) = some (some (.agg #[.string ⟨#[]⟩, .string ⟨#[]⟩, .int .i64 0]), 3, 40) := by kernel_rfl
set_option maxRecDepth 100000 in
theorem cloneOnG {S : Nat → Prop} (w : World) (v : Value) (n : Nat) (xs : List Value) (h : RdN S w v n 3 xs) (hn : n * 40 ≤ 140737488355328) : Calls Tryd.prog 60 #[v] w (CloneG w 57 3 n xs) := by
  obtain ⟨i0, hi, hz0, hz1, hz2⟩ := infoG_parts infoGOn
  have hnil := @Lib.run_eql_slice_nil Tryd.prog
  have hu := Tryd.underlying58
  obtain ⟨a, c, hv, _⟩ := h.form
  subst hv
  have HN := Lib.hid hn
  cases a with
  | none =>
    obtain ⟨rfl, rfl, rfl⟩ := h.nilA
    clear h hn
    go_enter Tryd.func60, Tryd.ntmps60
    go_wp2_with fail
    go_ret
    exact ⟨_, rfl, OwnS.nil _ _ _ _, Below.refl _ _⟩
  | some a =>
    have HS := Lib.hid (fun (o : Obj) => (h.keep (w' := w.alloc o) (by simp) (fun k _ hk => Below.heap_alloc _ _ _ hk)).srcA (P := Tryd.prog) (t := 58) Tryd.underlying58)
    clear h hn
    go_enter Tryd.func60, Tryd.ntmps60
    go_wp2_with (at_builtin; refine wpList_append_S rfl _ _ 58 58 rfl w.heap.size 57 i0 _ 3 40 Tryd.underlying58 hi hz0 hz1 hz2 rfl (Nat.succ_pos _) (.slice (some ⟨w.heap.size, 0, none⟩) 0 0) 0 [] rfl (emptyG_own _ _ _) _ n xs rfl (HS.out _) ?c1 ?c2 ?c3 ?_)
    case c1 => have := HN.out; unfold maxLen; omega
    case c2 => have := HN.out; omega
    case c3 => simp
    intro v' w' hown hgrow hl
    have HO := Lib.hid (show OwnS w' w.heap.size 57 3 v' n xs from by simpa using hown)
    have HB := Lib.hid (show Below w.heap.size w w' from ((Below.refl _ _).alloc (Nat.le_refl _) _).grown hgrow (by simp) (fun k ek => by
      have : w.heap.size = k := Option.some.inj ek
      omega))
    clear hown hgrow hl
    go_wp2_with fail
    go_ret
    exact ⟨_, rfl, HO.out, HB.out⟩
theorem infoGItem : (Tryd.prog.info? 36).map (fun i => (i.zero, i.size, i.bytes)) = some (some (.agg #[.string ⟨#[]⟩, .string ⟨#[]⟩, .int .i64 0, .slice none 0 0, .slice none 0 0, .string ⟨#[]⟩, .string ⟨#[]⟩, .string ⟨#[]⟩, .bool false, .bool false, .int .i64 0, .slice none 0 0, .slice none 0 0, .slice none 0 0]), 14, 224) := by kernel_rfl
set_option maxRecDepth 100000 in
theorem cloneItemG {S : Nat → Prop} (w : World) (v : Value) (n : Nat) (xs : List Value) (h : RdN S w v n 14 xs) (hn : n * 224 ≤ 140737488355328) : Calls Tryd.prog 61 #[v] w (CloneG w 36 14 n xs) := by
  obtain ⟨i0, hi, hz0, hz1, hz2⟩ := infoG_parts infoGItem
  have hnil := @Lib.run_eql_slice_nil Tryd.prog
  have hu := Tryd.underlying34
  obtain ⟨a, c, hv, _⟩ := h.form
  subst hv
  have HN := Lib.hid hn
  cases a with
  | none =>
    obtain ⟨rfl, rfl, rfl⟩ := h.nilA
    clear h hn
    go_enter Tryd.func61, Tryd.ntmps61
    go_wp2_with fail
    go_ret
    exact ⟨_, rfl, OwnS.nil _ _ _ _, Below.refl _ _⟩
  | some a =>
    have HS := Lib.hid (fun (o : Obj) => (h.keep (w' := w.alloc o) (by simp) (fun k _ hk => Below.heap_alloc _ _ _ hk)).srcA (P := Tryd.prog) (t := 34) Tryd.underlying34)
    clear h hn
    go_enter Tryd.func61, Tryd.ntmps61
    go_wp2_with (at_builtin; refine wpList_append_S rfl _ _ 34 34 rfl w.heap.size 36 i0 _ 14 224 Tryd.underlying34 hi hz0 hz1 hz2 rfl (Nat.succ_pos _) (.slice (some ⟨w.heap.size, 0, none⟩) 0 0) 0 [] rfl (emptyG_own _ _ _) _ n xs rfl (HS.out _) ?c1 ?c2 ?c3 ?_)
    case c1 => have := HN.out; unfold maxLen; omega
    case c2 => have := HN.out; omega
    case c3 => simp
    intro v' w' hown hgrow hl
    have HO := Lib.hid (show OwnS w' w.heap.size 36 14 v' n xs from by simpa using hown)
    have HB := Lib.hid (show Below w.heap.size w w' from ((Below.refl _ _).alloc (Nat.le_refl _) _).grown hgrow (by simp) (fun k ek => by
      have : w.heap.size = k := Option.some.inj ek
      omega))
    clear hown hgrow hl
    go_wp2_with fail
    go_ret
    exact ⟨_, rfl, HO.out, HB.out⟩
theorem infoGText : (Tryd.prog.info? 9).map (fun i => (i.zero, i.size, i.bytes)) = some (some (.string ⟨#[]⟩), 1, 16) := by kernel_rfl
set_option maxRecDepth 100000 in
theorem cloneTextG {S : Nat → Prop} (w : World) (v : Value) (n : Nat) (xs : List Value) (h : RdN S w v n 1 xs) (hn : n * 16 ≤ 140737488355328) : Calls Tryd.prog 47 #[v] w (CloneG w 9 1 n xs) := by
  obtain ⟨i0, hi, hz0, hz1, hz2⟩ := infoG_parts infoGText
  have hnil := @Lib.run_eql_slice_nil Tryd.prog
  have hu := Tryd.underlying31
  obtain ⟨a, c, hv, _⟩ := h.form
  subst hv
  have HN := Lib.hid hn
  cases a with
  | none =>
    obtain ⟨rfl, rfl, rfl⟩ := h.nilA
    clear h hn
    go_enter Tryd.func47, Tryd.ntmps47
    go_wp2_with fail
    go_ret
    exact ⟨_, rfl, OwnS.nil _ _ _ _, Below.refl _ _⟩
  | some a =>
    have HS := Lib.hid (fun (o : Obj) => (h.keep (w' := w.alloc o) (by simp) (fun k _ hk => Below.heap_alloc _ _ _ hk)).srcA (P := Tryd.prog) (t := 31) Tryd.underlying31)
    clear h hn
    go_enter Tryd.func47, Tryd.ntmps47
    go_wp2_with (at_builtin; refine wpList_append_S rfl _ _ 31 31 rfl w.heap.size 9 i0 _ 1 16 Tryd.underlying31 hi hz0 hz1 hz2 rfl (Nat.succ_pos _) (.slice (some ⟨w.heap.size, 0, none⟩) 0 0) 0 [] rfl (emptyG_own _ _ _) _ n xs rfl (HS.out _) ?c1 ?c2 ?c3 ?_)
    case c1 => have := HN.out; unfold maxLen; omega
    case c2 => have := HN.out; omega
    case c3 => simp
    intro v' w' hown hgrow hl
    have HO := Lib.hid (show OwnS w' w.heap.size 9 1 v' n xs from by simpa using hown)
    have HB := Lib.hid (show Below w.heap.size w w' from ((Below.refl _ _).alloc (Nat.le_refl _) _).grown hgrow (by simp) (fun k ek => by
      have : w.heap.size = k := Option.some.inj ek
      omega))
    clear hown hgrow hl
    go_wp2_with fail
    go_ret
    exact ⟨_, rfl, HO.out, HB.out⟩
end Go.Proofs.YtllhlmdhnmdihaaDoor
