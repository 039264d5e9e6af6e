/- model.Flat: the visitor that lists the items, walked. Written by tools/gengt.py. -/
import Derived.Test.YtllhlmdhnmdihaaDoorGs
import Derived.Test.YtllhlmdhnmdihaaDoorSplit
namespace Go.Proofs.YtllhlmdhnmdihaaDoor
open Go Go.RowKit Go.Deep Go.Shelf
set_option linter.unusedVariables false
set_option linter.unusedSimpArgs false

/-- An item more in the list. -/
theorem LSt.push {W0 W w2 w3 V : World} {B : Nat} {s : List IT} {T : Nat → Prop} {L : List (List Value × IT)} {va : Option Addr} {N vc : Nat} {d2 : Nat} {cs2 : List Value} {bx : IT} {g off c' : Nat}
    (t1 : T B) (h1 : ∀ k, T k → k < W.heap.size) (hWB : W0.heap.size ≤ B) (hL : L.map (·.2) = s) (hN : N = L.length) (h4 : ∀ k, (Value.slice va N vc).ownBlock = some k → T k) (h5 : ∀ p ∈ L, ∃ d, ItemV (fun k => T k ∧ B + 1 ≤ k ∧ (Value.slice va N vc).ownBlock ≠ some k) W d p.1 p.2)
    (hs2 : W.heap.size + 1 ≤ w2.heap.size) (hw2 : ∀ k, k < W.heap.size → w2.heap[k]? = W.heap[k]?) (hv2 : ItemV (fun k => W.heap.size + 1 ≤ k) w2 d2 cs2 bx) (hs3 : w2.heap.size ≤ w3.heap.size) (hg3 : ∀ k, k < w2.heap.size → (Value.slice va N vc).ownBlock ≠ some k → w3.heap[k]? = w2.heap[k]?)
    (hgo : (Value.slice va N vc).ownBlock = some g ∨ w2.heap.size ≤ g) (hVs : V.heap.size = w3.heap.size) (hgl : g < w3.heap.size) (hV : ∀ k, k ≠ g → k ≠ B → V.heap[k]? = w3.heap[k]?) (hVB : V.heap[B]? = some (.cells #[.slice (some ⟨g, off, none⟩) (N + 1) c'] 34 (0, 0)))
    (hVO : OwnS V (B + 1) 36 14 (.slice (some ⟨g, off, none⟩) (N + 1) c') (N + 1) (rowsI L ++ cs2)) : LSt W0 B (s ++ [bx]) (fun k => T k ∨ (W.heap.size ≤ k ∧ k < V.heap.size)) V := by
  have hBl := h1 _ t1
  refine ⟨.inl t1, fun k hk => ?_, hWB, L ++ [(cs2, bx)], _, by simp [hL], hVB, ?_, fun k hk => ?_, fun p hp => ?_⟩
  · rcases hk with hk | hk
    · have := h1 k hk; omega
    · exact hk.2
  · rw [List.length_append, List.length_singleton, ← hN]
    simpa [rowsI] using hVO
  · simp only [Value.ownBlock, Option.some.injEq] at hk
    subst hk
    rcases hgo with e | e
    · exact .inl (h4 _ e)
    · exact .inr ⟨by omega, by omega⟩
  · have hne : ∀ k, (Value.slice (some ⟨g, off, none⟩) (N + 1) c').ownBlock ≠ some k ↔ g ≠ k := fun k => by simp [Value.ownBlock]
    rcases List.mem_append.1 hp with hp | hp
    · obtain ⟨d, hd⟩ := h5 p hp
      have hgk : ∀ k, T k → (Value.slice va N vc).ownBlock ≠ some k → k ≠ g := fun k hk ho e => by
        subst e
        rcases hgo with e | e
        · exact ho e
        · have := h1 k hk; omega
      exact ⟨d, (hd.keep (w' := V) (by omega) (fun k hS hl => (hV k (hgk k hS.1 hS.2.2) (by omega)).trans ((hg3 k (by omega) hS.2.2).trans (hw2 k hl)))).mono (fun k _ hS => ⟨.inl hS.1, hS.2.1, (hne k).2 (Ne.symm (hgk k hS.1 hS.2.2))⟩)⟩
    · simp only [List.mem_singleton] at hp
      subst hp
      have hown : ∀ k, W.heap.size ≤ k → (Value.slice va N vc).ownBlock ≠ some k := fun k hk e => by have := h1 k (h4 k e); omega
      have hgk : ∀ k, W.heap.size ≤ k → k < w2.heap.size → k ≠ g := fun k hk hl e => by
        subst e
        rcases hgo with e | e
        · exact hown k hk e
        · omega
      exact ⟨d2, ((hv2.mono (S' := fun k => W.heap.size ≤ k ∧ k < w2.heap.size) (fun k hl hS => ⟨by omega, hl⟩)).keep (w' := V) (by omega) (fun k hS hl => (hV k (hgk k hS.1 hS.2) (by omega)).trans (hg3 k hS.2 (hown k hS.1)))).mono (fun k hl hS => ⟨.inr ⟨hS.1, hl⟩, by omega, (hne k).2 (Ne.symm (hgk k hS.1 hS.2))⟩)⟩

theorem OwnS.some {w : World} {base : Nat} {e : TypeId} {size : Nat} {v : Value} {n : Nat} {xs : List Value} (h : OwnS w base e size v n xs) (hn : 0 < n) : ∃ g off c, v = .slice (Option.some ⟨g, off, none⟩) n c ∧ base ≤ g ∧ g < w.heap.size ∧ (∀ o, w.frozen? ⟨g, o, none⟩ = false) := by
  rcases h.2 with ⟨_, h0⟩ | ⟨g, off, cap, cur, rfl, hb, hg, _⟩
  · omega
  · exact ⟨g, off, cap, rfl, hb, (Array.getElem?_eq_some_iff.1 hg).1, fun o => by simp [World.frozen?, hg]⟩
/-- What is known of the world behind the two stores. -/
def FinV (W0 w3 : World) (B g off c' N : Nat) (xs cs2 : List Value) (V : World) : Prop :=
  V.heap.size = w3.heap.size ∧ (∀ k, k ≠ g → k ≠ B → V.heap[k]? = w3.heap[k]?) ∧ V.heap[B]? = Option.some (.cells #[.slice (Option.some ⟨g, off, none⟩) (N + 1) c'] 34 (0, 0)) ∧
    OwnS V (B + 1) 36 14 (.slice (Option.some ⟨g, off, none⟩) (N + 1) c') (N + 1) (xs ++ cs2) ∧ Below W0.heap.size W0 V
theorem fin_rows {xs zs cs2 : List Value} {N : Nat} (hx : xs.length = N * 14) (hz : zs.length = 14) (hc : cs2.length = 14) : (xs ++ zs).take (N * 14) ++ cs2 ++ (xs ++ zs).drop (N * 14 + cs2.length) = xs ++ cs2 := by
  rw [List.take_append_of_le_length (by omega), List.take_of_length_le (by omega), List.drop_of_length_le (by simp; omega), List.append_nil]
theorem finA {W0 w3 : World} {B g off c' N : Nat} {xs zs cs2 : List Value} {u : Value} (h : OwnS w3 (B + 1) 36 14 (.slice (Option.some ⟨g, off, none⟩) (N + 1) c') (N + 1) (xs ++ zs)) (hx : xs.length = N * 14) (hz : zs.length = 14) (hc : cs2.length = 14) (hg : B + 1 ≤ g) (hB : w3.heap[B]? = Option.some (.cells #[u] 34 (0, 0))) (hb : Below W0.heap.size W0 w3) (hWB : W0.heap.size ≤ B) :
    FinV W0 w3 B g off c' N xs cs2 ((putL w3 g (off + N * 14) cs2).setCell ⟨B, 0, none⟩ (.slice (Option.some ⟨g, off, none⟩) (N + 1) c')) := by
  have hr := h.setRow (N * 14) cs2 (by rw [List.length_append, hx, hz, hc]; omega)
  rw [fin_rows hx hz hc] at hr
  refine ⟨by simp [World.setCell, putL_size], fun k hkg hkB => (setG_far _ hkB _).trans (putL_far _ _ _ _ hkg), ?_, hr.keep (fun k hk => setG_far _ (by simp only [Value.ownBlock, Option.some.injEq] at hk; omega) _), (putL_below _ _ _ hb (by omega)).setCell (p := ⟨B, 0, none⟩) hWB _⟩
  have := (putL_far cs2 w3 g (off + N * 14) (b := B) (by omega)).trans hB
  simp [World.setCell, Array.getElem?_modify, this]
theorem finB {W0 w3 : World} {B g off c' N : Nat} {xs zs cs2 : List Value} {u : Value} (h : OwnS w3 (B + 1) 36 14 (.slice (Option.some ⟨g, off, none⟩) (N + 1) c') (N + 1) (xs ++ zs)) (hx : xs.length = N * 14) (hz : zs.length = 14) (hc : cs2.length = 14) (hg : B + 1 ≤ g) (hB : w3.heap[B]? = Option.some (.cells #[u] 34 (0, 0))) (hb : Below W0.heap.size W0 w3) (hWB : W0.heap.size ≤ B) :
    FinV W0 w3 B g off c' N xs cs2 (putL (w3.setCell ⟨B, 0, none⟩ (.slice (Option.some ⟨g, off, none⟩) (N + 1) c')) g (off + N * 14) cs2) := by
  have h' : OwnS (w3.setCell ⟨B, 0, none⟩ (.slice (Option.some ⟨g, off, none⟩) (N + 1) c')) (B + 1) 36 14 (.slice (Option.some ⟨g, off, none⟩) (N + 1) c') (N + 1) (xs ++ zs) := h.keep (fun k hk => setG_far _ (by simp only [Value.ownBlock, Option.some.injEq] at hk; omega) _)
  have hr := h'.setRow (N * 14) cs2 (by rw [List.length_append, hx, hz, hc]; omega)
  rw [fin_rows hx hz hc] at hr
  refine ⟨by simp [World.setCell, putL_size], fun k hkg hkB => (putL_far _ _ _ _ hkg).trans (setG_far _ hkB _), ?_, hr, putL_below _ _ _ (hb.setCell (p := ⟨B, 0, none⟩) hWB _) (by omega)⟩
  rw [putL_far _ _ _ _ (show B ≠ g by omega)]
  simp [World.setCell, Array.getElem?_modify, hB]

/-- A row stored, cell for cell. -/
abbrev putR14 (w : World) (g o : Nat) (c0 c1 c2 c3 c4 c5 c6 c7 c8 c9 c10 c11 c12 c13 : Value) : World := ((((((((((((((w).setCell ⟨g, o, none⟩ c0).setCell ⟨g, o + 1, none⟩ c1).setCell ⟨g, o + 2, none⟩ c2).setCell ⟨g, o + 3, none⟩ c3).setCell ⟨g, o + 4, none⟩ c4).setCell ⟨g, o + 5, none⟩ c5).setCell ⟨g, o + 6, none⟩ c6).setCell ⟨g, o + 7, none⟩ c7).setCell ⟨g, o + 8, none⟩ c8).setCell ⟨g, o + 9, none⟩ c9).setCell ⟨g, o + 10, none⟩ c10).setCell ⟨g, o + 11, none⟩ c11).setCell ⟨g, o + 12, none⟩ c12).setCell ⟨g, o + 13, none⟩ c13
theorem putR14_eq (w : World) (g o : Nat) (c0 c1 c2 c3 c4 c5 c6 c7 c8 c9 c10 c11 c12 c13 : Value) : putR14 w g o c0 c1 c2 c3 c4 c5 c6 c7 c8 c9 c10 c11 c12 c13 = putL w g o [c0, c1, c2, c3, c4, c5, c6, c7, c8, c9, c10, c11, c12, c13] := rfl
theorem finA' {W0 w3 : World} {B g off c' N : Nat} {xs zs : List Value} {u : Value} (c0 c1 c2 c3 c4 c5 c6 c7 c8 c9 c10 c11 c12 c13 : Value) (h : OwnS w3 (B + 1) 36 14 (.slice (Option.some ⟨g, off, none⟩) (N + 1) c') (N + 1) (xs ++ zs)) (hx : xs.length = N * 14) (hz : zs.length = 14) (hg : B + 1 ≤ g) (hB : w3.heap[B]? = Option.some (.cells #[u] 34 (0, 0))) (hb : Below W0.heap.size W0 w3) (hWB : W0.heap.size ≤ B) :
    FinV W0 w3 B g off c' N xs [c0, c1, c2, c3, c4, c5, c6, c7, c8, c9, c10, c11, c12, c13] ((putR14 w3 g (off + N * 14) c0 c1 c2 c3 c4 c5 c6 c7 c8 c9 c10 c11 c12 c13).setCell ⟨B, 0, none⟩ (.slice (Option.some ⟨g, off, none⟩) (N + 1) c')) := finA h hx hz rfl hg hB hb hWB
theorem finB' {W0 w3 : World} {B g off c' N : Nat} {xs zs : List Value} {u : Value} (c0 c1 c2 c3 c4 c5 c6 c7 c8 c9 c10 c11 c12 c13 : Value) (h : OwnS w3 (B + 1) 36 14 (.slice (Option.some ⟨g, off, none⟩) (N + 1) c') (N + 1) (xs ++ zs)) (hx : xs.length = N * 14) (hz : zs.length = 14) (hg : B + 1 ≤ g) (hB : w3.heap[B]? = Option.some (.cells #[u] 34 (0, 0))) (hb : Below W0.heap.size W0 w3) (hWB : W0.heap.size ≤ B) :
    FinV W0 w3 B g off c' N xs [c0, c1, c2, c3, c4, c5, c6, c7, c8, c9, c10, c11, c12, c13] (putR14 (w3.setCell ⟨B, 0, none⟩ (.slice (Option.some ⟨g, off, none⟩) (N + 1) c')) g (off + N * 14) c0 c1 c2 c3 c4 c5 c6 c7 c8 c9 c10 c11 c12 c13) := finB h hx hz rfl hg hB hb hWB
theorem zsrc (w : World) (b : Nat) (h : w.heap[b]? = some (.cells #[.string ⟨#[]⟩, .string ⟨#[]⟩, .int .i64 0, .slice none 0 0, .slice none 0 0, .string ⟨#[]⟩, .string ⟨#[]⟩, .string ⟨#[]⟩, .bool false, .bool false, .int .i64 0, .slice none 0 0, .slice none 0 0, .slice none 0 0] 36)) : Src Tryd.prog 14 34 (.slice (Option.some ⟨b, 0, none⟩) 1 1) 1 [.string ⟨#[]⟩, .string ⟨#[]⟩, .int .i64 0, .slice none 0 0, .slice none 0 0, .string ⟨#[]⟩, .string ⟨#[]⟩, .string ⟨#[]⟩, .bool false, .bool false, .int .i64 0, .slice none 0 0, .slice none 0 0, .slice none 0 0] w :=
  Src.ofSlice _ Tryd.underlying34 ⟨b, 0, none⟩ 1 1 [.string ⟨#[]⟩, .string ⟨#[]⟩, .int .i64 0, .slice none 0 0, .slice none 0 0, .string ⟨#[]⟩, .string ⟨#[]⟩, .string ⟨#[]⟩, .bool false, .bool false, .int .i64 0, .slice none 0 0, .slice none 0 0, .slice none 0 0] rfl (fun j u hu => by
    rw [Addr.add_lit, cell_of_row _ b (0 + j) _ _ _ h, Nat.zero_add, ← hu]
    simp) (by simp [Value.oneCell'])

set_option maxRecDepth 100000 in
set_option maxHeartbeats 20000000 in
theorem flat1_c (W0 : World) (S0 : Nat → Prop) (B : Nat) (s : List IT) (T : Nat → Prop) (W : World) (d : Nat) (cs : List Value) (x : IT) (av : Value) (hst : LSt W0 B s T W) (hbud : s.length + 1 ≤ 260) (hb0 : Below W0.heap.size W0 W) (hiv : ItemV S0 W0 d cs x) :
    Calls Tryd.prog 34 #[.agg cs.toArray, av, .pointer (some ⟨B, 0, none⟩)] W fun e W' => e = .returned (.bool true) ∧
      ∃ T', LSt W0 B (s ++ [bare x]) T' W' ∧ (∀ k, T' k → T k ∨ W.heap.size ≤ k) ∧ Below W0.heap.size W0 W' ∧ W.heap.size ≤ W'.heap.size ∧ (∀ k, k < W.heap.size → ¬ T k → W'.heap[k]? = W.heap[k]?) := by
  have HST := Lib.hid hst
  have HB0 := Lib.hid hb0
  obtain ⟨i0, i1, i2, en, ex, i5, i6, i7, i8, i9, i10, ro, ki, tb⟩ := x
  obtain ⟨hok1, ev, xv, rv, kv, tv, rfl, k1, k2, k3, k4, k5⟩ := hiv
  dsimp only [IT.entry, IT.exit, IT.roles, IT.kids, IT.table] at k1 k2 k3 k4 k5
  obtain ⟨a3, q3, rfl, _⟩ := k1.form
  obtain ⟨a4, q4, rfl, _⟩ := k2.form
  obtain ⟨a11, q11, rfl, _⟩ := k3.form
  obtain ⟨a12, q12, rfl, _⟩ := k4.form
  obtain ⟨a13, q13, rfl, _⟩ := k5.form
  have hbv : ItemV S0 W0 1 (item14 (bare (.mk i0 i1 i2 en ex i5 i6 i7 i8 i9 i10 ro ki tb)) (.slice a3 en.length q3) (.slice a4 ex.length q4) (.slice a11 ro.length q11) (.slice none 0 0) (.slice none 0 0)) (bare (.mk i0 i1 i2 en ex i5 i6 i7 i8 i9 i10 ro ki tb)) :=
    ⟨⟨hok1.id, hok1.nm, hok1.kind, hok1.man, hok1.req, hok1.rep, hok1.after⟩, _, _, _, _, _, rfl, k1, k2, k3, ItemsD.nil _ _ _, ItemsD.nil _ _ _⟩
  have HCO := Lib.hid (fun (V : World) (hv : Below W0.heap.size W0 V) => copiedG_c V _ (bare (.mk i0 i1 i2 en ex i5 i6 i7 i8 i9 i10 ro ki tb)) (hbv.below hv))
  obtain ⟨bx, hbx⟩ : ∃ b, b = bare (.mk i0 i1 i2 en ex i5 i6 i7 i8 i9 i10 ro ki tb) := ⟨_, rfl⟩
  simp only [item14, bare, IT.id, IT.nm, IT.kind, IT.man, IT.req, IT.rep, IT.auto, IT.free, IT.after, IT.entry, IT.exit, IT.roles] at HCO hbx ⊢
  rw [← hbx] at HCO ⊢
  obtain ⟨t1, h1, hWB, L, v, hL, h2, h3, h4, h5⟩ := hst
  obtain ⟨va, vc, rfl, hvl, hvm, _⟩ := h3.form
  have hlB := h1 _ t1
  have hLl : L.length + 1 ≤ 260 := by rw [← hL, List.length_map] at hbud; exact hbud
  obtain ⟨N, hN⟩ : ∃ N, N = L.length := ⟨_, rfl⟩
  rw [← hN] at h2 h3 h4 h5 hvl hLl
  have HN := Lib.hid hN
  have HL := Lib.hid hL
  have H2 := Lib.hid h2
  have H3 := Lib.hid h3
  have H4 := Lib.hid h4
  have H5 := Lib.hid h5
  have H1 := Lib.hid h1
  have HTB := Lib.hid t1
  simp only [item14, IT.id, IT.nm, IT.kind, IT.man, IT.req, IT.rep, IT.auto, IT.free, IT.after] at *
  clear k1 k2 k3 k4 k5 hok1 hbv hb0 hbx h1 h3 h4 h5 hN hL hbud t1
  generalize en.length = n3 at *
  generalize ex.length = n4 at *
  generalize ro.length = n11 at *
  generalize ki.length = n12 at *
  generalize tb.length = n13 at *
  obtain ⟨w0, hw0⟩ : ∃ y, y = W.alloc (.cells #[.string i0, .string i1, .int .i64 i2, .slice a3 n3 q3, .slice a4 n4 q4, .string i5, .string i6, .string i7, .bool i8, .bool i9, .int .i64 i10, .slice a11 n11 q11, .slice none 0 0, .slice none 0 0] 36) := ⟨_, rfl⟩
  have HW0 := Lib.hid hw0
  have hsw : w0.heap.size = W.heap.size + 1 := by rw [hw0]; simp
  have HSW := Lib.hid hsw
  have HB1 := Lib.hid (show Below W0.heap.size W0 w0 ∧ Below W.heap.size W w0 from by rw [hw0]; exact ⟨HB0.out.alloc HB0.out.size _, (Below.refl _ _).alloc (Nat.le_refl _) _⟩)
  have hq0 : w0.heap[W.heap.size]? = some (.cells #[.string i0, .string i1, .int .i64 i2, .slice a3 n3 q3, .slice a4 n4 q4, .string i5, .string i6, .string i7, .bool i8, .bool i9, .int .i64 i10, .slice a11 n11 q11, .slice none 0 0, .slice none 0 0] 36 (0, 0)) := by rw [hw0]; exact heap_alloc_new W _
  have hb2 : w0.heap[B]? = some (.cells #[.slice va N vc] 34 (0, 0)) := by rw [hw0]; exact (Below.heap_alloc _ _ _ hlB).trans h2
  obtain ⟨d0, d1, d2, d3, d4, d5, d6, d7, d8, d9, d10, d11, d12, d13, dz⟩ := cellsG14 hq0
  obtain ⟨b0, bz⟩ := one_cellG hb2
  have HQ0 := Lib.hid hq0
  have HB2 := Lib.hid hb2
  clear hw0 h2 hq0 hb2 hsw
  obtain ⟨z0, hz, hz0, hz1, hz2⟩ := infoG_parts infoGItem
  go_enter Tryd.func34, Tryd.ntmps34
  go_wp2_with fail
  rw [← HW0.out]
  have hlt9 : (N : Int) < (N : Int) + 1 := by omega
  have HSD := Lib.hid (show (∀ v, Below w0.heap.size w0 v → True) ∧ (∀ v, Below w0.heap.size w0 v → Below w0.heap.size w0 v) from ⟨fun _ _ => trivial, fun _ h => h⟩)
  refine wp_region_split (S := fun v => Below w0.heap.size w0 v) 5 4 #[true, true, true, true, true, false, false, false, false]
    (fun a5 w5 => ∃ (zb : Nat) (cs2 : List Value), a5 = { tmps := #[.agg #[.string i0, .string i1, .int .i64 i2, .slice a3 n3 q3, .slice a4 n4 q4, .string i5, .string i6, .string i7, .bool i8, .bool i9, .int .i64 i10, .slice a11 n11 q11, .slice a12 n12 q12, .slice a13 n13 q13], av, .pointer (some ⟨B, 0, none⟩), .pointer (some ⟨W.heap.size, 0, none⟩), undef, .bool false, .pointer (some ⟨W.heap.size, 12, none⟩), .pointer (some ⟨W.heap.size, 13, none⟩), .slice va N vc, .agg #[.string i0, .string i1, .int .i64 i2, .slice a3 n3 q3, .slice a4 n4 q4, .string i5, .string i6, .string i7, .bool i8, .bool i9, .int .i64 i10, .slice a11 n11 q11, .slice none 0 0, .slice none 0 0], .agg cs2.toArray, .int .i64 (N : Int), .slice (some ⟨zb, 0, none⟩) 1 1, undef, undef], defers := [] } ∧ ItemV (fun k => W.heap.size + 1 ≤ k) w5 1 cs2 bx ∧ Below w0.heap.size w0 w5 ∧ w5.heap[zb]? = some (.cells #[.string ⟨#[]⟩, .string ⟨#[]⟩, .int .i64 0, .slice none 0 0, .slice none 0 0, .string ⟨#[]⟩, .string ⟨#[]⟩, .string ⟨#[]⟩, .bool false, .bool false, .int .i64 0, .slice none 0 0, .slice none 0 0, .slice none 0 0] 36)) (by kernel_rfl) (by kernel_rfl) (by rfl) (by decide +kernel) ?_ (fun hHeld => ?_) (fun a5 w5 hR => ?_)
  · exact (Below.refl w0.heap.size w0).drew
  · simp only [List.take_succ_cons, List.take_zero]
    (refine wpAnyH_take (i := 0) (v := ?_) rfl (by decide +kernel) (by decide +kernel) (by decide +kernel) (fun _ _ _ h => h) (Or.inl ⟨by rfl, ?_⟩) (by assumption) ?_; rotate_left 1; (focus (intro w hSw; have hbw := HSD.out.2 w hSw; obtain ⟨f0, fz⟩ := one_cellG ((hbw.block _ (Array.getElem?_eq_some_iff.1 HB2.out).1).trans HB2.out); (try simp only [List.getElem_toArray, List.getElem_cons_zero]); first | (go_simp; done) | (go_simp; with_reducible rfl))); (try simp only [Act.put, List.getElem_toArray, List.getElem_cons_zero, List.setIfInBounds_toArray, List.set_cons_zero, List.set_cons_succ]))
    (refine wpAnyH_take (i := 1) (v := ?_) rfl (by decide +kernel) (by decide +kernel) (by decide +kernel) (fun _ _ _ h => h) (Or.inl ⟨by rfl, ?_⟩) (by assumption) ?_; rotate_left 1; (focus (intro w hSw; have hbw := HSD.out.2 w hSw; obtain ⟨d0, d1, d2, d3, d4, d5, d6, d7, d8, d9, d10, d11, d12, d13, dz⟩ := cellsG14 ((hbw.block _ (Array.getElem?_eq_some_iff.1 HQ0.out).1).trans HQ0.out); (try simp only [List.getElem_toArray, List.getElem_cons_succ, List.getElem_cons_zero]); first | (go_simp; done) | (go_simp; with_reducible rfl))); (try simp only [Act.put, List.getElem_toArray, List.getElem_cons_succ, List.getElem_cons_zero, List.setIfInBounds_toArray, List.set_cons_zero, List.set_cons_succ]))
    (refine wpAnyH_take (i := 3) (v := ?_) rfl (by decide +kernel) (by decide +kernel) (by decide +kernel) (fun _ _ _ h => h) (Or.inl ⟨by rfl, ?_⟩) (by assumption) ?_; rotate_left 1; (focus (intro w hSw; (try simp only [List.getElem_toArray, List.getElem_cons_succ, List.getElem_cons_zero]); first | (go_simp; done) | (go_simp; with_reducible rfl))); (try simp only [Act.put, List.getElem_toArray, List.getElem_cons_succ, List.getElem_cons_zero, List.setIfInBounds_toArray, List.set_cons_zero, List.set_cons_succ]))
    refine wpAnyH_ready (rs := [2, 4]) (by decide +kernel) (by simp) ?_
    refine (AllReadyH.cons rfl (fun Kx hKx => ?_) (AllReadyH.cons rfl (fun Kx hKx => ?_) AllReadyH.nil))
    · have hbv := hHeld
      go_simp
      go_at_call 33
      refine (HCO.out _ (by exact HB1.out.1.trans (hbv.mono HB1.out.1.size))).mono ?_
      rintro e w2 ⟨cs2, rfl, hv2, hbc⟩
      have hbd : Below w0.heap.size w0 w2 := hbv.trans (hbc.mono hbv.size)
      refine hKx.out _ _ ?_ (fun hHeld => ?_)
      · exact hbd
      clear hKx Kx
      (try simp only [Act.put, List.getElem_toArray, List.getElem_cons_succ, List.getElem_cons_zero, List.setIfInBounds_toArray, List.set_cons_zero, List.set_cons_succ])
      refine wpAnyH_ready (rs := [4]) (by decide +kernel) (by simp) ?_
      refine (AllReadyH.cons rfl (fun Kx hKx => ?_) AllReadyH.nil)
      go_simp
      refine hKx.out _ _ ?_ (fun hHeld2 => ?_)
      · exact hbd.alloc hbd.size _
      clear hKx Kx
      (try simp only [Act.put, List.getElem_toArray, List.getElem_cons_succ, List.getElem_cons_zero, List.setIfInBounds_toArray, List.set_cons_zero, List.set_cons_succ])
      refine wpAnyH_done (by decide +kernel) ?_ _
      exact ⟨w2.heap.size, cs2, rfl, (hv2.mono (fun k _ hS => by have := HSW.out; have hS2 : w0.heap.size ≤ k := Nat.le_trans hbv.size hS; omega)).keep (by simp) (fun k _ hl => Below.heap_alloc _ _ k hl), hbd.alloc hbd.size _, heap_alloc_new w2 _⟩
    · have hbv := hHeld
      go_simp
      refine hKx.out _ _ ?_ (fun hHeld => ?_)
      · exact hbv.alloc hbv.size _
      clear hKx Kx
      (try simp only [Act.put, List.getElem_toArray, List.getElem_cons_succ, List.getElem_cons_zero, List.setIfInBounds_toArray, List.set_cons_zero, List.set_cons_succ])
      refine wpAnyH_ready (rs := [2]) (by decide +kernel) (by simp) ?_
      refine (AllReadyH.cons rfl (fun Kx hKx => ?_) AllReadyH.nil)
      have hbv := hHeld
      go_simp
      go_at_call 33
      refine (HCO.out _ (by exact HB1.out.1.trans (hbv.mono HB1.out.1.size))).mono ?_
      rintro e w2 ⟨cs2, rfl, hv2, hbc⟩
      have hbd : Below w0.heap.size w0 w2 := hbv.trans (hbc.mono hbv.size)
      refine hKx.out _ _ ?_ (fun hHeld2 => ?_)
      · exact hbd
      clear hKx Kx
      (try simp only [Act.put, List.getElem_toArray, List.getElem_cons_succ, List.getElem_cons_zero, List.setIfInBounds_toArray, List.set_cons_zero, List.set_cons_succ])
      refine wpAnyH_done (by decide +kernel) ?_ _
      exact ⟨w0.drew.heap.size, cs2, rfl, hv2.mono (fun k _ hS => by have := HSW.out; have hS2 : w0.heap.size ≤ k := Nat.le_trans hbv.size hS; omega), hbd, (hbc.block _ (by simp)).trans (heap_alloc_new _ _)⟩
  · obtain ⟨zb, cs2, rfl, hv2, hbd, hzb⟩ := hR
    have HBC := Lib.hid hbd
    have HBW2 := Lib.hid (show w5.heap[B]? = some (.cells #[.slice va N vc] 34 (0, 0)) from (hbd.block _ (Array.getElem?_eq_some_iff.1 HB2.out).1).trans HB2.out)
    have HOA := Lib.hid (show OwnS w5 (B + 1) 36 14 (.slice va N vc) N (rowsI L) from (H3.out.belowG HB1.out.2).belowG hbd)
    have HVV := Lib.hid hv2
    obtain ⟨ho2, ev2, xv2, rv2, kv2, tv2, hcs, k1, k2, k3, k4, k5⟩ := hv2
    obtain ⟨b3, p3, e3, _⟩ := k1.form
    obtain ⟨b4, p4, e4, _⟩ := k2.form
    obtain ⟨b11, p11, e11, _⟩ := k3.form
    obtain ⟨b12, p12, e12, _⟩ := k4.form
    obtain ⟨b13, p13, e13, _⟩ := k5.form
    subst e3 e4 e11 e12 e13
    subst hcs
    unfold item14
    unfold item14 at HVV
    clear k1 k2 k3 k4 k5 ho2 hbd d0 d1 d2 d3 d4 d5 d6 d7 d8 d9 d10 d11 d12 d13 dz b0 bz
    refine wpAny_ready (rs := [5]) (by kernel_rfl) (by simp) ?_
    refine AllReady.cons rfl (fun K hK => ?_) AllReady.nil
    refine step_append_S (by rfl) (Operand.tmp 8) (Operand.tmp 12) 34 34 (by rfl) (B + 1) 36 z0 _ 14 224 Tryd.underlying34 hz hz0 hz1 hz2 rfl (Nat.succ_pos _) (.slice va N vc) N (rowsI L) (by rfl) HOA.out (.slice (some ⟨zb, 0, none⟩) 1 1) 1 [.string ⟨#[]⟩, .string ⟨#[]⟩, .int .i64 0, .slice none 0 0, .slice none 0 0, .string ⟨#[]⟩, .string ⟨#[]⟩, .string ⟨#[]⟩, .bool false, .bool false, .int .i64 0, .slice none 0 0, .slice none 0 0, .slice none 0 0] (by rfl) (zsrc _ _ hzb) (by unfold maxLen; omega) (by omega) (by have := (Array.getElem?_eq_some_iff.1 HBW2.out).1; omega) ?_
    intro v3 w3 hown hgrow hl
    obtain ⟨g, off, c3, rfl, hg1, hg2, hgz⟩ := hown.some (by omega)
    have HG := Lib.hid (And.intro hg1 hg2)
    have hgB : B ≠ g := by omega
    have hgB2 : g ≠ B := by omega
    have hxl : (rowsI L).length = N * 14 := H3.out.1
    have HXL := Lib.hid hxl
    have HW3 := Lib.hid hown
    have hcell : ∀ k u, ([.string ⟨#[]⟩, .string ⟨#[]⟩, .int .i64 0, .slice none 0 0, .slice none 0 0, .string ⟨#[]⟩, .string ⟨#[]⟩, .string ⟨#[]⟩, .bool false, .bool false, .int .i64 0, .slice none 0 0, .slice none 0 0, .slice none 0 0] : List Value)[k]? = Option.some u → w3.cell? ⟨g, off + N * 14 + k, none⟩ = Option.some u := fun k u hu => by
      rw [Nat.add_assoc]
      refine hown.cell rfl _ u ?_
      rw [List.getElem?_append_right (by omega), hxl, Nat.add_sub_cancel_left]
      exact hu
    have g0 := hcell 0 _ rfl
    have g1 := hcell 1 _ rfl
    have g2 := hcell 2 _ rfl
    have g3 := hcell 3 _ rfl
    have g4 := hcell 4 _ rfl
    have g5 := hcell 5 _ rfl
    have g6 := hcell 6 _ rfl
    have g7 := hcell 7 _ rfl
    have g8 := hcell 8 _ rfl
    have g9 := hcell 9 _ rfl
    have g10 := hcell 10 _ rfl
    have g11 := hcell 11 _ rfl
    have g12 := hcell 12 _ rfl
    have g13 := hcell 13 _ rfl
    simp only [Nat.add_zero] at g0
    have hbo : Option.some B ≠ (Value.slice va N vc).ownBlock := fun e => by have := H3.out.baseG B e.symm; omega
    have hb3 := (hgrow.block B (Array.getElem?_eq_some_iff.1 HBW2.out).1 hbo).trans HBW2.out
    have HB3 := Lib.hid hb3
    obtain ⟨x0, xz⟩ := one_cellG hb3
    have HGR := Lib.hid (show (∀ k, k < w5.heap.size → (Value.slice va N vc).ownBlock ≠ Option.some k → w3.heap[k]? = w5.heap[k]?) ∧ w5.heap.size ≤ w3.heap.size from ⟨fun k hk ho => hgrow.block k hk (fun e => ho e.symm), hgrow.size⟩)
    have HGO := Lib.hid (show (Value.slice va N vc).ownBlock = Option.some g ∨ w5.heap.size ≤ g from by
      rcases hl with e | e
      · exact .inl (by rw [← e]; rfl)
      · simp only [Value.ownBlock, Option.some.injEq] at e
        exact .inr (by rw [e]; exact Nat.le_refl _))
    have HBL := Lib.hid (show Below W0.heap.size W0 w3 from Below.grown (HB1.out.1.trans (HBC.out.mono HB1.out.1.size)) hgrow (Nat.le_trans HB1.out.1.size HBC.out.size) (fun k hk => by have := H3.out.baseG k hk; omega))
    clear hown hgrow hl hcell hb3 hbo hg1 hg2 hxl hzb
    refine hK _ _ ?_
    clear hK K
    (try simp only [Act.put, List.getElem_toArray, List.getElem_cons_succ, List.getElem_cons_zero, List.setIfInBounds_toArray, List.set_cons_zero, List.set_cons_succ])
    have key : ∀ V, FinV W0 w3 B g off c3 N (rowsI L) [.string bx.id, .string bx.nm, .int .i64 bx.kind, .slice b3 bx.entry.length p3, .slice b4 bx.exit.length p4, .string bx.man, .string bx.req, .string bx.rep, .bool bx.auto, .bool bx.free, .int .i64 bx.after, .slice b11 bx.roles.length p11, .slice b12 bx.kids.length p12, .slice b13 bx.table.length p13] V →
        ∃ T', LSt W0 B (s ++ [bx]) T' V ∧ (∀ k, T' k → T k ∨ W.heap.size ≤ k) ∧ Below W0.heap.size W0 V ∧ W.heap.size ≤ V.heap.size ∧ (∀ k, k < W.heap.size → ¬ T k → V.heap[k]? = W.heap[k]?) := fun V ⟨v1, v2, v3, v4, v5⟩ => by
      have hs2 : W.heap.size + 1 ≤ w5.heap.size := by have := HBC.out.size; have := HSW.out; omega
      have hw2 : ∀ k, k < W.heap.size → w5.heap[k]? = W.heap[k]? := fun k hk => (HBC.out.block k (by have := HSW.out; omega)).trans (HB1.out.2.block k hk)
      exact ⟨_, LSt.push HTB.out H1.out hWB HL.out HN.out H4.out H5.out hs2 hw2 HVV.out HGR.out.2 HGR.out.1 HGO.out v1 HG.out.2 v2 v3 v4, fun k hk => hk.imp (fun h => h) (fun h => h.1), v5, by have := HGR.out.2; omega, fun k hk hnt => by
        have ho : (Value.slice va N vc).ownBlock ≠ Option.some k := fun e => hnt (H4.out k e)
        have hkg : k ≠ g := fun e => by
          subst e
          rcases HGO.out with e | e
          · exact ho e
          · omega
        exact (v2 k hkg (fun e => hnt (e ▸ HTB.out))).trans ((HGR.out.1 k (by omega) ho).trans (hw2 k hk))⟩
    have HKEY := Lib.hid key
    clear key
    refine wpAny_take (i := 6) (v := ?_) rfl (by kernel_rfl) (by kernel_rfl) (by kernel_rfl) (fun _ _ _ h => h) (Or.inl ⟨by rfl, ?_⟩) ?_
    rotate_left 1
    · intro w
      (try simp only [List.getElem_toArray, List.getElem_cons_succ, List.getElem_cons_zero])
      first | (go_simp; done) | (go_simp; with_reducible rfl)
    (try simp only [Act.put, List.getElem_toArray, List.getElem_cons_succ, List.getElem_cons_zero, List.setIfInBounds_toArray, List.set_cons_zero, List.set_cons_succ])
    refine wpAny_ready (rs := [7, 8]) (by kernel_rfl) (by simp) ?_
    refine AllReady.cons rfl (fun K hK => ?_) (AllReady.cons rfl (fun K hK => ?_) AllReady.nil)
    · (try simp only [List.getElem_toArray, List.getElem_cons_succ, List.getElem_cons_zero])
      go_simp
      refine hK _ _ ?_
      clear hK K
      (try simp only [Act.put, List.getElem_toArray, List.getElem_cons_succ, List.getElem_cons_zero, List.setIfInBounds_toArray, List.set_cons_zero, List.set_cons_succ])
      refine wpAny_ready (rs := [8]) (by kernel_rfl) (by simp) ?_
      refine AllReady.cons rfl (fun K hK => ?_) AllReady.nil
      (try simp only [List.getElem_toArray, List.getElem_cons_succ, List.getElem_cons_zero])
      go_simp
      refine hK _ _ ?_
      clear hK K
      (try simp only [Act.put, List.getElem_toArray, List.getElem_cons_succ, List.getElem_cons_zero, List.setIfInBounds_toArray, List.set_cons_zero, List.set_cons_succ])
      refine wpAny_done (by kernel_rfl) ?_ _
      go_wp2_with fail
      go_ret
      refine ⟨by rfl, ?_⟩
      exact HKEY.out _ (finA' _ _ _ _ _ _ _ _ _ _ _ _ _ _ HW3.out HXL.out (Eq.refl 14) HG.out.1 HB3.out HBL.out hWB)
    · (try simp only [List.getElem_toArray, List.getElem_cons_succ, List.getElem_cons_zero])
      go_simp
      refine hK _ _ ?_
      clear hK K
      (try simp only [Act.put, List.getElem_toArray, List.getElem_cons_succ, List.getElem_cons_zero, List.setIfInBounds_toArray, List.set_cons_zero, List.set_cons_succ])
      refine wpAny_ready (rs := [7]) (by kernel_rfl) (by simp) ?_
      refine AllReady.cons rfl (fun K hK => ?_) AllReady.nil
      (try simp only [List.getElem_toArray, List.getElem_cons_succ, List.getElem_cons_zero])
      go_simp
      refine hK _ _ ?_
      clear hK K
      (try simp only [Act.put, List.getElem_toArray, List.getElem_cons_succ, List.getElem_cons_zero, List.setIfInBounds_toArray, List.set_cons_zero, List.set_cons_succ])
      refine wpAny_done (by kernel_rfl) ?_ _
      go_wp2_with fail
      go_ret
      refine ⟨by rfl, ?_⟩
      exact HKEY.out _ (finB' _ _ _ _ _ _ _ _ _ _ _ _ _ _ HW3.out HXL.out (Eq.refl 14) HG.out.1 HB3.out HBL.out hWB)
end Go.Proofs.YtllhlmdhnmdihaaDoor
