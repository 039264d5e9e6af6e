/- model.Find: the visitor that looks for an ID. Written by tools/gengi.py. -/
import Derived.Test.YtllhlmdhnmdihaaDoorGh
namespace Go.Proofs.YtllhlmdhnmdihaaDoor
open Go Go.RowKit Go.Deep Go.Shelf
set_option linter.unusedVariables false
set_option linter.unusedSimpArgs false

/-- An item that is none. -/
def zero14 : List Value := [.string ⟨#[]⟩, .string ⟨#[]⟩, .int .i64 0, .slice none 0 0, .slice none 0 0, .string ⟨#[]⟩, .string ⟨#[]⟩, .string ⟨#[]⟩, .bool false, .bool false, .int .i64 0, .slice none 0 0, .slice none 0 0, .slice none 0 0]
theorem zero14_len : zero14.length = 14 := rfl
/-- What the search does with an item. -/
def findS (id : ByteArray) (s : Option IT × Bool) (x : IT) (_ : List ByteArray) : (Option IT × Bool) × Bool := if x.id.toList == id.toList then ((some x, true), false) else ((s.1, false), true)
/-- What the search has in memory: blocks from B on: the ID, what was found, whether. -/
def FSt (B : Nat) (id : ByteArray) (s : Option IT × Bool) (T : Nat → Prop) (W : World) : Prop :=
  (T (B + 1) ∧ T (B + 2) ∧ T (B + 3)) ∧ (∀ k, T k → k < W.heap.size) ∧ W.heap[B + 1]? = some (.cells #[.string id] 9 (0, 0)) ∧ W.heap[B + 3]? = some (.cells #[.bool s.2] 4 (0, 0)) ∧
    ∃ cs : List Value, W.heap[B + 2]? = some (.cells cs.toArray 36 (0, 0)) ∧ cs.length = 14 ∧ match s.1 with
      | none => cs = zero14
      | some y => ∃ d, ItemV (fun k => T k ∧ B + 4 ≤ k) W d cs y
theorem FSt.keep {B : Nat} {id : ByteArray} {s : Option IT × Bool} {T : Nat → Prop} {W W' : World} (h : FSt B id s T W) (hs : W.heap.size ≤ W'.heap.size) (hk : ∀ k, T k → k < W.heap.size → W'.heap[k]? = W.heap[k]?) : FSt B id s T W' := by
  obtain ⟨⟨t1, t2, t3⟩, h1, h2, h3, cs, h4, h5, h6⟩ := h
  refine ⟨⟨t1, t2, t3⟩, fun k hkt => Nat.lt_of_lt_of_le (h1 k hkt) hs, (hk _ t1 (h1 _ t1)).trans h2, (hk _ t3 (h1 _ t3)).trans h3, cs, (hk _ t2 (h1 _ t2)).trans h4, h5, ?_⟩
  rcases s with ⟨_ | y, b⟩
  · exact h6
  · obtain ⟨d, hd⟩ := h6
    exact ⟨d, hd.keep hs (fun k hS hl => hk k hS.1 hl)⟩
/-- The flag is set. -/
theorem FSt.flag {B : Nat} {id : ByteArray} {s : Option IT × Bool} {T : Nat → Prop} {W W' : World} {b : Bool} (h : FSt B id s T W) (hs : W.heap.size ≤ W'.heap.size) (hk : ∀ k, k < W.heap.size → k ≠ B + 3 → W'.heap[k]? = W.heap[k]?) (h3' : W'.heap[B + 3]? = some (.cells #[.bool b] 4 (0, 0))) : FSt B id (s.1, b) T W' := by
  obtain ⟨⟨t1, t2, t3⟩, h1, h2, h3, cs, h4, h5, h6⟩ := h
  refine ⟨⟨t1, t2, t3⟩, fun k hkt => Nat.lt_of_lt_of_le (h1 k hkt) hs, (hk _ (h1 _ t1) (by omega)).trans h2, h3', cs, (hk _ (h1 _ t2) (by omega)).trans h4, h5, ?_⟩
  rcases s with ⟨_ | y, b0⟩
  · exact h6
  · obtain ⟨d, hd⟩ := h6
    exact ⟨d, hd.keep hs (fun k hS hl => hk k hl (by omega))⟩
/-- What was found is stored. -/
theorem FSt.found {B : Nat} {id : ByteArray} {s : Option IT × Bool} {T : Nat → Prop} {W W1 W2 W3 : World} {d : Nat} {cs : List Value} {x : IT} (h : FSt B id s T W) (hW1 : W.heap.size ≤ W1.heap.size) (hk1 : ∀ k, k < W.heap.size → k ≠ B + 3 → W1.heap[k]? = W.heap[k]?) (h31 : W1.heap[B + 3]? = some (.cells #[.bool true] 4 (0, 0)))
    (hb : Below W1.heap.size W1 W2) (hv : ItemV (fun k => W1.heap.size ≤ k) W2 d cs x) (hs3 : W3.heap.size = W2.heap.size) (hk3 : ∀ k, k ≠ B + 2 → W3.heap[k]? = W2.heap[k]?) (h23 : W3.heap[B + 2]? = some (.cells cs.toArray 36 (0, 0))) :
    FSt B id (some x, true) (fun k => T k ∨ (W.heap.size ≤ k ∧ k < W3.heap.size)) W3 := by
  obtain ⟨⟨t1, t2, t3⟩, h1, h2, h3, _⟩ := h
  have l1 := h1 _ t1
  have l2 := h1 _ t2
  have l3 := h1 _ t3
  have hsz := hb.size
  refine ⟨⟨.inl t1, .inl t2, .inl t3⟩, fun k hkt => ?_, ?_, ?_, cs, h23, hv.len, d, ?_⟩
  · rcases hkt with hkt | hkt
    · have := h1 k hkt; omega
    · exact hkt.2
  · exact (hk3 _ (by omega)).trans ((hb.block _ (by omega)).trans ((hk1 _ l1 (by omega)).trans h2))
  · exact (hk3 _ (by omega)).trans ((hb.block _ (by omega)).trans h31)
  · refine (hv.mono (S' := fun k => (T k ∨ (W.heap.size ≤ k ∧ k < W3.heap.size)) ∧ B + 4 ≤ k) (fun k hl hS => ⟨.inr ⟨by omega, by omega⟩, by omega⟩)).keep (by omega) (fun k hS _ => hk3 k (by omega))

set_option maxRecDepth 100000 in
set_option maxHeartbeats 2000000 in
theorem find1_c (W0 : World) (S0 : Nat → Prop) (B : Nat) (id : ByteArray) (hB : W0.heap.size ≤ B) (s : Option IT × Bool) (T : Nat → Prop) (W : World) (d : Nat) (cs : List Value) (x : IT) (av : Value) (hst : FSt B id s T W) (hb0 : Below W0.heap.size W0 W) (hiv : ItemV S0 W0 d cs x) :
    Calls Tryd.prog 32 #[.agg cs.toArray, av, .pointer (some ⟨B + 1, 0, none⟩), .pointer (some ⟨B + 3, 0, none⟩), .pointer (some ⟨B + 2, 0, none⟩)] W fun e W' => e = .returned (.bool (findS id s x []).2) ∧
      ∃ T', FSt B id (findS id s x []).1 T' W' ∧ (∀ k, T' k → T k ∨ W.heap.size ≤ k) ∧ Below W0.heap.size W0 W' ∧ W.heap.size ≤ W'.heap.size ∧ (∀ k, k < W.heap.size → ¬ T k → W'.heap[k]? = W.heap[k]?) := by
  have HST := Lib.hid hst
  have HB0 := Lib.hid hb0
  have HCO := Lib.hid (fun (V : World) (hv : Below W0.heap.size W0 V) => copiedG_c V cs x (hiv.below hv))
  obtain ⟨⟨t1, t2, t3⟩, h1, h2, h3, fc, h4, h5, h6⟩ := hst
  have l1 := h1 _ t1
  have l2 := h1 _ t2
  have l3 := h1 _ t3
  have HTT := Lib.hid (And.intro t1 (And.intro t2 t3))
  have s0 : W.cell? ⟨B + 1, 0, none⟩ = some (.string id) := by simp [World.cell?, h2]
  have b0 : W.cell? ⟨B + 3, 0, none⟩ = some (.bool s.2) := by simp [World.cell?, h3]
  have bz : ∀ o, W.frozen? ⟨B + 3, o, none⟩ = false := fun o => by simp [World.frozen?, h3]
  have fz : ∀ o, W.frozen? ⟨B + 2, o, none⟩ = false := fun o => by simp [World.frozen?, h4]
  have H3 := Lib.hid h3
  have H4 := Lib.hid h4
  obtain ⟨i0, i1, i2, en, ex, i5, i6, i7, i8, i9, i10, ro, ki, tb⟩ := x
  obtain ⟨hok1, ev, xv, rv, kv, tv, rfl, k1, k2, k3, k4, k5⟩ := hiv
  dsimp only [IT.entry, IT.exit, IT.roles, IT.kids, IT.table] at k1 k2 k3 k4 k5
  obtain ⟨a3, q3, rfl, _⟩ := k1.form
  obtain ⟨a4, q4, rfl, _⟩ := k2.form
  obtain ⟨a11, q11, rfl, _⟩ := k3.form
  obtain ⟨a12, q12, rfl, _⟩ := k4.form
  obtain ⟨a13, q13, rfl, _⟩ := k5.form
  simp only [item14, IT.id, IT.nm, IT.kind, IT.man, IT.req, IT.rep, IT.auto, IT.free, IT.after] at HCO ⊢
  clear k1 k2 k3 k4 k5 hok1 h2 h3 h4 h5 h6 hb0 h1 t1 t2 t3
  generalize en.length = n3 at *
  generalize ex.length = n4 at *
  generalize ro.length = n11 at *
  generalize ki.length = n12 at *
  generalize tb.length = n13 at *
  obtain ⟨q, hq⟩ : ∃ q, (i0.toList == id.toList) = q := ⟨_, rfl⟩
  have HSTEP := Lib.hid (show findS id s (.mk i0 i1 i2 en ex i5 i6 i7 i8 i9 i10 ro ki tb) [] = if q then ((some (.mk i0 i1 i2 en ex i5 i6 i7 i8 i9 i10 ro ki tb), true), false) else ((s.1, false), true) from by
    simp only [findS, IT.id, hq])
  have hfl : ∀ b : Bool, FSt B id (s.1, b) T ((W.setCell ⟨B + 3, 0, none⟩ (.bool b)).alloc (.cells #[.string i0, .string i1, .int .i64 i2, .slice a3 n3 q3, .slice a4 n4 q4, .string i5, .string i6, .string i7, .bool i8, .bool i9, .int .i64 i10, .slice a11 n11 q11, .slice a12 n12 q12, .slice a13 n13 q13] 36)) ∧ Below W0.heap.size W0 ((W.setCell ⟨B + 3, 0, none⟩ (.bool b)).alloc (.cells #[.string i0, .string i1, .int .i64 i2, .slice a3 n3 q3, .slice a4 n4 q4, .string i5, .string i6, .string i7, .bool i8, .bool i9, .int .i64 i10, .slice a11 n11 q11, .slice a12 n12 q12, .slice a13 n13 q13] 36)) ∧
      (∀ k, k < W.heap.size → k ≠ B + 3 → ((W.setCell ⟨B + 3, 0, none⟩ (.bool b)).alloc (.cells #[.string i0, .string i1, .int .i64 i2, .slice a3 n3 q3, .slice a4 n4 q4, .string i5, .string i6, .string i7, .bool i8, .bool i9, .int .i64 i10, .slice a11 n11 q11, .slice a12 n12 q12, .slice a13 n13 q13] 36)).heap[k]? = W.heap[k]?) ∧ ((W.setCell ⟨B + 3, 0, none⟩ (.bool b)).alloc (.cells #[.string i0, .string i1, .int .i64 i2, .slice a3 n3 q3, .slice a4 n4 q4, .string i5, .string i6, .string i7, .bool i8, .bool i9, .int .i64 i10, .slice a11 n11 q11, .slice a12 n12 q12, .slice a13 n13 q13] 36)).heap[B + 3]? = some (.cells #[.bool b] 4 (0, 0)) ∧ ((W.setCell ⟨B + 3, 0, none⟩ (.bool b)).alloc (.cells #[.string i0, .string i1, .int .i64 i2, .slice a3 n3 q3, .slice a4 n4 q4, .string i5, .string i6, .string i7, .bool i8, .bool i9, .int .i64 i10, .slice a11 n11 q11, .slice a12 n12 q12, .slice a13 n13 q13] 36)).heap.size = W.heap.size + 1 := fun b => by
    have hf : ∀ k, k < W.heap.size → k ≠ B + 3 → ((W.setCell ⟨B + 3, 0, none⟩ (.bool b)).alloc (.cells #[.string i0, .string i1, .int .i64 i2, .slice a3 n3 q3, .slice a4 n4 q4, .string i5, .string i6, .string i7, .bool i8, .bool i9, .int .i64 i10, .slice a11 n11 q11, .slice a12 n12 q12, .slice a13 n13 q13] 36)).heap[k]? = W.heap[k]? := fun k hk hne => (Below.heap_alloc _ _ _ (by simpa [World.setCell] using hk)).trans (setG_far _ hne _)
    have h3 : ((W.setCell ⟨B + 3, 0, none⟩ (.bool b)).alloc (.cells #[.string i0, .string i1, .int .i64 i2, .slice a3 n3 q3, .slice a4 n4 q4, .string i5, .string i6, .string i7, .bool i8, .bool i9, .int .i64 i10, .slice a11 n11 q11, .slice a12 n12 q12, .slice a13 n13 q13] 36)).heap[B + 3]? = some (.cells #[.bool b] 4 (0, 0)) := (Below.heap_alloc _ _ _ (by simpa [World.setCell] using l3)).trans (by simp [World.setCell, Array.getElem?_modify, H3.out])
    exact ⟨HST.out.flag (by simp [World.setCell]) hf h3, (HB0.out.setCell (p := ⟨B + 3, 0, none⟩) (show W0.heap.size ≤ B + 3 by omega) _).alloc (by have := HB0.out.size; simpa [World.setCell] using this) _, hf, h3, by simp [World.setCell]⟩
  have HFL := Lib.hid hfl
  clear hfl
  cases q
  · have HST2 := Lib.hid (show findS id s (.mk i0 i1 i2 en ex i5 i6 i7 i8 i9 i10 ro ki tb) [] = ((s.1, false), true) from by rw [HSTEP.out]; rfl)
    go_enter Tryd.func32, Tryd.ntmps32
    go_wp2_with fail
    go_ret
    obtain ⟨p1, p2, p3, p4, p5⟩ := HFL.out false
    rw [HST2.out]
    exact ⟨by rfl, T, p1, fun k hk => .inl hk, p2, by omega, fun k hk hnt => p3 k hk (fun e => hnt (e ▸ HTT.out.2.2))⟩
  · have HST2 := Lib.hid (show findS id s (.mk i0 i1 i2 en ex i5 i6 i7 i8 i9 i10 ro ki tb) [] = ((some (.mk i0 i1 i2 en ex i5 i6 i7 i8 i9 i10 ro ki tb), true), false) from by rw [HSTEP.out]; rfl)
    go_enter Tryd.func32, Tryd.ntmps32
    go_wp2_with fail
    refine (HCO.out _ (HFL.out true).2.1).mono ?_
    rintro e w2 ⟨cs2, rfl, hv2, hb2⟩
    obtain ⟨p1, p2, p3, p4, p5⟩ := HFL.out true
    have HV2 := Lib.hid hv2
    have HB2 := Lib.hid hb2
    have h42 := (hb2.block (B + 2) (by omega)).trans ((p3 (B + 2) l2 (by omega)).trans H4.out)
    have h32 := (hb2.block (B + 3) (by omega)).trans p4
    have HH42 := Lib.hid h42
    have fz2 : ∀ o, w2.frozen? ⟨B + 2, o, none⟩ = false := fun o => by simp [World.frozen?, h42]
    have g0 : w2.cell? ⟨B + 3, 0, none⟩ = some (.bool true) := by simp [World.cell?, h32]
    have hfc : ∃ z0 z1 z2 z3 z4 z5 z6 z7 z8 z9 z10 z11 z12 z13, fc = [z0, z1, z2, z3, z4, z5, z6, z7, z8, z9, z10, z11, z12, z13] := by
      obtain ⟨_, _, _, _, fc', q4, q5, _⟩ := HST.out
      have he : fc = fc' := by
        have := H4.out.symm.trans q4
        simpa using this
      subst he
      match fc, q5 with
      | [z0, z1, z2, z3, z4, z5, z6, z7, z8, z9, z10, z11, z12, z13], _ => exact ⟨_, _, _, _, _, _, _, _, _, _, _, _, _, _, rfl⟩
    obtain ⟨z0, z1, z2, z3, z4, z5, z6, z7, z8, z9, z10, z11, z12, z13, hfc⟩ := hfc
    rw [hfc] at h42
    obtain ⟨f0, f1, f2, f3, f4, f5, f6, f7, f8, f9, f10, f11, f12, f13, fzz⟩ := cellsG14 h42
    have H42 := Lib.hid h42
    obtain ⟨ho, ev, xv, rv, kv, tv, hcs, k1, k2, k3, k4, k5⟩ := hv2
    obtain ⟨b3, p3', e3, _⟩ := k1.form
    obtain ⟨b4, p4', e4, _⟩ := k2.form
    obtain ⟨b11, p11, e11, _⟩ := k3.form
    obtain ⟨b12, p12, e12, _⟩ := k4.form
    obtain ⟨b13, p13, e13, _⟩ := k5.form
    subst e3 e4 e11 e12 e13
    subst hcs
    dsimp only [IT.entry, IT.exit, IT.roles, IT.kids, IT.table] at HV2 ⊢
    simp only [item14, IT.id, IT.nm, IT.kind, IT.man, IT.req, IT.rep, IT.auto, IT.free, IT.after] at HV2 ⊢
    clear hb2 h42 h32 k1 k2 k3 k4 k5 ho p1 p2 p3 p4 p5 hfc s0 b0 bz fz
    generalize en.length = m3 at *
    generalize ex.length = m4 at *
    generalize ro.length = m11 at *
    generalize ki.length = m12 at *
    generalize tb.length = m13 at *
    go_wp2_with fail
    go_ret
    rw [HST2.out]
    obtain ⟨p1, p2, p3, p4, p5⟩ := HFL.out true
    refine ⟨by rfl, _, HST.out.found (by omega) p3 p4 HB2.out HV2.out (putG14_size w2 (B + 2) _ _ _ _ _ _ _ _ _ _ _ _ _ _) (fun k hk => putG14_far hk _ _ _ _ _ _ _ _ _ _ _ _ _ _) (putG14_at H42.out _ _ _ _ _ _ _ _ _ _ _ _ _ _), fun k hk => hk.imp (fun h => h) (fun h => h.1), putG14_below (p2.trans (HB2.out.mono p2.size)) (by omega) _ _ _ _ _ _ _ _ _ _ _ _ _ _, ?_, fun k hk hnt => ?_⟩
    · have := HB2.out.size
      rw [putG14_size]
      omega
    · have hk3 : k ≠ B + 3 := fun e => hnt (e ▸ HTT.out.2.2)
      have hk2 : k ≠ B + 2 := fun e => hnt (e ▸ HTT.out.2.1)
      exact (putG14_far hk2 _ _ _ _ _ _ _ _ _ _ _ _ _ _).trans ((HB2.out.block k (by omega)).trans (p3 k hk hk3))

/-- The visitor that looks for an ID. -/
def findV (W0 : World) (S0 : Nat → Prop) (B : Nat) (id : ByteArray) (hB : W0.heap.size ≤ B) : Vis (Option IT × Bool) W0 S0 32 #[.pointer (some ⟨B + 1, 0, none⟩), .pointer (some ⟨B + 3, 0, none⟩), .pointer (some ⟨B + 2, 0, none⟩)] where
  St := FSt B id
  step := fun s x _ => findS id s x []
  bud := fun _ => 0
  budS := fun _ _ _ => by omega
  keep := fun s T W W' h hs hk => h.keep hs hk
  own := fun s T W h => h.2.1
  enters := fun args w => enters_of Tryd.func32 (by kernel_rfl) rfl args w
  call := fun s T W d cs x av ar hst _ hb hiv _ => find1_c W0 S0 B id hB s T W d cs x av hst hb hiv

/-- The items of a tree, each ahead of those below it. -/
def flatIG : Nat → IT → List IT
  | 0, _ => []
  | d + 1, x => x :: (x.kids ++ x.table).flatMap (flatIG d)
def findR (id : ByteArray) (s : Option IT × Bool) (l : List IT) : (Option IT × Bool) × Bool := match l.find? (fun y => y.id.toList == id.toList) with
  | some y => ((some y, true), false)
  | none => ((s.1, if l.isEmpty then s.2 else false), true)
theorem findR_append (id : ByteArray) (l r : List IT) (s : Option IT × Bool) : findR id s (l ++ r) = if (findR id s l).2 then findR id (findR id s l).1 r else ((findR id s l).1, false) := by
  unfold findR
  rw [List.find?_append]
  cases hl : l.find? (fun y => y.id.toList == id.toList) with
  | some y => simp
  | none =>
    cases hr : r.find? (fun y => y.id.toList == id.toList) with
    | some y => simp
    | none => cases l <;> cases r <;> simp
theorem foldW_flat (id : ByteArray) (f : Option IT × Bool → IT → (Option IT × Bool) × Bool) (g : IT → List IT) (h : ∀ s y, f s y = findR id s (g y)) : ∀ (P : List IT) (s : Option IT × Bool), foldW f s P = findR id s (P.flatMap g)
  | [], s => by simp [foldW, findR]
  | y :: r, s => by
    rw [List.flatMap_cons, findR_append, ← h s y]
    show (if (f s y).2 then foldW f (f s y).1 r else ((f s y).1, false)) = _
    rw [foldW_flat id f g h r]
theorem walkM_find (id : ByteArray) : ∀ (d : Nat) (s : Option IT × Bool) (x : IT) (ar : List ByteArray), walkM (fun s x _ => findS id s x []) d s x ar = findR id s (flatIG d x)
  | 0, s, x, ar => by simp [walkM, flatIG, findR]
  | d + 1, s, x, ar => by
    have hf := foldW_flat id (fun s k => walkM (fun s x _ => findS id s x []) d s k (ar ++ [x.id])) (flatIG d) (fun s y => walkM_find id d s y _)
    simp only [walkM, flatIG]
    rw [hf, show x :: (x.kids ++ x.table).flatMap (flatIG d) = [x] ++ (x.kids ++ x.table).flatMap (flatIG d) from rfl, findR_append]
    have h1 : findS id s x [] = findR id s [x] := by
      unfold findS findR
      by_cases hx : (x.id.toList == id.toList) = true
      · simp [hx]
      · simp [hx]
    rw [h1]
end Go.Proofs.YtllhlmdhnmdihaaDoor
