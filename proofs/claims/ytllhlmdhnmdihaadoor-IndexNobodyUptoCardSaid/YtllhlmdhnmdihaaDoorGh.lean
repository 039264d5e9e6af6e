/- The walk over a model's items, with any visitor (model.walker). Written by tools/gengh.py. -/
import Derived.Test.YtllhlmdhnmdihaaDoorGg
import Derived.Deep.QuietTactic
import Derived.BigQuiet
namespace Go.Proofs.YtllhlmdhnmdihaaDoor
open Go Go.RowKit Go.Deep Go.Shelf
set_option linter.unusedVariables false
set_option linter.unusedSimpArgs false

/-- A list is gone through as long as the answer is true. -/
def foldW {σ : Type} (f : σ → IT → σ × Bool) : σ → List IT → σ × Bool
  | s, [] => (s, true)
  | s, k :: r => if (f s k).2 then foldW f (f s k).1 r else ((f s k).1, false)
theorem foldW_snoc {σ : Type} {f : σ → IT → σ × Bool} {y : IT} : ∀ {P : List IT} {s s1 : σ}, foldW f s P = (s1, true) → foldW f s (P ++ [y]) = f s1 y
  | [], s, s1, h => by
    simp only [foldW, Prod.mk.injEq, and_true] at h
    subst h
    show (if (f s y).2 then foldW f (f s y).1 [] else ((f s y).1, false)) = _
    rcases hf : f s y with ⟨a, b⟩
    cases b <;> rfl
  | k :: r, s, s1, h => by
    show (if (f s k).2 then foldW f (f s k).1 (r ++ [y]) else ((f s k).1, false)) = _
    have h' : (if (f s k).2 then foldW f (f s k).1 r else ((f s k).1, false)) = (s1, true) := h
    by_cases hb : (f s k).2 = true
    · rw [if_pos hb] at h' ⊢
      exact foldW_snoc h'
    · rw [if_neg hb] at h'
      simp at h'
theorem foldW_stop {σ : Type} {f : σ → IT → σ × Bool} {R : List IT} : ∀ {P : List IT} {s s1 : σ}, foldW f s P = (s1, false) → foldW f s (P ++ R) = (s1, false)
  | [], s, s1, h => by simp [foldW] at h
  | k :: r, s, s1, h => by
    show (if (f s k).2 then foldW f (f s k).1 (r ++ R) else ((f s k).1, false)) = _
    have h' : (if (f s k).2 then foldW f (f s k).1 r else ((f s k).1, false)) = (s1, false) := h
    by_cases hb : (f s k).2 = true
    · rw [if_pos hb] at h' ⊢
      exact foldW_stop h'
    · rw [if_neg hb] at h' ⊢
      exact h'
/-- The walk over an item and all below it. -/
def walkM {σ : Type} (step : σ → IT → List ByteArray → σ × Bool) : Nat → σ → IT → List ByteArray → σ × Bool
  | 0, s, _, _ => (s, true)
  | d + 1, s, x, ar => if (step s x ar).2 then foldW (fun s k => walkM step d s k (ar ++ [x.id])) (step s x ar).1 (x.kids ++ x.table) else ((step s x ar).1, false)

theorem foldW_bud {σ : Type} {f : σ → IT → σ × Bool} {bud : σ → Nat} {c : IT → Nat} (h : ∀ s y, bud (f s y).1 ≤ bud s + c y) : ∀ (P : List IT) (s : σ), bud (foldW f s P).1 ≤ bud s + (P.map c).sum
  | [], s => by simp [foldW]
  | k :: r, s => by
    show bud (if (f s k).2 then foldW f (f s k).1 r else ((f s k).1, false)).1 ≤ _
    have h1 := h s k
    simp only [List.map_cons, List.sum_cons]
    split
    · have := foldW_bud h r (f s k).1
      omega
    · show bud (f s k).1 ≤ _
      omega
theorem walkM_bud {σ : Type} {step : σ → IT → List ByteArray → σ × Bool} {bud : σ → Nat} (h : ∀ s x ar, bud (step s x ar).1 ≤ bud s + 1) : ∀ (d : Nat) (s : σ) (x : IT) (ar : List ByteArray), bud (walkM step d s x ar).1 ≤ bud s + cntI d x
  | 0, s, x, ar => by simp [walkM, cntI]
  | d + 1, s, x, ar => by
    have h1 := h s x ar
    simp only [walkM, cntI]
    split
    · have := foldW_bud (f := fun s k => walkM step d s k (ar ++ [x.id])) (bud := bud) (c := cntI d) (fun s y => walkM_bud h d s y _) (x.kids ++ x.table) (step s x ar).1
      omega
    · show bud (step s x ar).1 ≤ _
      omega
/-- A visitor: what it knows, where that lies, what it does with an item. -/
structure Vis (σ : Type) (W0 : World) (S0 : Nat → Prop) (F : FuncId) (caps : Array Value) where
  St : σ → (Nat → Prop) → World → Prop
  step : σ → IT → List ByteArray → σ × Bool
  bud : σ → Nat
  budS : ∀ s x ar, bud (step s x ar).1 ≤ bud s + 1
  keep : ∀ s T W W', St s T W → W.heap.size ≤ W'.heap.size → (∀ k, T k → k < W.heap.size → W'.heap[k]? = W.heap[k]?) → St s T W'
  own : ∀ s T W, St s T W → ∀ k, T k → k < W.heap.size
  enters : ∀ args w, (callFunc F args).run Tryd.prog w = .ok (.enter F args) w
  call : ∀ s T W d cs x av ar, St s T W → bud s + 1 ≤ 260 → Below W0.heap.size W0 W → ItemV S0 W0 d cs x → OwnS W W0.heap.size 9 1 av ar.length (tcells ar) →
    Calls Tryd.prog F (#[.agg cs.toArray, av] ++ caps) W fun e W' => e = .returned (.bool (step s x ar).2) ∧ ∃ T', St (step s x ar).1 T' W' ∧ (∀ k, T' k → T k ∨ W.heap.size ≤ k) ∧ Below W0.heap.size W0 W' ∧ W.heap.size ≤ W'.heap.size ∧ (∀ k, k < W.heap.size → ¬ T k → W'.heap[k]? = W.heap[k]?)

/-- The visitor's memory is not the walker's. -/
def Sep (T : Nat → Prop) (Wb : Nat) (av : Value) : Prop := ¬ T Wb ∧ ∀ k, av.ownBlock = some k → ¬ T k ∧ k ≠ Wb
/-- Between two items of a walk. -/
def WalkS {σ : Type} {W0 : World} {S0 : Nat → Prop} {F : FuncId} {caps : Array Value} (V : Vis σ W0 S0 F caps) (Wb : Nat) (ids : List ByteArray) (s : σ) (av : Value) (w : World) : Prop :=
  ∃ T, V.St s T w ∧ Below W0.heap.size W0 w ∧ w.heap[Wb]? = some (.cells #[av, .func (.func F) #[] caps] 117 (0, 0)) ∧ OwnS w W0.heap.size 9 1 av ids.length (tcells ids) ∧ Sep T Wb av ∧ W0.heap.size ≤ Wb
/-- What a walk ends with. -/
def WalkE {σ : Type} {W0 : World} {S0 : Nat → Prop} {F : FuncId} {caps : Array Value} (V : Vis σ W0 S0 F caps) (Wb : Nat) (ids : List ByteArray) (r : σ × Bool) (e : Ending) (w : World) : Prop :=
  e = .returned (.bool r.2) ∧ (∃ T, V.St r.1 T w) ∧ Below W0.heap.size W0 w ∧ (r.2 = true → ∃ av, WalkS V Wb ids r.1 av w)
theorem WalkS.alloc {σ : Type} {W0 : World} {S0 : Nat → Prop} {F : FuncId} {caps : Array Value} {V : Vis σ W0 S0 F caps} {Wb : Nat} {ids : List ByteArray} {s : σ} {av : Value} {w : World} (h : WalkS V Wb ids s av w) (ob : Obj) : WalkS V Wb ids s av (w.alloc ob) := by
  obtain ⟨T, h1, h2, h3, h4, h5, h6⟩ := h
  have hW := (Array.getElem?_eq_some_iff.1 h3).1
  exact ⟨T, V.keep _ _ _ _ h1 (by simp) (fun k _ hk => Below.heap_alloc _ _ _ hk), h2.alloc h2.size _, (Below.heap_alloc _ _ _ hW).trans h3, h4.keep (fun g hg => Below.heap_alloc _ _ _ (h4.lt g hg)), h5, h6⟩
theorem WalkS.drew {σ : Type} {W0 : World} {S0 : Nat → Prop} {F : FuncId} {caps : Array Value} {V : Vis σ W0 S0 F caps} {Wb : Nat} {ids : List ByteArray} {s : σ} {av : Value} {w : World} (h : WalkS V Wb ids s av w) : WalkS V Wb ids s av w.drew := by
  obtain ⟨T, h1, h2, h3, h4, h5, h6⟩ := h
  exact ⟨T, V.keep _ _ _ _ h1 (Nat.le_refl _) (fun _ _ _ => rfl), h2.drew, h3, h4, h5, h6⟩
/-- An ID more around. -/
theorem WalkS.push {σ : Type} {W0 : World} {S0 : Nat → Prop} {F : FuncId} {caps : Array Value} {V : Vis σ W0 S0 F caps} {Wb : Nat} {ids : List ByteArray} {s : σ} {av v1 : Value} {w w1 : World} {id : ByteArray} (h : WalkS V Wb ids s av w) (hg : w.grownBy w1 av.ownBlock)
    (ho : OwnS w1 W0.heap.size 9 1 v1 (ids.length + 1) (tcells ids ++ [.string id])) (hb : v1.ownBlock = av.ownBlock ∨ v1.ownBlock = some w.heap.size) : WalkS V Wb (ids ++ [id]) s v1 (w1.setCell ⟨Wb, 0, none⟩ v1) ∧ ∀ k, k < w.heap.size → k ≠ Wb → av.ownBlock ≠ some k → (w1.setCell ⟨Wb, 0, none⟩ v1).heap[k]? = w.heap[k]? := by
  obtain ⟨T, h1, h2, h3, h4, h5, h6⟩ := h
  have hW := (Array.getElem?_eq_some_iff.1 h3).1
  have hT := V.own _ _ _ h1
  have hav : ∀ k, av.ownBlock = some k → W0.heap.size ≤ k := fun k hk => by
    rcases h4.2 with ⟨rfl, _⟩ | ⟨g, off, cap, cur, rfl, hb, _⟩
    · simp [Value.ownBlock] at hk
    · simp [Value.ownBlock] at hk; omega
  have hsz := hg.size
  have hne : av.ownBlock ≠ some Wb := fun e => (h5.2 Wb e).2 rfl
  have hk1 : ∀ k, T k → k < w.heap.size → w1.heap[k]? = w.heap[k]? := fun k hk hl => hg.block k hl (fun e => (h5.2 k e.symm).1 hk)
  have hw1 : w1.heap[Wb]? = some (.cells #[av, .func (.func F) #[] caps] 117 (0, 0)) := (hg.block Wb hW (fun e => hne e.symm)).trans h3
  have hvb : ∀ k, v1.ownBlock = some k → ¬ T k ∧ k ≠ Wb := fun k hk => by
    rcases hb with e | e
    · exact h5.2 k (e ▸ hk)
    · rw [e] at hk
      obtain rfl := Option.some.inj hk
      exact ⟨fun ht => absurd (hT _ ht) (by omega), by omega⟩
  refine ⟨?_, fun k hk hkW hka => (setG_far _ hkW _).trans (hg.block k hk (fun e => hka e.symm))⟩
  refine ⟨T, V.keep _ _ _ _ (V.keep _ _ _ _ h1 hsz hk1) (size_setG _ _ _) (fun k hk _ => setG_far _ (fun e => h5.1 (by rw [← e]; exact hk)) _), (h2.grown hg h2.size hav).setCell (p := ⟨Wb, 0, none⟩) h6 _, ?_, ?_, ⟨h5.1, hvb⟩, h6⟩
  · simp [World.setCell, Array.getElem?_modify, hw1]
  · have := ho.keep (w' := w1.setCell ⟨Wb, 0, none⟩ v1) (fun g hg => setG_far _ (hvb g hg).2 _)
    simpa [tcells] using this
theorem infoG1 : ∃ i0, Tryd.prog.info? 9 = some i0 ∧ i0.zero = some (.string ⟨#[]⟩) ∧ i0.size = 1 ∧ i0.bytes = 16 := infoG_parts infoGText
theorem tcells_len (l : List ByteArray) : (tcells l).length = l.length := by simp [tcells]


theorem OwnS.pre {w : World} {base : Nat} {e : TypeId} {size : Nat} {a : Option Addr} {c n m : Nat} {xs : List Value} (h : OwnS w base e size (.slice a n c) n xs) (hm : m ≤ n) : OwnS w base e size (.slice a m c) m (xs.take (m * size)) := by
  have hle : m * size ≤ n * size := Nat.mul_le_mul_right _ hm
  refine ⟨by rw [List.length_take, h.1]; omega, ?_⟩
  rcases h.2 with ⟨hv, hn⟩ | ⟨g, off, cap, cur, hv, hb, hg, k1, k2, k3, k4⟩
  · simp only [Value.slice.injEq] at hv
    obtain ⟨rfl, _, rfl⟩ := hv
    exact .inl ⟨by rw [show m = 0 by omega], by omega⟩
  · simp only [Value.slice.injEq, true_and] at hv
    obtain ⟨rfl, rfl⟩ := hv
    refine .inr ⟨g, off, c, cur, rfl, hb, hg, by omega, k2, k3, ?_⟩
    rw [← k4, List.take_take, Nat.min_eq_left hle]
/-- An ID less around. -/
theorem WalkS.pop {σ : Type} {W0 : World} {S0 : Nat → Prop} {F : FuncId} {caps : Array Value} {V : Vis σ W0 S0 F caps} {Wb : Nat} {ids : List ByteArray} {id : ByteArray} {s : σ} {a : Option Addr} {n c : Nat} {w : World} (h : WalkS V Wb (ids ++ [id]) s (.slice a n c) w) : WalkS V Wb ids s (.slice a ids.length c) (w.setCell ⟨Wb, 0, none⟩ (.slice a ids.length c)) := by
  obtain ⟨T, h1, h2, h3, h4, h5, h6⟩ := h
  have hn : n = ids.length + 1 := by
    obtain ⟨p, q, e, _⟩ := h4.form
    simp only [Value.slice.injEq, List.length_append, List.length_singleton] at e
    exact e.2.1
  subst hn
  rw [List.length_append, List.length_singleton] at h4
  have ho := h4.pre (m := ids.length) (by omega)
  have e1 : (tcells (ids ++ [id])).take (ids.length * 1) = tcells ids := by simp [tcells]
  rw [e1] at ho
  have hob : (Value.slice a ids.length c).ownBlock = (Value.slice a (ids.length + 1) c).ownBlock := by cases a <;> rfl
  refine ⟨T, V.keep _ _ _ _ h1 (size_setG _ _ _) (fun k hk _ => setG_far _ (fun e => h5.1 (by rw [← e]; exact hk)) _), h2.setCell (p := ⟨Wb, 0, none⟩) h6 _, by simp [World.setCell, Array.getElem?_modify, h3], ho.keep (fun g hg => setG_far _ (h5.2 g (hob ▸ hg)).2 _), ⟨h5.1, fun k hk => h5.2 k (hob ▸ hk)⟩, h6⟩
/-- The lists that are done. -/
def PL (ki tb : List IT) : Nat → List IT
  | 0 => []
  | 1 => ki
  | _ => ki ++ tb
/-- The visitor is called, an object of the walk's own behind it. -/
theorem visit_c {σ : Type} {W0 : World} {S0 : Nat → Prop} {F : FuncId} {caps : Array Value} (V : Vis σ W0 S0 F caps) {Wb d : Nat} {w : World} {cs : List Value} {x : IT} {s : σ} {av : Value} {ids : List ByteArray} (hws : WalkS V Wb ids s av w) (hiv : ItemV S0 W0 d cs x) (hbud : V.bud s + 1 ≤ 260) (ob : Obj) (W : World) (hW : W.heap = (w.alloc ob).heap) (hb : Below W0.heap.size W0 W) :
    Calls Tryd.prog F (#[.agg cs.toArray, av] ++ caps) W fun e W' => e = .returned (.bool (V.step s x ids).2) ∧ WalkS V Wb ids (V.step s x ids).1 av W' ∧ W'.heap[w.heap.size]? = some ob := by
  obtain ⟨T, h1, h2, h3, h4, h5, h6⟩ := hws
  have hWl := (Array.getElem?_eq_some_iff.1 h3).1
  have hsz : W.heap.size = w.heap.size + 1 := by rw [hW]; simp
  have hk : ∀ k, k < w.heap.size → W.heap[k]? = w.heap[k]? := fun k hl => by rw [hW]; exact Below.heap_alloc _ _ _ hl
  have hT := V.own _ _ _ h1
  have hown : OwnS W W0.heap.size 9 1 av ids.length (tcells ids) := h4.keep (fun g hg => hk g (h4.lt g hg))
  refine (V.call s T W d cs x av ids (V.keep _ _ _ _ h1 (by omega) (fun k _ hl => hk k hl)) hbud hb hiv hown).mono ?_
  rintro e W' ⟨rfl, T', k1, k2, k3, k4, k5⟩
  have hn : ∀ k, k < w.heap.size → ¬ T k → ¬ T' k := fun k hl hnt ht => by
    rcases k2 k ht with h | h
    · exact hnt h
    · omega
  refine ⟨rfl, ⟨T', k1, k3, (k5 Wb (by omega) h5.1).trans ((hk Wb hWl).trans h3), hown.keep (fun g hg => k5 g (by have := h4.lt g hg; omega) (h5.2 g hg).1), ⟨hn Wb hWl h5.1, fun k hkb => ⟨hn k (h4.lt k hkb) (h5.2 k hkb).1, (h5.2 k hkb).2⟩⟩, h6⟩, (k5 _ (by omega) (fun ht => absurd (hT _ ht) (by omega))).trans (by rw [hW]; exact heap_alloc_new w ob)⟩

set_option maxRecDepth 100000 in
set_option maxHeartbeats 4000000 in
theorem walk_c {σ : Type} {W0 : World} {S0 : Nat → Prop} {F : FuncId} {caps : Array Value} (V : Vis σ W0 S0 F caps) (Wb : Nat) : ∀ (d : Nat) (w : World) (cs : List Value) (x : IT) (s : σ) (av : Value) (ids : List ByteArray), ItemV S0 W0 d cs x → okIG d ids.length x → V.bud s + cntI d x ≤ 260 → WalkS V Wb ids s av w →
    Calls Tryd.prog 45 #[.pointer (some ⟨Wb, 0, none⟩), .agg cs.toArray] w (WalkE V Wb ids (walkM V.step d s x ids)) := by
  intro d
  induction d with
  | zero => rintro w cs x s av ids ⟨ho, ev, xv, rv, kv, tv, e, k1, k2, k3, k4, k5⟩; exact k4.elim
  | succ d ih =>
    intro w cs x s av ids hiv hok hbud hws
    have HIH := Lib.hid ih
    have HV := Lib.hid (fun (ob : Obj) (W : World) (hW : W.heap = (w.alloc ob).heap) (hb : Below W0.heap.size W0 W) => visit_c V hws hiv (by simp only [cntI] at hbud; omega) ob W hW hb)
    have HOK := Lib.hid hok
    have HWS := Lib.hid hws
    have hE := V.enters
    obtain ⟨i0, i1, i2, en, ex, i5, i6, i7, i8, i9, i10, ro, ki, tb⟩ := x
    obtain ⟨hok1, ev, xv, rv, kv, tv, rfl, k1, k2, k3, k4, k5⟩ := hiv
    dsimp only [IT.entry, IT.exit, IT.roles, IT.kids, IT.table] at k1 k2 k3 k4 k5
    have K4 := Lib.hid k4
    have K5 := Lib.hid k5
    obtain ⟨a3, q3, rfl, _⟩ := k1.form
    obtain ⟨a4, q4, rfl, _⟩ := k2.form
    obtain ⟨a11, q11, rfl, _⟩ := k3.form
    obtain ⟨a12, q12, rfl, hkl, hkc, _⟩ := k4.form
    obtain ⟨a13, q13, rfl, htl, htc, _⟩ := k5.form
    have hkn : ki.length ≤ 9223372036854775807 := by unfold maxLen at hkc; omega
    have htn : tb.length ≤ 9223372036854775807 := by unfold maxLen at htc; omega
    simp only [item14, IT.id, IT.nm, IT.kind, IT.man, IT.req, IT.rep, IT.auto, IT.free, IT.after] at HV ⊢
    obtain ⟨T, hst, hb0, hwc, hown, hsep, hWb⟩ := hws
    have hWl : Wb < w.heap.size := (Array.getElem?_eq_some_iff.1 hwc).1
    have HAV := Lib.hid (show ∀ k, av.ownBlock = some k → k < w.heap.size from fun k hk => hown.lt k hk)
    obtain ⟨aa, ac, hav, hal, hac, _⟩ := hown.form
    subst hav
    have c0 : w.cell? ⟨Wb, 0, none⟩ = some (.slice aa ids.length ac) := by simp [World.cell?, hwc]
    have c1 : w.cell? ⟨Wb, 1, none⟩ = some (.func (.func F) #[] caps) := by simp [World.cell?, hwc]
    generalize hn3 : en.length = n3 at *
    generalize hn4 : ex.length = n4 at *
    generalize hn11 : ro.length = n11 at *
    generalize hn12 : ki.length = n12 at *
    generalize hn13 : tb.length = n13 at *
    obtain ⟨wA, hwA⟩ : ∃ y, y = w.alloc (.cells #[.string i0, .string i1, .int .i64 i2, .slice a3 n3 q3, .slice a4 n4 q4, .string i5, .string i6, .string i7, .bool i8, .bool i9, .int .i64 i10, .slice a11 n11 q11, .slice a12 n12 q12, .slice a13 n13 q13] 36) := ⟨_, rfl⟩
    have HWA := Lib.hid hwA
    have HSA := Lib.hid (show WalkS V Wb ids s (.slice aa ids.length ac) wA from by rw [hwA]; exact HWS.out.alloc _)
    have hqa : wA.heap[w.heap.size]? = some (.cells #[.string i0, .string i1, .int .i64 i2, .slice a3 n3 q3, .slice a4 n4 q4, .string i5, .string i6, .string i7, .bool i8, .bool i9, .int .i64 i10, .slice a11 n11 q11, .slice a12 n12 q12, .slice a13 n13 q13] 36 (0, 0)) := by rw [hwA]; exact heap_alloc_new w _
    clear ih hok k1 k2 k3 k4 k5 hok1 hst hb0 hwc hown hsep hkl hkc htl htc hn3 hn4 hn11 hn12 hn13 hwA
    go_enter Tryd.func45, Tryd.ntmps45
    go_wp2_with fail
    rw [← HWA.out]
    obtain ⟨TA, hstA, hbA, hwcA, hownA, hsepA, _⟩ := HSA.out
    have e0 : wA.cell? ⟨Wb, 0, none⟩ = some (.slice aa ids.length ac) := by simp [World.cell?, hwcA]
    have e1 : wA.cell? ⟨Wb, 1, none⟩ = some (.func (.func F) #[] caps) := by simp [World.cell?, hwcA]
    obtain ⟨d0, d1, d2, d3, d4, d5, d6, d7, d8, d9, d10, d11, d12, d13, dz⟩ := cellsG14 hqa
    have HBA := Lib.hid hbA
    obtain ⟨r, hr⟩ : ∃ r, r = V.step s (.mk i0 i1 i2 en ex i5 i6 i7 i8 i9 i10 ro ki tb) ids := ⟨_, rfl⟩
    have HR := Lib.hid hr
    rw [← hr] at HV
    obtain ⟨s1, b1⟩ := r
    have HWL := Lib.hid (show Wb < w.heap.size ∧ w.heap.size < wA.heap.size from ⟨hWl, (Array.getElem?_eq_some_iff.1 hqa).1⟩)
    clear hstA hbA hwcA hownA hsepA c0 c1 hr hqa hWl
    go_cut [19] (fun t wx => t = .bool (!b1) ∧ WalkS V Wb ids s1 (.slice aa ids.length ac) wx ∧ wx.heap[w.heap.size]? = some (.cells #[.string i0, .string i1, .int .i64 i2, .slice a3 n3 q3, .slice a4 n4 q4, .string i5, .string i6, .string i7, .bool i8, .bool i9, .int .i64 i10, .slice a11 n11 q11, .slice a12 n12 q12, .slice a13 n13 q13] 36 (0, 0)))
    case first =>
      go_region_law (go_simp; (refine (HV.out _ _ (by rw [HWA.out]; rfl) (by first | exact HBA.out | exact HBA.out.drew)).mono ?_); rintro e w2 ⟨rfl, hs2, hx2⟩; have HS2 := Lib.hid hs2; have HX2 := Lib.hid hx2; clear hs2 hx2)
      all_goals
        clear d0 d1 d2 d3 d4 d5 d6 d7 d8 d9 d10 d11 d12 d13 dz e0 e1
        go_wp2_with fail
        go_meet
        exact ⟨by first | rfl | (cases b1 <;> rfl), HS2.out, HX2.out⟩
    case rest =>
      obtain ⟨rfl, hs2, hx2⟩ := hcut
      have HS2 := Lib.hid hs2
      have HX2 := Lib.hid hx2
      have HE2 := Lib.hid (show ∀ e, e = Ending.returned (.bool false) → b1 = false → WalkE V Wb ids (walkM V.step (d + 1) s (.mk i0 i1 i2 en ex i5 i6 i7 i8 i9 i10 ro ki tb) ids) e wc from fun e he hb => by
        subst hb
        obtain ⟨T, k1, k2, _⟩ := hs2
        simp only [walkM, ← HR.out]
        exact ⟨he, ⟨T, k1⟩, k2, by simp⟩)
      clear d0 d1 d2 d3 d4 d5 d6 d7 d8 d9 d10 d11 d12 d13 dz e0 e1 HSA HV HBA
      cases b1
      · go_wp2_with fail
        go_ret
        exact HE2.out _ (by rfl) (by trivial)
      · obtain ⟨T2, k1, k2, k3, k4, k5, k6⟩ := hs2
        obtain ⟨d0, d1, d2, d3, d4, d5, d6, d7, d8, d9, d10, d11, d12, d13, dz⟩ := cellsG14 hx2
        have e0 : wc.cell? ⟨Wb, 0, none⟩ = some (.slice aa ids.length ac) := by simp [World.cell?, k3]
        have ez : ∀ o, wc.frozen? ⟨Wb, o, none⟩ = false := fun o => by simp [World.frozen?, k3]
        clear k1 k2 k3 k4 k5 hx2 HE2
        obtain ⟨j0, hj, hz0, hz1, hz2⟩ := infoG1
        have hdep : ids.length ≤ 40 := HOK.out.1
        have HDEP := Lib.hid hdep
        clear hdep
        go_wp2_with fail
        go_cut [] (fun wx => ∃ v1, WalkS V Wb (ids ++ [i0]) s1 v1 wx ∧ wx.heap[w.heap.size]? = some (.cells #[.string i0, .string i1, .int .i64 i2, .slice a3 n3 q3, .slice a4 n4 q4, .string i5, .string i6, .string i7, .bool i8, .bool i9, .int .i64 i10, .slice a11 n11 q11, .slice a12 n12 q12, .slice a13 n13 q13] 36 (0, 0)))
        case first =>
          have HP := Lib.hid (show WalkS V Wb ids s1 (.slice aa ids.length ac) (wc.drew.alloc (.cells #[.string i0] 9)) from HS2.out.drew.alloc _)
          have HOA := Lib.hid (show OwnS (wc.drew.alloc (.cells #[.string i0] 9)) W0.heap.size 9 1 (.slice aa ids.length ac) ids.length (tcells ids) ∧ W0.heap.size ≤ (wc.drew.alloc (.cells #[.string i0] 9)).heap.size from by
            obtain ⟨T, k1, k2, k3, k4, _⟩ := HP.out
            exact ⟨k4, k2.size⟩)
          have HSRC := Lib.hid (show Src Tryd.prog 1 31 (.slice (some ⟨wc.heap.size, 0, none⟩) 1 1) 1 [.string i0] (wc.drew.alloc (.cells #[.string i0] 9)) from
            Src.ofSlice _ Tryd.underlying31 ⟨wc.heap.size, 0, none⟩ 1 1 [.string i0] rfl (fun j u hu => by
              have hj0 : j = 0 := by
                have := (List.getElem?_eq_some_iff.1 hu).1
                simpa using this
              subst hj0
              rw [Addr.add_lit, cell_of_row _ wc.heap.size (0 + 0) _ _ _ (heap_alloc_new wc.drew _), ← hu]
              rfl) (by simp [Value.oneCell']))
          have HFZ := Lib.hid (show (wc.drew.alloc (.cells #[.string i0] 9)).heap[Wb]? = some (.cells #[.slice aa ids.length ac, .func (.func F) #[] caps] 117 (0, 0)) ∧ some Wb ≠ Value.ownBlock (.slice aa ids.length ac) from by
            obtain ⟨T, k1, k2, k3, k4, k5, _⟩ := HP.out
            exact ⟨k3, fun e => (k5.2 Wb e.symm).2 rfl⟩)
          have HBX := Lib.hid (show (wc.drew.alloc (.cells #[.string i0] 9)).heap[w.heap.size]? = some (.cells #[.string i0, .string i1, .int .i64 i2, .slice a3 n3 q3, .slice a4 n4 q4, .string i5, .string i6, .string i7, .bool i8, .bool i9, .int .i64 i10, .slice a11 n11 q11, .slice a12 n12 q12, .slice a13 n13 q13] 36 (0, 0)) from (Below.heap_alloc _ _ _ (Array.getElem?_eq_some_iff.1 HX2.out).1).trans HX2.out)
          have ew : (wc.alloc (.cells #[.string i0] 9)).cell? ⟨Wb, 0, none⟩ = some (.slice aa ids.length ac) := by
            have := HFZ.out.1
            simp only [World.cell?]
            rw [show (wc.alloc (.cells #[.string i0] 9)).heap[Wb]? = _ from this]
            rfl
          go_region_law (refine step_append_S (by rfl) (Operand.tmp 24) (Operand.tmp 27) 31 31 (by rfl) W0.heap.size 9 j0 _ 1 16 Tryd.underlying31 hj hz0 hz1 hz2 rfl (Nat.succ_pos _) (.slice aa ids.length ac) ids.length (tcells ids) (by rfl) HOA.out.1 (.slice (some ⟨wc.heap.size, 0, none⟩) 1 1) 1 [.string i0] (by rfl) HSRC.out (by have := HDEP.out; unfold maxLen; omega) (by have := HDEP.out; omega) HOA.out.2 ?_
                         intro v' w' hown hgrow hl
                         obtain ⟨va, vc, hv', _⟩ := hown.form
                         subst hv'
                         have HPU := Lib.hid (HP.out.push hgrow hown hl)
                         have hfz : ∀ o, w'.frozen? ⟨Wb, o, none⟩ = false := fun o => by
                           have := (hgrow.block Wb (Array.getElem?_eq_some_iff.1 HFZ.out.1).1 HFZ.out.2).trans HFZ.out.1
                           simp [World.frozen?, this]
                         have hcw : w'.cell? ⟨Wb, 0, none⟩ = some (.slice aa ids.length ac) := by
                           have := (hgrow.block Wb (Array.getElem?_eq_some_iff.1 HFZ.out.1).1 HFZ.out.2).trans HFZ.out.1
                           simp [World.cell?, this]
                         clear hown hgrow hl)
          all_goals
            go_wp2_with fail
            go_meet
            exact ⟨_, HPU.out.1, (HPU.out.2 _ (Array.getElem?_eq_some_iff.1 HBX.out).1 (by have := HWL.out.1; omega) (fun e => absurd (HAV.out _ e) (by omega))).trans HBX.out⟩
        case rest =>
          obtain ⟨v1, hs3, hx3⟩ := hcut
          have HS3 := Lib.hid hs3
          clear d0 d1 d2 d3 d4 d5 d6 d7 d8 d9 d10 d11 d12 d13 dz e0 ez
          obtain ⟨d0, d1, d2, d3, d4, d5, d6, d7, d8, d9, d10, d11, d12, d13, dz⟩ := cellsG14 hx3
          clear hs3 hx3
          obtain ⟨f, hf⟩ : ∃ f : σ → IT → σ × Bool, f = fun s k => walkM V.step d s k (ids ++ [i0]) := ⟨_, rfl⟩
          have HF := Lib.hid hf
          have HWM := Lib.hid (show ∀ r, foldW f s1 (ki ++ tb) = r → walkM V.step (d + 1) s (.mk i0 i1 i2 en ex i5 i6 i7 i8 i9 i10 ro ki tb) ids = r from fun r h => by
            simp only [walkM, ← HR.out, if_true, IT.id, IT.kids, IT.table]
            rw [← hf]
            exact h)
          have HBD := Lib.hid (show ∀ P Q, ki ++ tb = P ++ Q → ∀ s2, foldW f s1 P = (s2, true) → ∀ y r, Q = y :: r → V.bud s2 + cntI d y ≤ 260 from fun P Q h s2 h2 y r hQ => by
            have h3 := foldW_bud (f := f) (bud := V.bud) (c := cntI d) (fun s y => by rw [hf]; exact walkM_bud V.budS d s y _) P s1
            rw [h2] at h3
            have h4 := V.budS s (.mk i0 i1 i2 en ex i5 i6 i7 i8 i9 i10 ro ki tb) ids
            rw [← HR.out] at h4
            have h5 : ((ki ++ tb).map (cntI d)).sum = (P.map (cntI d)).sum + (cntI d y + (r.map (cntI d)).sum) := by rw [h, hQ]; simp
            have h6 : V.bud s + cntI (d + 1) (.mk i0 i1 i2 en ex i5 i6 i7 i8 i9 i10 ro ki tb) ≤ 260 := hbud
            simp only [cntI, IT.kids, IT.table] at h6
            rw [h5] at h6
            simp only at h3 h4
            omega)
          clear hf
          go_wp2_with fail
          clear d0 d1 d2 d3 d4 d5 d6 d7 d8 d9 d10 d11 d12 d13 dz
          go_loopw [36] (fun i wr => ∃ (k : Nat) (s2 : σ) (v2 : Value), k ≤ 2 ∧ i = .int .i64 k ∧ WalkS V Wb (ids ++ [i0]) s2 v2 wr ∧ Hid (foldW f s1 (PL ki tb k) = (s2, true))) (fun i _ => 2 - (intOf i).toNat)
          case atStart => exact ⟨0, s1, v1, by omega, rfl, HS3.out, Lib.hid rfl⟩
          case round =>
            obtain ⟨k, s2, v2, hk, rfl, hws2, HFO⟩ := hrel
            have HS4 := Lib.hid hws2
            by_cases hk2 : k < 2
            · obtain ⟨la, ln, lc, l, hidx, hln, HL, HPL, HPRE, HOKL⟩ : ∃ la ln lc l, (∀ W : World, (Instr.index 140 (.agg #[.slice a12 n12 q12, .slice a13 n13 q13]) (.int .i64 k)).run Tryd.prog W = .ok (.slice la ln lc) W) ∧ ln ≤ 9223372036854775807 ∧ Hid (ItemsD S0 W0 (d + 1) (.slice la ln lc) l ∧ ln = l.length) ∧ Hid (PL ki tb (k + 1) = PL ki tb k ++ l) ∧ Hid (∃ R, ki ++ tb = PL ki tb k ++ (l ++ R)) ∧ Hid (∀ y ∈ l, okIG d (ids.length + 1) y) := by
                have hm1 : n12 = ki.length := by
                  obtain ⟨p, q, e, _⟩ := K4.out.form
                  simp only [Value.slice.injEq] at e
                  exact e.2.1
                have hm2 : n13 = tb.length := by
                  obtain ⟨p, q, e, _⟩ := K5.out.form
                  simp only [Value.slice.injEq] at e
                  exact e.2.1
                have hok5 := HOK.out.2.2.2.2
                rcases (show k = 0 ∨ k = 1 by omega) with rfl | rfl
                · exact ⟨a12, n12, q12, ki, fun _ => by kernel_rfl, hkn, Lib.hid ⟨K4.out, hm1⟩, Lib.hid (by simp [PL]), Lib.hid ⟨tb, by simp [PL]⟩, Lib.hid (fun y hy => hok5 y (List.mem_append_left _ hy))⟩
                · exact ⟨a13, n13, q13, tb, fun _ => by kernel_rfl, htn, Lib.hid ⟨K5.out, hm2⟩, Lib.hid (by simp [PL]), Lib.hid ⟨[], by simp [PL]⟩, Lib.hid (fun y hy => hok5 y (List.mem_append_right _ hy))⟩
              have hqk : decide ((k : Int) < 2) = true := decide_eq_true (by omega)
              clear hws2
              go_wp2_with fail
              go_loopw [41] (fun i wr => ∃ (j : Nat) (s3 : σ) (v3 : Value), j ≤ ln ∧ i = .int .i64 j ∧ WalkS V Wb (ids ++ [i0]) s3 v3 wr ∧ Hid (foldW f s1 (PL ki tb k ++ l.take j) = (s3, true))) (fun i _ => ln - (intOf i).toNat)
              case atStart => exact ⟨0, s2, v2, by omega, rfl, HS4.out, Lib.hid (by simpa using HFO.out)⟩
              case round =>
                obtain ⟨j, s3, v3, hj, rfl, hws3, HFO3⟩ := hrel
                have HS5 := Lib.hid hws3
                by_cases hjl : j < ln
                · have hjl2 : j < l.length := by have := HL.out.2; omega
                  obtain ⟨g, o, c, ev, xv, rv, kv, tv, hv, _, _, _, hgl, ⟨c0, c1, c2, c3, c4, c5, c6, c7, c8, c9, c10, c11, c12, c13⟩, hiv⟩ := HL.out.1.elem j hjl2
                  simp only [Value.slice.injEq] at hv
                  obtain ⟨rfl, hx9, rfl⟩ := hv
                  clear hx9
                  have hbw : Below W0.heap.size W0 wr := by
                    obtain ⟨_, _, h, _⟩ := hws3
                    exact h
                  have hg0 : ∀ p, (wr.cell? ⟨g, p, none⟩) = W0.cell? ⟨g, p, none⟩ := fun p => hbw.cell (p := ⟨g, p, none⟩) hgl
                  have e0 := (hg0 _).trans c0
                  have e1 := (hg0 _).trans c1
                  have e2 := (hg0 _).trans c2
                  have e3 := (hg0 _).trans c3
                  have e4 := (hg0 _).trans c4
                  have e5 := (hg0 _).trans c5
                  have e6 := (hg0 _).trans c6
                  have e7 := (hg0 _).trans c7
                  have e8 := (hg0 _).trans c8
                  have e9 := (hg0 _).trans c9
                  have e10 := (hg0 _).trans c10
                  have e11 := (hg0 _).trans c11
                  have e12 := (hg0 _).trans c12
                  have e13 := (hg0 _).trans c13
                  have hokj := HOKL.out l[j] (List.getElem_mem hjl2)
                  obtain ⟨R, hR⟩ := HPRE.out
                  have hspl : ki ++ tb = (PL ki tb k ++ l.take j) ++ (l[j] :: (l.drop (j + 1) ++ R)) := by
                    rw [hR, List.append_assoc, ← List.cons_append, ← List.drop_eq_getElem_cons hjl2, ← List.append_assoc (l.take j), List.take_append_drop]
                  have hbj := HBD.out _ _ hspl s3 HFO3.out _ _ rfl
                  have hsn := foldW_snoc (y := l[j]) HFO3.out
                  have htk : l.take j ++ [l[j]] = l.take (j + 1) := List.take_append_getElem hjl2
                  generalize l[j] = y at *
                  obtain ⟨r, hr⟩ : ∃ r, r = walkM V.step d s3 y (ids ++ [i0]) := ⟨_, rfl⟩
                  have hfy : f s3 y = r := by rw [hr, HF.out]
                  rw [hfy] at hsn
                  have HREC := Lib.hid (fun (W : World) (h : WalkS V Wb (ids ++ [i0]) s3 v3 W) => HIH.out W _ y s3 v3 (ids ++ [i0]) hiv (by rw [List.length_append]; exact hokj) hbj h)
                  rw [← hr] at HREC
                  have HSN := Lib.hid hsn
                  have HSPL := Lib.hid hspl
                  have HTK := Lib.hid htk
                  obtain ⟨m1, m2, m3', m4', m5'⟩ := hiv.forms
                  obtain ⟨y0, y1, y2, yen, yex, y5, y6, y7, y8, y9, y10, yro, yki, ytb⟩ := y
                  dsimp only [IT.entry, IT.exit, IT.roles, IT.kids, IT.table] at m1 m2 m3' m4' m5'
                  obtain ⟨b3, p3, rfl, _⟩ := m1.form
                  obtain ⟨b4, p4, rfl, _⟩ := m2.form
                  obtain ⟨b11, p11, rfl, _⟩ := m3'.form
                  obtain ⟨b12, p12, rfl, _⟩ := m4'.form
                  obtain ⟨b13, p13, rfl, _⟩ := m5'.form
                  simp only [item14, IT.id, IT.nm, IT.kind, IT.man, IT.req, IT.rep, IT.auto, IT.free, IT.after] at HREC e0 e1 e2 e3 e4 e5 e6 e7 e8 e9 e10 e11 e12 e13
                  obtain ⟨s4, b5⟩ := r
                  clear hg0 c0 c1 c2 c3 c4 c5 c6 c7 c8 c9 c10 c11 c12 c13 hiv m1 m2 m3' m4' m5' hokj hbj hsn hspl htk hr hfy hR hws3 hbw
                  generalize yen.length = m3 at *
                  generalize yex.length = m4 at *
                  generalize yro.length = m11 at *
                  generalize yki.length = m12 at *
                  generalize ytb.length = m13 at *
                  go_wp2_with fail
                  refine (HREC.out _ (HS5.out.alloc _)).mono ?_
                  rintro e w4 ⟨rfl, hT4, hB4, hq4⟩
                  have HT4 := Lib.hid hT4
                  have HB4 := Lib.hid hB4
                  have HQ4 := Lib.hid hq4
                  clear hT4 hB4 hq4 e0 e1 e2 e3 e4 e5 e6 e7 e8 e9 e10 e11 e12 e13
                  cases b5
                  · go_wp2_with fail
                    go_ret
                    have hw := HWM.out (s4, false) (by rw [HSPL.out, List.append_cons]; exact foldW_stop HSN.out)
                    rw [hw]
                    exact ⟨by rfl, HT4.out, HB4.out, by simp⟩
                  · have hq5 : ∃ av, WalkS V Wb (ids ++ [i0]) s4 av w4 := by simpa using HQ4.out
                    obtain ⟨v4, hws4⟩ := hq5
                    have HS6 := Lib.hid hws4
                    clear hws4
                    go_wp2_with fail
                    go_roundw
                    case rel => exact ⟨j + 1, s4, v4, by omega, by go_num, HS6.out, Lib.hid (by rw [← HTK.out, ← List.append_assoc]; exact HSN.out)⟩
                    case measure => simp [intOf]; omega
                · have hje : j = ln := by omega
                  have hfe : foldW f s1 (PL ki tb (k + 1)) = (s3, true) := by
                    rw [HPL.out]
                    have := HFO3.out
                    rwa [List.take_of_length_le (by have := HL.out.2; omega)] at this
                  have HFE := Lib.hid hfe
                  clear hfe
                  subst hje
                  go_wp2_with fail
                  go_roundw
                  case rel => exact ⟨k + 1, s3, v3, by omega, by go_num, HS5.out, HFE⟩
                  case measure => simp [intOf]; omega
            · have hke : k = 2 := by omega
              subst hke
              obtain ⟨T5, k1, k2, k3, k4, k5, k6⟩ := hws2
              obtain ⟨va, vc, rfl, hvl, hvm, _⟩ := k4.form
              have e0 : wr.cell? ⟨Wb, 0, none⟩ = some (.slice va (ids.length + 1) vc) := by simp [World.cell?, k3]
              have ez : ∀ o, wr.frozen? ⟨Wb, o, none⟩ = false := fun o => by simp [World.frozen?, k3]
              have hdp := HDEP.out
              have HPOP := Lib.hid HS4.out.drew.pop
              have HPOQ := Lib.hid HS4.out.pop
              have HPOR := Lib.hid HS4.out.pop.drew
              have HW5 := Lib.hid (HWM.out (s2, true) HFO.out)
              simp only [List.length_append, List.length_singleton] at hvl
              clear k1 k2 k3 k4 k5
              go_wp2_with fail
              go_region
              all_goals
                go_wp2_with fail
                go_ret
                rw [HW5.out]
                have hfin : ∀ W, WalkS V Wb ids s2 (.slice va ids.length vc) W → ∀ e, e = Ending.returned (.bool true) → WalkE V Wb ids (s2, true) e W := fun W h e he => by
                  obtain ⟨T, q1, q2, q3⟩ := id h
                  exact ⟨he, ⟨T, q1⟩, q2, fun _ => ⟨_, h⟩⟩
                first
                  | exact hfin _ HPOP.out _ (by rfl)
                  | exact hfin _ HPOQ.out _ (by rfl)
                  | exact hfin _ HPOR.out _ (by rfl)
end Go.Proofs.YtllhlmdhnmdihaaDoor
