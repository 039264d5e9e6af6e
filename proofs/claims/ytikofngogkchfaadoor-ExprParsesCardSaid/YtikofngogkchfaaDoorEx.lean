/- The program's parser: running worlds, nodes in boxes. -/
import Derived.Test.YtikofngogkchfaaDoorEq
namespace Go.Proofs.YtikofngogkchfaaDoor
open Go.RowKit
set_option linter.unusedVariables false

def nodeZ : Array Value := #[.int .i64 0, .int .i64 0, .int .i64 0, .bool false, .string ⟨#[]⟩, .string ⟨#[]⟩, .int .i64 0, .slice none 0 0]
theorem underN : ∃ d, Tryd.prog.underlying 26 = some d ∧ (match d with | .struct _ | .array _ _ => true | _ => false) = true := ⟨_, Tryd.underlying26, rfl⟩
theorem infoN8 : (Tryd.prog.info? 26).map (·.size) = some 8 := by kernel_rfl
/-- Words and worlds while a method runs: since the world behind its first box. -/
structure Run (w0 : World) (pb wg : Nat) (ws : List Wd) (w : World) : Prop where
  ps : PS w pb wg ws
  chg : Chg [pb] w0 w
theorem Run.box {w0 w : World} {pb wg : Nat} {ws : List Wd} (h : Run w0 pb wg ws w) (o : Obj) : Run w0 pb wg ws (w.alloc o) := ⟨h.ps.alloc o, h.chg.alloc' o⟩
theorem Run.next {w0 w w' : World} {pb wg : Nat} {ws ws' : List Wd} (h : Run w0 pb wg ws w) (hp : PS w' pb wg ws') (hc : Chg [pb] w w') : Run w0 pb wg ws' w' := ⟨hp, h.chg.trans hc⟩
theorem Run.start {w : World} {pb wg : Nat} {ws : List Wd} (h : PS w pb wg ws) (o : Obj) : Run (w.alloc o) pb wg ws (w.alloc o) := ⟨h.alloc o, Chg.refl _ _⟩
/-- The first box stays. -/
theorem Run.first {w w' : World} {pb wg : Nat} {ws : List Wd} {o : Obj} (h : Run (w.alloc o) pb wg ws w') (hp : pb < w.heap.size) : w'.heap[w.heap.size]? = some o := by
  rw [h.chg.block w.heap.size (by simp) (by simp; omega)]
  exact heap_alloc_new w o
theorem Run.whole {w w' : World} {pb wg : Nat} {ws : List Wd} {o : Obj} (h : Run (w.alloc o) pb wg ws w') : Chg [pb] w w' := (Chg.alloc [pb] w o).trans h.chg
theorem Chg.box {pb : Nat} {w w' : World} {o : Obj} (h : Chg [pb] (w.alloc o) w') (hp : pb < w.heap.size) : w'.heap[w.heap.size]? = some o := by
  rw [h.block w.heap.size (by simp) (by simp; omega)]
  exact heap_alloc_new w o
/-- The first box is written at the end. -/
theorem Run.put {ws0 : List Wd} {w w' : World} {pb wg : Nat} {ws : List Wd} {o : Obj} (h : Run (w.alloc o) pb wg ws w') (hp : PS w pb wg ws0) (cs : Array Value) : PS (w'.setRow w.heap.size cs) pb wg ws ∧ Chg [pb] w (w'.setRow w.heap.size cs) := by
  have hc := h.whole.setRow' w.heap.size cs (.inr (Nat.le_refl _))
  have far := fun g (hg : g < w.heap.size) => setRow_far w' w.heap.size g cs (by omega)
  have hpl := hp.lt
  have htl := hp.tab.lt
  obtain ⟨off, cap, h1, h2, h3, h4⟩ := h.ps.lies
  exact ⟨⟨h.ps.tab.keep (far _ htl.1) (far _ htl.2), h.ps.far, h.ps.ok, h.ps.len, ⟨off, cap, (far _ hpl.2).trans h1, h2, h3, h4.keep (far _ hpl.1)⟩, h.ps.ne, by rw [size_setRow]; exact h.ps.lt⟩, hc⟩

theorem cellsN {w : World} {b : Nat} {c0 c1 c2 c3 c4 c5 c6 c7 : Value} {T : TypeId} (h : w.heap[b]? = some (.cells #[c0, c1, c2, c3, c4, c5, c6, c7] T (0, 0))) :
    w.cell? ⟨b, 0, none⟩ = some c0 ∧ w.cell? ⟨b, 1, none⟩ = some c1 ∧ w.cell? ⟨b, 2, none⟩ = some c2 ∧ w.cell? ⟨b, 3, none⟩ = some c3 ∧ w.cell? ⟨b, 4, none⟩ = some c4 ∧ w.cell? ⟨b, 5, none⟩ = some c5 ∧ w.cell? ⟨b, 6, none⟩ = some c6 ∧ w.cell? ⟨b, 7, none⟩ = some c7 ∧ (∀ o, w.frozen? ⟨b, o, none⟩ = false) := by
  refine ⟨?_, ?_, ?_, ?_, ?_, ?_, ?_, ?_, fun o => ?_⟩ <;> simp [World.cell?, World.frozen?, h]
/-- A node stored into a box, cell for cell. -/
abbrev putN (w : World) (b : Nat) (c0 c1 c2 c3 c4 c5 c6 c7 : Value) : World :=
  ((((((((w.setCell ⟨b, 0, none⟩ c0).setCell ⟨b, 1, none⟩ c1).setCell ⟨b, 2, none⟩ c2).setCell ⟨b, 3, none⟩ c3).setCell ⟨b, 4, none⟩ c4).setCell ⟨b, 5, none⟩ c5).setCell ⟨b, 6, none⟩ c6).setCell ⟨b, 7, none⟩ c7)
theorem putN_at {w : World} {b : Nat} {z0 z1 z2 z3 z4 z5 z6 z7 : Value} {T : TypeId} (h : w.heap[b]? = some (.cells #[z0, z1, z2, z3, z4, z5, z6, z7] T (0, 0))) (c0 c1 c2 c3 c4 c5 c6 c7 : Value) :
    (putN w b c0 c1 c2 c3 c4 c5 c6 c7).heap[b]? = some (.cells #[c0, c1, c2, c3, c4, c5, c6, c7] T (0, 0)) := by
  unfold putN
  simp [World.setCell, Array.getElem?_modify, h]
theorem putN_chg (w : World) (b : Nat) (c0 c1 c2 c3 c4 c5 c6 c7 : Value) : Chg [b] w (putN w b c0 c1 c2 c3 c4 c5 c6 c7) :=
  ((((((((Chg.refl [b] w).set' _ _ _ (.inl (by simp))).set' _ _ _ (.inl (by simp))).set' _ _ _ (.inl (by simp))).set' _ _ _ (.inl (by simp))).set' _ _ _ (.inl (by simp))).set' _ _ _ (.inl (by simp))).set' _ _ _ (.inl (by simp))).set' _ _ _ (.inl (by simp))
/-- The first box is written at the end, cell for cell. -/
theorem Run.put' {ws0 : List Wd} {w w' w'' : World} {pb wg : Nat} {ws : List Wd} {o : Obj} (h : Run (w.alloc o) pb wg ws w') (hp : PS w pb wg ws0) (hq : Chg [w.heap.size] w' w'') : PS w'' pb wg ws ∧ Chg [pb] w w'' := by
  have hsz := h.chg.size
  simp only [World.size_alloc] at hsz
  have hc : Chg [pb] w w'' := h.whole.then hq (fun i hi => .inr (by simp at hi; omega))
  have far := fun g (hg : g < w.heap.size) => hq.block g (by omega) (by simp; omega)
  have hpl := hp.lt
  have htl := hp.tab.lt
  obtain ⟨off, cap, h1, h2, h3, h4⟩ := h.ps.lies
  exact ⟨⟨h.ps.tab.keep (far _ htl.1) (far _ htl.2), h.ps.far, h.ps.ok, h.ps.len, ⟨off, cap, (far _ hpl.2).trans h1, h2, h3, h4.keep (far _ hpl.1)⟩, h.ps.ne, by have := h.ps.lt; have := hq.size; omega⟩, hc⟩

theorem Run.below {w0 w w' : World} {pb wg : Nat} {ws : List Wd} (h : Run w0 pb wg ws w) (hb : Below w.heap.size w w') : Run w0 pb wg ws w' := ⟨h.ps.below hb, h.chg.trans (Chg.of_below hb)⟩
theorem is_b {w : World} {pb wg : Nat} {ws : List Wd} (h : PS w pb wg ws) (m : ByteArray) (b : Bool) (hb : isB m.data.toList (nextW ws) = b) : Calls Tryd.prog 56 #[.pointer (some ⟨pb, 0, none⟩), .string m] w fun e w' => e = .returned (.bool b) ∧ Below w.heap.size w w' := by
  have := is_c h m
  rwa [hb] at this
theorem vint_c (w : World) (x : Int) : Calls Tryd.prog 54 #[.int .i64 x] w fun e w' => e = .returned (.agg #[.int .i64 1, .int .i64 x, .bool false, .string ⟨#[]⟩]) ∧ Below w.heap.size w w' := by
  go_enter Tryd.func54, Tryd.ntmps54
  go_wp2_with fail
  refine bodyPost_ret (v := .agg #[.int .i64 1, .int .i64 x, .bool false, .string ⟨#[]⟩]) (by simp [results, Tryd.results54, go_sem]) rfl ?_
  exact ⟨rfl, box_bel' _ _⟩
theorem vbool_c (w : World) (x : Bool) : Calls Tryd.prog 57 #[.bool x] w fun e w' => e = .returned (.agg #[.int .i64 2, .int .i64 0, .bool x, .string ⟨#[]⟩]) ∧ Below w.heap.size w w' := by
  go_enter Tryd.func57, Tryd.ntmps57
  go_wp2_with fail
  refine bodyPost_ret (v := .agg #[.int .i64 2, .int .i64 0, .bool x, .string ⟨#[]⟩]) (by simp [results, Tryd.results57, go_sem]) rfl ?_
  exact ⟨rfl, box_bel' _ _⟩
theorem vtext_c (w : World) (x : ByteArray) : Calls Tryd.prog 55 #[.string x] w fun e w' => e = .returned (.agg #[.int .i64 3, .int .i64 0, .bool false, .string x]) ∧ Below w.heap.size w w' := by
  go_enter Tryd.func55, Tryd.ntmps55
  go_wp2_with fail
  refine bodyPost_ret (v := .agg #[.int .i64 3, .int .i64 0, .bool false, .string x]) (by simp [results, Tryd.results55, go_sem]) rfl ?_
  exact ⟨rfl, box_bel' _ _⟩
end Go.Proofs.YtikofngogkchfaaDoor
