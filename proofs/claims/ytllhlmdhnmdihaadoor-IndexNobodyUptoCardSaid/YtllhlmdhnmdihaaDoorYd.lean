/- Instances: copies. -/
import Derived.Test.YtllhlmdhnmdihaaDoorYc
import Derived.Test.YtllhlmdhnmdihaaDoorByS
import Derived.OwnWalk
namespace Go.Proofs.YtllhlmdhnmdihaaDoor
open Go Go.RowKit
set_option linter.unusedVariables false
set_option linter.unusedSimpArgs false

theorem RdV.src {P : Program} {t e' : TypeId} (hk : P.underlying t = some (.slice e')) {w : World} {v : Value} {cs : List Value} (h : RdV w v cs) (ho : ∀ u ∈ cs, u.oneCell' = true) : Src P 1 t v cs.length cs w := by
  obtain ⟨p, c, rfl, h1, h2, h3, h4⟩ := h
  cases p with
  | none =>
    have := h3 rfl
    have h0 : cs.length = 0 := by omega
    have : cs = [] := List.eq_nil_of_length_eq_zero h0
    subst this
    exact Src.ofNil w hk c
  | some a =>
    refine Src.ofSlice w hk a _ c cs (by simp) (fun j u hj => ?_) ho
    have hjl := (List.getElem?_eq_some_iff.1 hj).1
    obtain ⟨b, o, hp, hx⟩ := h4 (by omega)
    obtain rfl : a = ⟨b, o, none⟩ := by simpa using hp
    have := hx j hjl
    rw [List.getElem?_eq_getElem hjl] at hj
    rw [Addr.add_lit, this]
    exact hj
theorem icells_one (xs : List Int) : ∀ u ∈ icells xs, u.oneCell' = true := by
  intro u hu
  simp only [icells, List.mem_map] at hu
  obtain ⟨b, _, rfl⟩ := hu
  rfl
theorem infoInt : (Tryd.prog.info? 3).map (fun i => (i.zero, i.size, i.bytes)) = some (some (.int .i64 0), 1, 8) := by kernel_rfl

theorem two_old (w : World) (o o2 : Obj) : ((w.alloc o).alloc o2).heap[w.heap.size]? = some o := (Below.heap_alloc _ _ _ (by simp)).trans (heap_alloc_new w o)
theorem two_new (w : World) (o o2 : Obj) : ((w.alloc o).alloc o2).heap[w.heap.size + 1]? = some o2 := by
  have := heap_alloc_new (w.alloc o) o2
  rwa [World.size_alloc] at this
theorem cells6 {w : World} {b : Nat} {c0 c1 c2 c3 c4 c5 : Value} {T : TypeId} (h : w.heap[b]? = some (.cells #[c0, c1, c2, c3, c4, c5] T (0, 0))) :
    w.cell? ⟨b, 0, none⟩ = some c0 ∧ w.cell? ⟨b, 1, none⟩ = some c1 ∧ w.cell? ⟨b, 2, none⟩ = some c2 ∧ w.cell? ⟨b, 3, none⟩ = some c3 ∧ w.cell? ⟨b, 4, none⟩ = some c4 ∧ w.cell? ⟨b, 5, none⟩ = some c5 ∧ (∀ o, w.frozen? ⟨b, o, none⟩ = false) := by
  refine ⟨?_, ?_, ?_, ?_, ?_, ?_, fun o => ?_⟩ <;> simp [World.cell?, World.frozen?, h]

theorem OwnS.up {w : World} {b b' : Nat} {e : TypeId} {size : Nat} {v : Value} {n : Nat} {xs : List Value} (h : OwnS w b e size v n xs) (hb : b' ≤ b) : OwnS w b' e size v n xs := by
  refine ⟨h.1, h.2.imp id ?_⟩
  rintro ⟨g, off, cap, cur, h1, h2, h3⟩
  exact ⟨g, off, cap, cur, h1, by omega, h3⟩
theorem OwnS.base {w : World} {b : Nat} {e : TypeId} {size : Nat} {v : Value} {n : Nat} {xs : List Value} (h : OwnS w b e size v n xs) : ∀ g, v.ownBlock = some g → b ≤ g := by
  intro g hg
  rcases h.2 with ⟨rfl, _⟩ | ⟨g', off, cap, cur, rfl, h2, h3⟩
  · simp [Value.ownBlock] at hg
  · simp [Value.ownBlock] at hg
    omega
/-- An instance stored into a box, cell for cell. -/
abbrev putI (w : World) (b : Nat) (c0 c1 c2 c3 c4 c5 : Value) : World :=
  ((((((w.setCell ⟨b, 0, none⟩ c0).setCell ⟨b, 1, none⟩ c1).setCell ⟨b, 2, none⟩ c2).setCell ⟨b, 3, none⟩ c3).setCell ⟨b, 4, none⟩ c4).setCell ⟨b, 5, none⟩ c5)
theorem putI_at {w : World} {b : Nat} {z0 z1 z2 z3 z4 z5 : Value} {T : TypeId} (h : w.heap[b]? = some (.cells #[z0, z1, z2, z3, z4, z5] T (0, 0))) (c0 c1 c2 c3 c4 c5 : Value) :
    (putI w b c0 c1 c2 c3 c4 c5).heap[b]? = some (.cells #[c0, c1, c2, c3, c4, c5] T (0, 0)) := by
  unfold putI
  simp [World.setCell, Array.getElem?_modify, h]
theorem putI_below {w0 w : World} {B b : Nat} (h : Below B w0 w) (hb : B ≤ b) (c0 c1 c2 c3 c4 c5 : Value) : Below B w0 (putI w b c0 c1 c2 c3 c4 c5) :=
  (((((h.setCell (p := ⟨b, 0, none⟩) hb c0).setCell (p := ⟨b, 1, none⟩) hb c1).setCell (p := ⟨b, 2, none⟩) hb c2).setCell (p := ⟨b, 3, none⟩) hb c3).setCell (p := ⟨b, 4, none⟩) hb c4).setCell (p := ⟨b, 5, none⟩) hb c5
theorem putI_far (w : World) (b g : Nat) (hg : g ≠ b) (c0 c1 c2 c3 c4 c5 : Value) : (putI w b c0 c1 c2 c3 c4 c5).heap[g]? = w.heap[g]? := by
  unfold putI
  simp [World.setCell, Array.getElem?_modify, Ne.symm hg]
theorem infoI6 : (Tryd.prog.info? 51).map (·.size) = some 6 := by kernel_rfl

/-- A copy of an instance: the same, but for where the latches lie. -/
def CopyAs (w : World) (x : IV) (e : Ending) (w' : World) : Prop :=
  ∃ v', e = .returned (.agg #[.string x.path, .string x.item, .int .i64 x.st, .int .i64 x.bf, v', .int .i64 x.due]) ∧ OwnS w' w.heap.size 3 1 v' x.ls.length (icells x.ls) ∧ Below w.heap.size w w'

set_option maxRecDepth 100000 in
set_option maxHeartbeats 1000000 in
theorem copied_c (w : World) (x : IV) (h : IVok w x) (hs : x.ls.length ≤ 40) : Calls Tryd.prog 19 #[.agg x.cells.toArray] w (CopyAs w x) := by
  obtain ⟨i0, hi, hz0, hz1, hz2⟩ := info_parts infoInt
  obtain ⟨path, item, st, bf, lv, ls, due⟩ := x
  have hlen : (icells ls).length = ls.length := by simp [icells]
  have HS := Lib.hid (fun (W : World) (hb : Below w.heap.size w W) => (h.rl.below hb).src (t := 49) Tryd.underlying49 (icells_one ls))
  dsimp only at HS hs
  obtain ⟨p, cp, hlv⟩ := h.rl.form
  dsimp only at hlv
  subst hlv
  rw [hlen] at HS ⊢
  unfold IV.cells
  dsimp only
  have HB2 := Lib.hid (fun o o2 => (box_bel' w o).alloc (box_bel' w o).size o2)
  have HSZ := Lib.hid hs
  clear h hlen hs
  go_enter Tryd.func19, Tryd.ntmps19
  go_wp2_with (at_builtin; refine wpList_append_src rfl _ _ 49 49 rfl (w.heap.size + 2) 3 i0 (.int .i64 0) 8 Tryd.underlying49 hi hz0 hz1 hz2 rfl (.slice none 0 0) 0 [] rfl (World.ownsRow_nil _ _ _ _) _ ls.length (icells ls) rfl (HS.out _ (HB2.out _ _)) ?c1 ?c2 ?c3 ?_)
  case c1 => have := HSZ.out; unfold maxLen; omega
  case c2 => have := HSZ.out; omega
  case c3 => simp
  intro v' w1 hown hgrow
  have HOW := Lib.hid (OwnS.ofRow hown)
  have HB3 := Lib.hid ((HB2.out _ _).grown hgrow (by simp; omega) (fun k ek => by cases ek))
  have HG := Lib.hid hgrow
  obtain ⟨pa, ca, hv', _⟩ := (OwnS.ofRow hown).form
  subst hv'
  have hg := hgrow.block
  obtain ⟨c0, c1, c2, c3, c4, c5, cz⟩ := cells6 ((hg w.heap.size (by simp; omega) (by simp [Value.ownBlock])).trans (two_old w _ _))
  obtain ⟨r0, r1, r2, r3, r4, r5, rz⟩ := cells6 ((hg (w.heap.size + 1) (by simp) (by simp [Value.ownBlock])).trans (two_new w _ _))
  clear hown hgrow hg
  go_wp2_with fail
  have hx := (HG.out.block (w.heap.size + 1) (by simp) (by simp [Value.ownBlock])).trans (two_new w _ _)
  have hx2 := (Below.heap_setCell w1 ⟨w.heap.size, 4, none⟩ (.slice pa ls.length ca) (w.heap.size + 1) (by simp)).trans hx
  refine bodyPost_ret (results_cell_row Tryd.results19 _ _ (w.heap.size + 1) 51 _ (0, 0) _ rfl (putI_at hx2 _ _ _ _ _ _) Tryd.underlying51 rfl infoI6) rfl ?_
  refine ⟨_, rfl, ?_, putI_below (HB3.out.setCell (p := ⟨w.heap.size, 4, none⟩) (Nat.le_refl _) _) (by omega) _ _ _ _ _ _⟩
  refine (HOW.out.keep (fun g hg => ?_)).up (by omega)
  have hge := HOW.out.base g hg
  rw [putI_far _ _ _ (by omega)]
  exact Below.heap_setCell _ _ _ _ (by show g ≠ w.heap.size; omega)
end Go.Proofs.YtllhlmdhnmdihaaDoor
