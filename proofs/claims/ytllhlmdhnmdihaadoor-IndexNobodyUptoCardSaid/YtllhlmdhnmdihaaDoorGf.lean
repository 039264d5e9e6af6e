/- Copies of items (model.copied, model.copiedItems). Written by tools/gengf.py. -/
import Derived.Test.YtllhlmdhnmdihaaDoorGe
import Derived.Deep.RegionLaw
import Derived.Deep.DeepCutAuto
namespace Go.Proofs.YtllhlmdhnmdihaaDoor
open Go Go.RowKit Go.Deep Go.Shelf
set_option linter.unusedVariables false
set_option linter.unusedSimpArgs false

theorem cellsG14 {w : World} {b : Nat} {c0 c1 c2 c3 c4 c5 c6 c7 c8 c9 c10 c11 c12 c13 : Value} {T : TypeId} (h : w.heap[b]? = some (.cells #[c0, c1, c2, c3, c4, c5, c6, c7, c8, c9, c10, c11, c12, c13] T (0, 0))) :
    w.cell? ⟨b, 0, none⟩ = some c0 ∧ w.cell? ⟨b, 1, none⟩ = some c1 ∧ w.cell? ⟨b, 2, none⟩ = some c2 ∧ w.cell? ⟨b, 3, none⟩ = some c3 ∧ w.cell? ⟨b, 4, none⟩ = some c4 ∧ w.cell? ⟨b, 5, none⟩ = some c5 ∧ w.cell? ⟨b, 6, none⟩ = some c6 ∧ w.cell? ⟨b, 7, none⟩ = some c7 ∧ w.cell? ⟨b, 8, none⟩ = some c8 ∧ w.cell? ⟨b, 9, none⟩ = some c9 ∧ w.cell? ⟨b, 10, none⟩ = some c10 ∧ w.cell? ⟨b, 11, none⟩ = some c11 ∧ w.cell? ⟨b, 12, none⟩ = some c12 ∧ w.cell? ⟨b, 13, none⟩ = some c13 ∧ (∀ o, w.frozen? ⟨b, o, none⟩ = false) := by
  refine ⟨?_, ?_, ?_, ?_, ?_, ?_, ?_, ?_, ?_, ?_, ?_, ?_, ?_, ?_, fun o => ?_⟩ <;> simp [World.cell?, World.frozen?, h]
abbrev putG14 (w : World) (b : Nat) (c0 c1 c2 c3 c4 c5 c6 c7 c8 c9 c10 c11 c12 c13 : Value) : World := ((((((((((((((w).setCell ⟨b, 0, none⟩ c0).setCell ⟨b, 1, none⟩ c1).setCell ⟨b, 2, none⟩ c2).setCell ⟨b, 3, none⟩ c3).setCell ⟨b, 4, none⟩ c4).setCell ⟨b, 5, none⟩ c5).setCell ⟨b, 6, none⟩ c6).setCell ⟨b, 7, none⟩ c7).setCell ⟨b, 8, none⟩ c8).setCell ⟨b, 9, none⟩ c9).setCell ⟨b, 10, none⟩ c10).setCell ⟨b, 11, none⟩ c11).setCell ⟨b, 12, none⟩ c12).setCell ⟨b, 13, none⟩ c13
theorem putG14_at {w : World} {b : Nat} {z0 z1 z2 z3 z4 z5 z6 z7 z8 z9 z10 z11 z12 z13 : Value} {T : TypeId} (h : w.heap[b]? = some (.cells #[z0, z1, z2, z3, z4, z5, z6, z7, z8, z9, z10, z11, z12, z13] T (0, 0))) (c0 c1 c2 c3 c4 c5 c6 c7 c8 c9 c10 c11 c12 c13 : Value) :
    (putG14 w b c0 c1 c2 c3 c4 c5 c6 c7 c8 c9 c10 c11 c12 c13).heap[b]? = some (.cells #[c0, c1, c2, c3, c4, c5, c6, c7, c8, c9, c10, c11, c12, c13] T (0, 0)) := by
  unfold putG14
  simp [World.setCell, Array.getElem?_modify, h]
theorem putG14_far {w : World} {b g : Nat} (h : g ≠ b) (c0 c1 c2 c3 c4 c5 c6 c7 c8 c9 c10 c11 c12 c13 : Value) : (putG14 w b c0 c1 c2 c3 c4 c5 c6 c7 c8 c9 c10 c11 c12 c13).heap[g]? = w.heap[g]? := by
  unfold putG14
  simp [World.setCell, Array.getElem?_modify, Ne.symm h]
theorem putG14_size (w : World) (b : Nat) (c0 c1 c2 c3 c4 c5 c6 c7 c8 c9 c10 c11 c12 c13 : Value) : (putG14 w b c0 c1 c2 c3 c4 c5 c6 c7 c8 c9 c10 c11 c12 c13).heap.size = w.heap.size := by
  unfold putG14
  simp [World.setCell]
theorem putG14_below {w0 w : World} {B b : Nat} (h : Below B w0 w) (hb : B ≤ b) (c0 c1 c2 c3 c4 c5 c6 c7 c8 c9 c10 c11 c12 c13 : Value) : Below B w0 (putG14 w b c0 c1 c2 c3 c4 c5 c6 c7 c8 c9 c10 c11 c12 c13) := ((((((((((((((h.setCell (p := ⟨b, 0, none⟩) hb c0).setCell (p := ⟨b, 1, none⟩) hb c1).setCell (p := ⟨b, 2, none⟩) hb c2).setCell (p := ⟨b, 3, none⟩) hb c3).setCell (p := ⟨b, 4, none⟩) hb c4).setCell (p := ⟨b, 5, none⟩) hb c5).setCell (p := ⟨b, 6, none⟩) hb c6).setCell (p := ⟨b, 7, none⟩) hb c7).setCell (p := ⟨b, 8, none⟩) hb c8).setCell (p := ⟨b, 9, none⟩) hb c9).setCell (p := ⟨b, 10, none⟩) hb c10).setCell (p := ⟨b, 11, none⟩) hb c11).setCell (p := ⟨b, 12, none⟩) hb c12).setCell (p := ⟨b, 13, none⟩) hb c13)
theorem infoGI14 : (Tryd.prog.info? 36).map (·.size) = some 14 := by kernel_rfl
/-- What a copy of items is, of an item. -/
def CopIC (d : Nat) (w : World) (l : List IT) (e : Ending) (w' : World) : Prop := ∃ v', e = .returned v' ∧ ItemsD (fun b => w.heap.size ≤ b) w' d v' l ∧ Below w.heap.size w w'
def CopIt (d : Nat) (w : World) (x : IT) (e : Ending) (w' : World) : Prop := ∃ cs', e = .returned (.agg cs'.toArray) ∧ ItemV (fun b => w.heap.size ≤ b) w' d cs' x ∧ Below w.heap.size w w'
/-- Blocks behind a call's two boxes. -/
def SN (w : World) : Nat → Prop := fun b => w.heap.size + 2 ≤ b
/-- The two boxes of a copy. -/
def Bx (w W : World) (cs : Array Value) : Prop := Below w.heap.size w W ∧ W.heap[w.heap.size]? = some (.cells cs 36 (0, 0)) ∧ W.heap[w.heap.size + 1]? = some (.cells #[.string ⟨#[]⟩, .string ⟨#[]⟩, .int .i64 0, .slice none 0 0, .slice none 0 0, .string ⟨#[]⟩, .string ⟨#[]⟩, .string ⟨#[]⟩, .bool false, .bool false, .int .i64 0, .slice none 0 0, .slice none 0 0, .slice none 0 0] 36 (0, 0))
theorem Bx.size {w W : World} {cs : Array Value} (h : Bx w W cs) : w.heap.size + 2 ≤ W.heap.size := by
  have := (Array.getElem?_eq_some_iff.1 h.2.2).1
  omega
theorem Bx.below {w W W' : World} {cs : Array Value} (h : Bx w W cs) (hb : Below W.heap.size W W') : Bx w W' cs :=
  ⟨h.1.trans (hb.mono h.1.size), (hb.block _ (by have := h.size; omega)).trans h.2.1, (hb.block _ (by have := h.size; omega)).trans h.2.2⟩
theorem Bx.drew {w W : World} {cs : Array Value} (h : Bx w W cs) : Bx w W.drew cs := ⟨h.1.drew, h.2.1, h.2.2⟩
theorem Bx.set {w W : World} {cs : Array Value} (h : Bx w W cs) (j : Nat) (v : Value) : Bx w (W.setCell ⟨w.heap.size, j, none⟩ v) (cs.setIfInBounds j v) :=
  ⟨h.1.setCell (p := ⟨w.heap.size, j, none⟩) (Nat.le_refl _) _, by simp [World.setCell, Array.getElem?_modify, h.2.1], (setG_far _ (by omega) _).trans h.2.2⟩
/-- What a call of copiedSentries inside it gives. -/
def InS (w W : World) (cs : Array Value) (l : List ST) (e : Ending) (W' : World) : Prop := ∃ a c, e = .returned (.slice a l.length c) ∧ SentsD (SN w) W' (.slice a l.length c) l ∧ Bx w W' cs ∧ Below W.heap.size W W'
theorem inS {S : Nat → Prop} {w : World} {v : Value} {l : List ST} (h : SentsD S w v l) (W : World) (cs : Array Value) (hB : Bx w W cs) : Calls Tryd.prog 46 #[v] W (InS w W cs l) := by
  refine (copSents_c W v l (h.keep hB.1.size (fun k _ hl => hB.1.block k hl))).mono ?_
  rintro e W' ⟨v', rfl, hs, hb⟩
  obtain ⟨a, c, rfl, _⟩ := hs.form
  exact ⟨a, c, rfl, hs.mono (fun k _ hk => by have := hB.size; unfold SN; omega), hB.below hb, hb⟩
def InI (d : Nat) (w W : World) (cs : Array Value) (l : List IT) (e : Ending) (W' : World) : Prop := ∃ a c, e = .returned (.slice a l.length c) ∧ ItemsD (SN w) W' d (.slice a l.length c) l ∧ Bx w W' cs ∧ Below W.heap.size W W'
theorem inI {d : Nat} (HK : ∀ (S : Nat → Prop) (W : World) (v : Value) (l : List IT), ItemsD S W d v l → Calls Tryd.prog 48 #[v] W (CopIC d W l)) {S : Nat → Prop} {w : World} {v : Value} {l : List IT} (h : ItemsD S w d v l) (W : World) (cs : Array Value) (hB : Bx w W cs) : Calls Tryd.prog 48 #[v] W (InI d w W cs l) := by
  refine (HK _ W v l (h.keep hB.1.size (fun k _ hl => hB.1.block k hl))).mono ?_
  rintro e W' ⟨v', rfl, hs, hb⟩
  obtain ⟨a, c, rfl, _⟩ := hs.form
  exact ⟨a, c, rfl, hs.mono (fun k _ hk => by have := hB.size; unfold SN; omega), hB.below hb, hb⟩
theorem SN.set {w W : World} {j : Nat} {v : Value} : ∀ k, SN w k → k < W.heap.size → (W.setCell ⟨w.heap.size, j, none⟩ v).heap[k]? = W.heap[k]? := fun k hk _ => setG_far _ (by unfold SN at hk; omega) _
theorem size_setG (W : World) (p : Addr) (v : Value) : W.heap.size ≤ (W.setCell p v).heap.size := by simp [World.setCell]

/-- The copy is handed out. -/
theorem copied_end {d : Nat} {w wr : World} {x : IT} {ev xv rv kv tv : Value} (hB : Bx w wr (item14 x ev xv rv kv tv).toArray) (ho : OkT x) (hv : SentsD (SN w) wr ev x.entry ∧ SentsD (SN w) wr xv x.exit ∧ TextsD (SN w) wr rv x.roles ∧ ItemsD (SN w) wr d kv x.kids ∧ ItemsD (SN w) wr d tv x.table) :
    CopIt d w x (.returned (.agg (item14 x ev xv rv kv tv).toArray)) (putG14 wr (w.heap.size + 1) (.string x.id) (.string x.nm) (.int .i64 x.kind) ev xv (.string x.man) (.string x.req) (.string x.rep) (.bool x.auto) (.bool x.free) (.int .i64 x.after) rv kv tv) := by
  obtain ⟨h1, h2, h3, h4, h5⟩ := hv
  have hfar : ∀ k, SN w k → k < wr.heap.size → (putG14 wr (w.heap.size + 1) (.string x.id) (.string x.nm) (.int .i64 x.kind) ev xv (.string x.man) (.string x.req) (.string x.rep) (.bool x.auto) (.bool x.free) (.int .i64 x.after) rv kv tv).heap[k]? = wr.heap[k]? := fun k hk _ => putG14_far (by unfold SN at hk; omega) _ _ _ _ _ _ _ _ _ _ _ _ _ _
  have hsz : wr.heap.size ≤ (putG14 wr (w.heap.size + 1) (.string x.id) (.string x.nm) (.int .i64 x.kind) ev xv (.string x.man) (.string x.req) (.string x.rep) (.bool x.auto) (.bool x.free) (.int .i64 x.after) rv kv tv).heap.size := Nat.le_of_eq (putG14_size wr (w.heap.size + 1) _ _ _ _ _ _ _ _ _ _ _ _ _ _).symm
  have hm : ∀ k, k < (putG14 wr (w.heap.size + 1) (.string x.id) (.string x.nm) (.int .i64 x.kind) ev xv (.string x.man) (.string x.req) (.string x.rep) (.bool x.auto) (.bool x.free) (.int .i64 x.after) rv kv tv).heap.size → SN w k → w.heap.size ≤ k := fun k _ hk => by unfold SN at hk; omega
  exact ⟨_, rfl, ⟨ho, ev, xv, rv, kv, tv, rfl, (h1.keep hsz hfar).mono hm, (h2.keep hsz hfar).mono hm, (h3.keep hsz hfar).mono hm, (h4.keep hsz hfar).mono hm, (h5.keep hsz hfar).mono hm⟩, putG14_below hB.1 (by omega) _ _ _ _ _ _ _ _ _ _ _ _ _ _⟩

set_option maxRecDepth 100000 in
set_option maxHeartbeats 4000000 in
theorem copied_a (d : Nat) (HK : ∀ (S : Nat → Prop) (W : World) (v : Value) (l : List IT), ItemsD S W d v l → Calls Tryd.prog 48 #[v] W (CopIC d W l)) {S : Nat → Prop} (w : World) (cs : List Value) (x : IT) (h : ItemV S w d cs x) :
    Calls Tryd.prog 33 #[.agg cs.toArray] w (CopIt d w x) := by
  obtain ⟨i0, i1, i2, en, ex, i5, i6, i7, i8, i9, i10, ro, ki, tb⟩ := x
  obtain ⟨ho, ev, xv, rv, kv, tv, rfl, k1, k2, k3, k4, k5⟩ := h
  have HO := Lib.hid ho
  dsimp only [IT.entry, IT.exit, IT.roles, IT.kids, IT.table] at k1 k2 k3 k4 k5
  simp only [item14, IT.id, IT.nm, IT.kind, IT.man, IT.req, IT.rep, IT.auto, IT.free, IT.after]
  obtain ⟨ea, ec, rfl, _⟩ := k1.form
  obtain ⟨xa, xc, rfl, _⟩ := k2.form
  obtain ⟨ra, rc, rfl, _⟩ := k3.form
  obtain ⟨ka, kc, rfl, _⟩ := k4.form
  obtain ⟨ta, tc, rfl, _⟩ := k5.form
  have HE := Lib.hid (inS k1)
  have HX := Lib.hid (inS k2)
  have HKI := Lib.hid (inI HK k4)
  have HTI := Lib.hid (inI HK k5)
  have HR := Lib.hid (fun (W : World) (hb : Below w.heap.size w W) => cloneTextG W _ ro.length (tcells ro) (k3.1.keep hb.size (fun k _ hl => hb.block k hl)) k3.2)
  have HRL := Lib.hid k3.2
  clear HK k1 k2 k3 k4 k5 ho
  obtain ⟨w0, hw0⟩ : ∃ y, y = (w.alloc (.cells #[.string i0, .string i1, .int .i64 i2, .slice ea en.length ec, .slice xa ex.length xc, .string i5, .string i6, .string i7, .bool i8, .bool i9, .int .i64 i10, .slice ra ro.length rc, .slice ka ki.length kc, .slice ta tb.length tc] 36)).alloc (.cells #[.string ⟨#[]⟩, .string ⟨#[]⟩, .int .i64 0, .slice none 0 0, .slice none 0 0, .string ⟨#[]⟩, .string ⟨#[]⟩, .string ⟨#[]⟩, .bool false, .bool false, .int .i64 0, .slice none 0 0, .slice none 0 0, .slice none 0 0] 36) := ⟨_, rfl⟩
  have hbx : Bx w w0 #[.string i0, .string i1, .int .i64 i2, .slice ea en.length ec, .slice xa ex.length xc, .string i5, .string i6, .string i7, .bool i8, .bool i9, .int .i64 i10, .slice ra ro.length rc, .slice ka ki.length kc, .slice ta tb.length tc] := by
    rw [hw0]
    exact ⟨((Below.refl _ _).alloc (Nat.le_refl _) _).alloc (by simp) _, (Below.heap_alloc _ _ _ (by simp)).trans (heap_alloc_new w _), by simpa using heap_alloc_new (w.alloc (.cells #[.string i0, .string i1, .int .i64 i2, .slice ea en.length ec, .slice xa ex.length xc, .string i5, .string i6, .string i7, .bool i8, .bool i9, .int .i64 i10, .slice ra ro.length rc, .slice ka ki.length kc, .slice ta tb.length tc] 36)) (.cells #[.string ⟨#[]⟩, .string ⟨#[]⟩, .int .i64 0, .slice none 0 0, .slice none 0 0, .string ⟨#[]⟩, .string ⟨#[]⟩, .string ⟨#[]⟩, .bool false, .bool false, .int .i64 0, .slice none 0 0, .slice none 0 0, .slice none 0 0] 36)⟩
  have HB0 := Lib.hid hbx
  have HW0 := Lib.hid hw0
  clear hw0
  go_enter Tryd.func33, Tryd.ntmps33
  go_wp2_with fail
  rw [← HW0.out]
  obtain ⟨d0, d1, d2, d3, d4, d5, d6, d7, d8, d9, d10, d11, d12, d13, dz⟩ := cellsG14 hbx.2.1
  clear hbx
  go_cut [] (fun wx => ∃ ea' ec' xa' xc', Bx w wx #[.string i0, .string i1, .int .i64 i2, .slice ea' en.length ec', .slice xa' ex.length xc', .string i5, .string i6, .string i7, .bool i8, .bool i9, .int .i64 i10, .slice ra ro.length rc, .slice ka ki.length kc, .slice ta tb.length tc] ∧ SentsD (SN w) wx (.slice ea' en.length ec') en ∧ SentsD (SN w) wx (.slice xa' ex.length xc') ex)
  case first =>
    go_region_law (first
      | (go_simp; go_at_call 46; (with_reducible refine (HE.out _ _ (by first | exact KB2.out | exact KB2.out.drew | exact HB0.out | exact HB0.out.drew)).mono ?_); rintro e w1 ⟨va, vc, rfl, hs1, hB1, hr1⟩; have KE := Lib.hid hs1; have KB1 := Lib.hid hB1; have KR1 := Lib.hid hr1; obtain ⟨e0, e1, e2, e3, e4, e5, e6, e7, e8, e9, e10, e11, e12, e13, ez⟩ := cellsG14 hB1.2.1; clear hs1 hB1 hr1)
      | (go_simp; go_at_call 46; (with_reducible refine (HX.out _ _ (by first | exact KB1.out | exact KB1.out.drew | exact HB0.out | exact HB0.out.drew)).mono ?_); rintro e w1 ⟨ua, uc, rfl, hs1, hB1, hr1⟩; have KX := Lib.hid hs1; have KB2 := Lib.hid hB1; have KR2 := Lib.hid hr1; obtain ⟨e0, e1, e2, e3, e4, e5, e6, e7, e8, e9, e10, e11, e12, e13, ez⟩ := cellsG14 hB1.2.1; clear hs1 hB1 hr1)
      | fail "no arm")
    all_goals
      go_wp2_with fail
      go_meet
      refine ⟨va, vc, ua, uc, ?_, ?_, ?_⟩
      · first
          | exact (KB2.out.set 3 _).set 4 _
          | exact (KB1.out.set 3 _).set 4 _
          | exact (KB2.out.set 4 _).set 3 _
          | exact (KB1.out.set 4 _).set 3 _
      · refine SentsD.keep (SentsD.keep (?_ : SentsD (SN w) _ _ _) (size_setG _ _ _) SN.set) (size_setG _ _ _) SN.set
        first
          | exact KE.out
          | exact KE.out.keep KR2.out.size (fun k _ hl => KR2.out.block k hl)
      · refine SentsD.keep (SentsD.keep (?_ : SentsD (SN w) _ _ _) (size_setG _ _ _) SN.set) (size_setG _ _ _) SN.set
        first
          | exact KX.out
          | exact KX.out.keep KR1.out.size (fun k _ hl => KR1.out.block k hl)
  case rest =>
    obtain ⟨ea', ec', xa', xc', hB, hs1, hs2⟩ := hcut
    have HB1 := Lib.hid hB
    have HS1 := Lib.hid hs1
    have HS2 := Lib.hid hs2
    clear d0 d1 d2 d3 d4 d5 d6 d7 d8 d9 d10 d11 d12 d13 dz
    obtain ⟨d0, d1, d2, d3, d4, d5, d6, d7, d8, d9, d10, d11, d12, d13, dz⟩ := cellsG14 hB.2.1
    clear hB hs1 hs2
    go_wp2_with fail
    refine (HR.out _ (by first | exact HB1.out.1 | exact HB1.out.drew.1)).mono ?_
    rintro e w3 ⟨v3, rfl, ho3, hb3⟩
    obtain ⟨ra', rc', rfl, _⟩ := ho3.form
    have hB3 := HB1.out.below hb3
    have HB3 := Lib.hid hB3
    have HT3 := Lib.hid (show TextsD (SN w) w3 (.slice ra' ro.length rc') ro from ⟨(ho3.rdn (by simp [tcells, Value.oneCell'])).mono (fun k _ hk => by have := HB1.out.size; unfold SN; omega), HRL.out⟩)
    have HS3 := Lib.hid (HS1.out.keep hb3.size (fun k _ hl => hb3.block k hl))
    have HS4 := Lib.hid (HS2.out.keep hb3.size (fun k _ hl => hb3.block k hl))
    clear d0 d1 d2 d3 d4 d5 d6 d7 d8 d9 d10 d11 d12 d13 dz
    obtain ⟨d0, d1, d2, d3, d4, d5, d6, d7, d8, d9, d10, d11, d12, d13, dz⟩ := cellsG14 hB3.2.1
    clear hB3 ho3 hb3
    go_wp2_with fail
    obtain ⟨w4, hw4⟩ : ∃ y, y = w3.setCell ⟨w.heap.size, 11, none⟩ (.slice ra' ro.length rc') := ⟨_, rfl⟩
    rw [← hw4]
    have hB4 : Bx w w4 #[.string i0, .string i1, .int .i64 i2, .slice ea' en.length ec', .slice xa' ex.length xc', .string i5, .string i6, .string i7, .bool i8, .bool i9, .int .i64 i10, .slice ra' ro.length rc', .slice ka ki.length kc, .slice ta tb.length tc] := by rw [hw4]; exact HB3.out.set 11 _
    have HB4 := Lib.hid hB4
    have HT4 := Lib.hid (show TextsD (SN w) w4 (.slice ra' ro.length rc') ro from by rw [hw4]; exact HT3.out.keep (size_setG _ _ _) SN.set)
    have HS5 := Lib.hid (show SentsD (SN w) w4 (.slice ea' en.length ec') en from by rw [hw4]; exact HS3.out.keep (size_setG _ _ _) SN.set)
    have HS6 := Lib.hid (show SentsD (SN w) w4 (.slice xa' ex.length xc') ex from by rw [hw4]; exact HS4.out.keep (size_setG _ _ _) SN.set)
    clear d0 d1 d2 d3 d4 d5 d6 d7 d8 d9 d10 d11 d12 d13 dz hw4
    obtain ⟨d0, d1, d2, d3, d4, d5, d6, d7, d8, d9, d10, d11, d12, d13, dz⟩ := cellsG14 hB4.2.1
    clear hB4
    go_cut [] (fun wx => ∃ ka' kc' ta' tc', Bx w wx #[.string i0, .string i1, .int .i64 i2, .slice ea' en.length ec', .slice xa' ex.length xc', .string i5, .string i6, .string i7, .bool i8, .bool i9, .int .i64 i10, .slice ra' ro.length rc', .slice ka' ki.length kc', .slice ta' tb.length tc'] ∧ (SentsD (SN w) wx (.slice ea' en.length ec') en ∧ SentsD (SN w) wx (.slice xa' ex.length xc') ex ∧ TextsD (SN w) wx (.slice ra' ro.length rc') ro) ∧ ItemsD (SN w) wx d (.slice ka' ki.length kc') ki ∧ ItemsD (SN w) wx d (.slice ta' tb.length tc') tb)
    case first =>
      go_region_law (first
        | (go_simp; go_at_call 48; (with_reducible refine (HKI.out _ _ (by first | exact KB2.out | exact KB2.out.drew | exact HB4.out | exact HB4.out.drew)).mono ?_); rintro e w1 ⟨va, vc, rfl, hs1, hB1, hr1⟩; have KE := Lib.hid hs1; have KB1 := Lib.hid hB1; have KR1 := Lib.hid hr1; obtain ⟨e0, e1, e2, e3, e4, e5, e6, e7, e8, e9, e10, e11, e12, e13, ez⟩ := cellsG14 hB1.2.1; clear hs1 hB1 hr1)
        | (go_simp; go_at_call 48; (with_reducible refine (HTI.out _ _ (by first | exact KB1.out | exact KB1.out.drew | exact HB4.out | exact HB4.out.drew)).mono ?_); rintro e w1 ⟨ua, uc, rfl, hs1, hB1, hr1⟩; have KX := Lib.hid hs1; have KB2 := Lib.hid hB1; have KR2 := Lib.hid hr1; obtain ⟨e0, e1, e2, e3, e4, e5, e6, e7, e8, e9, e10, e11, e12, e13, ez⟩ := cellsG14 hB1.2.1; clear hs1 hB1 hr1)
        | fail "no arm")
      all_goals
        go_wp2_with fail
        go_meet
        refine ⟨va, vc, ua, uc, ?_, ⟨?_, ?_, ?_⟩, ?_, ?_⟩
        · first
            | exact (KB2.out.set 12 _).set 13 _
            | exact (KB1.out.set 12 _).set 13 _
            | exact (KB2.out.set 13 _).set 12 _
            | exact (KB1.out.set 13 _).set 12 _
        · refine SentsD.keep (SentsD.keep (?_ : SentsD (SN w) _ _ _) (size_setG _ _ _) SN.set) (size_setG _ _ _) SN.set
          first
            | exact (HS5.out.keep KR1.out.size (fun k _ hl => KR1.out.block k hl)).keep KR2.out.size (fun k _ hl => KR2.out.block k hl)
            | exact (HS5.out.keep KR2.out.size (fun k _ hl => KR2.out.block k hl)).keep KR1.out.size (fun k _ hl => KR1.out.block k hl)
        · refine SentsD.keep (SentsD.keep (?_ : SentsD (SN w) _ _ _) (size_setG _ _ _) SN.set) (size_setG _ _ _) SN.set
          first
            | exact (HS6.out.keep KR1.out.size (fun k _ hl => KR1.out.block k hl)).keep KR2.out.size (fun k _ hl => KR2.out.block k hl)
            | exact (HS6.out.keep KR2.out.size (fun k _ hl => KR2.out.block k hl)).keep KR1.out.size (fun k _ hl => KR1.out.block k hl)
        · refine TextsD.keep (TextsD.keep (?_ : TextsD (SN w) _ _ _) (size_setG _ _ _) SN.set) (size_setG _ _ _) SN.set
          first
            | exact (HT4.out.keep KR1.out.size (fun k _ hl => KR1.out.block k hl)).keep KR2.out.size (fun k _ hl => KR2.out.block k hl)
            | exact (HT4.out.keep KR2.out.size (fun k _ hl => KR2.out.block k hl)).keep KR1.out.size (fun k _ hl => KR1.out.block k hl)
        · refine ItemsD.keep (size_setG _ _ _) SN.set (ItemsD.keep (size_setG _ _ _) SN.set (?_ : ItemsD (SN w) _ _ _ _))
          first
            | exact KE.out
            | exact KE.out.keep KR2.out.size (fun k _ hl => KR2.out.block k hl)
        · refine ItemsD.keep (size_setG _ _ _) SN.set (ItemsD.keep (size_setG _ _ _) SN.set (?_ : ItemsD (SN w) _ _ _ _))
          first
            | exact KX.out
            | exact KX.out.keep KR1.out.size (fun k _ hl => KR1.out.block k hl)
    case rest =>
      obtain ⟨ka', kc', ta', tc', hB, ⟨hs1, hs2, hs3⟩, hk1, hk2⟩ := hcut
      have HB7 := Lib.hid hB
      have HVV := Lib.hid (And.intro hs1 (And.intro hs2 (And.intro hs3 (And.intro hk1 hk2))))
      clear d0 d1 d2 d3 d4 d5 d6 d7 d8 d9 d10 d11 d12 d13 dz
      obtain ⟨d0, d1, d2, d3, d4, d5, d6, d7, d8, d9, d10, d11, d12, d13, dz⟩ := cellsG14 hB.2.1
      obtain ⟨g0, g1, g2, g3, g4, g5, g6, g7, g8, g9, g10, g11, g12, g13, gz⟩ := cellsG14 hB.2.2
      clear hB hs1 hs2 hs3 hk1 hk2
      go_wp2_with fail
      refine bodyPost_ret (results_cell_row Tryd.results33 _ _ (w.heap.size + 1) 36 _ (0, 0) _ rfl (putG14_at HB7.out.2.2 _ _ _ _ _ _ _ _ _ _ _ _ _ _) Tryd.underlying36 rfl infoGI14) rfl ?_
      exact copied_end (x := .mk i0 i1 i2 en ex i5 i6 i7 i8 i9 i10 ro ki tb) HB7.out HO.out HVV.out
end Go.Proofs.YtllhlmdhnmdihaaDoor
