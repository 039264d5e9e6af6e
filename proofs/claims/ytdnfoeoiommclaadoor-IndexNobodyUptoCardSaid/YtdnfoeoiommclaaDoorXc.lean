/- An index at constants: the copy of an item. -/
import Derived.Test.YtdnfoeoiommclaaDoorXb
import Derived.Deep.RegionLaw
import Derived.Deep.DeepCutAuto
namespace Go.Proofs.YtdnfoeoiommclaaDoor
open Go Go.RowKit Go.Shelf
set_option linter.unusedVariables false
set_option linter.unusedSimpArgs false

/-- An item's cells: its ID, its kind, its entry and its kids. -/
def itemX (id : ByteArray) (kind : Int) (en kids : Value) : Array Value := #[.string id, .string ⟨#[]⟩, .int .i64 kind, en, .slice none 0 0, .string ⟨#[]⟩, .string ⟨#[]⟩, .string ⟨#[]⟩, .bool false, .bool false, .int .i64 0, .slice none 0 0, kids, .slice none 0 0]
theorem cells14 {w : World} {b : Nat} {c0 c1 c2 c3 c4 c5 c6 c7 c8 c9 c10 c11 c12 c13 : Value} {T : TypeId} (h : w.heap[b]? = some (.cells #[c0, c1, c2, c3, c4, c5, c6, c7, c8, c9, c10, c11, c12, c13] T (0, 0))) :
    w.cell? ⟨b, 0, none⟩ = some c0 ∧ w.cell? ⟨b, 1, none⟩ = some c1 ∧ w.cell? ⟨b, 2, none⟩ = some c2 ∧ w.cell? ⟨b, 3, none⟩ = some c3 ∧ w.cell? ⟨b, 4, none⟩ = some c4 ∧ w.cell? ⟨b, 5, none⟩ = some c5 ∧ w.cell? ⟨b, 6, none⟩ = some c6 ∧ w.cell? ⟨b, 7, none⟩ = some c7 ∧ w.cell? ⟨b, 8, none⟩ = some c8 ∧ w.cell? ⟨b, 9, none⟩ = some c9 ∧ w.cell? ⟨b, 10, none⟩ = some c10 ∧ w.cell? ⟨b, 11, none⟩ = some c11 ∧ w.cell? ⟨b, 12, none⟩ = some c12 ∧ w.cell? ⟨b, 13, none⟩ = some c13 ∧ (∀ o, w.frozen? ⟨b, o, none⟩ = false) := by
  refine ⟨?_, ?_, ?_, ?_, ?_, ?_, ?_, ?_, ?_, ?_, ?_, ?_, ?_, ?_, fun o => ?_⟩ <;> simp [World.cell?, World.frozen?, h]

/-- An item stored into a box, cell for cell. -/
abbrev put14 (w : World) (b : Nat) (c0 c1 c2 c3 c4 c5 c6 c7 c8 c9 c10 c11 c12 c13 : Value) : World := ((((((((((((((w.setCell ⟨b, 0, none⟩ c0).setCell ⟨b, 1, none⟩ c1).setCell ⟨b, 2, none⟩ c2).setCell ⟨b, 3, none⟩ c3).setCell ⟨b, 4, none⟩ c4).setCell ⟨b, 5, none⟩ c5).setCell ⟨b, 6, none⟩ c6).setCell ⟨b, 7, none⟩ c7).setCell ⟨b, 8, none⟩ c8).setCell ⟨b, 9, none⟩ c9).setCell ⟨b, 10, none⟩ c10).setCell ⟨b, 11, none⟩ c11).setCell ⟨b, 12, none⟩ c12).setCell ⟨b, 13, none⟩ c13)
theorem put14_at {w : World} {b : Nat} {z0 z1 z2 z3 z4 z5 z6 z7 z8 z9 z10 z11 z12 z13 : Value} {T : TypeId} (h : w.heap[b]? = some (.cells #[z0, z1, z2, z3, z4, z5, z6, z7, z8, z9, z10, z11, z12, z13] T (0, 0))) (c0 c1 c2 c3 c4 c5 c6 c7 c8 c9 c10 c11 c12 c13 : Value) :
    (put14 w b c0 c1 c2 c3 c4 c5 c6 c7 c8 c9 c10 c11 c12 c13).heap[b]? = some (.cells #[c0, c1, c2, c3, c4, c5, c6, c7, c8, c9, c10, c11, c12, c13] T (0, 0)) := by
  unfold put14
  simp [World.setCell, Array.getElem?_modify, h]
theorem put14_below {w0 w : World} {B b : Nat} (h : Below B w0 w) (hb : B ≤ b) (c0 c1 c2 c3 c4 c5 c6 c7 c8 c9 c10 c11 c12 c13 : Value) : Below B w0 (put14 w b c0 c1 c2 c3 c4 c5 c6 c7 c8 c9 c10 c11 c12 c13) := ((((((((((((((h.setCell (p := ⟨b, 0, none⟩) hb c0).setCell (p := ⟨b, 1, none⟩) hb c1).setCell (p := ⟨b, 2, none⟩) hb c2).setCell (p := ⟨b, 3, none⟩) hb c3).setCell (p := ⟨b, 4, none⟩) hb c4).setCell (p := ⟨b, 5, none⟩) hb c5).setCell (p := ⟨b, 6, none⟩) hb c6).setCell (p := ⟨b, 7, none⟩) hb c7).setCell (p := ⟨b, 8, none⟩) hb c8).setCell (p := ⟨b, 9, none⟩) hb c9).setCell (p := ⟨b, 10, none⟩) hb c10).setCell (p := ⟨b, 11, none⟩) hb c11).setCell (p := ⟨b, 12, none⟩) hb c12).setCell (p := ⟨b, 13, none⟩) hb c13)
theorem put14_keeps {w : World} {B b : Nat} (hb : b < B) (c0 c1 c2 c3 c4 c5 c6 c7 c8 c9 c10 c11 c12 c13 : Value) : Keeps B w (put14 w b c0 c1 c2 c3 c4 c5 c6 c7 c8 c9 c10 c11 c12 c13) := (((((((((((((((Keeps.refl _ _).trans (Keeps.setCell _ _ hb _)).trans (Keeps.setCell _ _ hb _)).trans (Keeps.setCell _ _ hb _)).trans (Keeps.setCell _ _ hb _)).trans (Keeps.setCell _ _ hb _)).trans (Keeps.setCell _ _ hb _)).trans (Keeps.setCell _ _ hb _)).trans (Keeps.setCell _ _ hb _)).trans (Keeps.setCell _ _ hb _)).trans (Keeps.setCell _ _ hb _)).trans (Keeps.setCell _ _ hb _)).trans (Keeps.setCell _ _ hb _)).trans (Keeps.setCell _ _ hb _)).trans (Keeps.setCell _ _ hb _))
theorem infoI14 : (Tryd.prog.info? 36).map (·.size) = some 14 := by kernel_rfl

/-- What becomes of a list: nothing, or a copy with the property. -/
def ListC (F : FuncId) (P : Nat → World → Value → Prop) (w : World) (v : Value) : Prop := ∀ W, Below w.heap.size w W → Calls Tryd.prog F #[v] W (Copied P W)
def ItemC (PE PK : Nat → World → Value → Prop) (id : ByteArray) (kind : Int) (w : World) (e : Ending) (w' : World) : Prop :=
  ∃ a n c a' n' c', e = .returned (.agg (itemX id kind (.slice a n c) (.slice a' n' c'))) ∧ PE w.heap.size w' (.slice a n c) ∧ PK w.heap.size w' (.slice a' n' c') ∧ Below w.heap.size w w'

set_option maxRecDepth 100000 in
set_option maxHeartbeats 2000000 in
theorem copiedX_c (w : World) (id : ByteArray) (kind : Int) (ea ka : Option Addr) (el ec kl kc : Nat) (PE PK : Nat → World → Value → Prop) (he : ListC 44 PE w (.slice ea el ec)) (hk : ListC 46 PK w (.slice ka kl kc))
    (me : ∀ B W W' v, PE B W v → Keeps B W W' → PE B W' v) (mm : ∀ B B' W v, PE B W v → B' ≤ B → PE B' W v) (ke : ∀ B W W' v, PK B W v → Keeps B W W' → PK B W' v) (km : ∀ B B' W v, PK B W v → B' ≤ B → PK B' W v) : Calls Tryd.prog 32 #[.agg (itemX id kind (.slice ea el ec) (.slice ka kl kc))] w (ItemC PE PK id kind w) := by
  have HE := Lib.hid he
  have HK := Lib.hid hk
  have HN := Lib.hid copiedSent_nil
  have HM := Lib.hid copiedItems_nil
  have HT := Lib.hid cloneText_nil
  have ME := Lib.hid me
  have MM := Lib.hid mm
  have KE := Lib.hid ke
  have KM := Lib.hid km
  clear he hk me mm ke km
  unfold itemX
  obtain ⟨w0, hw0⟩ : ∃ x, x = (w.alloc (.cells (itemX id kind (.slice ea el ec) (.slice ka kl kc)) 36)).alloc (.cells (itemX ⟨#[]⟩ 0 (.slice none 0 0) (.slice none 0 0)) 36) := ⟨_, rfl⟩
  have HBW := Lib.hid (show Below w.heap.size w w0 from by rw [hw0]; exact (box_bel' w _).alloc (box_bel' w _).size _)
  have hq : w0.heap[w.heap.size]? = some (.cells (itemX id kind (.slice ea el ec) (.slice ka kl kc)) 36 (0, 0)) := by rw [hw0]; exact two_old w _ _
  have hq2 : w0.heap[w.heap.size + 1]? = some (.cells (itemX ⟨#[]⟩ 0 (.slice none 0 0) (.slice none 0 0)) 36 (0, 0)) := by rw [hw0]; exact two_new w _ _
  have hsw : w0.heap.size = w.heap.size + 2 := by rw [hw0]; simp
  unfold itemX at hw0 hq hq2
  have HQ := Lib.hid hq
  have HQ2 := Lib.hid hq2
  have HSW := Lib.hid hsw
  have HW0 := Lib.hid hw0
  clear hw0 hq2 hsw
  go_enter Tryd.func32, Tryd.ntmps32
  go_wp2_with fail
  rw [← HW0.out]
  obtain ⟨d0, d1, d2, d3, d4, d5, d6, d7, d8, d9, d10, d11, d12, d13, dz⟩ := cells14 hq
  clear hq
  go_cut [] (fun wx => ∃ ea' el' ec', wx.heap[w.heap.size]? = some (.cells #[.string id, .string ⟨#[]⟩, .int .i64 kind, .slice ea' el' ec', .slice none 0 0, .string ⟨#[]⟩, .string ⟨#[]⟩, .string ⟨#[]⟩, .bool false, .bool false, .int .i64 0, .slice none 0 0, .slice ka kl kc, .slice none 0 0] 36 (0, 0)) ∧ wx.heap[w.heap.size + 1]? = some (.cells #[.string ⟨#[]⟩, .string ⟨#[]⟩, .int .i64 0, .slice none 0 0, .slice none 0 0, .string ⟨#[]⟩, .string ⟨#[]⟩, .string ⟨#[]⟩, .bool false, .bool false, .int .i64 0, .slice none 0 0, .slice none 0 0, .slice none 0 0] 36 (0, 0)) ∧ PE (w.heap.size + 2) wx (.slice ea' el' ec') ∧ Below w.heap.size w wx)
  case first =>
    go_region_law (first
      | (go_simp; go_at_call 44; (with_reducible refine (HN.out _).mono ?_); rintro e w' ⟨rfl, rfl⟩)
      | (go_simp; go_at_call 44; refine (HE.out _ (by first | exact HBW.out | exact HBW.out.drew | exact below_drewN HBW.out _)).mono ?_
         rintro e w1 ⟨va, vn, vc, rfl, hp1, hb1⟩
         have HP1 := Lib.hid hp1
         have HB1 := Lib.hid hb1
         have hq1 := (hb1.block w.heap.size (by simp [HSW.out])).trans HQ.out
         have hq3 := (hb1.block (w.heap.size + 1) (by simp [HSW.out])).trans HQ2.out
         have HQ1 := Lib.hid hq1
         have HQ3 := Lib.hid hq3
         obtain ⟨e0, e1, e2, e3, e4, e5, e6, e7, e8, e9, e10, e11, e12, e13, ez⟩ := cells14 hq1
         clear hp1 hb1 hq1 hq3)
      | fail "no arm")
    all_goals
      go_wp2_with fail
      go_meet
      have hp := MM.out _ (w.heap.size + 2) _ _ HP1.out (by simp [HSW.out])
      refine ⟨_, _, _, ?_, ?_, ME.out _ _ _ _ hp ((Keeps.setCell _ _ (by omega) _).trans (Keeps.setCell _ _ (by omega) _)), ?_⟩
      · simp [World.setCell, Array.getElem?_modify, HQ1.out]
      · simp [World.setCell, Array.getElem?_modify, HQ3.out]
      · have hb : Below w.heap.size w _ := Below.trans (show Below w.heap.size w _ from by first | exact HBW.out | exact HBW.out.drew | exact below_drewN HBW.out _) (HB1.out.mono (by simp [HSW.out]))
        exact (hb.setCell (p := ⟨w.heap.size, _, none⟩) (Nat.le_refl _) _).setCell (p := ⟨w.heap.size, _, none⟩) (Nat.le_refl _) _
  case rest =>
    obtain ⟨ea', el', ec', hq, hq2, hp, hb⟩ := hcut
    have HQ3 := Lib.hid hq
    have HQ4 := Lib.hid hq2
    have HP := Lib.hid hp
    have HB := Lib.hid hb
    obtain ⟨d0, d1, d2, d3, d4, d5, d6, d7, d8, d9, d10, d11, d12, d13, dz⟩ := cells14 hq
    clear hq hq2 hp hb
    go_wp2_with (go_at_call 45; refine (HT.out _).mono ?_; rintro e w' ⟨rfl, rfl⟩)
    clear d0 d1 d2 d3 d4 d5 d6 d7 d8 d9 d10 d11 d12 d13 dz
    obtain ⟨wy, hwy⟩ : ∃ y, y = w'.setCell ⟨w.heap.size, 11, none⟩ (.slice none 0 0) := ⟨_, rfl⟩
    rw [← hwy]
    have hq : wy.heap[w.heap.size]? = some (.cells #[.string id, .string ⟨#[]⟩, .int .i64 kind, .slice ea' el' ec', .slice none 0 0, .string ⟨#[]⟩, .string ⟨#[]⟩, .string ⟨#[]⟩, .bool false, .bool false, .int .i64 0, .slice none 0 0, .slice ka kl kc, .slice none 0 0] 36 (0, 0)) := by rw [hwy]; simp [World.setCell, Array.getElem?_modify, HQ3.out]
    have HQ5 := Lib.hid hq
    have HQ6 := Lib.hid (show wy.heap[w.heap.size + 1]? = some (.cells #[.string ⟨#[]⟩, .string ⟨#[]⟩, .int .i64 0, .slice none 0 0, .slice none 0 0, .string ⟨#[]⟩, .string ⟨#[]⟩, .string ⟨#[]⟩, .bool false, .bool false, .int .i64 0, .slice none 0 0, .slice none 0 0, .slice none 0 0] 36 (0, 0)) from by rw [hwy]; simp [World.setCell, Array.getElem?_modify, HQ4.out])
    have HP2 := Lib.hid (show PE (w.heap.size + 2) wy _ from by rw [hwy]; exact ME.out _ _ _ _ HP.out (Keeps.setCell _ _ (by omega) _))
    have HB2 := Lib.hid (show Below w.heap.size w wy from by rw [hwy]; exact HB.out.setCell (p := ⟨w.heap.size, 11, none⟩) (Nat.le_refl _) _)
    have hlt : w.heap.size + 1 < wy.heap.size := (Array.getElem?_eq_some_iff.1 HQ6.out).1
    clear hwy
    obtain ⟨d0, d1, d2, d3, d4, d5, d6, d7, d8, d9, d10, d11, d12, d13, dz⟩ := cells14 hq
    clear hq
    go_cut [] (fun wz => ∃ ka' kl' kc', wz.heap[w.heap.size]? = some (.cells #[.string id, .string ⟨#[]⟩, .int .i64 kind, .slice ea' el' ec', .slice none 0 0, .string ⟨#[]⟩, .string ⟨#[]⟩, .string ⟨#[]⟩, .bool false, .bool false, .int .i64 0, .slice none 0 0, .slice ka' kl' kc', .slice none 0 0] 36 (0, 0)) ∧ wz.heap[w.heap.size + 1]? = some (.cells #[.string ⟨#[]⟩, .string ⟨#[]⟩, .int .i64 0, .slice none 0 0, .slice none 0 0, .string ⟨#[]⟩, .string ⟨#[]⟩, .string ⟨#[]⟩, .bool false, .bool false, .int .i64 0, .slice none 0 0, .slice none 0 0, .slice none 0 0] 36 (0, 0)) ∧ PE (w.heap.size + 2) wz (.slice ea' el' ec') ∧ PK (w.heap.size + 2) wz (.slice ka' kl' kc') ∧ Below w.heap.size w wz)
    case first =>
      go_region_law (first
        | (go_simp; go_at_call 46; (with_reducible refine (HM.out _).mono ?_); rintro e w' ⟨rfl, rfl⟩)
        | (go_simp; go_at_call 46; refine (HK.out _ (by first | exact HB2.out | exact HB2.out.drew | exact below_drewN HB2.out _)).mono ?_
           rintro e w1 ⟨va, vn, vc, rfl, hp1, hb1⟩
           have HP1 := Lib.hid hp1
           have HB1 := Lib.hid hb1
           have hq1 := (hb1.block w.heap.size (by simp; omega)).trans HQ5.out
           have hq3 := (hb1.block (w.heap.size + 1) (by simp; omega)).trans HQ6.out
           have HPE := Lib.hid (ME.out _ _ _ _ HP2.out (Keeps.trans (by first | exact Keeps.refl _ _ | exact Keeps.ofBelow _ ((Below.refl _ _).drew) | exact Keeps.ofBelow _ (below_drewN (Below.refl _ _) _)) (Keeps.ofBelow _ hb1)))
           have HQ1 := Lib.hid hq1
           have HQ7 := Lib.hid hq3
           obtain ⟨e0, e1, e2, e3, e4, e5, e6, e7, e8, e9, e10, e11, e12, e13, ez⟩ := cells14 hq1
           clear hp1 hb1 hq1 hq3)
        | fail "no arm")
      all_goals
        go_wp2_with fail
        go_meet
        have hp := KM.out _ (w.heap.size + 2) _ _ HP1.out (by simp; omega)
        refine ⟨_, _, _, ?_, ?_, ME.out _ _ _ _ HPE.out ((Keeps.setCell _ _ (by omega) _).trans (Keeps.setCell _ _ (by omega) _)), KE.out _ _ _ _ hp ((Keeps.setCell _ _ (by omega) _).trans (Keeps.setCell _ _ (by omega) _)), ?_⟩
        · simp [World.setCell, Array.getElem?_modify, HQ1.out]
        · simp [World.setCell, Array.getElem?_modify, HQ7.out]
        · have hb : Below w.heap.size w _ := Below.trans (show Below w.heap.size w _ from by first | exact HB2.out | exact HB2.out.drew | exact below_drewN HB2.out _) (HB1.out.mono (by simp; omega))
          exact (hb.setCell (p := ⟨w.heap.size, _, none⟩) (Nat.le_refl _) _).setCell (p := ⟨w.heap.size, _, none⟩) (Nat.le_refl _) _
    case rest =>
      obtain ⟨ka', kl', kc', hq, hq2, hp, hk, hb⟩ := hcut
      have HQ7 := Lib.hid hq2
      have HPP := Lib.hid hp
      have HKK := Lib.hid hk
      have HBB := Lib.hid hb
      clear d0 d1 d2 d3 d4 d5 d6 d7 d8 d9 d10 d11 d12 d13 dz
      obtain ⟨d0, d1, d2, d3, d4, d5, d6, d7, d8, d9, d10, d11, d12, d13, dz⟩ := cells14 hq
      obtain ⟨g0, g1, g2, g3, g4, g5, g6, g7, g8, g9, g10, g11, g12, g13, gz⟩ := cells14 hq2
      have HQ8 := Lib.hid hq
      clear hq hq2 hp hk hb
      go_wp2_with fail
      refine bodyPost_ret (results_cell_row Tryd.results32 _ _ (w.heap.size + 1) 36 _ (0, 0) _ rfl (put14_at HQ7.out _ _ _ _ _ _ _ _ _ _ _ _ _ _) Tryd.underlying36 rfl infoI14) rfl ?_
      exact ⟨_, _, _, _, _, _, rfl, MM.out _ _ _ _ (ME.out _ _ _ _ HPP.out (put14_keeps (by omega) _ _ _ _ _ _ _ _ _ _ _ _ _ _)) (by omega), KM.out _ _ _ _ (KE.out _ _ _ _ HKK.out (put14_keeps (by omega) _ _ _ _ _ _ _ _ _ _ _ _ _ _)) (by omega), put14_below HBB.out (by omega) _ _ _ _ _ _ _ _ _ _ _ _ _ _⟩
end Go.Proofs.YtdnfoeoiommclaaDoor
