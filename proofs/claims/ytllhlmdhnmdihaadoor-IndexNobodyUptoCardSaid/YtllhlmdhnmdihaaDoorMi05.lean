/- Cases: whether two cases are the same (the reference's). Written by tools/genyv.py. -/
import Derived.Test.YtllhlmdhnmdihaaDoorMi04
namespace Go.Proofs.YtllhlmdhnmdihaaDoor
open Go Go.RowKit Go.Shelf
set_option linter.unusedVariables false
set_option linter.unusedSimpArgs false

def sameC (x y : CV) : Bool := (x.id == y.id) && ((x.model.toList == y.model.toList) && ((x.clock == y.clock) && (decide (x.insts.length = y.insts.length) && (sameDs x.docs y.docs && (x.insts.zip y.insts).all fun p => sameI p.1 p.2))))
theorem cells5 {w : World} {b : Nat} {c0 c1 c2 c3 c4 : Value} {T : TypeId} (h : w.heap[b]? = some (.cells #[c0, c1, c2, c3, c4] T (0, 0))) :
    w.cell? ⟨b, 0, none⟩ = some c0 ∧ w.cell? ⟨b, 1, none⟩ = some c1 ∧ w.cell? ⟨b, 2, none⟩ = some c2 ∧ w.cell? ⟨b, 3, none⟩ = some c3 ∧ w.cell? ⟨b, 4, none⟩ = some c4 ∧ (∀ o, w.frozen? ⟨b, o, none⟩ = false) := by
  refine ⟨?_, ?_, ?_, ?_, ?_, fun o => ?_⟩ <;> simp [World.cell?, World.frozen?, h]

set_option maxRecDepth 100000 in
set_option maxHeartbeats 2000000 in
theorem rsameC_c (w : World) (x y : CV) (hx : CVok w x) (hy : CVok w y) : Calls Tryd.prog 8 #[x.val, y.val] w fun e w' => e = .returned (.bool (sameC x y)) ∧ Below w.heap.size w w' := by
  obtain ⟨R, hR⟩ : ∃ R, R = sameC x y := ⟨_, rfl⟩
  have HR := Lib.hid hR
  rw [← hR]
  clear hR
  have H1 := Lib.hid hx.insts
  have H2 := Lib.hid hy.insts
  have HD := Lib.hid (fun (W : World) (hb : Below w.heap.size w W) => rsameD_c W x.dv y.dv x.docs y.docs (hx.docs.below hb) (hy.docs.below hb))
  have hl1 := hx.insts.1
  have hl2 := hy.insts.1
  have hd1 := hx.docs.1
  have hd2 := hy.docs.1
  obtain ⟨id, mo, iv, dv, cl, is, ds⟩ := x
  obtain ⟨id2, mo2, iv2, dv2, cl2, is2, ds2⟩ := y
  unfold sameC at HR
  dsimp only at HR H1 H2 HD hl1 hl2 hd1 hd2
  obtain ⟨a, ca, hv1, m1, n1, _, _⟩ := hl1
  obtain ⟨a2, ca2, hv2, m2, n2, _, _⟩ := hl2
  obtain ⟨b, cb, hv3, _⟩ := hd1
  obtain ⟨b2, cb2, hv4, _⟩ := hd2
  subst hv1 hv2 hv3 hv4
  have hn : is.length ≤ 9223372036854775807 := by unfold maxLen at n1; omega
  unfold CV.val
  dsimp only
  obtain ⟨w0, hw0⟩ : ∃ x, x = (w.alloc (.cells #[.int .i64 id, .string mo, .slice a is.length ca, .slice b ds.length cb, .int .i64 cl] 25)).alloc (.cells #[.int .i64 id2, .string mo2, .slice a2 is2.length ca2, .slice b2 ds2.length cb2, .int .i64 cl2] 25) := ⟨_, rfl⟩
  have HBW := Lib.hid (show Below w.heap.size w w0 from by rw [hw0]; exact (box_bel' w _).alloc (box_bel' w _).size _)
  have HQ := Lib.hid (show w0.heap[w.heap.size]? = some (.cells #[.int .i64 id, .string mo, .slice a is.length ca, .slice b ds.length cb, .int .i64 cl] 25 (0, 0)) from by rw [hw0]; exact two_old w _ _)
  have HQ2 := Lib.hid (show w0.heap[w.heap.size + 1]? = some (.cells #[.int .i64 id2, .string mo2, .slice a2 is2.length ca2, .slice b2 ds2.length cb2, .int .i64 cl2] 25 (0, 0)) from by rw [hw0]; exact two_new w _ _)
  have HSW := Lib.hid (show w0.heap.size = w.heap.size + 2 from by rw [hw0]; simp)
  have HW0 := Lib.hid hw0
  obtain ⟨q1, h1⟩ : ∃ q, (id == id2) = q := ⟨_, rfl⟩
  obtain ⟨q2, h2⟩ : ∃ q, (mo.toList == mo2.toList) = q := ⟨_, rfl⟩
  obtain ⟨q3, h3⟩ : ∃ q, (cl == cl2) = q := ⟨_, rfl⟩
  obtain ⟨q4, h4⟩ : ∃ q, decide (is.length = is2.length) = q := ⟨_, rfl⟩
  obtain ⟨q5, h5⟩ : ∃ q, sameDs ds ds2 = q := ⟨_, rfl⟩
  have h4' : ((is.length : Int) != (is2.length : Int)) = !q4 := by
    rw [← h4]
    by_cases e : is.length = is2.length
    · rw [decide_eq_true e, e]; simp
    · rw [decide_eq_false e]; simp; omega
  rw [h1, h2, h3, h4, h5] at HR
  simp only [h5] at HD
  replace h1 : (id != id2) = !q1 := by rw [bne, h1]
  replace h3 : (cl != cl2) = !q3 := by rw [bne, h3]
  clear hx hy m1 n1 m2 n2 hw0 h5
  cases q1
  · have HE := Lib.hid (show R = false from by rw [HR.out]; simp)
    go_enter Tryd.func8, Tryd.ntmps8
    go_wp2_with fail
    rw [← HW0.out]
    obtain ⟨d0, d1, d2, d3, d4, dz⟩ := cells5 HQ.out
    obtain ⟨g0, g1, g2, g3, g4, gz⟩ := cells5 HQ2.out
    go_ret
    exact ⟨by rw [HE.out]; rfl, HBW.out⟩
  · skip
    cases q2
    · have HE := Lib.hid (show R = false from by rw [HR.out]; simp)
      go_enter Tryd.func8, Tryd.ntmps8
      go_wp2_with fail
      rw [← HW0.out]
      obtain ⟨d0, d1, d2, d3, d4, dz⟩ := cells5 HQ.out
      obtain ⟨g0, g1, g2, g3, g4, gz⟩ := cells5 HQ2.out
      go_ret
      exact ⟨by rw [HE.out]; rfl, HBW.out⟩
    · skip
      cases q3
      · have HE := Lib.hid (show R = false from by rw [HR.out]; simp)
        go_enter Tryd.func8, Tryd.ntmps8
        go_wp2_with fail
        rw [← HW0.out]
        obtain ⟨d0, d1, d2, d3, d4, dz⟩ := cells5 HQ.out
        obtain ⟨g0, g1, g2, g3, g4, gz⟩ := cells5 HQ2.out
        go_ret
        exact ⟨by rw [HE.out]; rfl, HBW.out⟩
      · skip
        cases q4
        · have HE := Lib.hid (show R = false from by rw [HR.out]; simp)
          go_enter Tryd.func8, Tryd.ntmps8
          go_wp2_with fail
          rw [← HW0.out]
          obtain ⟨d0, d1, d2, d3, d4, dz⟩ := cells5 HQ.out
          obtain ⟨g0, g1, g2, g3, g4, gz⟩ := cells5 HQ2.out
          go_ret
          exact ⟨by rw [HE.out]; rfl, HBW.out⟩
        · skip
          cases q5
          · have HE := Lib.hid (show R = false from by rw [HR.out]; simp)
            go_enter Tryd.func8, Tryd.ntmps8
            go_wp2_with fail
            rw [← HW0.out]
            obtain ⟨d0, d1, d2, d3, d4, dz⟩ := cells5 HQ.out
            obtain ⟨g0, g1, g2, g3, g4, gz⟩ := cells5 HQ2.out
            refine (HD.out w0 HBW.out).mono ?_
            rintro e w1 ⟨rfl, d, hw1⟩
            have HB1 := Lib.hid (show Below w.heap.size w w1 from by rw [hw1]; exact below_drewN HBW.out _)
            have hq1 : w1.heap = w0.heap := by rw [hw1]; rfl
            clear hw1 d0 d1 d2 d3 d4 dz g0 g1 g2 g3 g4 gz
            obtain ⟨d0, d1, d2, d3, d4, dz⟩ := cells5 (show w1.heap[w.heap.size]? = _ from by rw [hq1]; exact HQ.out)
            obtain ⟨g0, g1, g2, g3, g4, gz⟩ := cells5 (show w1.heap[w.heap.size + 1]? = _ from by rw [hq1]; exact HQ2.out)
            have HW1 := Lib.hid hq1
            clear hq1
            go_wp2_with fail
            go_ret
            exact ⟨by rw [HE.out]; rfl, HB1.out⟩
          · skip
            have hll : is.length = is2.length := by simpa using h4
            have HLL := Lib.hid hll
            clear hll h4
            go_enter Tryd.func8, Tryd.ntmps8
            go_wp2_with fail
            rw [← HW0.out]
            obtain ⟨d0, d1, d2, d3, d4, dz⟩ := cells5 HQ.out
            obtain ⟨g0, g1, g2, g3, g4, gz⟩ := cells5 HQ2.out
            refine (HD.out w0 HBW.out).mono ?_
            rintro e w1 ⟨rfl, d, hw1⟩
            have HB1 := Lib.hid (show Below w.heap.size w w1 from by rw [hw1]; exact below_drewN HBW.out _)
            have hq1 : w1.heap = w0.heap := by rw [hw1]; rfl
            clear hw1 d0 d1 d2 d3 d4 dz g0 g1 g2 g3 g4 gz
            obtain ⟨d0, d1, d2, d3, d4, dz⟩ := cells5 (show w1.heap[w.heap.size]? = _ from by rw [hq1]; exact HQ.out)
            obtain ⟨g0, g1, g2, g3, g4, gz⟩ := cells5 (show w1.heap[w.heap.size + 1]? = _ from by rw [hq1]; exact HQ2.out)
            have HW1 := Lib.hid hq1
            clear hq1
            go_wp2_with fail
            clear d0 d1 d2 d3 d4 dz g0 g1 g2 g3 g4 gz h1 h2 h3 h4'
            have HR2 := Lib.hid (show R = (is.zip is2).all fun p => sameI p.1 p.2 from by rw [HR.out]; simp)
            have hzl : (is.zip is2).length = is.length := by rw [List.length_zip, ← HLL.out, Nat.min_self]
            have HZL := Lib.hid hzl
            clear hzl
            go_loopw [45] (fun i wr => ∃ k : Nat, k ≤ is.length ∧ i = .int .i64 k ∧ ((is.zip is2).take k).all (fun p => sameI p.1 p.2) = true ∧ Below w1.heap.size w1 wr) (fun i _ => is.length - (intOf i).toNat)
            case atStart => exact ⟨0, by omega, rfl, by simp, Below.refl _ _⟩
            case round =>
              obtain ⟨k, hk, rfl, ht, hbr⟩ := hrel
              have HT := Lib.hid ht
              have HBR := Lib.hid hbr
              have HBA := Lib.hid (HB1.out.trans (hbr.mono HB1.out.size))
              clear ht hbr
              by_cases hlt : k < is.length
              · have hd : decide ((k : Int) < (is.length : Int)) = true := decide_eq_true (by omega)
                have hlt2 : k < is2.length := by rw [← HLL.out]; exact hlt
                have hltz : k < (is.zip is2).length := by rw [HZL.out]; exact hlt
                obtain ⟨x, hx⟩ : ∃ x, x = is[k] := ⟨_, rfl⟩
                obtain ⟨y, hy⟩ : ∃ y, y = is2[k] := ⟨_, rfl⟩
                have hrow : rowI is k = x.cells := by unfold rowI; rw [List.getElem?_eq_getElem hlt, ← hx]; rfl
                have hrow2 : rowI is2 k = y.cells := by unfold rowI; rw [List.getElem?_eq_getElem hlt2, ← hy]; rfl
                have hxo := (H1.out.2 x (by rw [hx]; exact List.getElem_mem hlt)).below HBA.out
                have hyo := (H2.out.2 y (by rw [hy]; exact List.getElem_mem hlt2)).below HBA.out
                have HC := Lib.hid (fun (W : World) (hb : Below wr.heap.size wr W) => rsame_c W x y (hxo.below hb) (hyo.below hb))
                have HYES := Lib.hid (fun (hb : sameI x y = true) => all_take (f := fun p : IV × IV => sameI p.1 p.2) hltz HT.out (by rw [List.getElem_zip, ← hx, ← hy]; exact hb))
                have HNOT := Lib.hid (fun (hb : sameI x y = false) => all_not (f := fun p : IV × IV => sameI p.1 p.2) hltz (by rw [List.getElem_zip, ← hx, ← hy]; exact hb))
                obtain ⟨g, o, ha, hg, c0, c1, c2, c3, c4, c5⟩ := (H1.out.1.below HBA.out).row hlt hrow
                have hr22 : Rows6 wr (.slice a2 is.length ca2) is.length (rowI is2) := by have := H2.out.1.below HBA.out; rwa [← HLL.out] at this
                obtain ⟨g2, o2, ha2, hg2, e0, e1, e2, e3, e4, e5⟩ := hr22.row hlt hrow2
                subst ha ha2
                obtain ⟨pl, cp, hlv⟩ := hxo.rl.form
                obtain ⟨pl2, cp2, hlv2⟩ := hyo.rl.form
                obtain ⟨path, item, st, bf, lv, ls, due⟩ := x
                obtain ⟨path2, item2, st2, bf2, lv2, ls2, due2⟩ := y
                unfold IV.cells at HC
                dsimp only at hlv hlv2 HC
                subst hlv hlv2
                have hq0 := ((HBR.out.block w.heap.size (by rw [HW1.out, HSW.out]; omega)).trans (show w1.heap[w.heap.size]? = w0.heap[w.heap.size]? from by rw [HW1.out])).trans HQ.out
                have hq1 := ((HBR.out.block (w.heap.size + 1) (by rw [HW1.out, HSW.out]; omega)).trans (show w1.heap[w.heap.size + 1]? = w0.heap[w.heap.size + 1]? from by rw [HW1.out])).trans HQ2.out
                have hz0 : w.heap.size < wr.heap.size := (Array.getElem?_eq_some_iff.1 hq0).1
                have hz1 : w.heap.size + 1 < wr.heap.size := (Array.getElem?_eq_some_iff.1 hq1).1
                obtain ⟨d0, d1, d2, d3, d4, dz⟩ := cells5 hq0
                obtain ⟨f0, f1, f2, f3, f4, fz⟩ := cells5 hq1
                clear hrow hrow2 hx hy hxo hyo hr22 hq0 hq1
                obtain ⟨q, hq⟩ : ∃ q, sameI ⟨path, item, st, bf, .slice pl (icells ls).length cp, ls, due⟩ ⟨path2, item2, st2, bf2, .slice pl2 (icells ls2).length cp2, ls2, due2⟩ = q := ⟨_, rfl⟩
                rw [hq] at HYES HNOT
                simp only [hq] at HC
                clear hq
                let S : World → Prop := fun w' => w'.cell? ⟨w.heap.size, 2, none⟩ = some (.slice (some ⟨g, o, none⟩) is.length ca) ∧ w'.cell? ⟨w.heap.size + 1, 2, none⟩ = some (.slice (some ⟨g2, o2, none⟩) is2.length ca2) ∧ Below wr.heap.size wr w'
                have HKP := Lib.hid (show ∀ W : World, Below wr.heap.size wr W → (W.cell? ⟨w.heap.size, 2, none⟩ = some (.slice (some ⟨g, o, none⟩) is.length ca) ∧ W.cell? ⟨w.heap.size + 1, 2, none⟩ = some (.slice (some ⟨g2, o2, none⟩) is2.length ca2) ∧ (W.cell? ⟨g, o + k * 6, none⟩ = some (.string path) ∧ W.cell? ⟨g, o + k * 6 + 1, none⟩ = some (.string item) ∧ W.cell? ⟨g, o + k * 6 + 2, none⟩ = some (.int .i64 st) ∧ W.cell? ⟨g, o + k * 6 + 3, none⟩ = some (.int .i64 bf) ∧ W.cell? ⟨g, o + k * 6 + 4, none⟩ = some (.slice pl (icells ls).length cp) ∧ W.cell? ⟨g, o + k * 6 + 5, none⟩ = some (.int .i64 due)) ∧ (W.cell? ⟨g2, o2 + k * 6, none⟩ = some (.string path2) ∧ W.cell? ⟨g2, o2 + k * 6 + 1, none⟩ = some (.string item2) ∧ W.cell? ⟨g2, o2 + k * 6 + 2, none⟩ = some (.int .i64 st2) ∧ W.cell? ⟨g2, o2 + k * 6 + 3, none⟩ = some (.int .i64 bf2) ∧ W.cell? ⟨g2, o2 + k * 6 + 4, none⟩ = some (.slice pl2 (icells ls2).length cp2) ∧ W.cell? ⟨g2, o2 + k * 6 + 5, none⟩ = some (.int .i64 due2)) ∧ Below wr.heap.size wr W) from
                  fun W h => ⟨(h.cell (by exact hz0)).trans d2, (h.cell (by exact hz1)).trans f2, ⟨(h.cell hg).trans c0, (h.cell hg).trans c1, (h.cell hg).trans c2, (h.cell hg).trans c3, (h.cell hg).trans c4, (h.cell hg).trans c5⟩, ⟨(h.cell hg2).trans e0, (h.cell hg2).trans e1, (h.cell hg2).trans e2, (h.cell hg2).trans e3, (h.cell hg2).trans e4, (h.cell hg2).trans e5⟩, h⟩)
                clear S c0 c1 c2 c3 c4 c5 e0 e1 e2 e3 e4 e5 d0 d1 d2 d3 d4 dz f0 f1 f2 f3 f4 fz
                go_wp2_with fail
                go_region_held3 (fun W => W.cell? ⟨w.heap.size, 2, none⟩ = some (.slice (some ⟨g, o, none⟩) is.length ca) ∧ W.cell? ⟨w.heap.size + 1, 2, none⟩ = some (.slice (some ⟨g2, o2, none⟩) is2.length ca2) ∧ (W.cell? ⟨g, o + k * 6, none⟩ = some (.string path) ∧ W.cell? ⟨g, o + k * 6 + 1, none⟩ = some (.string item) ∧ W.cell? ⟨g, o + k * 6 + 2, none⟩ = some (.int .i64 st) ∧ W.cell? ⟨g, o + k * 6 + 3, none⟩ = some (.int .i64 bf) ∧ W.cell? ⟨g, o + k * 6 + 4, none⟩ = some (.slice pl (icells ls).length cp) ∧ W.cell? ⟨g, o + k * 6 + 5, none⟩ = some (.int .i64 due)) ∧ (W.cell? ⟨g2, o2 + k * 6, none⟩ = some (.string path2) ∧ W.cell? ⟨g2, o2 + k * 6 + 1, none⟩ = some (.string item2) ∧ W.cell? ⟨g2, o2 + k * 6 + 2, none⟩ = some (.int .i64 st2) ∧ W.cell? ⟨g2, o2 + k * 6 + 3, none⟩ = some (.int .i64 bf2) ∧ W.cell? ⟨g2, o2 + k * 6 + 4, none⟩ = some (.slice pl2 (icells ls2).length cp2) ∧ W.cell? ⟨g2, o2 + k * 6 + 5, none⟩ = some (.int .i64 due2)) ∧ Below wr.heap.size wr W)
                  (first
                    | exact HKP.out _ (Below.refl _ _)
                    | exact HKP.out _ ((Below.refl _ _).drew)
                    | (refine HKP.out _ ?_; assumption)
                    | (refine HKP.out _ (Below.drew ?_); assumption)
                    | (refine HKP.out _ (below_drewN ?_ _); assumption))
                  (first
                    | (go_split_ands; go_at_call 15; refine (HC.out _ ?_).mono ?_
                       · assumption
                       rintro e w2 ⟨rfl, hb1⟩
                       have hB2 : Below wr.heap.size wr w2 := Below.trans (by assumption) (hb1.mono (Below.size (by assumption)))
                       clear hb1)
                    | fail "no arm")
                cases q
                all_goals
                  first
                  | (have HE := Lib.hid (show R = false from by rw [HR2.out]; exact HNOT.out rfl)
                     go_wp2_with fail
                     go_ret
                     exact ⟨by rw [HE.out]; rfl, HBA.out.trans (Below.mono (by assumption) HBA.out.size)⟩)
                  | (have HX := Lib.hid (HYES.out rfl)
                     go_wp2_with fail
                     go_roundw
                     case rel => exact ⟨k + 1, by omega, by go_num, HX.out, HBR.out.trans (Below.mono (by assumption) HBR.out.size)⟩
                     case measure => simp [intOf]; omega)
              · have hd : decide ((k : Int) < (is.length : Int)) = false := decide_eq_false (by omega)
                have HE := Lib.hid (show R = true from by
                  rw [HR2.out]
                  have h := HT.out
                  rwa [List.take_of_length_le (by rw [HZL.out]; omega)] at h)
                go_wp2_with fail
                go_ret
                exact ⟨by rw [HE.out]; rfl, HBA.out⟩
end Go.Proofs.YtllhlmdhnmdihaaDoor

/- Cases: slices.Equal at string and at int. Written by tools/genyw.py off XYs. -/
namespace Go.Proofs.YtllhlmdhnmdihaaDoor
open Go Go.RowKit Go.Shelf
set_option linter.unusedVariables false
set_option linter.unusedSimpArgs false

def sameZ (x y : List Int) : Bool := decide (x.length = y.length) && decide (x = y)

end Go.Proofs.YtllhlmdhnmdihaaDoor

/- Cases: whether two instances are the same (the program's). Written by tools/genyx.py. -/
namespace Go.Proofs.YtllhlmdhnmdihaaDoor
open Go Go.RowKit Go.Shelf
set_option linter.unusedVariables false
set_option linter.unusedSimpArgs false

end Go.Proofs.YtllhlmdhnmdihaaDoor

/- Cases: whether two documents are the same (the program's). Written by tools/genyy.py. -/
namespace Go.Proofs.YtllhlmdhnmdihaaDoor
open Go Go.RowKit Go.Shelf
set_option linter.unusedVariables false
set_option linter.unusedSimpArgs false

theorem run_eqlV (w : World) (k k2 n n2 : Int) (b b2 : Bool) (t t2 : ByteArray) : (binOp .eql 53 (.agg #[.int .i64 k, .int .i64 n, .bool b, .string t]) (.agg #[.int .i64 k2, .int .i64 n2, .bool b2, .string t2])).run Tryd.prog w = .ok (.bool (sameVal k k2 n n2 b b2 t t2)) w := by
  rw [run_eql_struct, run_equalIn_agg _ _ _ _ _ structV heldV]
  have hf := fieldsV
  generalize (Tryd.prog.fieldsOf 53).toList = fs at hf
  unfold sameVal
  rcases fs with _ | ⟨f0, _ | ⟨f1, _ | ⟨f2, _ | ⟨f3, _ | ⟨f4, r⟩⟩⟩⟩⟩
  · simp at hf
  · simp at hf
  · simp at hf
  · simp at hf
  · simp only [List.map_cons, List.map_nil, List.cons.injEq, Prod.mk.injEq, and_true] at hf
    obtain ⟨⟨n0, t0, o0⟩, ⟨n1, t1, o1⟩, ⟨n2', t2', o2⟩, n3, t3, o3⟩ := hf
    simp only [Op.eqFields, t0, t1, t2', t3, o0, o1, o2, o3]
    simp only [bne_iff_ne] at n0 n1 n2' n3
    rw [if_pos n0, if_pos n1, if_pos n2', if_pos n3]
    obtain ⟨q1, h1⟩ : ∃ q, (k == k2) = q := ⟨_, rfl⟩
    obtain ⟨q2, h2⟩ : ∃ q, (n == n2) = q := ⟨_, rfl⟩
    obtain ⟨q3, h3⟩ : ∃ q, (b == b2) = q := ⟨_, rfl⟩
    obtain ⟨q4, h4⟩ : ∃ q, (t.toList == t2.toList) = q := ⟨_, rfl⟩
    cases q1 <;> cases q2 <;> cases q3 <;> cases q4 <;> simp [go_sem, part, h1, h2, h3, h4]
  · simp at hf

end Go.Proofs.YtllhlmdhnmdihaaDoor

/- Cases: slices.EqualFunc at the program's sameInst and sameDoc. Written by tools/genyz.py. -/
namespace Go.Proofs.YtllhlmdhnmdihaaDoor
open Go Go.RowKit Go.Shelf
set_option linter.unusedVariables false
set_option linter.unusedSimpArgs false

def sameIs (l1 l2 : List IV) : Bool := decide (l1.length = l2.length) && (l1.zip l2).all fun p => sameI p.1 p.2

end Go.Proofs.YtllhlmdhnmdihaaDoor

/- Cases: whether two cases are the same (the program's). Written by tools/genza.py. -/
namespace Go.Proofs.YtllhlmdhnmdihaaDoor
open Go Go.RowKit Go.Shelf
set_option linter.unusedVariables false
set_option linter.unusedSimpArgs false

end Go.Proofs.YtllhlmdhnmdihaaDoor
