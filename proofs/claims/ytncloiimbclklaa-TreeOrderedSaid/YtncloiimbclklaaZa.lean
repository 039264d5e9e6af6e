/- Cases: whether two cases are the same (the program's). Written by tools/genza.py. -/
import Derived.Test.YtncloiimbclklaaYz
namespace Go.Proofs.Ytncloiimbclklaa
open Go Go.RowKit Go.Shelf
set_option linter.unusedVariables false
set_option linter.unusedSimpArgs false

set_option maxRecDepth 100000 in
set_option maxHeartbeats 2000000 in
theorem same_c (w : World) (x y : CV) (hx : CVok w x) (hy : CVok w y) : Calls Try.prog 18 #[x.val, y.val] w fun e w' => e = .returned (.bool (sameC x y)) ∧ Below w.heap.size w w' := by
  obtain ⟨R, hR⟩ : ∃ R, R = sameC x y := ⟨_, rfl⟩
  have HR := Lib.hid (show R = ((x.id == y.id) && ((x.model.toList == y.model.toList) && ((x.clock == y.clock) && (sameIs x.insts y.insts && sameDs x.docs y.docs)))) from by
    rw [hR]
    unfold sameC sameIs
    cases (x.id == y.id) <;> cases (x.model.toList == y.model.toList) <;> cases (x.clock == y.clock) <;> cases decide (x.insts.length = y.insts.length) <;> cases (sameDs x.docs y.docs) <;> cases ((x.insts.zip y.insts).all fun p => sameI p.1 p.2) <;> rfl)
  rw [← hR]
  clear hR
  have HI := Lib.hid (fun (W : World) (hb : Below w.heap.size w W) => equalIs_c W x.iv y.iv x.insts y.insts (hx.insts.below hb) (hy.insts.below hb))
  have HD := Lib.hid (fun (W : World) (hb : Below w.heap.size w W) => equalDs_c W x.dv y.dv x.docs y.docs (hx.docs.below hb) (hy.docs.below hb))
  have hl1 := hx.insts.1
  have hl2 := hy.insts.1
  have hd1 := hx.docs.1
  have hd2 := hy.docs.1
  obtain ⟨id, mo, iv, dv, cl, is, ds⟩ := x
  obtain ⟨id2, mo2, iv2, dv2, cl2, is2, ds2⟩ := y
  dsimp only at HR HI HD hl1 hl2 hd1 hd2
  obtain ⟨a, ca, hv1, _⟩ := hl1
  obtain ⟨a2, ca2, hv2, _⟩ := hl2
  obtain ⟨b, cb, hv3, _⟩ := hd1
  obtain ⟨b2, cb2, hv4, _⟩ := hd2
  subst hv1 hv2 hv3 hv4
  unfold CV.val
  dsimp only
  obtain ⟨w0, hw0⟩ : ∃ x, x = (w.alloc (.cells #[.int .i64 id, .string mo, .slice a is.length ca, .slice b ds.length cb, .int .i64 cl] 25)).alloc (.cells #[.int .i64 id2, .string mo2, .slice a2 is2.length ca2, .slice b2 ds2.length cb2, .int .i64 cl2] 25) := ⟨_, rfl⟩
  have HBW := Lib.hid (show Below w.heap.size w w0 from by rw [hw0]; exact (box_bel' w _).alloc (box_bel' w _).size _)
  have HQ := Lib.hid (show w0.heap[w.heap.size]? = some (.cells #[.int .i64 id, .string mo, .slice a is.length ca, .slice b ds.length cb, .int .i64 cl] 25 (0, 0)) from by rw [hw0]; exact two_old w _ _)
  have HQ2 := Lib.hid (show w0.heap[w.heap.size + 1]? = some (.cells #[.int .i64 id2, .string mo2, .slice a2 is2.length ca2, .slice b2 ds2.length cb2, .int .i64 cl2] 25 (0, 0)) from by rw [hw0]; exact two_new w _ _)
  have HSW := Lib.hid (show w0.heap.size = w.heap.size + 2 from by rw [hw0]; simp)
  have HW0 := Lib.hid hw0
  obtain ⟨q1, h1⟩ : ∃ q, (id == id2) = q := ⟨_, rfl⟩
  obtain ⟨q2, h2⟩ : ∃ q, (mo.toList == mo2.toList) = q := ⟨_, rfl⟩
  obtain ⟨q3, h3⟩ : ∃ q, (cl == cl2) = q := ⟨_, rfl⟩
  obtain ⟨q4, h4⟩ : ∃ q, sameIs is is2 = q := ⟨_, rfl⟩
  obtain ⟨q5, h5⟩ : ∃ q, sameDs ds ds2 = q := ⟨_, rfl⟩
  rw [h1, h2, h3, h4, h5] at HR
  simp only [h4] at HI
  simp only [h5] at HD
  clear hx hy hw0 h4 h5
  cases q1
  · have HE := Lib.hid (show R = false from by rw [HR.out]; simp)
    go_enter Try.func18, Try.ntmps18
    go_wp2_with fail
    rw [← HW0.out]
    obtain ⟨d0, d1, d2, d3, d4, dz⟩ := cells5 HQ.out
    obtain ⟨g0, g1, g2, g3, g4, gz⟩ := cells5 HQ2.out
    go_ret
    exact ⟨by rw [HE.out]; rfl, HBW.out⟩
  · skip
    cases q2
    · have HE := Lib.hid (show R = false from by rw [HR.out]; simp)
      go_enter Try.func18, Try.ntmps18
      go_wp2_with fail
      rw [← HW0.out]
      obtain ⟨d0, d1, d2, d3, d4, dz⟩ := cells5 HQ.out
      obtain ⟨g0, g1, g2, g3, g4, gz⟩ := cells5 HQ2.out
      go_ret
      exact ⟨by rw [HE.out]; rfl, HBW.out⟩
    · skip
      cases q3
      · have HE := Lib.hid (show R = false from by rw [HR.out]; simp)
        go_enter Try.func18, Try.ntmps18
        go_wp2_with fail
        rw [← HW0.out]
        obtain ⟨d0, d1, d2, d3, d4, dz⟩ := cells5 HQ.out
        obtain ⟨g0, g1, g2, g3, g4, gz⟩ := cells5 HQ2.out
        go_ret
        exact ⟨by rw [HE.out]; rfl, HBW.out⟩
      · skip
        have HE := Lib.hid (show R = (q4 && q5) from by rw [HR.out]; simp)
        go_enter Try.func18, Try.ntmps18
        go_wp2_with fail
        rw [← HW0.out]
        obtain ⟨d0, d1, d2, d3, d4, dz⟩ := cells5 HQ.out
        obtain ⟨g0, g1, g2, g3, g4, gz⟩ := cells5 HQ2.out
        refine (HI.out w0 HBW.out).mono ?_
        rintro e w1 ⟨rfl, hb1⟩
        have HB1 := Lib.hid (HBW.out.trans (hb1.mono HBW.out.size))
        clear d0 d1 d2 d3 d4 dz g0 g1 g2 g3 g4 gz
        obtain ⟨d0, d1, d2, d3, d4, dz⟩ := cells5 ((hb1.block w.heap.size (by rw [HSW.out]; omega)).trans HQ.out)
        obtain ⟨g0, g1, g2, g3, g4, gz⟩ := cells5 ((hb1.block (w.heap.size + 1) (by rw [HSW.out]; omega)).trans HQ2.out)
        clear hb1
        cases q4
        · go_wp2_with fail
          go_ret
          exact ⟨by rw [HE.out]; rfl, HB1.out⟩
        · go_wp2_with fail
          refine (HD.out w1 HB1.out).mono ?_
          rintro e w2 ⟨rfl, hb2⟩
          have HB2 := Lib.hid (HB1.out.trans (hb2.mono HB1.out.size))
          clear hb2
          go_wp2_with fail
          go_ret
          exact ⟨by rw [HE.out]; rfl, HB2.out⟩
end Go.Proofs.Ytncloiimbclklaa
