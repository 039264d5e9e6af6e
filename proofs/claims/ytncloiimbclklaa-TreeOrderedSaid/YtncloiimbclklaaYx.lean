/- Cases: whether two instances are the same (the program's). Written by tools/genyx.py. -/
import Derived.Test.YtncloiimbclklaaYw
namespace Go.Proofs.Ytncloiimbclklaa
open Go Go.RowKit Go.Shelf
set_option linter.unusedVariables false
set_option linter.unusedSimpArgs false

set_option maxRecDepth 100000 in
set_option maxHeartbeats 2000000 in
theorem sameInst_c (w : World) (x y : IV) (hx : IVok w x) (hy : IVok w y) : Calls Try.prog 41 #[.agg x.cells.toArray, .agg y.cells.toArray] w fun e w' => e = .returned (.bool (sameI x y)) ∧ Below w.heap.size w w' := by
  obtain ⟨R, hR⟩ : ∃ R, R = sameI x y := ⟨_, rfl⟩
  have HR := Lib.hid (show R = ((x.path.toList == y.path.toList) && ((x.item.toList == y.item.toList) && ((x.st == y.st) && ((x.bf == y.bf) && (sameZ x.ls y.ls && (x.due == y.due)))))) from by
    rw [hR]
    unfold sameI sameZ
    have : (x.ls == y.ls) = decide (x.ls = y.ls) := by rw [Bool.eq_iff_iff]; simp
    rw [this]
    cases (x.path.toList == y.path.toList) <;> cases (x.item.toList == y.item.toList) <;> cases (x.st == y.st) <;> cases (x.bf == y.bf) <;> cases (x.due == y.due) <;> simp)
  rw [← hR]
  clear hR
  have HZ := Lib.hid (fun (W : World) (hb : Below w.heap.size w W) => equalZ_c W x.lv y.lv x.ls y.ls (hx.rl.below hb) (hy.rl.below hb))
  obtain ⟨pl, cp, hlv⟩ := hx.rl.form
  obtain ⟨pl2, cp2, hlv2⟩ := hy.rl.form
  obtain ⟨path, item, st, bf, lv, ls, due⟩ := x
  obtain ⟨path2, item2, st2, bf2, lv2, ls2, due2⟩ := y
  dsimp only at HR HZ hlv hlv2
  subst hlv hlv2
  unfold IV.cells
  dsimp only
  obtain ⟨w0, hw0⟩ : ∃ x, x = (w.alloc (.cells #[.string path, .string item, .int .i64 st, .int .i64 bf, .slice pl (icells ls).length cp, .int .i64 due] 30)).alloc (.cells #[.string path2, .string item2, .int .i64 st2, .int .i64 bf2, .slice pl2 (icells ls2).length cp2, .int .i64 due2] 30) := ⟨_, rfl⟩
  have HBW := Lib.hid (show Below w.heap.size w w0 from by rw [hw0]; exact (box_bel' w _).alloc (box_bel' w _).size _)
  have HQ := Lib.hid (show w0.heap[w.heap.size]? = some (.cells #[.string path, .string item, .int .i64 st, .int .i64 bf, .slice pl (icells ls).length cp, .int .i64 due] 30 (0, 0)) from by rw [hw0]; exact two_old w _ _)
  have HQ2 := Lib.hid (show w0.heap[w.heap.size + 1]? = some (.cells #[.string path2, .string item2, .int .i64 st2, .int .i64 bf2, .slice pl2 (icells ls2).length cp2, .int .i64 due2] 30 (0, 0)) from by rw [hw0]; exact two_new w _ _)
  have HW0 := Lib.hid hw0
  obtain ⟨q1, h1⟩ : ∃ q, (path.toList == path2.toList) = q := ⟨_, rfl⟩
  obtain ⟨q2, h2⟩ : ∃ q, (item.toList == item2.toList) = q := ⟨_, rfl⟩
  obtain ⟨q3, h3⟩ : ∃ q, (st == st2) = q := ⟨_, rfl⟩
  obtain ⟨q4, h4⟩ : ∃ q, (bf == bf2) = q := ⟨_, rfl⟩
  obtain ⟨q5, h5⟩ : ∃ q, sameZ ls ls2 = q := ⟨_, rfl⟩
  obtain ⟨q6, h6⟩ : ∃ q, (due == due2) = q := ⟨_, rfl⟩
  rw [h1, h2, h3, h4, h5, h6] at HR
  simp only [h5] at HZ
  clear hx hy hw0 h5
  cases q1
  · have HE := Lib.hid (show R = false from by rw [HR.out]; simp)
    go_enter Try.func41, Try.ntmps41
    go_wp2_with fail
    rw [← HW0.out]
    obtain ⟨d0, d1, d2, d3, d4, d5, dz⟩ := cells6 HQ.out
    obtain ⟨g0, g1, g2, g3, g4, g5, gz⟩ := cells6 HQ2.out
    go_ret
    exact ⟨by rw [HE.out]; rfl, HBW.out⟩
  · skip
    cases q2
    · have HE := Lib.hid (show R = false from by rw [HR.out]; simp)
      go_enter Try.func41, Try.ntmps41
      go_wp2_with fail
      rw [← HW0.out]
      obtain ⟨d0, d1, d2, d3, d4, d5, dz⟩ := cells6 HQ.out
      obtain ⟨g0, g1, g2, g3, g4, g5, gz⟩ := cells6 HQ2.out
      go_ret
      exact ⟨by rw [HE.out]; rfl, HBW.out⟩
    · skip
      cases q3
      · have HE := Lib.hid (show R = false from by rw [HR.out]; simp)
        go_enter Try.func41, Try.ntmps41
        go_wp2_with fail
        rw [← HW0.out]
        obtain ⟨d0, d1, d2, d3, d4, d5, dz⟩ := cells6 HQ.out
        obtain ⟨g0, g1, g2, g3, g4, g5, gz⟩ := cells6 HQ2.out
        go_ret
        exact ⟨by rw [HE.out]; rfl, HBW.out⟩
      · skip
        cases q4
        · have HE := Lib.hid (show R = false from by rw [HR.out]; simp)
          go_enter Try.func41, Try.ntmps41
          go_wp2_with fail
          rw [← HW0.out]
          obtain ⟨d0, d1, d2, d3, d4, d5, dz⟩ := cells6 HQ.out
          obtain ⟨g0, g1, g2, g3, g4, g5, gz⟩ := cells6 HQ2.out
          go_ret
          exact ⟨by rw [HE.out]; rfl, HBW.out⟩
        · skip
          have HE := Lib.hid (show R = (q5 && q6) from by rw [HR.out]; simp)
          go_enter Try.func41, Try.ntmps41
          go_wp2_with fail
          rw [← HW0.out]
          obtain ⟨d0, d1, d2, d3, d4, d5, dz⟩ := cells6 HQ.out
          obtain ⟨g0, g1, g2, g3, g4, g5, gz⟩ := cells6 HQ2.out
          refine (HZ.out w0 HBW.out).mono ?_
          rintro e w1 ⟨rfl, d, hw1⟩
          have HB1 := Lib.hid (show Below w.heap.size w w1 from by rw [hw1]; exact below_drewN HBW.out _)
          have hq1 : w1.heap = w0.heap := by rw [hw1]; rfl
          clear hw1 d0 d1 d2 d3 d4 d5 dz g0 g1 g2 g3 g4 g5 gz
          obtain ⟨d0, d1, d2, d3, d4, d5, dz⟩ := cells6 (show w1.heap[w.heap.size]? = _ from by rw [hq1]; exact HQ.out)
          obtain ⟨g0, g1, g2, g3, g4, g5, gz⟩ := cells6 (show w1.heap[w.heap.size + 1]? = _ from by rw [hq1]; exact HQ2.out)
          clear hq1
          cases q5
          all_goals
            go_wp2_with fail
            go_ret
            exact ⟨by rw [HE.out]; rfl, HB1.out⟩
end Go.Proofs.Ytncloiimbclklaa
