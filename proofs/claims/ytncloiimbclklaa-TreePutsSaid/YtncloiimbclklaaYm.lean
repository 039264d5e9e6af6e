/- Cases: those right below a path, all below it (the program's). Written by tools/genym.py. -/
import Derived.Test.YtncloiimbclklaaYl
namespace Go.Proofs.Ytncloiimbclklaa
open Go Go.RowKit Go.Shelf
set_option linter.unusedVariables false
set_option linter.unusedSimpArgs false

set_option maxRecDepth 100000 in
theorem kids_c (w : World) (c : CV) (h : CVok w c) (p : ByteArray) (hs : ∀ x ∈ c.insts, x.ls.length ≤ 40) (hps : ∀ x ∈ c.insts, x.path.size ≤ 400) (hpp : p.size ≤ 140737488355328) (hc4 : c.insts.length ≤ 40) : Calls Try.prog 11 #[c.val, .string p] w fun e w' => ∃ v, e = .returned v ∧ InstsOwn w' w.heap.size v (c.insts.filter (kidP p)) ∧ Below w.heap.size w w' := by
  have HC := Lib.hid (fun (W : World) (b : Nat) (hb : b < W.heap.size) (hp : W.cell? ⟨b, 0, none⟩ = some (.string p)) (hB : Below w.heap.size w W) => thoseK_c W c.iv c.insts (h.insts.below hB) b p hb hp hs hps hpp hc4)
  have hl := h.insts.1
  obtain ⟨id, mo, iv, dv, cl, is, ds⟩ := c
  dsimp only at hl HC
  obtain ⟨a, ca, hiv, _⟩ := hl
  subst hiv
  unfold CV.val
  dsimp only
  obtain ⟨w0, hw0⟩ : ∃ x, x = (w.alloc (.cells #[.int .i64 id, .string mo, .slice a is.length ca, dv, .int .i64 cl] 25)).alloc (.cells #[.string p] 9) := ⟨_, rfl⟩
  have HBW := Lib.hid (show Below w.heap.size w w0 from by rw [hw0]; exact (box_bel' w _).alloc (box_bel' w _).size _)
  have HC2 := Lib.hid (HC.out w0 (w.heap.size + 1) (by rw [hw0]; simp) (by have := two_new w (.cells #[.int .i64 id, .string mo, .slice a is.length ca, dv, .int .i64 cl] 25) (.cells #[.string p] 9); rw [hw0]; simp only [World.cell?, this]; rfl) HBW.out)
  have HW0 := Lib.hid hw0
  clear h hs hps hpp hc4 hw0 HC
  go_enter Try.func11, Try.ntmps11
  go_wp2_with fail
  rw [← HW0.out]
  refine (HC2.out).mono ?_
  rintro e w' ⟨v, rfl, ho, hb⟩
  have HO := Lib.hid (ho.up HBW.out.size)
  have HB := Lib.hid (HBW.out.trans (hb.mono HBW.out.size))
  clear ho hb
  go_wp2_with fail
  go_ret
  exact ⟨v, rfl, HO.out, HB.out⟩

set_option maxRecDepth 100000 in
theorem below_c (w : World) (c : CV) (h : CVok w c) (p : ByteArray) (hs : ∀ x ∈ c.insts, x.ls.length ≤ 40) (hps : ∀ x ∈ c.insts, x.path.size ≤ 400) (hpp : p.size ≤ 140737488355328) (hc4 : c.insts.length ≤ 40) : Calls Try.prog 13 #[c.val, .string p] w fun e w' => ∃ v, e = .returned v ∧ InstsOwn w' w.heap.size v (c.insts.filter (belP p)) ∧ Below w.heap.size w w' := by
  have HC := Lib.hid (fun (W : World) (b : Nat) (hb : b < W.heap.size) (hp : W.cell? ⟨b, 0, none⟩ = some (.string p)) (hB : Below w.heap.size w W) => thoseB_c W c.iv c.insts (h.insts.below hB) b p hb hp hs hps hpp hc4)
  have hl := h.insts.1
  obtain ⟨id, mo, iv, dv, cl, is, ds⟩ := c
  dsimp only at hl HC
  obtain ⟨a, ca, hiv, _⟩ := hl
  subst hiv
  unfold CV.val
  dsimp only
  obtain ⟨w0, hw0⟩ : ∃ x, x = (w.alloc (.cells #[.int .i64 id, .string mo, .slice a is.length ca, dv, .int .i64 cl] 25)).alloc (.cells #[.string p] 9) := ⟨_, rfl⟩
  have HBW := Lib.hid (show Below w.heap.size w w0 from by rw [hw0]; exact (box_bel' w _).alloc (box_bel' w _).size _)
  have HC2 := Lib.hid (HC.out w0 (w.heap.size + 1) (by rw [hw0]; simp) (by have := two_new w (.cells #[.int .i64 id, .string mo, .slice a is.length ca, dv, .int .i64 cl] 25) (.cells #[.string p] 9); rw [hw0]; simp only [World.cell?, this]; rfl) HBW.out)
  have HW0 := Lib.hid hw0
  clear h hs hps hpp hc4 hw0 HC
  go_enter Try.func13, Try.ntmps13
  go_wp2_with fail
  rw [← HW0.out]
  refine (HC2.out).mono ?_
  rintro e w' ⟨v, rfl, ho, hb⟩
  have HO := Lib.hid (ho.up HBW.out.size)
  have HB := Lib.hid (HBW.out.trans (hb.mono HBW.out.size))
  clear ho hb
  go_wp2_with fail
  go_ret
  exact ⟨v, rfl, HO.out, HB.out⟩
end Go.Proofs.Ytncloiimbclklaa
