/- xmllex: Next. -/
import Derived.Test.YtelemkiaepemjaaDoorIb
namespace Go.Proofs.YtelemkiaepemjaaDoor
open Go.RowKit
set_option linter.unusedVariables false

theorem scan_c {w : World} (hw : BW w) {p : Option Addr} {n c : Nat} {xs : List UInt8} (hr : Rd w (.slice p n c) xs) (hl : xs.length ≤ 1048576) (at_ : Int) (tb : Nat) (ht : w.heap[tb]? = some REST) : Calls Tryd.prog 16 #[.slice p n c, .int .i64 at_, F19 tb] w
    (ScAft n w tb (nxt insP opnP cloP xs at_)) := by
  by_cases h : at_ < 0 ∨ (xs.length : Int) < at_
  · rw [nxt_out h]
    exact scan_out hr.len (F19 tb) tb ht h
  · obtain ⟨a, rfl⟩ : ∃ a : Nat, at_ = (a : Int) := ⟨at_.toNat, by omega⟩
    exact scan_inb hw hr hl (by omega) tb ht (nz_tokA _)
theorem results_next (tm : Array Value) (V : World) (b : Nat) (c0 c1 c2 c3 c4 k z : Value) (h4 : tm.getD 4 undef = .pointer (some ⟨b, 0, none⟩)) (h5 : tm.getD 5 undef = k) (h6 : tm.getD 6 undef = z) (h : V.heap[b]? = some (.cells #[c0, c1, c2, c3, c4] 31 (0, 0))) :
    (results Tryd.f8 tm).run Tryd.prog V = .ok (.tuple #[.agg #[c0, c1, c2, c3, c4], k, z]) V := by
  obtain ⟨e0, e1, e2, e3, e4, _⟩ := cellsX5 h
  have h4' : tm[4]?.getD undef = .pointer (some ⟨b, 0, none⟩) := by simpa using h4
  have h5' : tm[5]?.getD undef = k := by simpa using h5
  have h6' : tm[6]?.getD undef = z := by simpa using h6
  simp [results, Tryd.results8, go_sem, h4', h5', h6', e0, e1, e2, e3, e4]

/-- How Next ends. -/
def NextAft (L : Nat) (w : World) (R : Tk × Nat × Nat) (e : Ending) (w' : World) : Prop :=
  ∃ v, e = .returned (.tuple #[v, .int .i64 (R.2.1 : Nat), .int .i64 (R.2.2 : Nat)]) ∧ VT R.1 w' v ∧ Below w.heap.size w w' ∧ (R.2.2 = 0 → R.2.1 ≤ L)
set_option maxRecDepth 100000 in
set_option maxHeartbeats 2000000 in
theorem next_c {w : World} (hw : BW w) {v : Value} {xs : List UInt8} (hr : Rd w v xs) (hl : xs.length ≤ 1048576) (at_ : Int) : Calls Tryd.prog 8 #[v, .int .i64 at_] w
    (NextAft xs.length w (nxt insP opnP cloP xs at_)) := by
  obtain ⟨p, c, rfl⟩ := rd_form hr
  obtain ⟨L, hL⟩ : ∃ L, L = xs.length := ⟨_, rfl⟩
  rw [← hL] at hr
  have hb2 : Below w.heap.size w ((w.alloc REST).alloc REST) := (bel_alloc w REST).trans ((bel_alloc _ REST).mono (by simp))
  have ht1 : ((w.alloc REST).alloc REST).heap[w.heap.size + 1]? = some REST := by
    have := heap_alloc_new (w.alloc REST) REST
    rwa [show (w.alloc REST).heap.size = w.heap.size + 1 from by simp] at this
  have ht0 : ((w.alloc REST).alloc REST).heap[w.heap.size]? = some REST := ((bel_alloc (w.alloc REST) REST).block w.heap.size (by simp)).trans (heap_alloc_new w _)
  have HSC := Lib.hid (scan_c (hw.below hb2) (hr.below hb2) hl at_ (w.heap.size + 1) ht1)
  have HB2 := Lib.hid hb2
  have HT0 := Lib.hid ht0
  have hmf : ∀ (fn : Fn) (first cap : Array Value) (w : World), (Instr.makeFunc fn first cap).run Tryd.prog w = .ok (.func fn first cap) w := fun _ _ _ _ => rfl
  obtain ⟨⟨t, k, z⟩, hR⟩ : ∃ R, R = nxt insP opnP cloP xs at_ := ⟨_, rfl⟩
  rw [← hR] at HSC ⊢
  rw [← hL]
  obtain ⟨S1, hS1⟩ : ∃ S1, S1 = (⟨t.name.toArray⟩ : ByteArray) := ⟨_, rfl⟩
  obtain ⟨S2, hS2⟩ : ∃ S2, S2 = (⟨t.text.toArray⟩ : ByteArray) := ⟨_, rfl⟩
  have HN1 := Lib.hid hS1
  have HN2 := Lib.hid hS2
  clear hr hw hl hb2 ht1 ht0 hR hL hS1 hS2
  go_enter Tryd.func8, Tryd.ntmps8
  go_wp2_with fail
  refine HSC.out.mono ?_
  rintro e w2 ⟨rfl, ⟨s, hb, hat⟩, hc, hkl⟩
  have HKL := Lib.hid hkl
  clear hkl
  dsimp only at hb hat
  rw [← HN1.out, ← HN2.out] at hb
  obtain ⟨p7, c7, hsv, _⟩ := id hat
  obtain ⟨N7, hN7⟩ : ∃ N7, N7 = t.attrs.length := ⟨_, rfl⟩
  rw [← hN7] at hsv
  subst hsv
  obtain ⟨kd, hkd⟩ : ∃ kd, kd = t.kind := ⟨_, rfl⟩
  obtain ⟨em, hem⟩ : ∃ em, em = t.empty := ⟨_, rfl⟩
  rw [← hkd, ← hem] at hb
  have hb0 := (hc.block w.heap.size (by simp; omega) (by simp)).trans HT0.out
  obtain ⟨q0, q1, q2, q3, q4, qz⟩ := cellsX5 hb
  obtain ⟨z0, z1, z2, z3, z4, zz⟩ := cellsX5 hb0
  have hk5 := put5_chg w2 w.heap.size (.int .i64 (kd : Nat)) (.string S1) (.slice p7 N7 c7) (.bool em) (.string S2)
  have HPU := Lib.hid (put5_at hb0 (.int .i64 (kd : Nat)) (.string S1) (.slice p7 N7 c7) (.bool em) (.string S2))
  have HAT := Lib.hid (hat.poke hb0 hk5)
  have HBL := Lib.hid (((Chg.of_below (S := []) HB2.out).then hc (fun i hi => by simp at hi; exact .inr (by omega))).then hk5 (fun i hi => by simp at hi; exact .inr (by omega)))
  have HKD := Lib.hid (And.intro hkd hem)
  clear hc hb hat hb0 hk5 hN7 hkd hem
  go_wp2_with fail
  refine bodyPost_ret (results_next _ _ w.heap.size _ _ _ _ _ _ _ rfl rfl rfl HPU.out) rfl ?_
  exact ⟨_, rfl, ⟨_, by rw [HN1.out, HN2.out, HKD.out.1, HKD.out.2], HAT.out⟩, HBL.out.below (Nat.le_refl _) (by simp), HKL.out⟩
end Go.Proofs.YtelemkiaepemjaaDoor
