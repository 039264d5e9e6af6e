/- The program's parser: counts and numbers of instances. Written by tools/genseq.py. -/
import Derived.Test.YtikofngogkchfaaDoorEx
namespace Go.Proofs.YtikofngogkchfaaDoor
open Go.RowKit
set_option linter.unusedVariables false

/-- A box of the method's own is written. -/
theorem Run.poke {ws0 : List Wd} {v w0 w1 w' : World} {pb wg b : Nat} {ws : List Wd} (h : Run w0 pb wg ws w1) (hp : PS v pb wg ws0) (hv : v.heap.size ≤ w0.heap.size) (hb : w0.heap.size ≤ b) (hq : Chg [b] w1 w') : Run w0 pb wg ws w' := by
  have hsz := h.chg.size
  have far := fun g (hg : g < v.heap.size) => hq.block g (by omega) (by simp; omega)
  have hpl := hp.lt
  have htl := hp.tab.lt
  obtain ⟨off, cap, h1, h2, h3, h4⟩ := h.ps.lies
  exact ⟨⟨h.ps.tab.keep (far _ htl.1) (far _ htl.2), h.ps.far, h.ps.ok, h.ps.len, ⟨off, cap, (far _ hpl.2).trans h1, h2, h3, h4.keep (far _ hpl.1)⟩, h.ps.ne, by have := h.ps.lt; have := hq.size; omega⟩, h.chg.then hq (fun i hi => .inr (by simp at hi; omega))⟩

set_option maxRecDepth 100000 in
set_option maxHeartbeats 2000000 in
theorem ecount_no1 {w : World} {pb wg : Nat} {ws r1 r2 r3 : List Wd} {t : List UInt8} (h : PS w pb wg ws) (h1 : pNeed [40] ws = none) : Calls Tryd.prog 60 #[.pointer (some ⟨pb, 0, none⟩)] w (Aft w pb wg (TreeV w.heap.size) (none)) := by
  have Hh1 := Lib.hid h1
  have HP := Lib.hid h
  have HS0 := Lib.hid (fun o => Run.start h o)
  clear h h1
  go_enter Tryd.func60, Tryd.ntmps60
  go_wp2_with (first
    | (go_at_call 59; refine (need_c (HS0.out _).ps ⟨#[40]⟩ (by simp)).mono ?_; rw [show pNeed (⟨#[40]⟩ : ByteArray).data.toList ws = none from Hh1.out]; rintro e w1 ⟨rfl, hc⟩; have HC := Lib.hid ((Chg.alloc [pb] w _).trans ((HS0.out _).chg.trans hc)); clear hc))
  exact ⟨rfl, rfl, HC.out⟩

set_option maxRecDepth 100000 in
set_option maxHeartbeats 2000000 in
theorem ecount_no2 {w : World} {pb wg : Nat} {ws r1 r2 r3 : List Wd} {t : List UInt8} (h : PS w pb wg ws) (h1 : pNeed [40] ws = some r1) (h2 : pPath r1 = none) : Calls Tryd.prog 60 #[.pointer (some ⟨pb, 0, none⟩)] w (Aft w pb wg (TreeV w.heap.size) (none)) := by
  have Hh1 := Lib.hid h1
  have Hh2 := Lib.hid h2
  have HP := Lib.hid h
  have HS0 := Lib.hid (fun o => Run.start h o)
  clear h h1 h2
  go_enter Tryd.func60, Tryd.ntmps60
  go_wp2_with (first
    | (go_at_call 62; refine (path_c (HS1.out).ps).mono ?_; rw [show pPath r1 = none from Hh2.out]; rintro e w2 ⟨rfl, hc⟩; have HC := Lib.hid ((Chg.alloc [pb] w _).trans ((HS1.out).chg.trans hc)); clear hc)
    | (go_at_call 59; refine (need_c (HS0.out _).ps ⟨#[40]⟩ (by simp)).mono ?_; rw [show pNeed (⟨#[40]⟩ : ByteArray).data.toList ws = some r1 from Hh1.out]; rintro e w1 ⟨v, rfl, rfl, hs, hc⟩; have HS1 := Lib.hid ((HS0.out _).next hs hc); clear HS0; clear hs hc))
  exact ⟨rfl, rfl, HC.out⟩

set_option maxRecDepth 100000 in
set_option maxHeartbeats 2000000 in
theorem ecount_no3 {w : World} {pb wg : Nat} {ws r1 r2 r3 : List Wd} {t : List UInt8} (h : PS w pb wg ws) (h1 : pNeed [40] ws = some r1) (h2 : pPath r1 = some (t, r2)) (h3 : pNeed [41] r2 = none) : Calls Tryd.prog 60 #[.pointer (some ⟨pb, 0, none⟩)] w (Aft w pb wg (TreeV w.heap.size) (none)) := by
  have Hh1 := Lib.hid h1
  have Hh2 := Lib.hid h2
  have Hh3 := Lib.hid h3
  have HP := Lib.hid h
  have HS0 := Lib.hid (fun o => Run.start h o)
  clear h h1 h2 h3
  go_enter Tryd.func60, Tryd.ntmps60
  go_wp2_with (first
    | (go_at_call 59; refine (need_c (HS2.out.box _).ps ⟨#[41]⟩ (by simp)).mono ?_; rw [show pNeed (⟨#[41]⟩ : ByteArray).data.toList r2 = none from Hh3.out]; rintro e w3 ⟨rfl, hc⟩; have HC := Lib.hid ((Chg.alloc [pb] w _).trans ((HS2.out.box _).chg.trans hc)); clear hc)
    | (go_at_call 62; refine (path_c (HS1.out).ps).mono ?_; rw [show pPath r1 = some (t, r2) from Hh2.out]; rintro e w2 ⟨v, rfl, rfl, hs, hc⟩; have HS2 := Lib.hid ((HS1.out).next hs hc); clear HS1; clear hs hc)
    | (go_at_call 59; refine (need_c (HS0.out _).ps ⟨#[40]⟩ (by simp)).mono ?_; rw [show pNeed (⟨#[40]⟩ : ByteArray).data.toList ws = some r1 from Hh1.out]; rintro e w1 ⟨v, rfl, rfl, hs, hc⟩; have HS1 := Lib.hid ((HS0.out _).next hs hc); clear HS0; clear hs hc))
  exact ⟨rfl, rfl, HC.out⟩

set_option maxRecDepth 100000 in
set_option maxHeartbeats 2000000 in
theorem ecount_ok {w : World} {pb wg : Nat} {ws r1 r2 r3 : List Wd} {t : List UInt8} (h : PS w pb wg ws) (h1 : pNeed [40] ws = some r1) (h2 : pPath r1 = some (t, r2)) (h3 : pNeed [41] r2 = some r3) : Calls Tryd.prog 60 #[.pointer (some ⟨pb, 0, none⟩)] w (Aft w pb wg (TreeV w.heap.size) (some (.leaf 3 0 0 false [] t 0, r3))) := by
  have Hh1 := Lib.hid h1
  have Hh2 := Lib.hid h2
  have Hh3 := Lib.hid h3
  have HP := Lib.hid h
  have HS0 := Lib.hid (fun o => Run.start h o)
  clear h h1 h2 h3
  go_enter Tryd.func60, Tryd.ntmps60
  go_wp2_with (first
    | (go_at_call 59; refine (need_c (HS2.out.box _).ps ⟨#[41]⟩ (by simp)).mono ?_; rw [show pNeed (⟨#[41]⟩ : ByteArray).data.toList r2 = some r3 from Hh3.out]; rintro e w3 ⟨v, rfl, rfl, hs, hc⟩; have HS3 := Lib.hid ((HS2.out.box _).next hs hc); obtain ⟨n0, n1, n2, n3, n4, n5, n6, n7, nz⟩ := cellsN (Chg.box hc HS2.out.ps.lt.2); obtain ⟨z0, z1, z2, z3, z4, z5, z6, z7, zz⟩ := cellsN (HS3.out.first HP.out.lt.2); clear nz; clear hs hc)
    | (go_at_call 62; refine (path_c (HS1.out).ps).mono ?_; rw [show pPath r1 = some (t, r2) from Hh2.out]; rintro e w2 ⟨v, rfl, rfl, hs, hc⟩; have HS2 := Lib.hid ((HS1.out).next hs hc); clear HS1; clear hs hc)
    | (go_at_call 59; refine (need_c (HS0.out _).ps ⟨#[40]⟩ (by simp)).mono ?_; rw [show pNeed (⟨#[40]⟩ : ByteArray).data.toList ws = some r1 from Hh1.out]; rintro e w1 ⟨v, rfl, rfl, hs, hc⟩; have HS1 := Lib.hid ((HS0.out _).next hs hc); clear HS0; clear hs hc))
  refine bodyPost_ret (results_cell_row Tryd.results60 _ _ w.heap.size 26 _ (0, 0) _ rfl (putN_at (HS3.out.first HP.out.lt.2) _ _ _ _ _ _ _ _) Tryd.underlying26 rfl infoN8) rfl ?_
  exact ⟨_, rfl, ⟨.slice none 0 0, rfl, rfl⟩, HS3.out.put' HP.out (putN_chg _ _ _ _ _ _ _ _ _ _)⟩

theorem ecount_c {w : World} {pb wg : Nat} {ws : List Wd} (h : PS w pb wg ws) : Calls Tryd.prog 60 #[.pointer (some ⟨pb, 0, none⟩)] w (Aft w pb wg (TreeV w.heap.size) (pCount ws)) := by
  cases h1 : pNeed [40] ws with
  | none =>
    rw [show pCount ws = none from by unfold pCount; rw [h1]]
    exact ecount_no1 (r1 := []) (r2 := []) (r3 := []) (t := []) h h1
  | some r1 =>
    cases h2 : pPath r1 with
    | none =>
      rw [show pCount ws = none from by unfold pCount; rw [h1]; simp only; rw [h2]]
      exact ecount_no2 (r2 := []) (r3 := []) (t := []) h h1 h2
    | some q2 =>
      obtain ⟨t, r2⟩ := q2
      cases h3 : pNeed [41] r2 with
      | none =>
        rw [show pCount ws = none from by unfold pCount; rw [h1]; simp only; rw [h2]; simp only; rw [h3]]
        exact ecount_no3 (r3 := []) h h1 h2 h3
      | some r3 =>
        rw [show pCount ws = some (.leaf 3 0 0 false [] t 0, r3) from by unfold pCount; rw [h1]; simp only; rw [h2]; simp only; rw [h3]]
        exact ecount_ok h h1 h2 h3

set_option maxRecDepth 100000 in
set_option maxHeartbeats 2000000 in
theorem enumber_no1 {w : World} {pb wg : Nat} {ws r1 r2 r3 r4 r5 : List Wd} {t : List UInt8} {n : Nat} (h : PS w pb wg ws) (h1 : pNeed [40] ws = none) : Calls Tryd.prog 61 #[.pointer (some ⟨pb, 0, none⟩)] w (Aft w pb wg (TreeV w.heap.size) (none)) := by
  have Hh1 := Lib.hid h1
  have HP := Lib.hid h
  have HS0 := Lib.hid (fun o => Run.start h o)
  clear h h1
  go_enter Tryd.func61, Tryd.ntmps61
  go_wp2_with (first
    | (go_at_call 59; refine (need_c (HS0.out _).ps ⟨#[40]⟩ (by simp)).mono ?_; rw [show pNeed (⟨#[40]⟩ : ByteArray).data.toList ws = none from Hh1.out]; rintro e w1 ⟨rfl, hc⟩; have HC := Lib.hid ((Chg.alloc [pb] w _).trans ((HS0.out _).chg.trans hc)); clear hc))
  exact ⟨rfl, rfl, HC.out⟩

set_option maxRecDepth 100000 in
set_option maxHeartbeats 2000000 in
theorem enumber_no2 {w : World} {pb wg : Nat} {ws r1 r2 r3 r4 r5 : List Wd} {t : List UInt8} {n : Nat} (h : PS w pb wg ws) (h1 : pNeed [40] ws = some r1) (h2 : pName r1 = none) : Calls Tryd.prog 61 #[.pointer (some ⟨pb, 0, none⟩)] w (Aft w pb wg (TreeV w.heap.size) (none)) := by
  have Hh1 := Lib.hid h1
  have Hh2 := Lib.hid h2
  have HP := Lib.hid h
  have HS0 := Lib.hid (fun o => Run.start h o)
  clear h h1 h2
  go_enter Tryd.func61, Tryd.ntmps61
  go_wp2_with (first
    | (go_at_call 77; refine (ename_c (HS1.out).ps).mono ?_; rw [show pName r1 = none from Hh2.out]; rintro e w2 ⟨rfl, hc⟩; have HC := Lib.hid ((Chg.alloc [pb] w _).trans ((HS1.out).chg.trans hc)); clear hc)
    | (go_at_call 59; refine (need_c (HS0.out _).ps ⟨#[40]⟩ (by simp)).mono ?_; rw [show pNeed (⟨#[40]⟩ : ByteArray).data.toList ws = some r1 from Hh1.out]; rintro e w1 ⟨v, rfl, rfl, hs, hc⟩; have HS1 := Lib.hid ((HS0.out _).next hs hc); clear HS0; clear hs hc))
  exact ⟨rfl, rfl, HC.out⟩

set_option maxRecDepth 100000 in
set_option maxHeartbeats 2000000 in
theorem enumber_no3 {w : World} {pb wg : Nat} {ws r1 r2 r3 r4 r5 : List Wd} {t : List UInt8} {n : Nat} (h : PS w pb wg ws) (h1 : pNeed [40] ws = some r1) (h2 : pName r1 = some (t, r2)) (h3 : pNeed [44] r2 = none) : Calls Tryd.prog 61 #[.pointer (some ⟨pb, 0, none⟩)] w (Aft w pb wg (TreeV w.heap.size) (none)) := by
  have Hh1 := Lib.hid h1
  have Hh2 := Lib.hid h2
  have Hh3 := Lib.hid h3
  have HP := Lib.hid h
  have HS0 := Lib.hid (fun o => Run.start h o)
  clear h h1 h2 h3
  go_enter Tryd.func61, Tryd.ntmps61
  go_wp2_with (first
    | (go_at_call 59; refine (need_c (HS2.out.box _).ps ⟨#[44]⟩ (by simp)).mono ?_; rw [show pNeed (⟨#[44]⟩ : ByteArray).data.toList r2 = none from Hh3.out]; rintro e w3 ⟨rfl, hc⟩; have HC := Lib.hid ((Chg.alloc [pb] w _).trans ((HS2.out.box _).chg.trans hc)); clear hc)
    | (go_at_call 77; refine (ename_c (HS1.out).ps).mono ?_; rw [show pName r1 = some (t, r2) from Hh2.out]; rintro e w2 ⟨v, rfl, rfl, hs, hc⟩; have HS2 := Lib.hid ((HS1.out).next hs hc); clear HS1; clear hs hc)
    | (go_at_call 59; refine (need_c (HS0.out _).ps ⟨#[40]⟩ (by simp)).mono ?_; rw [show pNeed (⟨#[40]⟩ : ByteArray).data.toList ws = some r1 from Hh1.out]; rintro e w1 ⟨v, rfl, rfl, hs, hc⟩; have HS1 := Lib.hid ((HS0.out _).next hs hc); clear HS0; clear hs hc))
  exact ⟨rfl, rfl, HC.out⟩

set_option maxRecDepth 100000 in
set_option maxHeartbeats 2000000 in
theorem enumber_no4 {w : World} {pb wg : Nat} {ws r1 r2 r3 r4 r5 : List Wd} {t : List UInt8} {n : Nat} (h : PS w pb wg ws) (h1 : pNeed [40] ws = some r1) (h2 : pName r1 = some (t, r2)) (h3 : pNeed [44] r2 = some r3) (h4 : pState r3 = none) : Calls Tryd.prog 61 #[.pointer (some ⟨pb, 0, none⟩)] w (Aft w pb wg (TreeV w.heap.size) (none)) := by
  have Hh1 := Lib.hid h1
  have Hh2 := Lib.hid h2
  have Hh3 := Lib.hid h3
  have Hh4 := Lib.hid h4
  have HP := Lib.hid h
  have HS0 := Lib.hid (fun o => Run.start h o)
  clear h h1 h2 h3 h4
  go_enter Tryd.func61, Tryd.ntmps61
  go_wp2_with (first
    | (go_at_call 78; refine (state_c (HS3.out).ps).mono ?_; rw [show pState r3 = none from Hh4.out]; rintro e w4 ⟨rfl, hc⟩; have HC := Lib.hid ((Chg.alloc [pb] w _).trans ((HS3.out).chg.trans hc)); clear hc)
    | (go_at_call 59; refine (need_c (HS2.out.box _).ps ⟨#[44]⟩ (by simp)).mono ?_; rw [show pNeed (⟨#[44]⟩ : ByteArray).data.toList r2 = some r3 from Hh3.out]; rintro e w3 ⟨v, rfl, rfl, hs, hc⟩; have HS3 := Lib.hid ((HS2.out.box _).next hs hc); have HN3 := Lib.hid (Chg.box hc HS2.out.ps.lt.2); have HLT := Lib.hid HS3.out.ps.lt.2; clear hs hc)
    | (go_at_call 77; refine (ename_c (HS1.out).ps).mono ?_; rw [show pName r1 = some (t, r2) from Hh2.out]; rintro e w2 ⟨v, rfl, rfl, hs, hc⟩; have HS2 := Lib.hid ((HS1.out).next hs hc); clear HS1; clear hs hc)
    | (go_at_call 59; refine (need_c (HS0.out _).ps ⟨#[40]⟩ (by simp)).mono ?_; rw [show pNeed (⟨#[40]⟩ : ByteArray).data.toList ws = some r1 from Hh1.out]; rintro e w1 ⟨v, rfl, rfl, hs, hc⟩; have HS1 := Lib.hid ((HS0.out _).next hs hc); clear HS0; clear hs hc))
  exact ⟨rfl, rfl, HC.out⟩

set_option maxRecDepth 100000 in
set_option maxHeartbeats 2000000 in
theorem enumber_no5 {w : World} {pb wg : Nat} {ws r1 r2 r3 r4 r5 : List Wd} {t : List UInt8} {n : Nat} (h : PS w pb wg ws) (h1 : pNeed [40] ws = some r1) (h2 : pName r1 = some (t, r2)) (h3 : pNeed [44] r2 = some r3) (h4 : pState r3 = some (n, r4)) (h5 : pNeed [41] r4 = none) : Calls Tryd.prog 61 #[.pointer (some ⟨pb, 0, none⟩)] w (Aft w pb wg (TreeV w.heap.size) (none)) := by
  have Hh1 := Lib.hid h1
  have Hh2 := Lib.hid h2
  have Hh3 := Lib.hid h3
  have Hh4 := Lib.hid h4
  have Hh5 := Lib.hid h5
  have HP := Lib.hid h
  have HS0 := Lib.hid (fun o => Run.start h o)
  clear h h1 h2 h3 h4 h5
  go_enter Tryd.func61, Tryd.ntmps61
  go_wp2_with (first
    | (go_at_call 59; refine (need_c (HSP.out _).ps ⟨#[41]⟩ (by simp)).mono ?_; rw [show pNeed (⟨#[41]⟩ : ByteArray).data.toList r4 = none from Hh5.out]; rintro e w5 ⟨rfl, hc⟩; have HC := Lib.hid ((Chg.alloc [pb] w _).trans ((HSP.out _).chg.trans hc)); clear hc)
    | (go_at_call 78; refine (state_c (HS3.out).ps).mono ?_; rw [show pState r3 = some (n, r4) from Hh4.out]; rintro e w4 ⟨v, rfl, rfl, hs, hc⟩; have HS4 := Lib.hid ((HS3.out).next hs hc); have HN4 := Lib.hid ((hc.block w2.heap.size (Array.getElem?_eq_some_iff.1 HN3.out).1 (by have := HS2.out.ps.lt.2; simp; omega)).trans HN3.out); obtain ⟨n0, n1, n2, n3, n4, n5, n6, n7, nz⟩ := cellsN HN4.out; have HSP := Lib.hid (fun (u : Value) => HS4.out.poke (w' := w4.setCell ⟨w2.heap.size, 6, none⟩ u) (b := w2.heap.size) HP.out (by simp) HS2.out.chg.size ((Chg.refl [w2.heap.size] w4).set' _ _ _ (.inl (by simp)))); have HNP := Lib.hid (fun (u : Value) => block_set w4 w2.heap.size 6 _ _ _ u HN4.out); have HLT4 := Lib.hid (show w2.heap.size < w4.heap.size from (Array.getElem?_eq_some_iff.1 HN4.out).1); have HNE := Lib.hid (show w2.heap.size ≠ pb from by have := HS2.out.ps.lt.2; omega); clear hs hc)
    | (go_at_call 59; refine (need_c (HS2.out.box _).ps ⟨#[44]⟩ (by simp)).mono ?_; rw [show pNeed (⟨#[44]⟩ : ByteArray).data.toList r2 = some r3 from Hh3.out]; rintro e w3 ⟨v, rfl, rfl, hs, hc⟩; have HS3 := Lib.hid ((HS2.out.box _).next hs hc); have HN3 := Lib.hid (Chg.box hc HS2.out.ps.lt.2); have HLT := Lib.hid HS3.out.ps.lt.2; clear hs hc)
    | (go_at_call 77; refine (ename_c (HS1.out).ps).mono ?_; rw [show pName r1 = some (t, r2) from Hh2.out]; rintro e w2 ⟨v, rfl, rfl, hs, hc⟩; have HS2 := Lib.hid ((HS1.out).next hs hc); clear HS1; clear hs hc)
    | (go_at_call 59; refine (need_c (HS0.out _).ps ⟨#[40]⟩ (by simp)).mono ?_; rw [show pNeed (⟨#[40]⟩ : ByteArray).data.toList ws = some r1 from Hh1.out]; rintro e w1 ⟨v, rfl, rfl, hs, hc⟩; have HS1 := Lib.hid ((HS0.out _).next hs hc); clear HS0; clear hs hc))
  exact ⟨rfl, rfl, HC.out⟩

set_option maxRecDepth 100000 in
set_option maxHeartbeats 2000000 in
theorem enumber_ok {w : World} {pb wg : Nat} {ws r1 r2 r3 r4 r5 : List Wd} {t : List UInt8} {n : Nat} (h : PS w pb wg ws) (h1 : pNeed [40] ws = some r1) (h2 : pName r1 = some (t, r2)) (h3 : pNeed [44] r2 = some r3) (h4 : pState r3 = some (n, r4)) (h5 : pNeed [41] r4 = some r5) : Calls Tryd.prog 61 #[.pointer (some ⟨pb, 0, none⟩)] w (Aft w pb wg (TreeV w.heap.size) (some (.leaf 4 0 0 false [] t n, r5))) := by
  have Hh1 := Lib.hid h1
  have Hh2 := Lib.hid h2
  have Hh3 := Lib.hid h3
  have Hh4 := Lib.hid h4
  have Hh5 := Lib.hid h5
  have HP := Lib.hid h
  have HS0 := Lib.hid (fun o => Run.start h o)
  clear h h1 h2 h3 h4 h5
  go_enter Tryd.func61, Tryd.ntmps61
  go_wp2_with (first
    | (go_at_call 59; refine (need_c (HSP.out _).ps ⟨#[41]⟩ (by simp)).mono ?_; rw [show pNeed (⟨#[41]⟩ : ByteArray).data.toList r4 = some r5 from Hh5.out]; rintro e w5 ⟨v, rfl, rfl, hs, hc⟩; have HS5 := Lib.hid ((HSP.out _).next hs hc); obtain ⟨m0, m1, m2, m3, m4, m5, m6, m7, mz⟩ := cellsN ((hc.block w2.heap.size (by rw [World.size_setCell]; exact HLT4.out) (by simp; exact HNE.out)).trans (HNP.out _)); obtain ⟨z0, z1, z2, z3, z4, z5, z6, z7, zz⟩ := cellsN (HS5.out.first HP.out.lt.2); clear n0 n1 n2 n3 n4 n5 n6 n7 nz mz; clear hs hc)
    | (go_at_call 78; refine (state_c (HS3.out).ps).mono ?_; rw [show pState r3 = some (n, r4) from Hh4.out]; rintro e w4 ⟨v, rfl, rfl, hs, hc⟩; have HS4 := Lib.hid ((HS3.out).next hs hc); have HN4 := Lib.hid ((hc.block w2.heap.size (Array.getElem?_eq_some_iff.1 HN3.out).1 (by have := HS2.out.ps.lt.2; simp; omega)).trans HN3.out); obtain ⟨n0, n1, n2, n3, n4, n5, n6, n7, nz⟩ := cellsN HN4.out; have HSP := Lib.hid (fun (u : Value) => HS4.out.poke (w' := w4.setCell ⟨w2.heap.size, 6, none⟩ u) (b := w2.heap.size) HP.out (by simp) HS2.out.chg.size ((Chg.refl [w2.heap.size] w4).set' _ _ _ (.inl (by simp)))); have HNP := Lib.hid (fun (u : Value) => block_set w4 w2.heap.size 6 _ _ _ u HN4.out); have HLT4 := Lib.hid (show w2.heap.size < w4.heap.size from (Array.getElem?_eq_some_iff.1 HN4.out).1); have HNE := Lib.hid (show w2.heap.size ≠ pb from by have := HS2.out.ps.lt.2; omega); clear hs hc)
    | (go_at_call 59; refine (need_c (HS2.out.box _).ps ⟨#[44]⟩ (by simp)).mono ?_; rw [show pNeed (⟨#[44]⟩ : ByteArray).data.toList r2 = some r3 from Hh3.out]; rintro e w3 ⟨v, rfl, rfl, hs, hc⟩; have HS3 := Lib.hid ((HS2.out.box _).next hs hc); have HN3 := Lib.hid (Chg.box hc HS2.out.ps.lt.2); have HLT := Lib.hid HS3.out.ps.lt.2; clear hs hc)
    | (go_at_call 77; refine (ename_c (HS1.out).ps).mono ?_; rw [show pName r1 = some (t, r2) from Hh2.out]; rintro e w2 ⟨v, rfl, rfl, hs, hc⟩; have HS2 := Lib.hid ((HS1.out).next hs hc); clear HS1; clear hs hc)
    | (go_at_call 59; refine (need_c (HS0.out _).ps ⟨#[40]⟩ (by simp)).mono ?_; rw [show pNeed (⟨#[40]⟩ : ByteArray).data.toList ws = some r1 from Hh1.out]; rintro e w1 ⟨v, rfl, rfl, hs, hc⟩; have HS1 := Lib.hid ((HS0.out _).next hs hc); clear HS0; clear hs hc))
  refine bodyPost_ret (results_cell_row Tryd.results61 _ _ w.heap.size 26 _ (0, 0) _ rfl (putN_at (HS5.out.first HP.out.lt.2) _ _ _ _ _ _ _ _) Tryd.underlying26 rfl infoN8) rfl ?_
  exact ⟨_, rfl, ⟨.slice none 0 0, rfl, rfl⟩, HS5.out.put' HP.out (putN_chg _ _ _ _ _ _ _ _ _ _)⟩

theorem enumber_c {w : World} {pb wg : Nat} {ws : List Wd} (h : PS w pb wg ws) : Calls Tryd.prog 61 #[.pointer (some ⟨pb, 0, none⟩)] w (Aft w pb wg (TreeV w.heap.size) (pNumber ws)) := by
  cases h1 : pNeed [40] ws with
  | none =>
    rw [show pNumber ws = none from by unfold pNumber; rw [h1]]
    exact enumber_no1 (r1 := []) (r2 := []) (r3 := []) (r4 := []) (r5 := []) (t := []) (n := 0) h h1
  | some r1 =>
    cases h2 : pName r1 with
    | none =>
      rw [show pNumber ws = none from by unfold pNumber; rw [h1]; simp only; rw [h2]]
      exact enumber_no2 (r2 := []) (r3 := []) (r4 := []) (r5 := []) (t := []) (n := 0) h h1 h2
    | some q2 =>
      obtain ⟨t, r2⟩ := q2
      cases h3 : pNeed [44] r2 with
      | none =>
        rw [show pNumber ws = none from by unfold pNumber; rw [h1]; simp only; rw [h2]; simp only; rw [h3]]
        exact enumber_no3 (r3 := []) (r4 := []) (r5 := []) (n := 0) h h1 h2 h3
      | some r3 =>
        cases h4 : pState r3 with
        | none =>
          rw [show pNumber ws = none from by unfold pNumber; rw [h1]; simp only; rw [h2]; simp only; rw [h3]; simp only; rw [h4]]
          exact enumber_no4 (r4 := []) (r5 := []) (n := 0) h h1 h2 h3 h4
        | some q4 =>
          obtain ⟨n, r4⟩ := q4
          cases h5 : pNeed [41] r4 with
          | none =>
            rw [show pNumber ws = none from by unfold pNumber; rw [h1]; simp only; rw [h2]; simp only; rw [h3]; simp only; rw [h4]; simp only; rw [h5]]
            exact enumber_no5 (r5 := []) h h1 h2 h3 h4 h5
          | some r5 =>
            rw [show pNumber ws = some (.leaf 4 0 0 false [] t n, r5) from by unfold pNumber; rw [h1]; simp only; rw [h2]; simp only; rw [h3]; simp only; rw [h4]; simp only; rw [h5]]
            exact enumber_ok h h1 h2 h3 h4 h5

end Go.Proofs.YtikofngogkchfaaDoor
