/- xmltree: a document that is one element with one text. -/
import Derived.Test.YtpcajjbdlfookaaGreatDoorMw45
import Derived.Test.YtpcajjbdlfookaaGreatDoorMw07
import Derived.Test.YtpcajjbdlfookaaGreatDoorMw23
import Derived.Test.YtpcajjbdlfookaaGreatDoorMw08
import Derived.Test.YtpcajjbdlfookaaGreatDoorMw43
import Derived.Deep.RegionHeld3
import Derived.Test.YtpcajjbdlfookaaGreatDoorMw26
namespace Go.Proofs.YtpcajjbdlfookaaGreatDoor
open Go Go.RowKit Go.Deep Go.Shelf
set_option linter.unusedVariables false
set_option linter.unusedSimpArgs false

set_option maxRecDepth 100000 in
set_option maxHeartbeats 8000000 in
theorem document0_c {w0 w : World} (hw0 : BW w0) {pb : Nat} {p : Option Addr} {n c : Nat} {xs nm tx : List UInt8} {a k0 q0 r0 k1 q1 r1 k2 q2 r2 k3 q3 r3 : Nat} (hr : Rd w0 (.slice p n c) xs) (hl : xs.length ≤ 1048576) (h : PS w0 pb (.slice p n c) (.slice none 0 0) a w)
    (hs0 : skA insP xs a = (q0, r0)) (hn0 : nxt insP opnP cloP xs q0 = (⟨1, nm, [], false, []⟩, k0, 0))
    (hs1 : skA insP xs k0 = (q1, r1)) (hn1 : nxt insP opnP cloP xs q1 = (⟨3, [], [], false, tx⟩, k1, 0)) (hs2 : skA insP xs k1 = (q2, r2)) (hn2 : nxt insP opnP cloP xs q2 = (⟨2, nm, [], false, []⟩, k2, 0))
    (hs3 : skA insP xs k2 = (q3, r3)) (hn3 : nxt insP opnP cloP xs q3 = (⟨0, [], [], false, []⟩, k3, 0)) (htx : tx.length ≤ 33554432)
    (hnm : (58 : UInt8) ∉ nm) (hnl : nm.length ≤ 1048576) :
    Calls Tryz.prog 18 #[.pointer (some ⟨pb, 0, none⟩)] w (ElE w0 w pb (.slice p n c) (.slice none 0 0) k3 nm tx) := by
  obtain ⟨W0, hW0⟩ : ∃ W0, W0 = (w.alloc ZE).alloc ZE := ⟨_, rfl⟩
  have hb2 : Below w.heap.size w W0 := hW0 ▸ ((box_belT w _).trans ((box_belT _ _).mono (by simp)))
  have hsz0 : W0.heap.size = w.heap.size + 2 := by rw [hW0]; simp
  have ha0 : W0.heap[w.heap.size]? = some ZE := hW0 ▸ ((box_belT _ _).block _ (by simp)).trans (heap_alloc_new w _)
  have hz0 : W0.heap[w.heap.size + 1]? = some ZE := by
    have := heap_alloc_new (w.alloc ZE) ZE
    rw [World.size_alloc] at this
    rw [hW0]
    exact this
  have hp0 := h.below hb2
  have HN0 := Lib.hid (pnext_c hw0 hr hl hp0 hs0 hn0)
  have HN3 := Lib.hid (fun (W : World) (hW : PS w0 pb (.slice p n c) (.slice none 0 0) k2 W) => pnext_c hw0 hr hl hW hs3 hn3)
  have HEL := Lib.hid (fun (W : World) (s f0 : Value) (hW : PS w0 pb (.slice p n c) (.slice none 0 0) k0 W) (hs : AtsIs W s []) => element0_c hw0 hr hl hW hs1 hn1 hs2 hn2 htx hnm hnl (.int .i64 (1 : Nat)) s (.string ⟨#[]⟩) f0 hs)
  obtain ⟨S, hS⟩ : ∃ S : ByteArray, S = ⟨nm.toArray⟩ := ⟨_, rfl⟩
  obtain ⟨U, hU⟩ : ∃ U : ByteArray, U = ⟨tx.toArray⟩ := ⟨_, rfl⟩
  unfold ElE at HEL ⊢
  rw [← hS, ← hU] at HEL ⊢
  have hpl := h.lt
  have HS := Lib.hid hS
  have HB2 := Lib.hid hb2
  have HA0 := Lib.hid ha0
  have HZ0 := Lib.hid hz0
  have HW0 := Lib.hid hW0
  have HLOW := Lib.hid h.low
  clear hb2 hW0 hw0 hr hl h hs1 hn1 hs2 hn2 hs0 hn0 hs3 hn3 hS hU hp0 ha0 hz0
  go_enter Tryz.func18, Tryz.ntmps18
  go_wp2_with fail
  refine wp_loop_rounds 2 ?_
  rw [rounds_succ]
  go_wp2_with fail
  rw [← HW0.out]
  refine HN0.out.mono ?_
  rintro e w1 ⟨s1, rfl, hat1, hps1, hc1⟩
  obtain ⟨ps1, cs1, hsv1, -⟩ := hat1.form
  subst hsv1
  dsimp only
  rw [← HS.out]
  have hsz1 := hc1.size
  have hbx := box_belT w1 (.cells #[.int .i64 (1 : Nat), .string S, .slice ps1 0 cs1, .bool false, .string ⟨#[]⟩, .int .i64 q0] 69)
  have HE1 := Lib.hid (HEL.out _ (.slice ps1 0 cs1) (.int .i64 q0) (hps1.below hbx) (hat1.below hbx))
  have hz1 := (hbx.block (w.heap.size + 1) (by omega)).trans ((hc1.block (w.heap.size + 1) (by omega) (by simp; omega)).trans HZ0.out)
  have ha1 := (hbx.block w.heap.size (by omega)).trans ((hc1.block w.heap.size (by omega) (by simp; omega)).trans HA0.out)
  have HZ1 := Lib.hid hz1
  have HA1 := Lib.hid ha1
  have HCW1 := Lib.hid ((((Chg.of_below (S := [pb]) HB2.out).then hc1 (fun i hi => .inl hi))).alloc' (.cells #[.int .i64 (1 : Nat), .string S, .slice ps1 0 cs1, .bool false, .string ⟨#[]⟩, .int .i64 q0] 69))
  obtain ⟨g0, g1, g2, g3, g4, g5, gz⟩ := cellsE6 (heap_alloc_new w1 (.cells #[.int .i64 (1 : Nat), .string S, .slice ps1 0 cs1, .bool false, .string ⟨#[]⟩, .int .i64 q0] 69))
  clear hat1 hps1 hc1 hbx hz1 ha1
  go_wp2_with fail
  refine HE1.out.mono ?_
  rintro e w2 ⟨rfl, hps2, hc2⟩
  have hsz2 := hc2.size
  have hsz2' : w1.heap.size + 1 ≤ w2.heap.size := by simpa using hsz2
  have hz2 := (hc2.block (w.heap.size + 1) (by simp; omega) (by simp; omega)).trans HZ1.out
  have ha2 := (hc2.block w.heap.size (by simp; omega) (by simp; omega)).trans HA1.out
  obtain ⟨z0, z1, z2, z3, z4, zz⟩ := cellsE5 hz2
  have hc5 := put5_chg w2 (w.heap.size + 1) (.string ⟨#[]⟩) (.string S) (.slice none 0 0) (.slice none 0 0) (.string U)
  have ha3 := (hc5.block w.heap.size (by omega) (by simp)).trans ha2
  have HA3 := Lib.hid ha3
  have HR3 := Lib.hid (put5_at hz2 (.string ⟨#[]⟩) (.string S) (.slice none 0 0) (.slice none 0 0) (.string U))
  have HPS3 := Lib.hid (hps2.chgT (b := w.heap.size + 1) hc5 (by omega) (by have := HLOW.out; omega))
  have HN4 := Lib.hid (HN3.out _ HPS3.out)
  have HCW3 := Lib.hid ((HCW1.out.then hc2 (fun i hi => .inl hi)).then hc5 (fun i hi => by simp at hi; subst hi; exact .inr (by omega)))
  clear g0 g1 g2 g3 g4 g5 gz hps2 hc2 hz2 ha2 hc5 ha3
  go_wp2_with fail
  rw [rounds_succ]
  go_wp2_with fail
  refine HN4.out.mono ?_
  rintro e w4 ⟨s4, rfl, hat4, hps4, hc4⟩
  obtain ⟨ps4, cs4, hsv4, -⟩ := hat4.form
  subst hsv4
  dsimp only
  have hsz4 := hc4.size
  have hsz4' : w2.heap.size ≤ w4.heap.size := by simpa [World.setCell] using hsz4
  have hr4 := (hc4.block (w.heap.size + 1) (by simp [World.setCell]; omega) (by simp; omega)).trans HR3.out
  have ha4 := (hc4.block w.heap.size (by simp [World.setCell]; omega) (by simp; omega)).trans HA3.out
  have hpl4 := hps4.lt
  obtain ⟨r0, r1, r2, r3, r4, rz⟩ := cellsE5 hr4
  obtain ⟨e0, e1, e2, e3, e4, ez⟩ := cellsE5 ha4
  obtain ⟨g0, g1, g2, g3, g4, g5, gz⟩ := cellsE6 (heap_alloc_new w4 (.cells #[.int .i64 (0 : Nat), .string ⟨#[]⟩, .slice ps4 0 cs4, .bool false, .string ⟨#[]⟩, .int .i64 q3] 69))
  have hc5 := put5_chg w4 w.heap.size (.string ⟨#[]⟩) (.string S) (.slice none 0 0) (.slice none 0 0) (.string U)
  have hA5 := put5_at ha4 (.string ⟨#[]⟩) (.string S) (.slice none 0 0) (.slice none 0 0) (.string U)
  have hbz := box_belT (put5 w4 w.heap.size (.string ⟨#[]⟩) (.string S) (.slice none 0 0) (.slice none 0 0) (.string U)) (.cells #[.int .i64 (0 : Nat), .string ⟨#[]⟩, .slice ps4 0 cs4, .bool false, .string ⟨#[]⟩, .int .i64 q3] 69)
  have HA5 := Lib.hid ((hbz.block w.heap.size (Array.getElem?_eq_some_iff.1 hA5).1).trans hA5)
  have HFIN := Lib.hid (And.intro ((hps4.chgT (b := w.heap.size) hc5 (by omega) (by have := HLOW.out; omega)).below hbz) (((HCW3.out.then hc4 (fun i hi => .inl hi)).then hc5 (fun i hi => by simp at hi; subst hi; exact .inr (Nat.le_refl _))).alloc' (.cells #[.int .i64 (0 : Nat), .string ⟨#[]⟩, .slice ps4 0 cs4, .bool false, .string ⟨#[]⟩, .int .i64 q3] 69)))
  have hal4 : w.heap.size < w4.heap.size := by omega
  have hal5 : w.heap.size + 1 < w4.heap.size := by omega
  clear hsz0 hsz1 hsz2 hsz2' hsz4 hsz4' hpl hpl4
  clear hat4 hps4 hc4 hr4 ha4 hc5 hA5 hbz z0 z1 z2 z3 z4 zz
  go_wp2_with fail
  refine bodyPost_ret (results_cell_row Tryz.results18 _ _ w.heap.size 27 _ (0, 0) _ rfl HA5.out Tryz.underlying27 rfl infoE5) rfl ?_
  exact ⟨rfl, HFIN.out.1, HFIN.out.2⟩
end Go.Proofs.YtpcajjbdlfookaaGreatDoor

/- xmltree: Parse of a document that is one element with one text. -/
namespace Go.Proofs.YtpcajjbdlfookaaGreatDoor
open Go Go.RowKit Go.Deep Go.Shelf
set_option linter.unusedVariables false
set_option linter.unusedSimpArgs false

set_option maxHeartbeats 2000000 in
theorem pidle_c (b c : Nat) (w : World) :
    CallsD Tryz.prog 17 #[.pointer (some ⟨b, 0, none⟩), .pointer (some ⟨c, 0, none⟩)] .returning w fun e u' w' => e = .returned (.tuple #[]) ∧ u' = .returning ∧ w' = w := by
  refine callsD_of_wpS Tryz.func17 rfl fun c₀ cs hu => ?_
  apply wpS_seq
  apply wpS_region
  simp [wpOpsS, go_sem, recoverD, hu, Tryz.ntmps17, Exit.thenS]
  refine wpS_of_wp ?_
  have hT : #[Value.pointer (some ⟨b, 0, none⟩), Value.pointer (some ⟨c, 0, none⟩)] ++ (Array.replicate 13 undef).setIfInBounds 3 Value.nilIface = #[Value.pointer (some ⟨b, 0, none⟩), Value.pointer (some ⟨c, 0, none⟩), undef, undef, undef, Value.nilIface, undef, undef, undef, undef, undef, undef, undef, undef, undef] := rfl
  rw [hT]
  clear hT
  have hin := nil_nil
  go_wp2_with fail
  cases c₀
  simp_all [bodyPostS, results, Tryz.results17, go_sem]
theorem results_parse (tm : Array Value) (V : World) (b : Nat) (c0 c1 c2 c3 c4 k z : Value) (h2 : tm.getD 2 undef = .pointer (some ⟨b, 0, none⟩)) (h3 : tm.getD 3 undef = .pointer (some ⟨b + 1, 0, none⟩)) (h4 : tm.getD 4 undef = .pointer (some ⟨b + 1 + 1, 0, none⟩)) (h : V.heap[b]? = some (.cells #[c0, c1, c2, c3, c4] 27 (0, 0)))
    (hk : V.heap[b + 1]? = some (.cells #[k] 3 (0, 0))) (hz : V.heap[b + 1 + 1]? = some (.cells #[z] 28 (0, 0))) :
    (results Tryz.f6 tm).run Tryz.prog V = .ok (.tuple #[.agg #[c0, c1, c2, c3, c4], k, z]) V := by
  obtain ⟨e0, e1, e2, e3, e4, _⟩ := cellsE5 h
  obtain ⟨f0, _⟩ := cells1 hk
  obtain ⟨g0, _⟩ := cells1 hz
  have h2' : tm[2]?.getD undef = .pointer (some ⟨b, 0, none⟩) := by simpa using h2
  have h3' : tm[3]?.getD undef = .pointer (some ⟨b + 1, 0, none⟩) := by simpa using h3
  have h4' : tm[4]?.getD undef = .pointer (some ⟨b + 1 + 1, 0, none⟩) := by simpa using h4
  simp [results, Tryz.results6, go_sem, h2', h3', h4', e0, e1, e2, e3, e4, f0, g0]
set_option maxRecDepth 100000 in
set_option maxHeartbeats 8000000 in
theorem parse0_c {w : World} (hw : BW w) {p : Option Addr} {n c : Nat} {xs nm tx : List UInt8} {k0 q0 r0 k1 q1 r1 k2 q2 r2 k3 q3 r3 : Nat} (hr : Rd w (.slice p n c) xs) (hn : n = xs.length) (hl : xs.length ≤ 65536) (hwr : wrong (xs.length + 1) xs 0 = -1)
    (hs0 : skA insP xs (0 : Nat) = (q0, r0)) (hn0 : nxt insP opnP cloP xs q0 = (⟨1, nm, [], false, []⟩, k0, 0))
    (hs1 : skA insP xs k0 = (q1, r1)) (hn1 : nxt insP opnP cloP xs q1 = (⟨3, [], [], false, tx⟩, k1, 0)) (hs2 : skA insP xs k1 = (q2, r2)) (hn2 : nxt insP opnP cloP xs q2 = (⟨2, nm, [], false, []⟩, k2, 0))
    (hs3 : skA insP xs k2 = (q3, r3)) (hn3 : nxt insP opnP cloP xs q3 = (⟨0, [], [], false, []⟩, k3, 0)) (htx : tx.length ≤ 33554432)
    (hnm : (58 : UInt8) ∉ nm) (hnl : nm.length ≤ 1048576) :
    Calls Tryz.prog 6 #[.slice p n c] w fun e w' => e = .returned (.tuple #[.agg #[.string ⟨#[]⟩, .string ⟨nm.toArray⟩, .slice none 0 0, .slice none 0 0, .string ⟨tx.toArray⟩], .int .i64 0, .int .i64 0]) ∧ Below w.heap.size w w' := by
  have hnb : n ≤ 65536 := by omega
  obtain ⟨W0, hW0⟩ : ∃ W0, W0 = ((w.alloc ZE).alloc (.cells #[.int .i64 0] 3)).alloc (.cells #[.int .i64 0] 28) := ⟨_, rfl⟩
  have hb2 : Below w.heap.size w W0 := hW0 ▸ (((box_belT w _).trans ((box_belT _ _).mono (by simp))).trans ((box_belT _ _).mono (by simp; omega)))
  have hsz0 : W0.heap.size = w.heap.size + 3 := by rw [hW0]; simp
  have ha0 : W0.heap[w.heap.size]? = some ZE := hW0 ▸ ((box_belT _ _).block _ (by simp; omega)).trans (((box_belT _ _).block _ (by simp)).trans (heap_alloc_new w _))
  have hk0 : W0.heap[w.heap.size + 1]? = some (.cells #[.int .i64 0] 3 (0, 0)) := by
    have := heap_alloc_new (w.alloc ZE) (.cells #[.int .i64 0] 3)
    rw [World.size_alloc] at this
    rw [hW0]
    exact ((box_belT _ _).block _ (by simp)).trans this
  have he0 : W0.heap[w.heap.size + 2]? = some (.cells #[.int .i64 0] 28 (0, 0)) := by
    have := heap_alloc_new ((w.alloc ZE).alloc (.cells #[.int .i64 0] 3)) (.cells #[.int .i64 0] 28)
    rw [World.size_alloc, World.size_alloc] at this
    rw [hW0]
    exact this
  have HWR := Lib.hid (wrong_c W0 (hw.below hb2).tab _ xs (hr.below hb2) (by omega))
  rw [hwr] at HWR
  have HDOC := Lib.hid (fun (w1 : World) (hb : Below W0.heap.size W0 w1) (W : World) (pb : Nat) (hW : PS w1 pb (.slice p n c) (.slice none 0 0) 0 W) =>
    document0_c ((hw.below hb2).below hb) ((hr.below hb2).below hb) (by omega) hW hs0 hn0 hs1 hn1 hs2 hn2 hs3 hn3 htx hnm hnl)
  obtain ⟨S, hS⟩ : ∃ S : ByteArray, S = ⟨nm.toArray⟩ := ⟨_, rfl⟩
  obtain ⟨U, hU⟩ : ∃ U : ByteArray, U = ⟨tx.toArray⟩ := ⟨_, rfl⟩
  unfold ElE at HDOC
  rw [← hS, ← hU] at HDOC ⊢
  have HB2 := Lib.hid hb2
  have HA0 := Lib.hid ha0
  have HK0 := Lib.hid hk0
  have HE0 := Lib.hid he0
  have HW0 := Lib.hid hW0
  have HSZ0 := Lib.hid hsz0
  clear hb2 hW0 hw hr hl hs1 hn1 hs2 hn2 hs0 hn0 hs3 hn3 hS hU ha0 hk0 he0 hwr hn hsz0
  go_enter_defers Tryz.func6, Tryz.ntmps6
  go_wp2_with fail
  rw [← HW0.out]
  refine HWR.out.mono ?_
  rintro e w1 ⟨rfl, hb1⟩
  have hbx := box_belT w1 (.cells #[.slice p n c, .int .i64 0, .slice none 0 0] 45)
  have HD := Lib.hid (HDOC.out w1 hb1 (w1.alloc (.cells #[.slice p n c, .int .i64 0, .slice none 0 0] 45)) w1.heap.size ⟨hbx, Nat.le_refl _, heap_alloc_new w1 _⟩)
  have HB1 := Lib.hid hb1
  have HBX := Lib.hid hbx
  clear hb1 hbx
  go_wp2_with fail
  refine HD.out.mono ?_
  rintro e w2 ⟨rfl, -, hc2⟩
  have hz1 := HB1.out.size
  have hz0 := HSZ0.out
  have ha2 := (hc2.block w.heap.size (by simp; omega) (by simp; omega)).trans ((HBX.out.block _ (by omega)).trans ((HB1.out.block _ (by omega)).trans HA0.out))
  have hk2 := (hc2.block (w.heap.size + 1) (by simp; omega) (by simp; omega)).trans ((HBX.out.block _ (by omega)).trans ((HB1.out.block _ (by omega)).trans HK0.out))
  have he2 := (hc2.block (w.heap.size + 2) (by simp; omega) (by simp; omega)).trans ((HBX.out.block _ (by omega)).trans ((HB1.out.block _ (by omega)).trans HE0.out))
  obtain ⟨a0, a1, a2, a3, a4, az⟩ := cellsE5 ha2
  obtain ⟨u0, uz⟩ := cells1 hk2
  obtain ⟨v0, vz⟩ := cells1 he2
  have HCW := Lib.hid (((Chg.of_below (S := []) (HB2.out.trans ((HB1.out.trans (HBX.out.mono HB1.out.size)).mono HB2.out.size))).then hc2 (fun i hi => by simp at hi; subst hi; exact .inr (by omega))))
  have HA2 := Lib.hid ha2
  have HK2 := Lib.hid hk2
  have HE2 := Lib.hid he2
  clear hc2 hz1 hz0 ha2 hk2 he2
  go_wp2_with fail
  obtain ⟨V, hV⟩ : ∃ V, V = put5 w2 w.heap.size (.string ⟨#[]⟩) (.string S) (.slice none 0 0) (.slice none 0 0) (.string U) := ⟨_, rfl⟩
  have hc5 : Chg [w.heap.size] w2 V := hV ▸ put5_chg w2 w.heap.size (.string ⟨#[]⟩) (.string S) (.slice none 0 0) (.slice none 0 0) (.string U)
  have h5 : V.heap[w.heap.size]? = _ := hV ▸ put5_at HA2.out (.string ⟨#[]⟩) (.string S) (.slice none 0 0) (.slice none 0 0) (.string U)
  have hk5 := (hc5.block (w.heap.size + 1) (Array.getElem?_eq_some_iff.1 HK2.out).1 (by simp)).trans HK2.out
  have he5 : V.heap[w.heap.size + 1 + 1]? = _ := (hc5.block (w.heap.size + 1 + 1) (Array.getElem?_eq_some_iff.1 HE2.out).1 (by simp; omega)).trans HE2.out
  have h6 : ((V.setCell ⟨w.heap.size + 1, 0, none⟩ (.int .i64 0)).setCell ⟨w.heap.size + 1 + 1, 0, none⟩ (.int .i64 0)).heap[w.heap.size]? = some (.cells #[.string ⟨#[]⟩, .string S, .slice none 0 0, .slice none 0 0, .string U] 27 (0, 0)) := by
    rw [Below.heap_setCell _ _ _ _ (by simp; omega), Below.heap_setCell _ _ _ _ (by simp)]
    exact h5
  have h7 : ((V.setCell ⟨w.heap.size + 1, 0, none⟩ (.int .i64 0)).setCell ⟨w.heap.size + 1 + 1, 0, none⟩ (.int .i64 0)).heap[w.heap.size + 1]? = some (.cells #[.int .i64 0] 3 (0, 0)) := by
    rw [Below.heap_setCell _ _ _ _ (by simp), block_set _ _ _ _ _ _ _ hk5]
    rfl
  have h8 : ((V.setCell ⟨w.heap.size + 1, 0, none⟩ (.int .i64 0)).setCell ⟨w.heap.size + 1 + 1, 0, none⟩ (.int .i64 0)).heap[w.heap.size + 1 + 1]? = some (.cells #[.int .i64 0] 28 (0, 0)) := by
    rw [block_set _ _ _ _ _ _ _ ((Below.heap_setCell _ _ _ _ (by simp)).trans he5)]
    rfl
  have hcf : Chg [] w ((V.setCell ⟨w.heap.size + 1, 0, none⟩ (.int .i64 0)).setCell ⟨w.heap.size + 1 + 1, 0, none⟩ (.int .i64 0)) := ((HCW.out.then hc5 (fun i hi => by simp at hi; subst hi; exact .inr (Nat.le_refl _))).set' _ _ _ (.inr (by omega))).set' _ _ _ (.inr (by omega))
  refine leaves_cons (f := 17) (args := #[.pointer (some ⟨w.heap.size + 1, 0, none⟩), .pointer (some ⟨w.heap.size + 1 + 1, 0, none⟩)]) (by simp) (by simp [go_sem]) ?_
  refine (pidle_c (w.heap.size + 1) (w.heap.size + 1 + 1) _).mono ?_
  rintro e u' w'' ⟨rfl, rfl, rfl⟩
  subst hV
  refine ⟨_, results_parse _ _ w.heap.size _ _ _ _ _ _ _ rfl rfl rfl h6 h7 h8, ?_⟩
  exact ⟨rfl, hcf.below (Nat.le_refl _) (by simp)⟩
end Go.Proofs.YtpcajjbdlfookaaGreatDoor

/- xmltree: the test that the laws run first. -/
namespace Go.Proofs.YtpcajjbdlfookaaGreatDoor
open Go Go.RowKit Go.Deep Go.Shelf
set_option linter.unusedVariables false
set_option linter.unusedSimpArgs false

abbrev awX : List UInt8 := [60, 97, 62, 98, 60, 47, 97, 62]
theorem aw_s0 : skA insP awX ((0 : Nat) : Int) = (0, 0) := by kernel_rfl
theorem aw_n0 : nxt insP opnP cloP awX ((0 : Nat) : Int) = (⟨1, [97], [], false, []⟩, 3, 0) := by kernel_rfl
theorem aw_s1 : skA insP awX ((3 : Nat) : Int) = (3, 0) := by kernel_rfl
theorem aw_n1 : nxt insP opnP cloP awX ((3 : Nat) : Int) = (⟨3, [], [], false, [98]⟩, 4, 0) := by kernel_rfl
theorem aw_s2 : skA insP awX ((4 : Nat) : Int) = (4, 0) := by kernel_rfl
theorem aw_n2 : nxt insP opnP cloP awX ((4 : Nat) : Int) = (⟨2, [97], [], false, []⟩, 8, 0) := by kernel_rfl
theorem aw_s3 : skA insP awX ((8 : Nat) : Int) = (8, 0) := by kernel_rfl
theorem aw_n3 : nxt insP opnP cloP awX ((8 : Nat) : Int) = (⟨0, [], [], false, []⟩, 8, 0) := by kernel_rfl
theorem aw_w : wrong (awX.length + 1) awX 0 = -1 := by kernel_rfl
set_option maxRecDepth 100000 in
theorem awake_c (w : World) (hw : BW w) : Calls Tryz.prog 10 #[] w fun e w' => e = .returned (.bool true) ∧ Below w.heap.size w w' := by
  have kc := fun (w : World) (C : Array Value) (n c : Nat) => Lib.run_convert_bytes_const (P := Tryz.prog) w 22 5 C n c Tryz.underlying22 Tryz.underlying5
  have b1 := box_belT w (.cells #[.int .u8 60, .int .u8 97, .int .u8 62, .int .u8 98, .int .u8 60, .int .u8 47, .int .u8 97, .int .u8 62] 5 (8, 9))
  have HQ := parse0_c (hw.below b1) (rd_new w awX #[.int .u8 60, .int .u8 97, .int .u8 62, .int .u8 98, .int .u8 60, .int .u8 47, .int .u8 97, .int .u8 62] 5 8 9 8 rfl rfl (by omega)) rfl (by decide) aw_w aw_s0 aw_n0 aw_s1 aw_n1 aw_s2 aw_n2 aw_s3 aw_n3 (by decide) (by decide) (by decide)
  have HQ' := Lib.hid HQ
  have HB1 := Lib.hid b1
  clear HQ hw b1
  go_enter Tryz.func10, Tryz.ntmps10
  go_wp2_with fail
  trace_state
  refine (HQ'.out).mono ?_
  rintro e w2 ⟨rfl, hb⟩
  have HB := Lib.hid (HB1.out.trans (hb.mono HB1.out.size))
  clear hb
  go_wp2_with fail
  go_ret
  exact ⟨rfl, HB.out.alloc HB.out.size _⟩
end Go.Proofs.YtpcajjbdlfookaaGreatDoor

/- xmltree: the law XmltreeWrites, walked. -/
namespace Go.Proofs.YtpcajjbdlfookaaGreatDoor
open Go Go.RowKit Go.Deep Go.Shelf
set_option linter.unusedVariables false
set_option linter.unusedSimpArgs false

set_option maxRecDepth 100000 in
set_option maxHeartbeats 8000000 in
theorem writes_w (v0 : Value) (d : Nat) (t : ET) (w : World) (hw : BW w) (h : ElemD Any w d v0 t) (hs : smK d t) : Calls Tryz.prog 4 #[v0] w fun e w' => e = .returned (.bool true) ∧ Below w.heap.size w w' := by
  have HEL := Lib.hid (fun (W : World) (hb : Below w.heap.size w W) => elementP_c W d v0 t (h.below hb))
  have HWR := Lib.hid (fun (W : World) (hb : Below w.heap.size w W) => xwrite_c W (hw.below hb) d v0 t (h.below hb) hs)
  have HRW := Lib.hid (fun (W : World) (hb : Below w.heap.size w W) => rxwrite_c w d W v0 t h hs hb)
  have HCA := Lib.hid (fun (W : World) (hb : Below w.heap.size w W) => can_c w hw d W v0 t h hs hb)
  have HRC := Lib.hid (fun (W : World) (hb : Below w.heap.size w W) => rCan_c w d W v0 t h hs hb)
  have HAW := Lib.hid (fun (W : World) (hb : Below w.heap.size w W) => (awake_c W (hw.below hb)).mono (R' := fun e w' => e = Ending.returned (.bool true) ∧ Below w.heap.size w w' ∧ Below W.heap.size W w') (fun e w' hh => show e = Ending.returned (.bool true) ∧ Below w.heap.size w w' ∧ Below W.heap.size W w' from ⟨hh.1, hb.trans (hh.2.mono hb.size), hh.2⟩))
  obtain ⟨av, kv, rfl, hp1, hk1⟩ := h
  obtain ⟨pa, ca, hav, -⟩ := hp1.form
  obtain ⟨pk, ck, hkv, -⟩ := hk1.form
  subst hav hkv
  obtain ⟨N, hN⟩ : ∃ N, N = t.attrs.length := ⟨_, rfl⟩
  obtain ⟨M, hM⟩ : ∃ M, M = t.kids.length := ⟨_, rfl⟩
  obtain ⟨S1, hS1⟩ : ∃ S, S = t.space := ⟨_, rfl⟩
  obtain ⟨S2, hS2⟩ : ∃ S, S = t.name := ⟨_, rfl⟩
  obtain ⟨S3, hS3⟩ : ∃ S, S = t.text := ⟨_, rfl⟩
  obtain ⟨QC, hQC⟩ : ∃ q, canK 24 t = q := ⟨_, rfl⟩
  rw [← hN, ← hM, ← hS1, ← hS2, ← hS3] at HEL HWR HRW HCA HRC
  rw [hQC] at HCA HRC
  rw [← hN, ← hM, ← hS1, ← hS2, ← hS3]
  have HBX := Lib.hid (box_belT w (.cells #[.string S1, .string S2, .slice pa N ca, .slice pk M ck, .string S3] 27))
  have HX := Lib.hid (heap_alloc_new w (.cells #[.string S1, .string S2, .slice pa N ca, .slice pk M ck, .string S3] 27))
  obtain ⟨x0, x1, x2, x3, x4, xz⟩ := box5b HX.out (Below.refl _ _)
  clear hp1 hk1 hN hM hS1 hS2 hS3 hw hs hQC
  go_enter Tryz.func4, Tryz.ntmps4
  go_wp2_with fail
  refine (HEL.out _ HBX.out).mono ?_
  rintro e w1 ⟨⟨q, rfl, hq⟩, hb1⟩
  have HB1 := Lib.hid (HBX.out.trans (hb1.mono HBX.out.size))
  have hX1 := (hb1.block w.heap.size (by simp)).trans HX.out
  have HX1 := Lib.hid hX1
  clear x0 x1 x2 x3 x4 xz hq
  obtain ⟨x0, x1, x2, x3, x4, xz⟩ := box5b hX1 (Below.refl _ _)
  clear hb1 hX1
  cases q
  · go_wp2_with fail
    refine (HAW.out _ HB1.out).mono ?_
    rintro e w2 ⟨rfl, hb2, -⟩
    have HB2 := Lib.hid hb2
    clear hb2
    go_wp2_with fail
    go_ret
    exact ⟨rfl, HB2.out⟩
  · go_wp2_with fail
    refine (HWR.out _ HB1.out).mono ?_
    rintro e w2 ⟨⟨p1, n1, k1, rfl, hr1⟩, hb2⟩
    have HR1 := Lib.hid hr1
    have HB2 := Lib.hid (HB1.out.trans (hb2.mono HB1.out.size))
    have hX2 := (hb2.block w.heap.size (Array.getElem?_eq_some_iff.1 HX1.out).1).trans HX1.out
    have HX2 := Lib.hid hX2
    clear x0 x1 x2 x3 x4 xz
    obtain ⟨x0, x1, x2, x3, x4, xz⟩ := box5b hX2 (Below.refl _ _)
    clear hb2 hX2 hr1
    obtain ⟨RC, hRC⟩ : ∃ R, wrCode d t = R := ⟨_, rfl⟩
    obtain ⟨RD, hRD⟩ : ∃ R, wrDoc d t = R := ⟨_, rfl⟩
    rw [hRD] at HR1
    have HRW2 := Lib.hid ((HRW.out _ HB2.out).mono (R' := fun e w' => (∃ p n c, e = Ending.returned (.tuple #[.slice p n c, .int .i64 RC]) ∧ Rd w' (.slice p n c) RD) ∧ Below w2.heap.size w2 w') (fun e w' hh => by
      obtain ⟨⟨p, n, c, h1, h2⟩, h3⟩ := hh
      rw [hRC] at h1
      rw [hRD] at h2
      exact ⟨⟨p, n, c, h1, h2⟩, h3⟩))
    rw [hRC]
    clear hRC hRD
    go_wp2_with fail
    refine (HRW2.out).mono ?_
    rintro e w3 ⟨⟨p2, n2, k2, rfl, hr2⟩, hb3⟩
    have HR2 := Lib.hid hr2
    have HR1' := Lib.hid (HR1.out.below hb3)
    have HB3 := Lib.hid (HB2.out.trans (hb3.mono HB2.out.size))
    have hX3 := (hb3.block w.heap.size (Array.getElem?_eq_some_iff.1 HX2.out).1).trans HX2.out
    have HX3 := Lib.hid hX3
    clear x0 x1 x2 x3 x4 xz
    clear hb3 hX3 hr2
    have HKP := Lib.hid (show ∀ W : World, Below w3.heap.size w3 W → (W.cell? ⟨w.heap.size, 0, none⟩ = some (.string S1) ∧ W.cell? ⟨w.heap.size, 1, none⟩ = some (.string S2) ∧ W.cell? ⟨w.heap.size, 2, none⟩ = some (.slice pa N ca) ∧ W.cell? ⟨w.heap.size, 3, none⟩ = some (.slice pk M ck) ∧ W.cell? ⟨w.heap.size, 4, none⟩ = some (.string S3)) ∧ Below w3.heap.size w3 W from fun W hb => by
      obtain ⟨d0, d1, d2, d3, d4, _⟩ := box5b HX3.out hb
      exact ⟨⟨d0, d1, d2, d3, d4⟩, hb⟩)
    have HWZ := Lib.hid (fun (W : World) (hb : Below w3.heap.size w3 W) => HB3.out.trans (hb.mono HB3.out.size))
    have HEQ := Lib.hid (fun (W : World) (hb : Below w3.heap.size w3 W) => (equal_c W _ _ RD RD (HR1'.out.below hb) (HR2.out.below hb)).mono (R' := fun e w' => e = Ending.returned (.bool true) ∧ w' = W) (fun e w' hh => ⟨by rw [hh.1, beq_self_eq_true], hh.2.symm⟩))
    have hqc : (QC == QC) = true := beq_self_eq_true _
    clear HEL HWR HRW HRW2 HX1 HX2 HB1 HB2 HX HBX HR1 HR1' HR2
    go_wp2_with fail
    go_region_held3 (fun W => (W.cell? ⟨w.heap.size, 0, none⟩ = some (.string S1) ∧ W.cell? ⟨w.heap.size, 1, none⟩ = some (.string S2) ∧ W.cell? ⟨w.heap.size, 2, none⟩ = some (.slice pa N ca) ∧ W.cell? ⟨w.heap.size, 3, none⟩ = some (.slice pk M ck) ∧ W.cell? ⟨w.heap.size, 4, none⟩ = some (.string S3)) ∧ Below w3.heap.size w3 W)
      (first
        | exact HKP.out _ (Below.refl _ _)
        | exact HKP.out _ ((Below.refl _ _).drew)
        | (refine HKP.out _ ?_; assumption)
        | (refine HKP.out _ (Below.drew ?_); assumption))
      (first
        | (go_split_ands; go_at_call 9; refine (HEQ.out _ ((Below.refl _ _).drew)).mono ?_; rintro e u1 ⟨rfl, rfl⟩; have hB1 : Below w3.heap.size w3 w3.drew := (Below.refl _ _).drew)
        | (go_split_ands; go_at_call 10; refine (HAW.out _ (HWZ.out _ hB3)).mono ?_; rintro e u4 ⟨rfl, _, hb4⟩; have hB4 := hB3.trans (hb4.mono hB3.size))
        | (go_split_ands; go_at_call 15; refine (HRC.out _ (HWZ.out _ (by first | exact hB2 | exact hB1))).mono ?_; rintro e u3 ⟨rfl, hb3⟩; have hB3 := (by assumption : Below w3.heap.size w3 _).trans (hb3.mono (by assumption : Below w3.heap.size w3 _).size))
        | (go_split_ands; go_at_call 14; refine (HCA.out _ (HWZ.out _ hB1)).mono ?_; rintro e u2 ⟨rfl, hb2⟩; have hB2 := hB1.trans (hb2.mono hB1.size))
        | fail "no arm")
    all_goals
      go_wp2_with fail
      go_ret
      exact ⟨rfl, HWZ.out _ (by first | assumption | exact hB4 | exact hB4.drew)⟩
end Go.Proofs.YtpcajjbdlfookaaGreatDoor

/- xmltree: an element given as an argument is read. -/
namespace Go.Proofs.YtpcajjbdlfookaaGreatDoor
open Go.RowKit Go.ChangeShapes Go.WideShapes Go.Deep
set_option linter.unusedVariables false

section
variable {H : Type} {enc : TypeId × Value → H} {P : Program} {w : World} {base : Nat} {spare : Nat → Bool} {held : Bool}
/-- A struct of five one-cell fields, by value. -/
theorem agg5_open {r : Reach} {b0 : Nat} {t : TypeId} {f0 f1 f2 f3 f4 : Field} {v : Value} {d : DataW H} {p : List MemPlace} (hs : P.underlying t = some (.struct #[f0, f1, f2, f3, f4])) (hone : oneCellFields P #[f0, f1, f2, f3, f4] = true) (hC : P.cellsOf t = 5)
    (hv : Value.okWide P w r b0 t v) (h : DataW.Trod enc P w base spare held t v d p) :
    ∃ (v0 v1 v2 v3 v4 : Value) (y0 y1 y2 y3 y4 : DataW H × List MemPlace) (n : Nat), v = .agg #[v0, v1, v2, v3, v4] ∧ d = .agg [y0.1, y1.1, y2.1, y3.1, y4.1] ∧
      DataW.trod enc P w base spare held n f0.type [v0] = some y0 ∧ DataW.trod enc P w base spare held n f1.type [v1] = some y1 ∧ DataW.trod enc P w base spare held n f2.type [v2] = some y2 ∧ DataW.trod enc P w base spare held n f3.type [v3] = some y3 ∧ DataW.trod enc P w base spare held n f4.type [v4] = some y4 := by
  obtain ⟨cs, rfl, hsz⟩ := okWide_struct hs hv
  obtain ⟨l⟩ := cs
  match l, hsz.trans hC with
  | [c0, c1, c2, c3, c4], _ =>
    obtain ⟨fuel, hf⟩ := h
    obtain ⟨xs, n, _, hx, _, hlen, hg⟩ := DataW.trod_struct hs hf
    obtain ⟨o0, k0⟩ := hone_of hone 0 f0 rfl
    obtain ⟨o1, k1⟩ := hone_of hone 1 f1 rfl
    obtain ⟨o2, k2⟩ := hone_of hone 2 f2 rfl
    obtain ⟨o3, k3⟩ := hone_of hone 3 f3 rfl
    obtain ⟨o4, k4⟩ := hone_of hone 4 f4 rfl
    match xs, hlen with
    | [y0, y1, y2, y3, y4], _ =>
      simp only [Prod.mk.injEq] at hx
      exact ⟨c0, c1, c2, c3, c4, y0, y1, y2, y3, y4, n, rfl, by simpa using hx.1, by simpa [Value.cells, o0, k0] using hg 0 f0 rfl, by simpa [Value.cells, o1, k1] using hg 1 f1 rfl, by simpa [Value.cells, o2, k2] using hg 2 f2 rfl, by simpa [Value.cells, o3, k3] using hg 3 f3 rfl, by simpa [Value.cells, o4, k4] using hg 4 f4 rfl⟩
end
section
variable {H : Type} {enc : TypeId × Value → H} {w : World} {base : Nat}
set_option maxRecDepth 100000 in
theorem elem_open {held : Bool} {r : Reach} {b0 : Nat} {v : Value} {d : DataW H} {p : List MemPlace} (hv : Value.okWide Tryz.prog w r b0 27 v) (h : DataW.Trod enc Tryz.prog w base (fun _ => true) held 27 v d p) :
    ∃ D t, ElemD Any w (D + 1) v t := by
  obtain ⟨v0, v1, v2, v3, v4, y0, y1, y2, y3, y4, n, rfl, rfl, t0, t1, t2, t3, t4⟩ := agg5_open Tryz.underlying27 (by kernel_rfl) (by kernel_rfl) hv h
  obtain ⟨s0, e0, _, w0⟩ := DataW.trod_string Tryz.underlying9 t0
  obtain ⟨s1, e1, _, w1⟩ := DataW.trod_string Tryz.underlying9 t1
  obtain ⟨s4, e4, _, w4⟩ := DataW.trod_string Tryz.underlying9 t4
  simp only [List.cons.injEq, and_true] at e0 e1 e4
  subst e0 e1 e4
  obtain ⟨attrs, hp⟩ := pairs_open t2
  obtain ⟨kids, hk⟩ := kids_open _ t3
  exact ⟨_, .mk s0 s1 attrs kids s4, _, _, rfl, hp, hk⟩
end
end Go.Proofs.YtpcajjbdlfookaaGreatDoor
