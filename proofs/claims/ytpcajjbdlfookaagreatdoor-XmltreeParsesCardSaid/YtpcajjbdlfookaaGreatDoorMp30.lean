/- xmltree: a document that is one element with one text. -/
import Derived.Test.YtpcajjbdlfookaaGreatDoorMp23
import Derived.Test.YtpcajjbdlfookaaGreatDoorCv
import Derived.Test.YtpcajjbdlfookaaGreatDoorMp07
import Derived.Test.YtpcajjbdlfookaaGreatDoorMp08
import Derived.Test.YtpcajjbdlfookaaGreatDoorMp28
import Derived.Test.YtpcajjbdlfookaaGreatDoorMp29
namespace Go.Proofs.YtpcajjbdlfookaaGreatDoor
open Go Go.RowKit Go.Deep Go.Shelf
set_option linter.unusedVariables false
set_option linter.unusedSimpArgs false

set_option maxRecDepth 100000 in
set_option maxHeartbeats 8000000 in
theorem document0_c {w0 w : World} (hw0 : BW w0) {pb : Nat} {p : Option Addr} {n c : Nat} {xs nm tx : List UInt8} {a k0 q0 r0 k1 q1 r1 k2 q2 r2 k3 q3 r3 : Nat} (hr : Rd w0 (.slice p n c) xs) (hl : xs.length ≤ 1048576) (h : PS w0 pb (.slice p n c) (.slice none 0 0) a w)
    (hs0 : skA insP xs a = (q0, r0)) (hn0 : nxt insP opnP cloP xs q0 = (⟨1, nm, [], false, []⟩, k0, 0))
    (hs1 : skA insP xs k0 = (q1, r1)) (hn1 : nxt insP opnP cloP xs q1 = (⟨3, [], [], false, tx⟩, k1, 0)) (hs2 : skA insP xs k1 = (q2, r2)) (hn2 : nxt insP opnP cloP xs q2 = (⟨2, nm, [], false, []⟩, k2, 0))
    (hs3 : skA insP xs k2 = (q3, r3)) (hn3 : nxt insP opnP cloP xs q3 = (⟨0, [], [], false, []⟩, k3, 0)) (htx : tx.length ≤ 33554432)
    (hnm : (58 : UInt8) ∉ nm) (hnl : nm.length ≤ 1048576) :
    Calls Tryz.prog 18 #[.pointer (some ⟨pb, 0, none⟩)] w (ElE w0 w pb (.slice p n c) (.slice none 0 0) k3 nm tx) := by
  obtain ⟨W0, hW0⟩ : ∃ W0, W0 = (w.alloc ZE).alloc ZE := ⟨_, rfl⟩
  have hb2 : Below w.heap.size w W0 := hW0 ▸ ((box_belT w _).trans ((box_belT _ _).mono (by simp)))
  have hsz0 : W0.heap.size = w.heap.size + 2 := by rw [hW0]; simp
  have ha0 : W0.heap[w.heap.size]? = some ZE := hW0 ▸ ((box_belT _ _).block _ (by simp)).trans (heap_alloc_new w _)
  have hz0 : W0.heap[w.heap.size + 1]? = some ZE := by
    have := heap_alloc_new (w.alloc ZE) ZE
    rw [World.size_alloc] at this
    rw [hW0]
    exact this
  have hp0 := h.below hb2
  have HN0 := Lib.hid (pnext_c hw0 hr hl hp0 hs0 hn0)
  have HN3 := Lib.hid (fun (W : World) (hW : PS w0 pb (.slice p n c) (.slice none 0 0) k2 W) => pnext_c hw0 hr hl hW hs3 hn3)
  have HEL := Lib.hid (fun (W : World) (s f0 : Value) (hW : PS w0 pb (.slice p n c) (.slice none 0 0) k0 W) (hs : AtsIs W s []) => element0_c hw0 hr hl hW hs1 hn1 hs2 hn2 htx hnm hnl (.int .i64 (1 : Nat)) s (.string ⟨#[]⟩) f0 hs)
  obtain ⟨S, hS⟩ : ∃ S : ByteArray, S = ⟨nm.toArray⟩ := ⟨_, rfl⟩
  obtain ⟨U, hU⟩ : ∃ U : ByteArray, U = ⟨tx.toArray⟩ := ⟨_, rfl⟩
  unfold ElE at HEL ⊢
  rw [← hS, ← hU] at HEL ⊢
  have hpl := h.lt
  have HS := Lib.hid hS
  have HB2 := Lib.hid hb2
  have HA0 := Lib.hid ha0
  have HZ0 := Lib.hid hz0
  have HW0 := Lib.hid hW0
  have HLOW := Lib.hid h.low
  clear hb2 hW0 hw0 hr hl h hs1 hn1 hs2 hn2 hs0 hn0 hs3 hn3 hS hU hp0 ha0 hz0
  go_enter Tryz.func18, Tryz.ntmps18
  go_wp2_with fail
  refine wp_loop_rounds 2 ?_
  rw [rounds_succ]
  go_wp2_with fail
  rw [← HW0.out]
  refine HN0.out.mono ?_
  rintro e w1 ⟨s1, rfl, hat1, hps1, hc1⟩
  obtain ⟨ps1, cs1, hsv1, -⟩ := hat1.form
  subst hsv1
  dsimp only
  rw [← HS.out]
  have hsz1 := hc1.size
  have hbx := box_belT w1 (.cells #[.int .i64 (1 : Nat), .string S, .slice ps1 0 cs1, .bool false, .string ⟨#[]⟩, .int .i64 q0] 69)
  have HE1 := Lib.hid (HEL.out _ (.slice ps1 0 cs1) (.int .i64 q0) (hps1.below hbx) (hat1.below hbx))
  have hz1 := (hbx.block (w.heap.size + 1) (by omega)).trans ((hc1.block (w.heap.size + 1) (by omega) (by simp; omega)).trans HZ0.out)
  have ha1 := (hbx.block w.heap.size (by omega)).trans ((hc1.block w.heap.size (by omega) (by simp; omega)).trans HA0.out)
  have HZ1 := Lib.hid hz1
  have HA1 := Lib.hid ha1
  have HCW1 := Lib.hid ((((Chg.of_below (S := [pb]) HB2.out).then hc1 (fun i hi => .inl hi))).alloc' (.cells #[.int .i64 (1 : Nat), .string S, .slice ps1 0 cs1, .bool false, .string ⟨#[]⟩, .int .i64 q0] 69))
  obtain ⟨g0, g1, g2, g3, g4, g5, gz⟩ := cellsE6 (heap_alloc_new w1 (.cells #[.int .i64 (1 : Nat), .string S, .slice ps1 0 cs1, .bool false, .string ⟨#[]⟩, .int .i64 q0] 69))
  clear hat1 hps1 hc1 hbx hz1 ha1
  go_wp2_with fail
  refine HE1.out.mono ?_
  rintro e w2 ⟨rfl, hps2, hc2⟩
  have hsz2 := hc2.size
  have hsz2' : w1.heap.size + 1 ≤ w2.heap.size := by simpa using hsz2
  have hz2 := (hc2.block (w.heap.size + 1) (by simp; omega) (by simp; omega)).trans HZ1.out
  have ha2 := (hc2.block w.heap.size (by simp; omega) (by simp; omega)).trans HA1.out
  obtain ⟨z0, z1, z2, z3, z4, zz⟩ := cellsE5 hz2
  have hc5 := put5_chg w2 (w.heap.size + 1) (.string ⟨#[]⟩) (.string S) (.slice none 0 0) (.slice none 0 0) (.string U)
  have ha3 := (hc5.block w.heap.size (by omega) (by simp)).trans ha2
  have HA3 := Lib.hid ha3
  have HR3 := Lib.hid (put5_at hz2 (.string ⟨#[]⟩) (.string S) (.slice none 0 0) (.slice none 0 0) (.string U))
  have HPS3 := Lib.hid (hps2.chgT (b := w.heap.size + 1) hc5 (by omega) (by have := HLOW.out; omega))
  have HN4 := Lib.hid (HN3.out _ HPS3.out)
  have HCW3 := Lib.hid ((HCW1.out.then hc2 (fun i hi => .inl hi)).then hc5 (fun i hi => by simp at hi; subst hi; exact .inr (by omega)))
  clear g0 g1 g2 g3 g4 g5 gz hps2 hc2 hz2 ha2 hc5 ha3
  go_wp2_with fail
  rw [rounds_succ]
  go_wp2_with fail
  refine HN4.out.mono ?_
  rintro e w4 ⟨s4, rfl, hat4, hps4, hc4⟩
  obtain ⟨ps4, cs4, hsv4, -⟩ := hat4.form
  subst hsv4
  dsimp only
  have hsz4 := hc4.size
  have hsz4' : w2.heap.size ≤ w4.heap.size := by simpa [World.setCell] using hsz4
  have hr4 := (hc4.block (w.heap.size + 1) (by simp [World.setCell]; omega) (by simp; omega)).trans HR3.out
  have ha4 := (hc4.block w.heap.size (by simp [World.setCell]; omega) (by simp; omega)).trans HA3.out
  have hpl4 := hps4.lt
  obtain ⟨r0, r1, r2, r3, r4, rz⟩ := cellsE5 hr4
  obtain ⟨e0, e1, e2, e3, e4, ez⟩ := cellsE5 ha4
  obtain ⟨g0, g1, g2, g3, g4, g5, gz⟩ := cellsE6 (heap_alloc_new w4 (.cells #[.int .i64 (0 : Nat), .string ⟨#[]⟩, .slice ps4 0 cs4, .bool false, .string ⟨#[]⟩, .int .i64 q3] 69))
  have hc5 := put5_chg w4 w.heap.size (.string ⟨#[]⟩) (.string S) (.slice none 0 0) (.slice none 0 0) (.string U)
  have hA5 := put5_at ha4 (.string ⟨#[]⟩) (.string S) (.slice none 0 0) (.slice none 0 0) (.string U)
  have hbz := box_belT (put5 w4 w.heap.size (.string ⟨#[]⟩) (.string S) (.slice none 0 0) (.slice none 0 0) (.string U)) (.cells #[.int .i64 (0 : Nat), .string ⟨#[]⟩, .slice ps4 0 cs4, .bool false, .string ⟨#[]⟩, .int .i64 q3] 69)
  have HA5 := Lib.hid ((hbz.block w.heap.size (Array.getElem?_eq_some_iff.1 hA5).1).trans hA5)
  have HFIN := Lib.hid (And.intro ((hps4.chgT (b := w.heap.size) hc5 (by omega) (by have := HLOW.out; omega)).below hbz) (((HCW3.out.then hc4 (fun i hi => .inl hi)).then hc5 (fun i hi => by simp at hi; subst hi; exact .inr (Nat.le_refl _))).alloc' (.cells #[.int .i64 (0 : Nat), .string ⟨#[]⟩, .slice ps4 0 cs4, .bool false, .string ⟨#[]⟩, .int .i64 q3] 69)))
  have hal4 : w.heap.size < w4.heap.size := by omega
  have hal5 : w.heap.size + 1 < w4.heap.size := by omega
  clear hsz0 hsz1 hsz2 hsz2' hsz4 hsz4' hpl hpl4
  clear hat4 hps4 hc4 hr4 ha4 hc5 hA5 hbz z0 z1 z2 z3 z4 zz
  go_wp2_with fail
  refine bodyPost_ret (results_cell_row Tryz.results18 _ _ w.heap.size 27 _ (0, 0) _ rfl HA5.out Tryz.underlying27 rfl infoE5) rfl ?_
  exact ⟨rfl, HFIN.out.1, HFIN.out.2⟩
end Go.Proofs.YtpcajjbdlfookaaGreatDoor

/- xmltree: Parse of a document that is one element with one text. -/
namespace Go.Proofs.YtpcajjbdlfookaaGreatDoor
open Go Go.RowKit Go.Deep Go.Shelf
set_option linter.unusedVariables false
set_option linter.unusedSimpArgs false

set_option maxHeartbeats 2000000 in
theorem pidle_c (b c : Nat) (w : World) :
    CallsD Tryz.prog 17 #[.pointer (some ⟨b, 0, none⟩), .pointer (some ⟨c, 0, none⟩)] .returning w fun e u' w' => e = .returned (.tuple #[]) ∧ u' = .returning ∧ w' = w := by
  refine callsD_of_wpS Tryz.func17 rfl fun c₀ cs hu => ?_
  apply wpS_seq
  apply wpS_region
  simp [wpOpsS, go_sem, recoverD, hu, Tryz.ntmps17, Exit.thenS]
  refine wpS_of_wp ?_
  have hT : #[Value.pointer (some ⟨b, 0, none⟩), Value.pointer (some ⟨c, 0, none⟩)] ++ (Array.replicate 13 undef).setIfInBounds 3 Value.nilIface = #[Value.pointer (some ⟨b, 0, none⟩), Value.pointer (some ⟨c, 0, none⟩), undef, undef, undef, Value.nilIface, undef, undef, undef, undef, undef, undef, undef, undef, undef] := rfl
  rw [hT]
  clear hT
  have hin := nil_nil
  go_wp2_with fail
  cases c₀
  simp_all [bodyPostS, results, Tryz.results17, go_sem]
theorem results_parse (tm : Array Value) (V : World) (b : Nat) (c0 c1 c2 c3 c4 k z : Value) (h2 : tm.getD 2 undef = .pointer (some ⟨b, 0, none⟩)) (h3 : tm.getD 3 undef = .pointer (some ⟨b + 1, 0, none⟩)) (h4 : tm.getD 4 undef = .pointer (some ⟨b + 1 + 1, 0, none⟩)) (h : V.heap[b]? = some (.cells #[c0, c1, c2, c3, c4] 27 (0, 0)))
    (hk : V.heap[b + 1]? = some (.cells #[k] 3 (0, 0))) (hz : V.heap[b + 1 + 1]? = some (.cells #[z] 28 (0, 0))) :
    (results Tryz.f6 tm).run Tryz.prog V = .ok (.tuple #[.agg #[c0, c1, c2, c3, c4], k, z]) V := by
  obtain ⟨e0, e1, e2, e3, e4, _⟩ := cellsE5 h
  obtain ⟨f0, _⟩ := cells1 hk
  obtain ⟨g0, _⟩ := cells1 hz
  have h2' : tm[2]?.getD undef = .pointer (some ⟨b, 0, none⟩) := by simpa using h2
  have h3' : tm[3]?.getD undef = .pointer (some ⟨b + 1, 0, none⟩) := by simpa using h3
  have h4' : tm[4]?.getD undef = .pointer (some ⟨b + 1 + 1, 0, none⟩) := by simpa using h4
  simp [results, Tryz.results6, go_sem, h2', h3', h4', e0, e1, e2, e3, e4, f0, g0]
set_option maxRecDepth 100000 in
set_option maxHeartbeats 8000000 in
theorem parse0_c {w : World} (hw : BW w) {p : Option Addr} {n c : Nat} {xs nm tx : List UInt8} {k0 q0 r0 k1 q1 r1 k2 q2 r2 k3 q3 r3 : Nat} (hr : Rd w (.slice p n c) xs) (hn : n = xs.length) (hl : xs.length ≤ 65536) (hwr : wrong (xs.length + 1) xs 0 = -1)
    (hs0 : skA insP xs (0 : Nat) = (q0, r0)) (hn0 : nxt insP opnP cloP xs q0 = (⟨1, nm, [], false, []⟩, k0, 0))
    (hs1 : skA insP xs k0 = (q1, r1)) (hn1 : nxt insP opnP cloP xs q1 = (⟨3, [], [], false, tx⟩, k1, 0)) (hs2 : skA insP xs k1 = (q2, r2)) (hn2 : nxt insP opnP cloP xs q2 = (⟨2, nm, [], false, []⟩, k2, 0))
    (hs3 : skA insP xs k2 = (q3, r3)) (hn3 : nxt insP opnP cloP xs q3 = (⟨0, [], [], false, []⟩, k3, 0)) (htx : tx.length ≤ 33554432)
    (hnm : (58 : UInt8) ∉ nm) (hnl : nm.length ≤ 1048576) :
    Calls Tryz.prog 6 #[.slice p n c] w fun e w' => e = .returned (.tuple #[.agg #[.string ⟨#[]⟩, .string ⟨nm.toArray⟩, .slice none 0 0, .slice none 0 0, .string ⟨tx.toArray⟩], .int .i64 0, .int .i64 0]) ∧ Below w.heap.size w w' := by
  have hnb : n ≤ 65536 := by omega
  obtain ⟨W0, hW0⟩ : ∃ W0, W0 = ((w.alloc ZE).alloc (.cells #[.int .i64 0] 3)).alloc (.cells #[.int .i64 0] 28) := ⟨_, rfl⟩
  have hb2 : Below w.heap.size w W0 := hW0 ▸ (((box_belT w _).trans ((box_belT _ _).mono (by simp))).trans ((box_belT _ _).mono (by simp; omega)))
  have hsz0 : W0.heap.size = w.heap.size + 3 := by rw [hW0]; simp
  have ha0 : W0.heap[w.heap.size]? = some ZE := hW0 ▸ ((box_belT _ _).block _ (by simp; omega)).trans (((box_belT _ _).block _ (by simp)).trans (heap_alloc_new w _))
  have hk0 : W0.heap[w.heap.size + 1]? = some (.cells #[.int .i64 0] 3 (0, 0)) := by
    have := heap_alloc_new (w.alloc ZE) (.cells #[.int .i64 0] 3)
    rw [World.size_alloc] at this
    rw [hW0]
    exact ((box_belT _ _).block _ (by simp)).trans this
  have he0 : W0.heap[w.heap.size + 2]? = some (.cells #[.int .i64 0] 28 (0, 0)) := by
    have := heap_alloc_new ((w.alloc ZE).alloc (.cells #[.int .i64 0] 3)) (.cells #[.int .i64 0] 28)
    rw [World.size_alloc, World.size_alloc] at this
    rw [hW0]
    exact this
  have HWR := Lib.hid (wrong_c W0 (hw.below hb2).tab _ xs (hr.below hb2) (by omega))
  rw [hwr] at HWR
  have HDOC := Lib.hid (fun (w1 : World) (hb : Below W0.heap.size W0 w1) (W : World) (pb : Nat) (hW : PS w1 pb (.slice p n c) (.slice none 0 0) 0 W) =>
    document0_c ((hw.below hb2).below hb) ((hr.below hb2).below hb) (by omega) hW hs0 hn0 hs1 hn1 hs2 hn2 hs3 hn3 htx hnm hnl)
  obtain ⟨S, hS⟩ : ∃ S : ByteArray, S = ⟨nm.toArray⟩ := ⟨_, rfl⟩
  obtain ⟨U, hU⟩ : ∃ U : ByteArray, U = ⟨tx.toArray⟩ := ⟨_, rfl⟩
  unfold ElE at HDOC
  rw [← hS, ← hU] at HDOC ⊢
  have HB2 := Lib.hid hb2
  have HA0 := Lib.hid ha0
  have HK0 := Lib.hid hk0
  have HE0 := Lib.hid he0
  have HW0 := Lib.hid hW0
  have HSZ0 := Lib.hid hsz0
  clear hb2 hW0 hw hr hl hs1 hn1 hs2 hn2 hs0 hn0 hs3 hn3 hS hU ha0 hk0 he0 hwr hn hsz0
  go_enter_defers Tryz.func6, Tryz.ntmps6
  go_wp2_with fail
  rw [← HW0.out]
  refine HWR.out.mono ?_
  rintro e w1 ⟨rfl, hb1⟩
  have hbx := box_belT w1 (.cells #[.slice p n c, .int .i64 0, .slice none 0 0] 45)
  have HD := Lib.hid (HDOC.out w1 hb1 (w1.alloc (.cells #[.slice p n c, .int .i64 0, .slice none 0 0] 45)) w1.heap.size ⟨hbx, Nat.le_refl _, heap_alloc_new w1 _⟩)
  have HB1 := Lib.hid hb1
  have HBX := Lib.hid hbx
  clear hb1 hbx
  go_wp2_with fail
  refine HD.out.mono ?_
  rintro e w2 ⟨rfl, -, hc2⟩
  have hz1 := HB1.out.size
  have hz0 := HSZ0.out
  have ha2 := (hc2.block w.heap.size (by simp; omega) (by simp; omega)).trans ((HBX.out.block _ (by omega)).trans ((HB1.out.block _ (by omega)).trans HA0.out))
  have hk2 := (hc2.block (w.heap.size + 1) (by simp; omega) (by simp; omega)).trans ((HBX.out.block _ (by omega)).trans ((HB1.out.block _ (by omega)).trans HK0.out))
  have he2 := (hc2.block (w.heap.size + 2) (by simp; omega) (by simp; omega)).trans ((HBX.out.block _ (by omega)).trans ((HB1.out.block _ (by omega)).trans HE0.out))
  obtain ⟨a0, a1, a2, a3, a4, az⟩ := cellsE5 ha2
  obtain ⟨u0, uz⟩ := cells1 hk2
  obtain ⟨v0, vz⟩ := cells1 he2
  have HCW := Lib.hid (((Chg.of_below (S := []) (HB2.out.trans ((HB1.out.trans (HBX.out.mono HB1.out.size)).mono HB2.out.size))).then hc2 (fun i hi => by simp at hi; subst hi; exact .inr (by omega))))
  have HA2 := Lib.hid ha2
  have HK2 := Lib.hid hk2
  have HE2 := Lib.hid he2
  clear hc2 hz1 hz0 ha2 hk2 he2
  go_wp2_with fail
  obtain ⟨V, hV⟩ : ∃ V, V = put5 w2 w.heap.size (.string ⟨#[]⟩) (.string S) (.slice none 0 0) (.slice none 0 0) (.string U) := ⟨_, rfl⟩
  have hc5 : Chg [w.heap.size] w2 V := hV ▸ put5_chg w2 w.heap.size (.string ⟨#[]⟩) (.string S) (.slice none 0 0) (.slice none 0 0) (.string U)
  have h5 : V.heap[w.heap.size]? = _ := hV ▸ put5_at HA2.out (.string ⟨#[]⟩) (.string S) (.slice none 0 0) (.slice none 0 0) (.string U)
  have hk5 := (hc5.block (w.heap.size + 1) (Array.getElem?_eq_some_iff.1 HK2.out).1 (by simp)).trans HK2.out
  have he5 : V.heap[w.heap.size + 1 + 1]? = _ := (hc5.block (w.heap.size + 1 + 1) (Array.getElem?_eq_some_iff.1 HE2.out).1 (by simp; omega)).trans HE2.out
  have h6 : ((V.setCell ⟨w.heap.size + 1, 0, none⟩ (.int .i64 0)).setCell ⟨w.heap.size + 1 + 1, 0, none⟩ (.int .i64 0)).heap[w.heap.size]? = some (.cells #[.string ⟨#[]⟩, .string S, .slice none 0 0, .slice none 0 0, .string U] 27 (0, 0)) := by
    rw [Below.heap_setCell _ _ _ _ (by simp; omega), Below.heap_setCell _ _ _ _ (by simp)]
    exact h5
  have h7 : ((V.setCell ⟨w.heap.size + 1, 0, none⟩ (.int .i64 0)).setCell ⟨w.heap.size + 1 + 1, 0, none⟩ (.int .i64 0)).heap[w.heap.size + 1]? = some (.cells #[.int .i64 0] 3 (0, 0)) := by
    rw [Below.heap_setCell _ _ _ _ (by simp), block_set _ _ _ _ _ _ _ hk5]
    rfl
  have h8 : ((V.setCell ⟨w.heap.size + 1, 0, none⟩ (.int .i64 0)).setCell ⟨w.heap.size + 1 + 1, 0, none⟩ (.int .i64 0)).heap[w.heap.size + 1 + 1]? = some (.cells #[.int .i64 0] 28 (0, 0)) := by
    rw [block_set _ _ _ _ _ _ _ ((Below.heap_setCell _ _ _ _ (by simp)).trans he5)]
    rfl
  have hcf : Chg [] w ((V.setCell ⟨w.heap.size + 1, 0, none⟩ (.int .i64 0)).setCell ⟨w.heap.size + 1 + 1, 0, none⟩ (.int .i64 0)) := ((HCW.out.then hc5 (fun i hi => by simp at hi; subst hi; exact .inr (Nat.le_refl _))).set' _ _ _ (.inr (by omega))).set' _ _ _ (.inr (by omega))
  refine leaves_cons (f := 17) (args := #[.pointer (some ⟨w.heap.size + 1, 0, none⟩), .pointer (some ⟨w.heap.size + 1 + 1, 0, none⟩)]) (by simp) (by simp [go_sem]) ?_
  refine (pidle_c (w.heap.size + 1) (w.heap.size + 1 + 1) _).mono ?_
  rintro e u' w'' ⟨rfl, rfl, rfl⟩
  subst hV
  refine ⟨_, results_parse _ _ w.heap.size _ _ _ _ _ _ _ rfl rfl rfl h6 h7 h8, ?_⟩
  exact ⟨rfl, hcf.below (Nat.le_refl _) (by simp)⟩
end Go.Proofs.YtpcajjbdlfookaaGreatDoor

/- xmltree: Parse, however it ends. -/
namespace Go.Proofs.YtpcajjbdlfookaaGreatDoor
open Go Go.RowKit Go.Deep Go.Shelf
set_option linter.unusedVariables false
set_option linter.unusedSimpArgs false

theorem pfault_is (f k : Int) (w : World) : (Instr.typeAssert (.iface 41 (.agg #[.int .i64 f, .int .i64 k])) 20 41 true).run Tryz.prog w = .ok (.tuple #[.agg #[.int .i64 f, .int .i64 k], .bool true]) w := by
  simp [Instr.typeAssert, go_sem]
theorem piface_nil (f k : Int) (w : World) : (binOp .eql 20 (.iface 41 (.agg #[.int .i64 f, .int .i64 k])) .nilIface).run Tryz.prog w = .ok (.bool false) w := by
  kernel_rfl

set_option maxRecDepth 100000 in
set_option maxHeartbeats 2000000 in
theorem pcatch_c (b c : Nat) (x y f k : Int) (older : List PanicEntry) (w : World) (hx : w.heap[b]? = some (.cells #[.int .i64 x] 3 (0, 0))) (hy : w.heap[c]? = some (.cells #[.int .i64 y] 28 (0, 0))) :
    CallsD Tryz.prog 17 #[.pointer (some ⟨b, 0, none⟩), .pointer (some ⟨c, 0, none⟩)] (.panicking ({ v := .iface 41 (.agg #[.int .i64 f, .int .i64 k]), recovered := false } :: older)) w fun e u' w' =>
      e = .returned (.tuple #[]) ∧ u' = .panicking ({ v := .iface 41 (.agg #[.int .i64 f, .int .i64 k]), recovered := true } :: older) ∧
      w'.heap[b]? = some (.cells #[.int .i64 f] 3 (0, 0)) ∧ w'.heap[c]? = some (.cells #[.int .i64 k] 28 (0, 0)) ∧ Chg [b, c] w w' := by
  have hbc : b ≠ c := by
    rintro rfl
    rw [hx] at hy
    simp at hy
  have hbl := (Array.getElem?_eq_some_iff.1 hx).1
  have hcl := (Array.getElem?_eq_some_iff.1 hy).1
  obtain ⟨x0, xz⟩ := cells1 hx
  obtain ⟨y0, yz⟩ := cells1 hy
  have HX := Lib.hid hx
  have HY := Lib.hid hy
  refine callsD_of_wpS Tryz.func17 rfl fun c₀ cs hu => ?_
  apply wpS_seq
  apply wpS_region
  simp [wpOpsS, go_sem, recoverD, hu, Tryz.ntmps17, Exit.thenS]
  refine wpS_of_wp ?_
  have hta := pfault_is f k
  have hin := piface_nil f k
  clear hx hy
  have hT : #[Value.pointer (some ⟨b, 0, none⟩), Value.pointer (some ⟨c, 0, none⟩)] ++ (Array.replicate 13 undef).setIfInBounds 3 (Value.iface 41 (.agg #[.int .i64 f, .int .i64 k])) = #[Value.pointer (some ⟨b, 0, none⟩), Value.pointer (some ⟨c, 0, none⟩), undef, undef, undef, Value.iface 41 (.agg #[.int .i64 f, .int .i64 k]), undef, undef, undef, undef, undef, undef, undef, undef, undef] := rfl
  rw [hT]
  clear hT
  go_wp2_with fail
  go_region
  all_goals
    go_wp2_with fail
    have hc : Chg [b, c] w ((((w.setCell ⟨b, 0, none⟩ (.int .i64 f)).setCell ⟨c, 0, none⟩ (.int .i64 k)).alloc (.cells #[.int .i64 f, .int .i64 k] 41)).drew) := ((((Chg.refl [b, c] w).set' _ _ _ (.inl (by simp))).set' _ _ _ (.inl (by simp))).alloc' _).drew'
    have e1 : ((((w.setCell ⟨b, 0, none⟩ (.int .i64 f)).setCell ⟨c, 0, none⟩ (.int .i64 k)).alloc (.cells #[.int .i64 f, .int .i64 k] 41)).drew).heap[b]? = some (.cells #[.int .i64 f] 3 (0, 0)) := by
      rw [heap_drew, Below.heap_alloc _ _ _ (by simpa [World.size_setCell] using hbl), Below.heap_setCell _ _ _ _ hbc, block_set _ _ _ _ _ _ _ HX.out]
      rfl
    have e2 : ((((w.setCell ⟨b, 0, none⟩ (.int .i64 f)).setCell ⟨c, 0, none⟩ (.int .i64 k)).alloc (.cells #[.int .i64 f, .int .i64 k] 41)).drew).heap[c]? = some (.cells #[.int .i64 k] 28 (0, 0)) := by
      rw [heap_drew, Below.heap_alloc _ _ _ (by simpa [World.size_setCell] using hcl), block_set _ _ _ _ _ _ _ ((Below.heap_setCell _ _ _ _ (Ne.symm hbc)).trans HY.out)]
      rfl
    simp [bodyPostS, results, Tryz.results17, go_sem]
    exact ⟨e1, e2, hc⟩
abbrev zEl : Value := .agg #[.string ⟨#[]⟩, .string ⟨#[]⟩, .slice none 0 0, .slice none 0 0, .string ⟨#[]⟩]
/-- How Parse ends. -/
def ParE (w : World) (R : Except (Nat × Nat) ET) (e : Ending) (w' : World) : Prop := match R with
  | .error x => e = .returned (.tuple #[zEl, .int .i64 (x.1 : Nat), .int .i64 (x.2 : Nat)]) ∧ Below w.heap.size w w'
  | .ok x => ∃ v, e = .returned (.tuple #[v, .int .i64 0, .int .i64 0]) ∧ ElemD (okN w.heap.size w') w' 24 v x ∧ Below w.heap.size w w'
end Go.Proofs.YtpcajjbdlfookaaGreatDoor

/- xmltree: Parse, whatever the bytes. -/
namespace Go.Proofs.YtpcajjbdlfookaaGreatDoor
open Go Go.RowKit Go.Deep Go.Shelf
set_option linter.unusedVariables false
set_option linter.unusedSimpArgs false

/-- The three results are laid down. -/
theorem par_put {W : World} {b : Nat} (ha : W.heap[b]? = some ZE) (hk : W.heap[b + 1]? = some (.cells #[.int .i64 0] 3 (0, 0))) (hz : W.heap[b + 1 + 1]? = some (.cells #[.int .i64 0] 28 (0, 0))) (c0 c1 c2 c3 c4 k z : Value) :
    (((put5 W b c0 c1 c2 c3 c4).setCell ⟨b + 1, 0, none⟩ k).setCell ⟨b + 1 + 1, 0, none⟩ z).heap[b]? = some (.cells #[c0, c1, c2, c3, c4] 27 (0, 0)) ∧
    (((put5 W b c0 c1 c2 c3 c4).setCell ⟨b + 1, 0, none⟩ k).setCell ⟨b + 1 + 1, 0, none⟩ z).heap[b + 1]? = some (.cells #[k] 3 (0, 0)) ∧
    (((put5 W b c0 c1 c2 c3 c4).setCell ⟨b + 1, 0, none⟩ k).setCell ⟨b + 1 + 1, 0, none⟩ z).heap[b + 1 + 1]? = some (.cells #[z] 28 (0, 0)) ∧
    Chg [b, b + 1, b + 1 + 1] W (((put5 W b c0 c1 c2 c3 c4).setCell ⟨b + 1, 0, none⟩ k).setCell ⟨b + 1 + 1, 0, none⟩ z) := by
  obtain ⟨V, hV⟩ : ∃ V, V = put5 W b c0 c1 c2 c3 c4 := ⟨_, rfl⟩
  have hc5 : Chg [b] W V := hV ▸ put5_chg W b c0 c1 c2 c3 c4
  have h5 : V.heap[b]? = some (.cells #[c0, c1, c2, c3, c4] 27 (0, 0)) := hV ▸ put5_at ha c0 c1 c2 c3 c4
  have hk5 := (hc5.block (b + 1) (Array.getElem?_eq_some_iff.1 hk).1 (by simp)).trans hk
  have he5 := (hc5.block (b + 1 + 1) (Array.getElem?_eq_some_iff.1 hz).1 (by simp; omega)).trans hz
  rw [← hV]
  refine ⟨?_, ?_, ?_, ((hc5.mono (fun i hi => by simp at hi; simp [hi])).set' _ _ _ (.inl (by simp))).set' _ _ _ (.inl (by simp))⟩
  · rw [Below.heap_setCell _ _ _ _ (by simp; omega), Below.heap_setCell _ _ _ _ (by simp)]
    exact h5
  · rw [Below.heap_setCell _ _ _ _ (by simp), block_set _ _ _ _ _ _ _ hk5]
    rfl
  · rw [block_set _ _ _ _ _ _ _ ((Below.heap_setCell _ _ _ _ (by simp)).trans he5)]
    rfl
theorem par_ok {W V : World} {b N : Nat} (ha : W.heap[b]? = some ZE) (hk : W.heap[b + 1]? = some (.cells #[.int .i64 0] 3 (0, 0))) (hz : W.heap[b + 1 + 1]? = some (.cells #[.int .i64 0] 28 (0, 0))) (hc : Chg [b, b + 1, b + 1 + 1] W V) (hN : b < N) : ∀ i, okN N W i → i < W.heap.size → V.heap[i]? = W.heap[i]? ∧ okN N V i := by
  rintro i ⟨cs, T, z, h1, h2⟩ hl
  have h3 : V.heap[i]? = W.heap[i]? := hc.block i hl (by
    intro hm
    simp at hm
    rcases hm with rfl | rfl | rfl
    · rcases h2 with rfl | ⟨rfl, h4⟩
      · rw [h1] at ha; simp at ha
      · omega
    · rw [h1] at hk
      rcases h2 with rfl | ⟨rfl, h4⟩ <;> simp at hk
    · rw [h1] at hz
      rcases h2 with rfl | ⟨rfl, h4⟩ <;> simp at hz)
  exact ⟨h3, cs, T, z, h3.trans h1, h2⟩
/-- An element at the top. -/
theorem element0D_c {w0 : World} (hw0 : BW w0) {bv : Value} {xs : List UInt8} (hr : Rd w0 bv xs) (hl : xs.length ≤ 65536) {pb : Nat} : ∀ (W : World) (sv' : Value) (t' : Tk) (q' k' : Nat) (s' : Value) (hx : PX w0 pb bv sv' [] k' W) (hat : AtsIs W s' t'.attrs) (hb : TkB xs.length t') (hk' : k' ≤ xs.length), Calls Tryz.prog 31 #[.pointer (some ⟨pb, 0, none⟩), tokV6 t' s' q', .int .i64 0] W (AftD w0 W pb (elemM xs (xs.length + 2) [] 0 t' q' k') (EleD w0 W pb bv [] 0)) := fun W sv' t' q' k' s' hx hat hb hk' =>
  elementW_c (c := fun L' o' nm' h' k' => contM xs (xs.length + 2) L' o' nm' h' [] [] k') hx 0 (by omega) (by simp) t' q' s' hat (Nat.le_trans hb.name (by omega)) (fun x hx => Nat.le_trans (hb.ats x hx) (by omega)) (fun ho2 _ W' h' L' sv'' av' eb' hp hL' hbx hpr hlw => content_c hw0 hr hl (xs.length + 2) hp 0 ho2 hL' t' q' s' h' av' eb' hbx hpr hlw hk' (by omega))
set_option maxRecDepth 100000 in
set_option maxHeartbeats 16000000 in
theorem parse_c {w : World} (hw : BW w) {v : Value} {xs : List UInt8} (hr : Rd w v xs) (hxs : xs.length ≤ 140737488351232) :
    Calls Tryz.prog 6 #[v] w (ParE w (parseM xs)) := by
  obtain ⟨p, c, rfl⟩ := rd_form hr
  obtain ⟨n, hn⟩ : ∃ n, n = xs.length := ⟨_, rfl⟩
  rw [← hn] at hr ⊢
  have HN := Lib.hid hn
  obtain ⟨W0, hW0⟩ : ∃ W0, W0 = ((w.alloc ZE).alloc (.cells #[.int .i64 0] 3)).alloc (.cells #[.int .i64 0] 28) := ⟨_, rfl⟩
  have hb2 : Below w.heap.size w W0 := hW0 ▸ (((box_belT w _).trans ((box_belT _ _).mono (by simp))).trans ((box_belT _ _).mono (by simp; omega)))
  have hsz0 : W0.heap.size = w.heap.size + 3 := by rw [hW0]; simp
  have ha0 : W0.heap[w.heap.size]? = some ZE := hW0 ▸ ((box_belT _ _).block _ (by simp; omega)).trans (((box_belT _ _).block _ (by simp)).trans (heap_alloc_new w _))
  have hk0 : W0.heap[w.heap.size + 1]? = some (.cells #[.int .i64 0] 3 (0, 0)) := by
    have := heap_alloc_new (w.alloc ZE) (.cells #[.int .i64 0] 3)
    rw [World.size_alloc] at this
    rw [hW0]
    exact ((box_belT _ _).block _ (by simp)).trans this
  have he0 : W0.heap[w.heap.size + 1 + 1]? = some (.cells #[.int .i64 0] 28 (0, 0)) := by
    have := heap_alloc_new ((w.alloc ZE).alloc (.cells #[.int .i64 0] 3)) (.cells #[.int .i64 0] 28)
    rw [World.size_alloc, World.size_alloc] at this
    rw [hW0]
    exact this
  have HWR := Lib.hid (fun (h9 : n ≤ 65536) => wrong_c W0 (hw.below hb2).tab _ xs (hr.below hb2) (by omega))
  have HDOC := Lib.hid (fun (h9 : n ≤ 65536) (w1 : World) (hb : Below W0.heap.size W0 w1) (W : World) (pb : Nat) (hW : PX w1 pb (.slice p n c) (.slice none 0 0) [] 0 W) =>
    documentW_c ((hw.below hb2).below hb) ((hr.below hb2).below hb) (by omega) hW (xs.length + 2) (xs.length + 2) (by omega) (element0D_c ((hw.below hb2).below hb) ((hr.below hb2).below hb) (by omega)))
  have HB2 := Lib.hid hb2
  have HA0 := Lib.hid ha0
  have HK0 := Lib.hid hk0
  have HE0 := Lib.hid he0
  have HW0 := Lib.hid hW0
  have HSZ0 := Lib.hid hsz0
  obtain ⟨R, hR⟩ : ∃ R, parseM xs = R := ⟨_, rfl⟩
  rw [hR]
  have HR := Lib.hid hR
  obtain ⟨a0, a1, a2, a3, a4, az⟩ := cellsE5 ha0
  obtain ⟨u0, uz⟩ := cells1 hk0
  obtain ⟨v0, vz⟩ := cells1 he0
  clear hb2 hW0 hw hr ha0 hk0 he0 hn hsz0 hR
  by_cases hbig : 65536 < n
  · have HRE := Lib.hid (show R = .error (0, 4) from by rw [← HR.out]; unfold parseM; rw [if_pos (by rw [← HN.out]; exact hbig)])
    have hq : decide ((65536 : Int) < (n : Int)) = true := decide_eq_true (by omega)
    clear HWR HDOC
    go_enter_defers Tryz.func6, Tryz.ntmps6
    go_upto_region 1 with (fail)
    rw [← HW0.out]
    go_wp2_with fail
    have hend := par_put HA0.out HK0.out HE0.out (.string ⟨#[]⟩) (.string ⟨#[]⟩) (.slice none 0 0) (.slice none 0 0) (.string ⟨#[]⟩) (.int .i64 0) (.int .i64 4)
    refine ⟨_, results_parse _ _ w.heap.size _ _ _ _ _ _ _ rfl rfl rfl hend.1 hend.2.1 hend.2.2.1, ?_⟩
    rw [HRE.out]
    exact ⟨rfl, HB2.out.trans (hend.2.2.2.below HB2.out.size (fun i hi => by simp at hi; omega))⟩
  have hn16 : n ≤ 65536 := by omega
  have hq : decide ((65536 : Int) < (n : Int)) = false := decide_eq_false (by omega)
  have HWR0 := Lib.hid (HWR.out hn16)
  have HDOC0 := Lib.hid (HDOC.out hn16)
  obtain ⟨z, hz⟩ : ∃ z, wrong (xs.length + 1) xs 0 = z := ⟨_, rfl⟩
  rw [hz] at HWR0
  have HZ := Lib.hid hz
  clear hz HWR HDOC
  by_cases hz0 : 0 ≤ z
  · obtain ⟨zn, rfl⟩ : ∃ zn : Nat, z = zn := ⟨z.toNat, by omega⟩
    have HRE := Lib.hid (show R = .error (zn, 10) from by
      rw [← HR.out]
      unfold parseM
      rw [if_neg (by rw [← HN.out]; exact hbig), if_pos (by rw [HZ.out]; omega), HZ.out]
      rfl)
    clear HDOC0 hz0
    go_enter_defers Tryz.func6, Tryz.ntmps6
    go_upto_region 1 with (fail)
    rw [← HW0.out]
    go_wp2_with fail
    refine HWR0.out.mono ?_
    rintro e w1 ⟨rfl, hb1⟩
    have ha1 := (hb1.block _ (by have := HSZ0.out; omega)).trans HA0.out
    have hk1 := (hb1.block _ (by have := HSZ0.out; omega)).trans HK0.out
    have he1 := (hb1.block _ (by have := HSZ0.out; omega)).trans HE0.out
    have HAKE := Lib.hid (And.intro ha1 (And.intro hk1 he1))
    have HB1 := Lib.hid (HB2.out.trans (hb1.mono HB2.out.size))
    clear a0 a1 a2 a3 a4 az u0 uz v0 vz hb1
    obtain ⟨a0, a1, a2, a3, a4, az⟩ := cellsE5 ha1
    obtain ⟨u0, uz⟩ := cells1 hk1
    obtain ⟨v0, vz⟩ := cells1 he1
    clear ha1 hk1 he1
    go_wp2_with fail
    have hend := par_put HAKE.out.1 HAKE.out.2.1 HAKE.out.2.2 (.string ⟨#[]⟩) (.string ⟨#[]⟩) (.slice none 0 0) (.slice none 0 0) (.string ⟨#[]⟩) (.int .i64 (zn : Nat)) (.int .i64 10)
    refine ⟨_, results_parse _ _ w.heap.size _ _ _ _ _ _ _ rfl rfl rfl hend.1 hend.2.1 hend.2.2.1, ?_⟩
    rw [HRE.out]
    exact ⟨rfl, HB1.out.trans (hend.2.2.2.below HB1.out.size (fun i hi => by simp at hi; omega))⟩
  have hq2 : decide (0 ≤ z) = false := decide_eq_false hz0
  obtain ⟨RD, hRD⟩ : ∃ RD, docM xs (xs.length + 2) (xs.length + 2) none 0 = RD := ⟨_, rfl⟩
  rw [hRD] at HDOC0
  have HRE := Lib.hid (show R = RD from by
    rw [← HR.out]
    unfold parseM
    rw [if_neg (by rw [← HN.out]; exact hbig), if_neg (by rw [HZ.out]; exact hz0), hRD])
  clear hRD
  go_enter_defers Tryz.func6, Tryz.ntmps6
  go_upto_region 1 with (fail)
  rw [← HW0.out]
  go_wp2_with fail
  refine HWR0.out.mono ?_
  rintro e w1 ⟨rfl, hb1⟩
  have hbx := box_belT w1 (.cells #[.slice p n c, .int .i64 0, .slice none 0 0] 45)
  have HD := Lib.hid (HDOC0.out w1 hb1 (w1.alloc (.cells #[.slice p n c, .int .i64 0, .slice none 0 0] 45)) w1.heap.size ⟨⟨hbx, Nat.le_refl _, heap_alloc_new w1 _⟩, World.ownsRow_nil _ _ _ _⟩)
  have HB1 := Lib.hid hb1
  have hz9 := HSZ0.out
  have ha1 := (hb1.block _ (by omega)).trans HA0.out
  have hk1 := (hb1.block _ (by omega)).trans HK0.out
  have he1 := (hb1.block _ (by omega)).trans HE0.out
  have HAKE := Lib.hid (And.intro ha1 (And.intro hk1 he1))
  have HBW1 := Lib.hid (HB2.out.trans (hb1.mono HB2.out.size))
  have hs1 : w.heap.size + 3 ≤ w1.heap.size := by have := hb1.size; omega
  clear hb1 hbx ha1 hk1 he1 a0 a1 a2 a3 a4 az u0 uz v0 vz hz9
  go_wp2_with fail
  refine HD.out.mono ?_
  rintro e w2 hd
  unfold DocD at hd
  split at hd
  · rename_i x
    obtain ⟨hbm, hbl⟩ := hd
    unfold Boom6 at hbm
    subst hbm
    have ha2 := (hbl.block w.heap.size (by omega)).trans HAKE.out.1
    have hk2 := (hbl.block (w.heap.size + 1) (by omega)).trans HAKE.out.2.1
    have he2 := (hbl.block (w.heap.size + 1 + 1) (by omega)).trans HAKE.out.2.2
    have hbw2 := HBW1.out.trans (hbl.mono HBW1.out.size)
    refine leaves_cons (f := 17) (args := #[.pointer (some ⟨w.heap.size + 1, 0, none⟩), .pointer (some ⟨w.heap.size + 1 + 1, 0, none⟩)]) (by simp) (by simp [go_sem]) ?_
    refine (pcatch_c (w.heap.size + 1) (w.heap.size + 1 + 1) 0 0 (x.1 : Nat) (x.2 : Nat) [] w2 hk2 he2).mono ?_
    rintro e u' w'' ⟨rfl, rfl, g1, g2, gc⟩
    have g0 := (gc.block w.heap.size (Array.getElem?_eq_some_iff.1 ha2).1 (by simp; omega)).trans ha2
    refine ⟨_, results_parse _ w'' w.heap.size _ _ _ _ _ _ _ rfl rfl rfl g0 g1 g2, ?_⟩
    rw [HRE.out]
    exact ⟨rfl, hbw2.trans (gc.below hbw2.size (fun i hi => by simp at hi; omega))⟩
  · rename_i x
    obtain ⟨vv, rfl, ⟨av, kv, rfl, hp1, hk1⟩, hbl⟩ := hd
    obtain ⟨p1, c1, hf1, -⟩ := hp1.form
    obtain ⟨p2, c2, hf2, -⟩ := hk1.form
    obtain ⟨N1, hN1⟩ : ∃ N1, N1 = x.attrs.length := ⟨_, rfl⟩
    obtain ⟨N2, hN2⟩ : ∃ N2, N2 = x.kids.length := ⟨_, rfl⟩
    rw [← hN1] at hf1
    rw [← hN2] at hf2
    subst hf1 hf2
    have ha2 := (hbl.block w.heap.size (by omega)).trans HAKE.out.1
    have hk2 := (hbl.block (w.heap.size + 1) (by omega)).trans HAKE.out.2.1
    have he2 := (hbl.block (w.heap.size + 1 + 1) (by omega)).trans HAKE.out.2.2
    have HBW2 := Lib.hid (HBW1.out.trans (hbl.mono HBW1.out.size))
    have HEND := Lib.hid (par_put ha2 hk2 he2 (.string x.space) (.string x.name) (.slice p1 N1 c1) (.slice p2 N2 c2) (.string x.text) (.int .i64 0) (.int .i64 0))
    have HOKK := Lib.hid (par_ok (N := w1.heap.size) ha2 hk2 he2 HEND.out.2.2.2 (by omega))
    have HPK := Lib.hid (And.intro hp1 hk1)
    obtain ⟨a0, a1, a2, a3, a4, az⟩ := cellsE5 ha2
    obtain ⟨u0, uz⟩ := cells1 hk2
    obtain ⟨v0, vz⟩ := cells1 he2
    clear hp1 hk1 hbl ha2 hk2 he2 hN1 hN2
    dsimp only
    go_wp2_with fail
    refine leaves_cons (f := 17) (args := #[.pointer (some ⟨w.heap.size + 1, 0, none⟩), .pointer (some ⟨w.heap.size + 1 + 1, 0, none⟩)]) (by simp) (by simp [go_sem]) ?_
    refine (pidle_c (w.heap.size + 1) (w.heap.size + 1 + 1) _).mono ?_
    rintro e u' w'' ⟨rfl, rfl, rfl⟩
    refine ⟨_, results_parse _ _ w.heap.size _ _ _ _ _ _ _ rfl rfl rfl HEND.out.1 HEND.out.2.1 HEND.out.2.2.1, ?_⟩
    rw [HRE.out]
    refine ⟨_, rfl, ⟨_, _, rfl, (HPK.out.1.keep HEND.out.2.2.2.size HOKK.out).mono (okN_mono (by omega)), (HPK.out.2.keep HEND.out.2.2.2.size HOKK.out).mono (okN_mono (by omega))⟩, HBW2.out.trans (HEND.out.2.2.2.below HBW2.out.size (fun i hi => by simp at hi; omega))⟩
end Go.Proofs.YtpcajjbdlfookaaGreatDoor

/- xmltree: the reference: a document is read: what is needed. -/
namespace Go.Proofs.YtpcajjbdlfookaaGreatDoor
open Go Go.RowKit Go.Deep Go.Shelf
set_option linter.unusedVariables false
set_option linter.unusedSimpArgs false

theorem results_rpar (tm : Array Value) (V : World) (b : Nat) (c0 c1 c2 c3 c4 k z : Value) (h2 : tm.getD 2 undef = .pointer (some ⟨b, 0, none⟩)) (h3 : tm.getD 3 undef = k) (h4 : tm.getD 4 undef = z) (h : V.heap[b]? = some (.cells #[c0, c1, c2, c3, c4] 27 (0, 0))) :
    (results Tryz.f7 tm).run Tryz.prog V = .ok (.tuple #[.agg #[c0, c1, c2, c3, c4], k, z]) V := by
  obtain ⟨e0, e1, e2, e3, e4, _⟩ := cellsE5 h
  have h2' : tm[2]?.getD undef = .pointer (some ⟨b, 0, none⟩) := by simpa using h2
  have h3' : tm[3]?.getD undef = k := by simpa using h3
  have h4' : tm[4]?.getD undef = z := by simpa using h4
  simp [results, Tryz.results7, go_sem, h2', h3', h4', e0, e1, e2, e3, e4]
/-- How the reference's Parse ends. -/
def RpE (w : World) (R : Except (Nat × Nat) ET) (e : Ending) (w' : World) : Prop := match R with
  | .error x => e = .returned (.tuple #[zEl, .int .i64 (x.1 : Nat), .int .i64 (x.2 : Nat)]) ∧ Below w.heap.size w w'
  | .ok x => ∃ v, e = .returned (.tuple #[v, .int .i64 0, .int .i64 0]) ∧ ElemD (fun b => w.heap.size ≤ b) w' 24 v x ∧ Below w.heap.size w w'
/-- The root's box. -/
def RootR (wr : World) (b : Nat) : Option ET → Prop
  | none => wr.heap[b]? = some ZE
  | some x => ∃ av kv, wr.heap[b]? = some (.cells #[.string x.space, .string x.name, av, kv, .string x.text] 27 (0, 0)) ∧ PairsR (fun i => b + 1 ≤ i) wr av x.attrs ∧ KidsD (fun i => b + 1 ≤ i) wr 24 kv x.kids
structure RoI (w0 w : World) (rb eb : Nat) (bv : Value) (r : Option ET) (a : Nat) (wr : World) : Prop where
  rx : RX w0 rb bv a wr
  res : wr.heap[w.heap.size]? = some ZE
  root : RootR wr eb r
  bel : Below w.heap.size w w0
  lt : w.heap.size + 1 ≤ w0.heap.size
  re : rb < eb
theorem RootR.keep {wr w' : World} {b : Nat} (hs : wr.heap.size ≤ w'.heap.size) (hb : ∀ i, b ≤ i → i < wr.heap.size → w'.heap[i]? = wr.heap[i]?) : ∀ {r : Option ET}, RootR wr b r → RootR w' b r
  | none, h => (hb b (Nat.le_refl _) (Array.getElem?_eq_some_iff.1 h).1).trans h
  | some x, h => by
    obtain ⟨av, kv, h1, h2, h3⟩ := h
    exact ⟨av, kv, (hb b (Nat.le_refl _) (Array.getElem?_eq_some_iff.1 h1).1).trans h1, h2.keep hs (fun i h4 h5 => ⟨hb i (by omega) h5, h4⟩), h3.keep hs (fun i h4 h5 => ⟨hb i (by omega) h5, h4⟩)⟩
theorem RoI.on {w0 w wr w' : World} {rb eb : Nat} {bv : Value} {r : Option ET} {a a' : Nat} (H : RoI w0 w rb eb bv r a wr) (hx : RX w0 rb bv a' w') (hc : Chg [rb] wr w') : RoI w0 w rb eb bv r a' w' := by
  have hl := H.lt
  have hlow := H.rx.low
  have hre := H.re
  exact ⟨hx, (hc.block _ (Array.getElem?_eq_some_iff.1 H.res).1 (by simp; omega)).trans H.res, H.root.keep hc.size (fun i h1 h2 => hc.block i h2 (by simp; omega)), H.bel, H.lt, H.re⟩
theorem RoI.below {w0 w wr w' : World} {rb eb : Nat} {bv : Value} {r : Option ET} {a : Nat} (H : RoI w0 w rb eb bv r a wr) (hb : Below wr.heap.size wr w') : RoI w0 w rb eb bv r a w' := H.on (H.rx.below hb) (Chg.of_below hb)
theorem RoI.all {w0 w wr : World} {rb eb : Nat} {bv : Value} {r : Option ET} {a : Nat} (H : RoI w0 w rb eb bv r a wr) : Below w.heap.size w wr := H.bel.trans (H.rx.bel.mono H.bel.size)
/-- The root is stored. -/
theorem RoI.put {w0 w wr : World} {rb eb : Nat} {bv : Value} {a : Nat} (H : RoI w0 w rb eb bv none a wr) {x : ET} {av kv : Value} (hp : PairsR (fun i => eb + 1 ≤ i) wr av x.attrs) (hk : KidsD (fun i => eb + 1 ≤ i) wr 24 kv x.kids) :
    RoI w0 w rb eb bv (some x) a (put5 wr eb (.string x.space) (.string x.name) av kv (.string x.text)) := by
  have hl := H.lt
  have hlow := H.rx.low
  have hre := H.re
  have hz : wr.heap[eb]? = some ZE := H.root
  have hc := put5_chg wr eb (.string x.space) (.string x.name) av kv (.string x.text)
  exact ⟨H.rx.away hc (by omega) (by omega), (hc.block _ (Array.getElem?_eq_some_iff.1 H.res).1 (by simp; omega)).trans H.res, ⟨av, kv, put5_at hz _ _ _ _ _, hp.keep hc.size (fun i h1 h2 => ⟨hc.block i h2 (by simp; omega), h1⟩), hk.keep hc.size (fun i h1 h2 => ⟨hc.block i h2 (by simp; omega), h1⟩)⟩, H.bel, H.lt, H.re⟩
/-- Nothing but an error is given back. -/
theorem RoI.bad {w0 w wr V : World} {rb eb : Nat} {bv : Value} {r : Option ET} {a : Nat} (H : RoI w0 w rb eb bv r a wr) (hv : Below (put5 wr w.heap.size (.string ⟨#[]⟩) (.string ⟨#[]⟩) (.slice none 0 0) (.slice none 0 0) (.string ⟨#[]⟩)).heap.size (put5 wr w.heap.size (.string ⟨#[]⟩) (.string ⟨#[]⟩) (.slice none 0 0) (.slice none 0 0) (.string ⟨#[]⟩)) V) :
    V.heap[w.heap.size]? = some (.cells #[.string ⟨#[]⟩, .string ⟨#[]⟩, .slice none 0 0, .slice none 0 0, .string ⟨#[]⟩] 27 (0, 0)) ∧ Below w.heap.size w V := by
  have h5 := put5_at H.res (.string ⟨#[]⟩) (.string ⟨#[]⟩) (.slice none 0 0) (.slice none 0 0) (.string ⟨#[]⟩)
  have hc := put5_chg wr w.heap.size (.string ⟨#[]⟩) (.string ⟨#[]⟩) (.slice none 0 0) (.slice none 0 0) (.string ⟨#[]⟩)
  have h6 := H.all.trans (hc.below H.all.size (fun i hi => by simp at hi; omega))
  exact ⟨(hv.block _ (Array.getElem?_eq_some_iff.1 h5).1).trans h5, h6.trans (hv.mono h6.size)⟩
theorem RoI.give {w0 w wr : World} {rb eb : Nat} {bv : Value} {a : Nat} {x : ET} (H : RoI w0 w rb eb bv (some x) a wr) :
    ∃ av kv, (∃ p c n, av = .slice p n c) ∧ (∃ p c n, kv = .slice p n c) ∧ wr.heap[eb]? = some (.cells #[.string x.space, .string x.name, av, kv, .string x.text] 27 (0, 0)) ∧
      ∀ ob, ((put5 wr w.heap.size (.string x.space) (.string x.name) av kv (.string x.text)).alloc ob).heap[w.heap.size]? = some (.cells #[.string x.space, .string x.name, av, kv, .string x.text] 27 (0, 0)) ∧
        RpE w (.ok x) (.returned (.tuple #[.agg #[.string x.space, .string x.name, av, kv, .string x.text], .int .i64 0, .int .i64 0])) ((put5 wr w.heap.size (.string x.space) (.string x.name) av kv (.string x.text)).alloc ob) := by
  have hl := H.lt
  have hlow := H.rx.low
  have hre := H.re
  obtain ⟨av, kv, h0, h1, h2⟩ := H.root
  obtain ⟨p1, c1, hf1, -⟩ := h1.form
  obtain ⟨p2, c2, hf2, -⟩ := h2.form
  have hc := put5_chg wr w.heap.size (.string x.space) (.string x.name) av kv (.string x.text)
  have h5 := put5_at H.res (.string x.space) (.string x.name) av kv (.string x.text)
  refine ⟨av, kv, ⟨_, _, _, hf1⟩, ⟨_, _, _, hf2⟩, h0, fun ob => ?_⟩
  have hbe : Below (put5 wr w.heap.size (.string x.space) (.string x.name) av kv (.string x.text)).heap.size (put5 wr w.heap.size (.string x.space) (.string x.name) av kv (.string x.text)) ((put5 wr w.heap.size (.string x.space) (.string x.name) av kv (.string x.text)).alloc ob) := (Below.refl _ _).alloc (Nat.le_refl _) ob
  have h6 := H.all.trans (hc.below H.all.size (fun i hi => by simp at hi; omega))
  exact ⟨(hbe.block _ (Array.getElem?_eq_some_iff.1 h5).1).trans h5, _, rfl, ⟨av, kv, rfl, (h1.keep (ok' := fun b => w.heap.size ≤ b) hc.size (fun i h3 h4 => ⟨hc.block i h4 (by simp; omega), by omega⟩)).below hbe, (h2.keep (ok' := fun b => w.heap.size ≤ b) hc.size (fun i h3 h4 => ⟨hc.block i h4 (by simp; omega), by omega⟩)).below hbe⟩, h6.trans (hbe.mono h6.size)⟩
end Go.Proofs.YtpcajjbdlfookaaGreatDoor
