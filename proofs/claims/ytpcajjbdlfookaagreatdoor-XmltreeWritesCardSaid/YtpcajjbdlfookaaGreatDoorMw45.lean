/- xmltree: an element's beginning, of a tag without attributes and without a prefix, where nothing is declared. -/
import Derived.Test.YtpcajjbdlfookaaGreatDoorMw44
import Derived.Test.YtpcajjbdlfookaaGreatDoorMw12
namespace Go.Proofs.YtpcajjbdlfookaaGreatDoor
open Go Go.RowKit Go.Deep Go.Shelf
set_option linter.unusedVariables false
set_option linter.unusedSimpArgs false

set_option maxRecDepth 100000 in
set_option maxHeartbeats 2000000 in
theorem space0_c {w0 w : World} {pb : Nat} {p : Option Addr} {n c a : Nat} (h : PS w0 pb (.slice p n c) (.slice none 0 0) a w) (k0 t0 m0 x0 f0 s : Value) :
    Calls Tryz.prog 91 #[.pointer (some ⟨pb, 0, none⟩), .agg #[k0, t0, s, m0, x0, f0], .string ⟨#[]⟩] w fun e w' => e = .returned (.string ⟨#[]⟩) ∧ Below w.heap.size w w' := by
  have hpl := h.lt
  obtain ⟨y0, y1, y2, yz⟩ := cellsP3 h.box
  have HB := Lib.hid (box_belT w (.cells #[k0, t0, s, m0, x0, f0] 69))
  clear h
  go_enter Tryz.func91, Tryz.ntmps91
  go_wp2_with fail
  refine wp_loop_rounds 1 ?_
  rw [rounds_succ]
  go_wp2_with fail
  go_ret
  exact ⟨rfl, HB.out⟩
theorem twE_false {P : Prop} {e : Ending} (h : TwE P e) (hn : ¬ P) : e = .returned (.bool false) := by
  rcases h with ⟨h1, _⟩ | ⟨_, h2⟩
  · exact absurd h1 hn
  · exact h2
set_option maxRecDepth 100000 in
set_option maxHeartbeats 4000000 in
theorem begin0_c {w0 w : World} {pb : Nat} {p : Option Addr} {n c a : Nat} (h : PS w0 pb (.slice p n c) (.slice none 0 0) a w) (k0 m0 x0 f0 s : Value) (nm : List UInt8) (hnm : (58 : UInt8) ∉ nm) (hnl : nm.length ≤ 1048576) (hs : AtsIs w s []) :
    Calls Tryz.prog 61 #[.pointer (some ⟨pb, 0, none⟩), .agg #[k0, .string ⟨nm.toArray⟩, s, m0, x0, f0]] w fun e w' => e = .returned (.agg #[.string ⟨#[]⟩, .string ⟨nm.toArray⟩, .slice none 0 0, .slice none 0 0, .string ⟨#[]⟩]) ∧ Below w.heap.size w w' := by
  obtain ⟨ps, cs, hsv, -⟩ := hs.form
  subst hsv
  obtain ⟨S, hS⟩ : ∃ S : ByteArray, S = ⟨nm.toArray⟩ := ⟨_, rfl⟩
  have hSd : S.data.toList = nm := by rw [hS]
  have hSs : S.size ≤ 140737488355328 := by
    have : S.data.toList.length = S.size := Array.length_toList
    rw [hSd] at this
    omega
  have HSP := Lib.hid (fun W => split_c W S hSs)
  rw [hSd, show splM nm = ([], nm) from if_neg hnm] at HSP
  dsimp only at HSP
  rw [← hS] at HSP ⊢
  have hb1 := box_belT w (.cells #[k0, .string S, .slice ps 0 cs, m0, x0, f0] 69)
  have hb2 := hb1.trans ((box_belT (w.alloc (.cells #[k0, .string S, .slice ps 0 cs, m0, x0, f0] 69)) ZE).mono hb1.size)
  obtain ⟨W0, hW0⟩ : ∃ W0, W0 = (w.alloc (.cells #[k0, .string S, .slice ps 0 cs, m0, x0, f0] 69)).alloc ZE := ⟨_, rfl⟩
  have ht0 : W0.heap[w.heap.size]? = some (.cells #[k0, .string S, .slice ps 0 cs, m0, x0, f0] 69 (0, 0)) := hW0 ▸ ((box_belT _ ZE).block _ (by simp)).trans (heap_alloc_new w _)
  have hz0 : W0.heap[w.heap.size + 1]? = some ZE := by
    have := heap_alloc_new (w.alloc (.cells #[k0, .string S, .slice ps 0 cs, m0, x0, f0] 69)) ZE
    rw [World.size_alloc] at this
    rw [hW0]
    exact this
  rw [← hW0] at hb2
  have hsz0 : W0.heap.size = w.heap.size + 2 := by rw [hW0]; simp
  have HSZ0 := Lib.hid hsz0
  have HT0 := Lib.hid ht0
  have HZ0 := Lib.hid hz0
  have HB2 := Lib.hid hb2
  have HS := Lib.hid hs
  have HP := Lib.hid h
  have HWR := Lib.hid (fun (W : World) (hb : Below W0.heap.size W0 W) => written_c W k0 (.string S) m0 x0 f0 (.slice ps 0 cs) [] (hs.below (hb2.trans (hb.mono hb2.size))) (by simp))
  have HW0 := Lib.hid hW0
  obtain ⟨t0, t1, t2, t3, t4, t5, tz⟩ := cellsE6 ht0
  clear hS hSd hSs hb1 hb2 ht0 hz0 hs h hW0 hsz0
  go_enter Tryz.func61, Tryz.ntmps61
  go_wp2_with fail
  rw [← HW0.out]
  refine (HWR.out _ (Below.refl _ _)).mono ?_
  rintro e w1 ⟨v1, rfl, hown1, hb1⟩
  have hrd := RdS.ofRow (l := []) hown1
  clear t0 t1 t2 t3 t4 t5 tz
  obtain ⟨a1, c1, hv1, -⟩ := id hrd
  have HTW := Lib.hid (twiceS_c w1 v1 [] hrd)
  have HB1 := Lib.hid hb1
  clear hown1 hb1 hrd
  subst hv1
  go_wp2_with fail
  refine HTW.out.mono ?_
  rintro e w2 ⟨htw, hb2⟩
  obtain rfl := twE_false htw (by simp)
  have HB02 := Lib.hid (HB1.out.trans (hb2.mono HB1.out.size))
  obtain ⟨t0, t1, t2, t3, t4, t5, tz⟩ := cellsE6 ((HB02.out.block w.heap.size (by have := HSZ0.out; omega)).trans HT0.out)
  clear htw hb2
  go_wp2_with fail
  refine wp_loop_rounds 1 ?_
  rw [rounds_succ]
  go_wp2_with fail
  refine (HSP.out _).mono ?_
  rintro e w3 ⟨rfl, hb3⟩
  have HB03 := Lib.hid (HB02.out.trans (hb3.mono HB02.out.size))
  have HSC := Lib.hid (space0_c (HP.out.below (HB2.out.trans (HB03.out.mono HB2.out.size))) k0 (.string S) m0 x0 f0 (.slice ps 0 cs))
  clear hb3 t0 t1 t2 t3 t4 t5 tz
  obtain ⟨t0, t1, t2, t3, t4, t5, tz⟩ := cellsE6 ((HB03.out.block w.heap.size (by have := HSZ0.out; omega)).trans HT0.out)
  go_wp2_with fail
  refine HSC.out.mono ?_
  rintro e w4 ⟨rfl, hb4⟩
  have HB04 := Lib.hid (HB03.out.trans (hb4.mono HB03.out.size))
  clear hb4 t0 t1 t2 t3 t4 t5 tz
  obtain ⟨t0, t1, t2, t3, t4, t5, tz⟩ := cellsE6 ((HB04.out.block w.heap.size (by have := HSZ0.out; omega)).trans HT0.out)
  have hlt4 : w.heap.size < w4.heap.size := by have := HB04.out.size; have := HSZ0.out; omega
  have hbe := box_belT w4 (.cells #[.string ⟨#[]⟩, .string S, .slice none 0 0, .slice none 0 0, .string ⟨#[]⟩] 27)
  have HE0 := Lib.hid (heap_alloc_new w4 (.cells #[.string ⟨#[]⟩, .string S, .slice none 0 0, .slice none 0 0, .string ⟨#[]⟩] 27))
  have HBE := Lib.hid hbe
  obtain ⟨r0, r1, r2, r3, r4, rz⟩ := cellsE5 HE0.out
  have HKY := Lib.hid (keys_c (w4.alloc (.cells #[.string ⟨#[]⟩, .string S, .slice none 0 0, .slice none 0 0, .string ⟨#[]⟩] 27)) _ [] (PairsR.nil Any _) (by simp))
  clear hbe
  go_wp2_with fail
  refine wp_loop_rounds 1 ?_
  rw [rounds_succ]
  go_wp2_with fail
  refine HKY.out.mono ?_
  rintro e w5 ⟨v5, rfl, hown5, hb5⟩
  have hrd := RdK.ofRow (l := []) hown5
  obtain ⟨a5, c5, hv5, -⟩ := id hrd
  have HTK := Lib.hid (twiceK_c w5 v5 [] hrd)
  have HB5 := Lib.hid hb5
  clear hown5 hb5 hrd t0 t1 t2 t3 t4 t5 tz r0 r1 r2 r3 r4 rz
  subst hv5
  go_wp2_with fail
  refine HTK.out.mono ?_
  rintro e w6 ⟨htw, hb6⟩
  obtain rfl := twE_false htw (by simp)
  have HB6 := Lib.hid (HB5.out.trans (hb6.mono HB5.out.size))
  have HB06 := Lib.hid (HB04.out.trans ((HBE.out.trans (HB6.out.mono HBE.out.size)).mono HB04.out.size))
  obtain ⟨r0, r1, r2, r3, r4, rz⟩ := cellsE5 ((HB6.out.block w4.heap.size (by simp)).trans HE0.out)
  have hz6 := (HB06.out.block (w.heap.size + 1) (by have := HSZ0.out; omega)).trans HZ0.out
  obtain ⟨z0, z1, z2, z3, z4, zz⟩ := cellsE5 hz6
  have HEND := Lib.hid (put5_at hz6 (.string ⟨#[]⟩) (.string S) (.slice none 0 0) (.slice none 0 0) (.string ⟨#[]⟩))
  have HBN := Lib.hid ((put5_chg w6 (w.heap.size + 1) (.string ⟨#[]⟩) (.string S) (.slice none 0 0) (.slice none 0 0) (.string ⟨#[]⟩)))
  clear htw hb6 hz6
  go_wp2_with fail
  refine bodyPost_ret (results_cell_row Tryz.results61 _ _ (w.heap.size + 1) 27 _ (0, 0) _ rfl HEND.out Tryz.underlying27 rfl infoE5) rfl ?_
  exact ⟨rfl, ((Chg.of_below (S := []) (HB2.out.trans (HB06.out.mono HB2.out.size))).then HBN.out (fun i hi => by simp at hi; subst hi; exact .inr (by omega))).below (Nat.le_refl _) (by simp)⟩
end Go.Proofs.YtpcajjbdlfookaaGreatDoor

/- xmltree: an element's content that is one text. -/
namespace Go.Proofs.YtpcajjbdlfookaaGreatDoor
open Go Go.RowKit Go.Deep Go.Shelf
set_option linter.unusedVariables false
set_option linter.unusedSimpArgs false

theorem BI.chg {b pb : Nat} {l : List UInt8} {w w' : World} (h : BI b b l w) (hk : Chg [pb] w w') (hp : pb < b) : BI b b l w' := by
  have key : ∀ p, Lib.BuilderAt 131 5 b b p (bcells l) w → Lib.BuilderAt 131 5 b b p (bcells l) w' := by
    rintro p ⟨h1, v, h2, h3, h4⟩
    refine ⟨h1, v, (hk.block b (Array.getElem?_eq_some_iff.1 h2).1 (by simp; omega)).trans h2, rowT_keep h3 (fun g hg => hk.block g (rowT_lt h3 g hg).2 (by have := (rowT_lt h3 g hg).1; simp; omega)), h4⟩
  exact h.imp (key _) (key _)
theorem BI.belowT {b : Nat} {l : List UInt8} {w w' : World} (h : BI b b l w) (hk : Below w.heap.size w w') : BI b b l w' := by
  have key : ∀ p, Lib.BuilderAt 131 5 b b p (bcells l) w → Lib.BuilderAt 131 5 b b p (bcells l) w' := by
    rintro p ⟨h1, v, h2, h3, h4⟩
    exact ⟨h1, v, (hk.block b (Array.getElem?_eq_some_iff.1 h2).1).trans h2, rowT_below h3 hk, h4⟩
  exact h.imp (key _) (key _)
theorem PS.belowB {w0 : World} {pb : Nat} {bv sv : Value} {a : Nat} {w w' : World} {B : Nat} (h : PS w0 pb bv sv a w) (hB : pb < B) (hb : Below B w w') : PS w0 pb bv sv a w' := ⟨h.bel.trans (hb.mono (by have := h.low; omega)), h.low, (hb.block _ hB).trans h.box⟩
theorem Chg.thenB {S : List Nat} {w w1 w2 : World} {B : Nat} (h : Chg S w w1) (hb : Below B w1 w2) (hB : w.heap.size ≤ B) : Chg S w w2 := ⟨hb.os.trans h.os, hb.tape.trans h.tape, hb.output.trans h.output, Nat.le_trans h.size hb.size, fun i hi hn => (hb.block i (by omega)).trans (h.block i hi hn)⟩
/-- How a call ends that gives nothing. -/
def ConE (w0 w : World) (pb eb : Nat) (bv sv : Value) (k : Nat) (c0 c1 c2 : Value) (tx : List UInt8) (e : Ending) (w' : World) : Prop :=
  e = .returned (.tuple #[]) ∧ PS w0 pb bv sv k w' ∧ w'.heap[eb]? = some (.cells #[c0, c1, c2, .slice none 0 0, .string ⟨tx.toArray⟩] 27 (0, 0)) ∧ Chg [pb, eb] w w'
set_option maxRecDepth 100000 in
set_option maxHeartbeats 8000000 in
theorem content0_c {w0 w : World} (hw0 : BW w0) {pb eb : Nat} {p : Option Addr} {n c : Nat} {xs nm tx : List UInt8} {a k1 q1 r1 k2 q2 r2 : Nat} (hr : Rd w0 (.slice p n c) xs) (hl : xs.length ≤ 1048576) (h : PS w0 pb (.slice p n c) (.slice none 0 0) a w)
    (hs1 : skA insP xs a = (q1, r1)) (hn1 : nxt insP opnP cloP xs q1 = (⟨3, [], [], false, tx⟩, k1, 0)) (hs2 : skA insP xs k1 = (q2, r2)) (hn2 : nxt insP opnP cloP xs q2 = (⟨2, nm, [], false, []⟩, k2, 0)) (htx : tx.length ≤ 33554432)
    (k0 s m0 x0 f0 z4 c0 c1 : Value) (c2 : Value) (o : Int) (he : w.heap[eb]? = some (.cells #[c0, c1, c2, .slice none 0 0, z4] 27 (0, 0))) (hne : eb ≠ pb) (hlow : w0.heap.size ≤ eb) :
    Calls Tryz.prog 62 #[.pointer (some ⟨pb, 0, none⟩), .pointer (some ⟨eb, 0, none⟩), .agg #[k0, .string ⟨nm.toArray⟩, s, m0, x0, f0], .int .i64 o] w (ConE w0 w pb eb (.slice p n c) (.slice none 0 0) k2 c0 c1 c2 tx) := by
  obtain ⟨S, hS⟩ : ∃ S : ByteArray, S = ⟨nm.toArray⟩ := ⟨_, rfl⟩
  obtain ⟨U, hU⟩ : ∃ U : ByteArray, U = ⟨tx.toArray⟩ := ⟨_, rfl⟩
  have hpl := h.lt
  have hel := (Array.getElem?_eq_some_iff.1 he).1
  obtain ⟨W0, hW0⟩ : ∃ W0, W0 = (w.alloc (.cells #[k0, .string S, s, m0, x0, f0] 69)).alloc (.cells #[.pointer none, .slice none 0 0] 131) := ⟨_, rfl⟩
  have hb2 : Below w.heap.size w W0 := hW0 ▸ ((box_belT w _).trans ((box_belT _ _).mono (by simp)))
  have hsz0 : W0.heap.size = w.heap.size + 2 := by rw [hW0]; simp
  have ht0 : W0.heap[w.heap.size]? = some (.cells #[k0, .string S, s, m0, x0, f0] 69 (0, 0)) := hW0 ▸ ((box_belT _ _).block _ (by simp)).trans (heap_alloc_new w _)
  have hbi : BI (w.heap.size + 1) (w.heap.size + 1) [] W0 := by
    refine .inl ⟨Nat.le_refl _, .slice none 0 0, ?_, World.ownsRow_nil _ _ _ _, by simp [Value.ownBlock]⟩
    have := heap_alloc_new (w.alloc (.cells #[k0, .string S, s, m0, x0, f0] 69)) (.cells #[.pointer none, .slice none 0 0] 131)
    rw [World.size_alloc] at this
    rw [hW0]
    exact this
  have HN1 := Lib.hid (pnext_c hw0 hr hl (h.below hb2) hs1 hn1)
  have HN2 := Lib.hid (fun (W : World) (hW : PS w0 pb (.slice p n c) (.slice none 0 0) k1 W) => pnext_c hw0 hr hl hW hs2 hn2)
  have HB2 := Lib.hid hb2
  have HT0 := Lib.hid ht0
  have HBI := Lib.hid hbi
  have HSZ0 := Lib.hid hsz0
  have HW0 := Lib.hid hW0
  have HE := Lib.hid he
  have HS := Lib.hid hS
  have HU := Lib.hid hU
  have HLOW := Lib.hid (And.intro h.low hlow)
  unfold ConE
  rw [← hS, ← hU]
  clear hb2 ht0 hbi hsz0 hW0 he hw0 hr hl h hs1 hn1 hs2 hn2 hS hU
  go_enter Tryz.func62, Tryz.ntmps62
  go_wp2_with fail
  refine wp_loop_rounds 2 ?_
  rw [rounds_succ]
  go_wp2_with fail
  rw [← HW0.out]
  refine HN1.out.mono ?_
  rintro e w1 ⟨s1, rfl, hat1, hps1, hc1⟩
  obtain ⟨ps1, cs1, hsv1, -⟩ := hat1.form
  subst hsv1
  dsimp only
  rw [← HU.out]
  have hsz1 := hc1.size
  have HSZ1 := Lib.hid hsz1
  have hbi1 := (HBI.out.chg hc1 (by omega)).belowT (box_belT w1 (.cells #[.int .i64 (3 : Nat), .string ⟨#[]⟩, .slice ps1 0 cs1, .bool false, .string U, .int .i64 q1] 69))
  have HWS := Lib.hid (wstring _ _ _ [] tx hbi1 (by simp) htx (by have := HSZ0.out; simp; omega))
  rw [← HU.out] at HWS
  obtain ⟨g0, g1, g2, g3, g4, g5, gz⟩ := cellsE6 (heap_alloc_new w1 (.cells #[.int .i64 (3 : Nat), .string ⟨#[]⟩, .slice ps1 0 cs1, .bool false, .string U, .int .i64 q1] 69))
  have HP1 := Lib.hid hps1
  have HC1 := Lib.hid hc1
  clear hat1 hps1 hc1 hbi1
  go_wp2_with fail
  refine HWS.out.mono ?_
  rintro e w2 ⟨⟨z, rfl⟩, hba2, hb2⟩
  have hbw1 := box_belT w1 (.cells #[.int .i64 (3 : Nat), .string ⟨#[]⟩, .slice ps1 0 cs1, .bool false, .string U, .int .i64 q1] 69)
  have hsz2 := hb2.size
  have hps2 := (HP1.out.below hbw1).belowB (by omega) hb2
  have HB12 := Lib.hid (show ∀ i, i < w.heap.size + 1 → i ≠ pb → w2.heap[i]? = W0.heap[i]? from fun i hi hp => (hb2.block i hi).trans ((hbw1.block i (by have := HSZ0.out; omega)).trans (HC1.out.block i (by have := HSZ0.out; omega) (by simpa using hp))))
  have HPS2 := Lib.hid hps2
  have HBA2 := Lib.hid hba2
  have HSZ2 := Lib.hid (show w1.heap.size + 1 ≤ w2.heap.size from by simpa using hsz2)
  have HCW2 := Lib.hid ((((Chg.of_below (S := [pb]) HB2.out).then HC1.out (fun i hi => .inl hi)).alloc' _).thenB hb2 (by omega))
  clear hb2 hba2 hbw1 hsz2 hps2 g0 g1 g2 g3 g4 g5 gz
  go_wp2_with fail
  rw [rounds_succ]
  go_wp2_with fail
  refine (HN2.out _ HPS2.out).mono ?_
  rintro e w3 ⟨s3, rfl, hat3, hps3, hc3⟩
  obtain ⟨ps3, cs3, hsv3, -⟩ := hat3.form
  subst hsv3
  dsimp only
  rw [← HS.out]
  have hsz3 := hc3.size
  have HCW3 := Lib.hid (HCW2.out.then hc3 (fun i hi => .inl hi))
  have HB13 := Lib.hid (show ∀ i, i < w.heap.size + 1 → i ≠ pb → w3.heap[i]? = W0.heap[i]? from fun i hi hp => (hc3.block i (by have := HSZ0.out; have := HSZ2.out; omega) (by simpa using hp)).trans (HB12.out i hi hp))
  have hbi3 := (((show BI _ _ _ _ from .inr HBA2.out).chg hc3 (by omega)).belowT (box_belT w3 (.cells #[.int .i64 (2 : Nat), .string S, .slice ps3 0 cs3, .bool false, .string ⟨#[]⟩, .int .i64 q2] 69)))
  have HST := Lib.hid (btext _ _ _ _ hbi3 (by have := HSZ0.out; have := HSZ2.out; simp; omega))
  rw [List.nil_append, ← HU.out] at HST
  obtain ⟨g0, g1, g2, g3, g4, g5, gz⟩ := cellsE6 (heap_alloc_new w3 (.cells #[.int .i64 (2 : Nat), .string S, .slice ps3 0 cs3, .bool false, .string ⟨#[]⟩, .int .i64 q2] 69))
  have ht3 := (HB13.out w.heap.size (by omega) (by omega)).trans HT0.out
  obtain ⟨t0, t1, t2, t3, t4, t5, tz⟩ := cellsE6 ht3
  have htl3 := (Array.getElem?_eq_some_iff.1 ht3).1
  have HPS3 := Lib.hid hps3
  have HSZ3 := Lib.hid hsz3
  clear hat3 hps3 hc3 hbi3 ht3 hsz3
  go_wp2_with fail
  refine HST.out.mono ?_
  rintro e w4 ⟨rfl, hb4⟩
  have hbw3 := box_belT w3 (.cells #[.int .i64 (2 : Nat), .string S, .slice ps3 0 cs3, .bool false, .string ⟨#[]⟩, .int .i64 q2] 69)
  have hps4 := (HPS3.out.below hbw3).belowB (by omega) hb4
  have HB14 := Lib.hid (show ∀ i, i < w.heap.size + 1 → i ≠ pb → w4.heap[i]? = W0.heap[i]? from fun i hi hp => (hb4.block i hi).trans ((hbw3.block i (by have := HSZ0.out; have := HSZ2.out; have := HSZ3.out; omega)).trans (HB13.out i hi hp)))
  have he4 := ((HB14.out eb (by omega) hne).trans (HB2.out.block eb hel)).trans HE.out
  obtain ⟨e0, e1, e2, e3, e4, ez⟩ := cellsE5 he4
  have HPS4 := Lib.hid hps4
  have HCW4 := Lib.hid ((HCW3.out.alloc' _).thenB hb4 (by omega))
  have HE4 := Lib.hid he4
  have hsz4 := hb4.size
  have HSZ4 := Lib.hid (show w.heap.size + 1 ≤ w4.heap.size from by have := HSZ0.out; have := HSZ2.out; have := HSZ3.out; simp at hsz4; omega)
  clear hb4 hbw3 hps4 he4 hsz4 g0 g1 g2 g3 g4 g5 gz t0 t1 t2 t3 t4 t5 tz
  go_wp2_with fail
  refine bodyPost_ret (results_none rfl _ _ _) rfl ?_
  refine ⟨rfl, ⟨HPS4.out.bel.setCell (p := ⟨eb, 4, none⟩) HLOW.out.2 _, HPS4.out.low, (Below.heap_setCell _ _ _ _ (by simpa using Ne.symm hne)).trans HPS4.out.box⟩, by rw [block_set _ _ _ _ _ _ _ HE4.out]; rfl, ?_⟩
  exact (HCW4.out.mono (fun i hi => by simp at hi; simp [hi])).set' eb 4 _ (.inl (by simp))
end Go.Proofs.YtpcajjbdlfookaaGreatDoor

/- xmltree: an element that holds one text; a document of one element. -/
namespace Go.Proofs.YtpcajjbdlfookaaGreatDoor
open Go Go.RowKit Go.Deep Go.Shelf
set_option linter.unusedVariables false
set_option linter.unusedSimpArgs false

theorem PS.respace {w0 : World} {pb : Nat} {bv sv : Value} {a : Nat} {w : World} (h : PS w0 pb bv sv a w) (u : Value) : PS w0 pb bv u a (w.setCell ⟨pb, 2, none⟩ u) :=
  ⟨h.bel.setCell (p := ⟨pb, 2, none⟩) h.low _, h.low, by rw [block_set _ _ _ _ _ _ _ h.box]; rfl⟩
theorem PS.chgT {w0 : World} {pb b : Nat} {bv sv : Value} {a : Nat} {w w' : World} (h : PS w0 pb bv sv a w) (hc : Chg [b] w w') (hn : pb ≠ b) (hb : w0.heap.size ≤ b) : PS w0 pb bv sv a w' :=
  ⟨h.bel.trans (hc.below (B := w0.heap.size) h.bel.size (fun i hi => by simp at hi; subst hi; exact hb)), h.low, (hc.block pb h.lt (by simpa using hn)).trans h.box⟩
/-- How an element ends. -/
def ElE (w0 w : World) (pb : Nat) (bv sv : Value) (k : Nat) (nm tx : List UInt8) (e : Ending) (w' : World) : Prop :=
  e = .returned (.agg #[.string ⟨#[]⟩, .string ⟨nm.toArray⟩, .slice none 0 0, .slice none 0 0, .string ⟨tx.toArray⟩]) ∧ PS w0 pb bv sv k w' ∧ Chg [pb] w w'
set_option maxRecDepth 100000 in
set_option maxHeartbeats 8000000 in
theorem element0_c {w0 w : World} (hw0 : BW w0) {pb : Nat} {p : Option Addr} {n c : Nat} {xs nm tx : List UInt8} {a k1 q1 r1 k2 q2 r2 : Nat} (hr : Rd w0 (.slice p n c) xs) (hl : xs.length ≤ 1048576) (h : PS w0 pb (.slice p n c) (.slice none 0 0) a w)
    (hs1 : skA insP xs a = (q1, r1)) (hn1 : nxt insP opnP cloP xs q1 = (⟨3, [], [], false, tx⟩, k1, 0)) (hs2 : skA insP xs k1 = (q2, r2)) (hn2 : nxt insP opnP cloP xs q2 = (⟨2, nm, [], false, []⟩, k2, 0)) (htx : tx.length ≤ 33554432)
    (hnm : (58 : UInt8) ∉ nm) (hnl : nm.length ≤ 1048576) (k0 s x0 f0 : Value) (hs : AtsIs w s []) :
    Calls Tryz.prog 31 #[.pointer (some ⟨pb, 0, none⟩), .agg #[k0, .string ⟨nm.toArray⟩, s, .bool false, x0, f0], .int .i64 0] w (ElE w0 w pb (.slice p n c) (.slice none 0 0) k2 nm tx) := by
  obtain ⟨ps, cs, hsv, -⟩ := hs.form
  subst hsv
  obtain ⟨W0, hW0⟩ : ∃ W0, W0 = (w.alloc (.cells #[k0, .string ⟨nm.toArray⟩, .slice ps 0 cs, .bool false, x0, f0] 69)).alloc ZE := ⟨_, rfl⟩
  have hb2 : Below w.heap.size w W0 := hW0 ▸ ((box_belT w _).trans ((box_belT _ _).mono (by simp)))
  have hsz0 : W0.heap.size = w.heap.size + 2 := by rw [hW0]; simp
  have ht0 : W0.heap[w.heap.size]? = some (.cells #[k0, .string ⟨nm.toArray⟩, .slice ps 0 cs, .bool false, x0, f0] 69 (0, 0)) := hW0 ▸ ((box_belT _ _).block _ (by simp)).trans (heap_alloc_new w _)
  have hz0 : W0.heap[w.heap.size + 1]? = some ZE := by
    have := heap_alloc_new (w.alloc (.cells #[k0, .string ⟨nm.toArray⟩, .slice ps 0 cs, .bool false, x0, f0] 69)) ZE
    rw [World.size_alloc] at this
    rw [hW0]
    exact this
  have hp0 := h.below hb2
  have HBG := Lib.hid (begin0_c hp0 k0 (.bool false) x0 f0 (.slice ps 0 cs) nm hnm hnl (hs.below hb2))
  have HCT := Lib.hid (fun (W : World) (eb : Nat) (hW : PS w0 pb (.slice p n c) (.slice none 0 0) a W) (he : W.heap[eb]? = some (.cells #[.string ⟨#[]⟩, .string ⟨nm.toArray⟩, .slice none 0 0, .slice none 0 0, .string ⟨#[]⟩] 27 (0, 0))) (hne : eb ≠ pb) (hlow : w0.heap.size ≤ eb) =>
    content0_c hw0 hr hl hW hs1 hn1 hs2 hn2 htx k0 (.slice ps 0 cs) (.bool false) x0 f0 _ _ _ _ 0 he hne hlow)
  obtain ⟨S, hS⟩ : ∃ S : ByteArray, S = ⟨nm.toArray⟩ := ⟨_, rfl⟩
  obtain ⟨U, hU⟩ : ∃ U : ByteArray, U = ⟨tx.toArray⟩ := ⟨_, rfl⟩
  unfold ConE at HCT
  unfold ElE
  rw [← hS] at ht0 hW0 HBG HCT ⊢
  rw [← hU] at HCT ⊢
  have hpl := h.lt
  have HP0 := Lib.hid hp0
  have HB2 := Lib.hid hb2
  have HSZ0 := Lib.hid hsz0
  have HT0 := Lib.hid ht0
  have HZ0 := Lib.hid hz0
  have HW0 := Lib.hid hW0
  have HPP := Lib.hid h
  have hpl0 : pb < W0.heap.size := by omega
  obtain ⟨t0, t1, t2, t3, t4, t5, tz⟩ := cellsE6 ht0
  obtain ⟨y0, y1, y2, yz⟩ := cellsP3 hp0.box
  clear hb2 hW0 hw0 hr hl h hs1 hn1 hs2 hn2 hS hU hs hp0 ht0 hz0
  go_enter Tryz.func31, Tryz.ntmps31
  go_upto_region 1 with (fail)
  rw [← HW0.out]
  go_wp2_with fail
  refine HBG.out.mono ?_
  rintro e w1 ⟨rfl, hb1⟩
  have hps1 := HP0.out.below hb1
  have hbe := box_belT w1 (.cells #[.string ⟨#[]⟩, .string S, .slice none 0 0, .slice none 0 0, .string ⟨#[]⟩] 27)
  have HC2 := Lib.hid (HCT.out (w1.alloc (.cells #[.string ⟨#[]⟩, .string S, .slice none 0 0, .slice none 0 0, .string ⟨#[]⟩] 27)) w1.heap.size (hps1.below hbe) (heap_alloc_new w1 _) (by have := hps1.lt; omega) (by have := hps1.lt; have := hps1.low; omega))
  have ht1 := (hb1.block w.heap.size (by omega)).trans HT0.out
  have hz1 := (hb1.block (w.heap.size + 1) (by omega)).trans HZ0.out
  have hsz1 := hb1.size
  have htl1 : w.heap.size < w1.heap.size := by omega
  have HT1 := Lib.hid ht1
  have HZ1 := Lib.hid hz1
  have HB1 := Lib.hid (HB2.out.trans (hb1.mono HB2.out.size))
  clear t0 t1 t2 t3 t4 t5 tz y0 y1 y2 yz
  obtain ⟨t0, t1, t2, t3, t4, t5, tz⟩ := cellsE6 ht1
  clear hps1 hbe ht1 hz1 hb1
  go_wp2_with fail
  refine HC2.out.mono ?_
  rintro e w2 ⟨rfl, hps2, he2, hc2⟩
  have hba := box_belT w1 (.cells #[.string ⟨#[]⟩, .string S, .slice none 0 0, .slice none 0 0, .string ⟨#[]⟩] 27)
  have hz2 := (hc2.block (w.heap.size + 1) (by simp; omega) (by simp; omega)).trans ((hba.block _ (by omega)).trans HZ1.out)
  have HCW := Lib.hid (((Chg.of_below (S := [pb]) HB1.out).alloc' (.cells #[.string ⟨#[]⟩, .string S, .slice none 0 0, .slice none 0 0, .string ⟨#[]⟩] 27)).then hc2 (fun i hi => by simp at hi; rcases hi with rfl | rfl; exact .inl (by simp); exact .inr (by omega)))
  obtain ⟨e0, e1, e2, e3, e4, ez⟩ := cellsE5 he2
  obtain ⟨y0, y1, y2, yz⟩ := cellsP3 hps2.box
  obtain ⟨z0, z1, z2, z3, z4, zz⟩ := cellsE5 hz2
  have HPS2 := Lib.hid hps2
  have hpl2 := hps2.lt
  have hsp := hps2.respace (.slice none 0 0)
  have hz3 : (w2.setCell ⟨pb, 2, none⟩ (.slice none 0 0)).heap[w.heap.size + 1]? = some ZE := (Below.heap_setCell _ _ _ _ (by simp; omega)).trans hz2
  have hc5 := put5_chg (w2.setCell ⟨pb, 2, none⟩ (.slice none 0 0)) (w.heap.size + 1) (.string ⟨#[]⟩) (.string S) (.slice none 0 0) (.slice none 0 0) (.string U)
  have HA5 := Lib.hid (put5_at hz3 (.string ⟨#[]⟩) (.string S) (.slice none 0 0) (.slice none 0 0) (.string U))
  have HFIN := Lib.hid (And.intro (hsp.chgT (b := w.heap.size + 1) hc5 (by omega) (by have := hps2.low; omega)) ((HCW.out.set' pb 2 (.slice none 0 0) (.inl (by simp))).then hc5 (fun i hi => by simp at hi; subst hi; exact .inr (by omega))))
  clear hsp hz3 hc5
  clear t0 t1 t2 t3 t4 t5 tz hps2 he2 hc2 hba hz2
  go_wp2_with fail
  refine bodyPost_ret (results_cell_row Tryz.results31 _ _ (w.heap.size + 1) 27 _ (0, 0) _ rfl HA5.out Tryz.underlying27 rfl infoE5) rfl ?_
  exact ⟨rfl, HFIN.out.1, HFIN.out.2⟩
end Go.Proofs.YtpcajjbdlfookaaGreatDoor
