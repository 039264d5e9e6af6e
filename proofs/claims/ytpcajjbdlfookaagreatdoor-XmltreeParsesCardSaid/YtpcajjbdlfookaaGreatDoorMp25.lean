/- xmltree: the reference: the reader's next. -/
import Derived.Test.YtpcajjbdlfookaaGreatDoorMp19
import Derived.Test.YtpcajjbdlfookaaGreatDoorMp17
import Derived.Test.YtpcajjbdlfookaaGreatDoorMp23
namespace Go.Proofs.YtpcajjbdlfookaaGreatDoor
open Go Go.RowKit Go.Deep Go.Shelf
set_option linter.unusedVariables false
set_option linter.unusedSimpArgs false

theorem skA_eqT (xs : List UInt8) (at_ : Int) : skA insR xs at_ = skA insP xs at_ := by
  rw [show insP = insR from funext ins_eq]
theorem skA_z {xs : List UInt8} {a k z : Nat} (h : skA insP xs (a : Int) = (k, z)) (ha : a ≤ xs.length) : z = 0 ∨ z = 11 := by
  unfold skA at h
  rw [if_neg (by omega)] at h
  split at h
  · cases h; exact .inr rfl
  · cases h; exact .inl rfl
/-- The reference's reader at a place. -/
structure RX (w0 : World) (rb : Nat) (bv : Value) (a : Nat) (w : World) : Prop where
  bel : Below w0.heap.size w0 w
  low : w0.heap.size ≤ rb
  box : w.heap[rb]? = some (.cells #[bv, .int .i64 (a : Nat)] 49 (0, 0))
theorem RX.lt {w0 : World} {rb : Nat} {bv : Value} {a : Nat} {w : World} (h : RX w0 rb bv a w) : rb < w.heap.size := (Array.getElem?_eq_some_iff.1 h.box).1
theorem RX.below {w0 : World} {rb : Nat} {bv : Value} {a : Nat} {w w' : World} (h : RX w0 rb bv a w) (hb : Below w.heap.size w w') : RX w0 rb bv a w' := ⟨h.bel.trans (hb.mono h.bel.size), h.low, (hb.block _ h.lt).trans h.box⟩
theorem RX.seek {w0 : World} {rb : Nat} {bv : Value} {a : Nat} {w : World} (h : RX w0 rb bv a w) (k : Nat) : RX w0 rb bv k (w.setCell ⟨rb, 1, none⟩ (.int .i64 k)) :=
  ⟨h.bel.setCell (p := ⟨rb, 1, none⟩) h.low _, h.low, by rw [block_set _ _ _ _ _ _ _ h.box]; rfl⟩
theorem cellsR2 {w : World} {b : Nat} {c0 c1 : Value} {T : TypeId} (h : w.heap[b]? = some (.cells #[c0, c1] T (0, 0))) : w.cell? ⟨b, 0, none⟩ = some c0 ∧ w.cell? ⟨b, 1, none⟩ = some c1 ∧ (∀ o, w.frozen? ⟨b, o, none⟩ = false) := by
  refine ⟨?_, ?_, fun o => ?_⟩ <;> simp [World.cell?, World.frozen?, h]
/-- How the reader's next ends. -/
def RnxE (w0 w : World) (rb : Nat) (bv : Value) (R : Except (Nat × Nat) (Tk × Nat × Nat)) (e : Ending) (w' : World) : Prop := match R with
  | .error x => ∃ t v, e = .returned (.tuple #[v, .int .i64 (x.1 : Nat), .int .i64 (x.2 : Nat)]) ∧ VT t w' v ∧ Below w.heap.size w w' ∧ x.2 ≠ 0
  | .ok x => ∃ v, e = .returned (.tuple #[v, .int .i64 (x.2.1 : Nat), .int .i64 0]) ∧ VT x.1 w' v ∧ RX w0 rb bv x.2.2 w' ∧ Chg [rb] w w'
theorem AtsIs.kept {w w' : World} {v : Value} {l : List (List UInt8 × List UInt8)} (h : AtsIs w v l) (hk : ∀ (b : Nat) (cs : Array Value) (z : Nat × Nat), w.heap[b]? = some (Obj.cells cs 114 z) → w'.heap[b]? = some (Obj.cells cs 114 z)) : AtsIs w' v l := by
  obtain ⟨p, c, hv, h1, h2, h3, h4⟩ := h
  refine ⟨p, c, hv, h1, h2, h3, fun hp => ?_⟩
  obtain ⟨b, o, hbo, ⟨cs, z, hcs⟩, hx⟩ := h4 hp
  have hk2 := hk b cs z hcs
  exact ⟨b, o, hbo, ⟨cs, z, hk2⟩, fun j u hu => (World.cell?_of_block (a := ⟨b, o + j, none⟩) (hk2.trans hcs.symm)).trans (hx j u hu)⟩
theorem AtsIs.chgT {w w' : World} {v : Value} {l : List (List UInt8 × List UInt8)} {S : List Nat} (h : AtsIs w v l) (hc : Chg S w w') (hS : ∀ i ∈ S, ∀ (cs : Array Value) (z : Nat × Nat), w.heap[i]? ≠ some (Obj.cells cs 114 z)) : AtsIs w' v l :=
  h.kept fun b cs z hx => (hc.block b (Array.getElem?_eq_some_iff.1 hx).1 (fun hb => hS b hb cs z hx)).trans hx
/-- The token is laid down, the reader moved on. -/
theorem rnx_end {w0 w w2 : World} {rb : Nat} {bv s : Value} {a : Nat} (m : Nat) {l : List (List UInt8 × List UInt8)} (hX : RX w0 rb bv a w) (hb : Below w.heap.size w w2) (hres : w2.heap[w.heap.size]? = some REST) (hat : AtsIs w2 s l) (c0 c1 c3 c4 : Value) (ob : Obj) :
    ((put5 (w2.setCell ⟨rb, 1, none⟩ (.int .i64 (m : Nat))) w.heap.size c0 c1 s c3 c4).alloc ob).heap[w.heap.size]? = some (.cells #[c0, c1, s, c3, c4] 52 (0, 0)) ∧ AtsIs ((put5 (w2.setCell ⟨rb, 1, none⟩ (.int .i64 (m : Nat))) w.heap.size c0 c1 s c3 c4).alloc ob) s l ∧ RX w0 rb bv m ((put5 (w2.setCell ⟨rb, 1, none⟩ (.int .i64 (m : Nat))) w.heap.size c0 c1 s c3 c4).alloc ob) ∧ Chg [rb] w ((put5 (w2.setCell ⟨rb, 1, none⟩ (.int .i64 (m : Nat))) w.heap.size c0 c1 s c3 c4).alloc ob) := by
  have hpl := hX.lt
  have hX2 := hX.below hb
  have hX3 := hX2.seek m
  have h1 : Chg [rb] w2 (w2.setCell ⟨rb, 1, none⟩ (.int .i64 (m : Nat))) := (Chg.refl [rb] w2).set' rb 1 _ (.inl (by simp))
  have hres3 : (w2.setCell ⟨rb, 1, none⟩ (.int .i64 (m : Nat))).heap[w.heap.size]? = some REST := (Below.heap_setCell _ _ _ _ (by simp; omega)).trans hres
  have h5 := put5_chg (w2.setCell ⟨rb, 1, none⟩ (.int .i64 (m : Nat))) w.heap.size c0 c1 s c3 c4
  have h6 := put5_at hres3 c0 c1 s c3 c4
  have hba : Below (put5 (w2.setCell ⟨rb, 1, none⟩ (.int .i64 (m : Nat))) w.heap.size c0 c1 s c3 c4).heap.size (put5 (w2.setCell ⟨rb, 1, none⟩ (.int .i64 (m : Nat))) w.heap.size c0 c1 s c3 c4) ((put5 (w2.setCell ⟨rb, 1, none⟩ (.int .i64 (m : Nat))) w.heap.size c0 c1 s c3 c4).alloc ob) := (Below.refl _ _).alloc (Nat.le_refl _) ob
  refine ⟨(hba.block _ (Array.getElem?_eq_some_iff.1 h6).1).trans h6, ?_, ?_, ?_⟩
  · refine ((hat.chgT h1 ?_).chgT h5 ?_).below hba
    · intro i hi cs z
      simp at hi
      subst hi
      rw [hX2.box]
      simp
    · intro i hi cs z
      simp at hi
      subst hi
      rw [hres3]
      simp
  · have hX5 : RX w0 rb bv m (put5 (w2.setCell ⟨rb, 1, none⟩ (.int .i64 (m : Nat))) w.heap.size c0 c1 s c3 c4) := ⟨hX3.bel.trans (h5.below (B := w0.heap.size) hX3.bel.size (fun i hi => by simp at hi; subst hi; exact hX.bel.size)), hX3.low, (h5.block rb hX3.lt (by simp; omega)).trans hX3.box⟩
    exact hX5.below hba
  · exact (((Chg.of_below (S := [rb]) hb).then h1 (fun i hi => .inl hi)).then h5 (fun i hi => by simp at hi; subst hi; exact .inr (Nat.le_refl _))).alloc' ob
theorem rnx_err {w w2 : World} {s : Value} {l : List (List UInt8 × List UInt8)} (hb : Below w.heap.size w w2) (hres : w2.heap[w.heap.size]? = some REST) (hat : AtsIs w2 s l) (c0 c1 c3 c4 : Value) :
    (put5 w2 w.heap.size c0 c1 s c3 c4).heap[w.heap.size]? = some (.cells #[c0, c1, s, c3, c4] 52 (0, 0)) ∧ AtsIs (put5 w2 w.heap.size c0 c1 s c3 c4) s l ∧ Below w.heap.size w (put5 w2 w.heap.size c0 c1 s c3 c4) := by
  have h5 := put5_chg w2 w.heap.size c0 c1 s c3 c4
  refine ⟨put5_at hres c0 c1 s c3 c4, hat.chgT h5 ?_, hb.trans (h5.below hb.size (fun i hi => by simp at hi; subst hi; exact Nat.le_refl _))⟩
  intro i hi cs z
  simp at hi
  subst hi
  rw [hres]
  simp
theorem rnx_errA {w w2 : World} {s : Value} {l : List (List UInt8 × List UInt8)} (hb : Below w.heap.size w w2) (hres : w2.heap[w.heap.size]? = some REST) (hat : AtsIs w2 s l) (c0 c1 c3 c4 : Value) (ob : Obj) :
    ((put5 w2 w.heap.size c0 c1 s c3 c4).alloc ob).heap[w.heap.size]? = some (.cells #[c0, c1, s, c3, c4] 52 (0, 0)) ∧ AtsIs ((put5 w2 w.heap.size c0 c1 s c3 c4).alloc ob) s l ∧ Below w.heap.size w ((put5 w2 w.heap.size c0 c1 s c3 c4).alloc ob) := by
  obtain ⟨h1, h2, h3⟩ := rnx_err hb hres hat c0 c1 c3 c4
  have hba : Below (put5 w2 w.heap.size c0 c1 s c3 c4).heap.size (put5 w2 w.heap.size c0 c1 s c3 c4) ((put5 w2 w.heap.size c0 c1 s c3 c4).alloc ob) := (Below.refl _ _).alloc (Nat.le_refl _) ob
  exact ⟨(hba.block _ (Array.getElem?_eq_some_iff.1 h1).1).trans h1, h2.below hba, h3.alloc h3.size ob⟩
theorem results_rnx (tm : Array Value) (V : World) (b : Nat) (c0 c1 c2 c3 c4 k z : Value) (h2 : tm.getD 2 undef = .pointer (some ⟨b, 0, none⟩)) (h3 : tm.getD 3 undef = k) (h4 : tm.getD 4 undef = z) (h : V.heap[b]? = some (.cells #[c0, c1, c2, c3, c4] 52 (0, 0))) :
    (results Tryz.f20 tm).run Tryz.prog V = .ok (.tuple #[.agg #[c0, c1, c2, c3, c4], k, z]) V := by
  obtain ⟨e0, e1, e2, e3, e4, _⟩ := cellsX5 h
  have h2' : tm[2]?.getD undef = .pointer (some ⟨b, 0, none⟩) := by simpa using h2
  have h3' : tm[3]?.getD undef = k := by simpa using h3
  have h4' : tm[4]?.getD undef = z := by simpa using h4
  simp [results, Tryz.results20, go_sem, h2', h3', h4', e0, e1, e2, e3, e4]
set_option maxRecDepth 100000 in
set_option maxHeartbeats 4000000 in
theorem rrnext_c {w0 w : World} {rb : Nat} {bv : Value} {xs : List UInt8} {a : Nat} (hr : Rd w0 bv xs) (hl : xs.length ≤ 1048576) (h : RX w0 rb bv a w) (ha : a ≤ xs.length) :
    Calls Tryz.prog 20 #[.pointer (some ⟨rb, 0, none⟩)] w (RnxE w0 w rb bv (tokM xs a)) := by
  obtain ⟨p, c, rfl⟩ := rd_form hr
  obtain ⟨NX, hNX⟩ : ∃ N, N = xs.length := ⟨_, rfl⟩
  rw [← hNX] at hr h ⊢
  have hb0 := box_belT w REST
  have hrw : ∀ W, Below w.heap.size w W → Rd W (.slice p NX c) xs := fun W hb => (hr.below h.bel).below hb
  have hzw : ∀ W, Below (w.alloc REST).heap.size (w.alloc REST) W → Below w.heap.size w W := fun W hb => hb0.trans (hb.mono hb0.size)
  have HZW := Lib.hid hzw
  have HSK := Lib.hid (fun (W : World) (hb : Below (w.alloc REST).heap.size (w.alloc REST) W) => (rskip_c W _ xs (hrw W (hzw W hb)) (by omega) (a : Int)).mono (R' := fun e w' => e = .returned (.tuple #[.int .i64 ((skA insR xs (a : Int)).1 : Nat), .int .i64 ((skA insR xs (a : Int)).2 : Nat)]) ∧ Below (w.alloc REST).heap.size (w.alloc REST) w') (fun e w' hh => ⟨hh.1, hb.trans (hh.2.mono hb.size)⟩))
  obtain ⟨⟨k, z⟩, hS⟩ : ∃ S, skA insP xs (a : Int) = S := ⟨_, rfl⟩
  rw [skA_eqT, hS] at HSK
  have HNX := Lib.hid (fun (W : World) (hb : Below w.heap.size w W) => rnext_c W _ xs (hrw W hb) (by omega) (k : Int))
  rw [← nxt_eq] at HNX
  have HBX := Lib.hid (heap_alloc_new w REST)
  have HX := Lib.hid h
  have HZ := Lib.hid (Below.refl (w.alloc REST).heap.size (w.alloc REST))
  have hpl := h.lt
  have HC := Lib.hid (fun (W : World) (hb : Below w.heap.size w W) => cellsR2 ((hb.block _ hpl).trans h.box))
  obtain ⟨y0, y1, yz⟩ := cellsR2 ((hb0.block _ hpl).trans h.box)
  rcases skA_z hS ha with rfl | rfl
  · obtain ⟨⟨t, m, z⟩, hN⟩ : ∃ N, nxt insP opnP cloP xs (k : Int) = N := ⟨_, rfl⟩
    rw [hN] at HNX
    have hT : tokM xs a = if z = 0 then .ok (t, k, m) else .error (m, z) := by
      unfold tokM
      rw [hS]
      dsimp only
      rw [hN]
    by_cases hz : z = 0
    · subst hz
      rw [if_pos rfl] at hT
      have HT := Lib.hid hT
      clear hr h hrw hS hN hT hNX hb0 hzw
      go_enter Tryz.func20, Tryz.ntmps20
      go_wp2_with fail
      go_region_with (go_at_call 36; refine (HSK.out _ (by first | exact HZ.out | exact HZ.out.drew | exact Go.below_drewN HZ.out _)).mono ?_; rintro e w1 ⟨rfl, hb1⟩; have HB1 := Lib.hid hb1; clear hb1)
      all_goals
        clear y0 y1 yz
        obtain ⟨y0, y1, yz⟩ := HC.out _ (HZW.out _ HB1.out)
        go_wp2_with fail
        refine (HNX.out _ (HZW.out _ (by first | exact HB1.out | exact HB1.out.drew | exact Go.below_drewN HB1.out _))).mono ?_
        rintro e w2 ⟨v, rfl, ⟨s, rfl, hat⟩, hb2⟩
        have hb2' : Below w1.heap.size w1 w2 := ⟨hb2.os, hb2.tape, hb2.output, hb2.size, hb2.block⟩
        have hbz2 := HB1.out.trans (hb2'.mono HB1.out.size)
        have HB3 := Lib.hid (HZW.out _ hbz2)
        obtain ⟨ps, cs, hsv, -⟩ := hat.form
        obtain ⟨N1, hN1⟩ : ∃ N1, N1 = t.attrs.length := ⟨_, rfl⟩
        rw [← hN1] at hsv
        subst hsv
        have hres := (hbz2.block w.heap.size (by rw [World.size_alloc]; omega)).trans HBX.out
        have HRES := Lib.hid hres
        have HAT := Lib.hid hat
        obtain ⟨z0, z1, z2, z3, z4, zz⟩ := cellsX5 hres
        clear y0 y1 yz
        obtain ⟨y0, y1, yz⟩ := HC.out _ HB3.out
        have hrl : w.heap.size < w2.heap.size := (Array.getElem?_eq_some_iff.1 hres).1
        have hrb : rb < w2.heap.size := by omega
        clear hb2 hb2' hat hres hbz2 hN1
        dsimp only
        go_wp2_with fail
        have hend := rnx_end m HX.out HB3.out HRES.out HAT.out (.int .i64 (t.kind : Nat)) (.string ⟨t.name.toArray⟩) (.bool t.empty) (.string ⟨t.text.toArray⟩) (.cells #[.int .i64 (t.kind : Nat), .string ⟨t.name.toArray⟩, .slice ps N1 cs, .bool t.empty, .string ⟨t.text.toArray⟩] 52)
        refine bodyPost_ret (results_rnx _ _ w.heap.size _ _ _ _ _ _ _ rfl rfl rfl hend.1) rfl ?_
        rw [HT.out]
        exact ⟨_, rfl, ⟨_, rfl, hend.2.1⟩, hend.2.2.1, hend.2.2.2⟩
    · rw [if_neg hz] at hT
      have HT := Lib.hid hT
      have HZN := Lib.hid hz
      have tz : ((z : Int) == 0) = false := by rw [beq_eq_false_iff_ne]; omega
      have tz2 : ((z : Int) != 0) = true := by simp only [bne, tz]; rfl
      clear hr h hrw hS hN hT hNX hb0 hzw hz
      go_enter Tryz.func20, Tryz.ntmps20
      go_wp2_with fail
      go_region_with (go_at_call 36; refine (HSK.out _ (by first | exact HZ.out | exact HZ.out.drew | exact Go.below_drewN HZ.out _)).mono ?_; rintro e w1 ⟨rfl, hb1⟩; have HB1 := Lib.hid hb1; clear hb1)
      all_goals
        clear y0 y1 yz
        obtain ⟨y0, y1, yz⟩ := HC.out _ (HZW.out _ HB1.out)
        go_wp2_with fail
        refine (HNX.out _ (HZW.out _ (by first | exact HB1.out | exact HB1.out.drew | exact Go.below_drewN HB1.out _))).mono ?_
        rintro e w2 ⟨v, rfl, ⟨s, rfl, hat⟩, hb2⟩
        have hb2' : Below w1.heap.size w1 w2 := ⟨hb2.os, hb2.tape, hb2.output, hb2.size, hb2.block⟩
        have hbz2 := HB1.out.trans (hb2'.mono HB1.out.size)
        have HB3 := Lib.hid (HZW.out _ hbz2)
        obtain ⟨ps, cs, hsv, -⟩ := hat.form
        obtain ⟨N1, hN1⟩ : ∃ N1, N1 = t.attrs.length := ⟨_, rfl⟩
        rw [← hN1] at hsv
        subst hsv
        have hres := (hbz2.block w.heap.size (by rw [World.size_alloc]; omega)).trans HBX.out
        have HRES := Lib.hid hres
        have HAT := Lib.hid hat
        obtain ⟨z0, z1, z2, z3, z4, zz⟩ := cellsX5 hres
        clear y0 y1 yz
        have hrl : w.heap.size < w2.heap.size := (Array.getElem?_eq_some_iff.1 hres).1
        clear hb2 hb2' hat hres hbz2 hN1
        dsimp only
        go_wp2_with fail
        have hend := rnx_errA HB3.out HRES.out HAT.out (.int .i64 (t.kind : Nat)) (.string ⟨t.name.toArray⟩) (.bool t.empty) (.string ⟨t.text.toArray⟩) (.cells #[.int .i64 (t.kind : Nat), .string ⟨t.name.toArray⟩, .slice ps N1 cs, .bool t.empty, .string ⟨t.text.toArray⟩] 52)
        refine bodyPost_ret (results_rnx _ _ w.heap.size _ _ _ _ _ _ _ rfl rfl rfl hend.1) rfl ?_
        rw [HT.out]
        exact ⟨_, _, rfl, ⟨_, rfl, hend.2.1⟩, hend.2.2, HZN.out⟩
  · have hT : tokM xs a = .error (k, 11) := by
      have h9 := nxt_skip hS
      unfold tokM
      rw [hS]
      dsimp only
      rw [h9, if_neg (show ¬ ((11 : Nat) = 0) by decide)]
    have HT := Lib.hid hT
    clear hr h hrw hS hT hNX hb0 hzw HNX
    go_enter Tryz.func20, Tryz.ntmps20
    go_wp2_with fail
    go_region_with (go_at_call 36; refine (HSK.out _ (by first | exact HZ.out | exact HZ.out.drew | exact Go.below_drewN HZ.out _)).mono ?_; rintro e w1 ⟨rfl, hb1⟩; have HB1 := Lib.hid hb1; clear hb1)
    all_goals
      have hres := (HB1.out.block w.heap.size (by rw [World.size_alloc]; omega)).trans HBX.out
      have HRES := Lib.hid hres
      obtain ⟨z0, z1, z2, z3, z4, zz⟩ := cellsX5 hres
      clear hres
      go_wp2_with fail
      have hend := rnx_err (HZW.out _ HB1.out) HRES.out (AtsIs.nil _) (.int .i64 0) (.string ⟨#[]⟩) (.bool false) (.string ⟨#[]⟩)
      refine bodyPost_ret (results_rnx _ _ w.heap.size _ _ _ _ _ _ _ rfl rfl rfl hend.1) rfl ?_
      rw [HT.out]
      exact ⟨noT, _, rfl, ⟨_, rfl, hend.2.1⟩, hend.2.2, (by decide : (11 : Nat) ≠ 0)⟩
end Go.Proofs.YtpcajjbdlfookaaGreatDoor

/- xmltree: an element, by what reads its content. -/
namespace Go.Proofs.YtpcajjbdlfookaaGreatDoor
open Go Go.RowKit Go.Deep Go.Shelf
set_option linter.unusedVariables false
set_option linter.unusedSimpArgs false

theorem okP_below {w w' : World} (hb : Below w.heap.size w w') : ∀ b, okP w b → b < w.heap.size → w'.heap[b]? = w.heap[b]? ∧ okP w' b := by
  rintro b ⟨cs, z, h1⟩ hl
  exact ⟨hb.block b hl, cs, z, (hb.block b hl).trans h1⟩
theorem PX.room {w0 w : World} {pb : Nat} {bv : Value} {L : BS} {a : Nat} {p : Option Addr} {n c : Nat} (h : PX w0 pb bv (.slice p n c) L a w) : n = L.length ∧ n ≤ c ∧ c ≤ 9223372036854775807 := by
  rcases h.own.2 with ⟨h1, h2⟩ | ⟨g, cap, cur, h1, h2, h3, h4, h5, _⟩
  · simp only [Value.slice.injEq] at h1
    obtain ⟨rfl, rfl, rfl⟩ := h1
    exact ⟨h2.symm, by omega, by omega⟩
  · simp only [Value.slice.injEq] at h1
    obtain ⟨rfl, rfl, rfl⟩ := h1
    unfold maxLen at h5
    exact ⟨rfl, h4, by omega⟩
def elB (c : BS → Nat → List UInt8 → HT → Nat → Except (Nat × Nat) (ET × Nat)) (o : Nat) (t : Tk) (q k : Nat) : Except Nat (HT × BS) → Except (Nat × Nat) (ET × Nat)
  | .error e => .error (q, e)
  | .ok (h, L') => if t.empty = true then .ok (mkE h [] [], k) else c L' o t.name h k
theorem elemW_eq {c : BS → Nat → List UInt8 → HT → Nat → Except (Nat × Nat) (ET × Nat)} {L : BS} {o : Nat} {t : Tk} {q k : Nat} (h : ¬ (24 ≤ o ∨ 201 < t.attrs.length)) : elemW c L o t q k = elB c o t q k (beginM t L) := by
  unfold elemW
  rw [if_neg h]
  cases beginM t L with
  | error e => rfl
  | ok x => obtain ⟨a, b⟩ := x; rfl
theorem KpE.of_chg (pb : Nat) {eb : Nat} {w w' : World} (h : Chg [eb] w w') : KpE pb eb w w' := fun b cs T z _ he hT hx => (h.block b (Array.getElem?_eq_some_iff.1 hx).1 (by simpa using he)).trans hx
theorem okN_ke {N pb eb : Nat} {w w' : World} {cp ce : Array Value} {z : Nat × Nat} (hpb : w.heap[pb]? = some (.cells cp 45 (0, 0))) (heb : w.heap[eb]? = some (.cells ce 27 z)) (hN : eb < N) (hk : KpE pb eb w w') : ∀ b, okN N w b → b < w.heap.size → w'.heap[b]? = w.heap[b]? ∧ okN N w' b := by
  rintro b ⟨cs, T, z', h1, h2⟩ _
  have hne : b ≠ pb := by
    rintro rfl
    rw [h1] at hpb
    rcases h2 with rfl | ⟨rfl, _⟩ <;> simp at hpb
  have hne2 : b ≠ eb := by
    rintro rfl
    rcases h2 with rfl | ⟨_, h3⟩
    · rw [h1] at heb
      simp at heb
    · omega
  have h3 := hk b cs T z' hne hne2 (by rcases h2 with rfl | ⟨rfl, _⟩ <;> decide) h1
  exact ⟨h3.trans h1.symm, cs, T, z', h3, h2⟩
theorem okP_ke {pb eb : Nat} {w w' : World} {cp ce : Array Value} {z : Nat × Nat} (hpb : w.heap[pb]? = some (.cells cp 45 (0, 0))) (heb : w.heap[eb]? = some (.cells ce 27 z)) (hk : KpE pb eb w w') : ∀ b, okP w b → b < w.heap.size → w'.heap[b]? = w.heap[b]? ∧ okP w' b := by
  rintro b ⟨cs, z', h1⟩ _
  have hne : b ≠ pb := by
    rintro rfl
    rw [h1] at hpb
    simp at hpb
  have hne2 : b ≠ eb := by
    rintro rfl
    rw [h1] at heb
    simp at heb
  have h3 := hk b cs _ z' hne hne2 (by decide) h1
  exact ⟨h3.trans h1.symm, cs, z', h3⟩
theorem PX.chgT {w0 w w' : World} {pb b : Nat} {bv sv : Value} {L : BS} {a : Nat} {ce : Array Value} {z : Nat × Nat} (h : PX w0 pb bv sv L a w) (hc : Chg [b] w w') (heb : w.heap[b]? = some (.cells ce 27 z)) (hb : w0.heap.size ≤ b) : PX w0 pb bv sv L a w' :=
  ⟨h.ps.chgT hc (by
    rintro rfl
    have := h.ps.box
    rw [heb] at this
    simp at this) hb, rowT_keep h.own fun g hg => hc.block g (rowT_lt h.own g hg).2 (by simpa using row_ne h.own heb (by decide) g hg)⟩
theorem ElemD.keep {ok ok' : Nat → Prop} {w w' : World} {d : Nat} {v : Value} {t : ET} (h : ElemD ok w d v t) (hs : w.heap.size ≤ w'.heap.size) (hk : ∀ b, ok b → b < w.heap.size → w'.heap[b]? = w.heap[b]? ∧ ok' b) : ElemD ok' w' d v t := by
  obtain ⟨av, kv, e, h1, h2⟩ := h
  exact ⟨av, kv, e, h1.keep hs hk, h2.keep hs hk⟩
/-- The declarations cut back, the result laid down. -/
theorem ele_end {w0 w w2 : World} {pb : Nat} {bv : Value} {L M : BS} {a c N o : Nat} {p : Option Addr} {x : ET} {av kv : Value} (h : PX w0 pb bv (.slice p (L ++ M).length c) (L ++ M) a w2) (hk : KpD pb w w2) (hz : w2.heap[w.heap.size + 1]? = some ZE) (hw : w0.heap.size ≤ w.heap.size) (hN : w.heap.size + 1 < N) (hp : PairsR (okP w2) w2 av x.attrs) (hkd : KidsD (okN N w2) w2 (24 - o) kv x.kids) (c0 c1 c2 c3 c4 : Value) :
    ElemD (okN w.heap.size (put5 (w2.setCell ⟨pb, 2, none⟩ (.slice p L.length c)) (w.heap.size + 1) c0 c1 c2 c3 c4)) (put5 (w2.setCell ⟨pb, 2, none⟩ (.slice p L.length c)) (w.heap.size + 1) c0 c1 c2 c3 c4) (24 - o) (.agg #[.string x.space, .string x.name, av, kv, .string x.text]) x ∧
    PX w0 pb bv (.slice p L.length c) L a (put5 (w2.setCell ⟨pb, 2, none⟩ (.slice p L.length c)) (w.heap.size + 1) c0 c1 c2 c3 c4) ∧ KpD pb w (put5 (w2.setCell ⟨pb, 2, none⟩ (.slice p L.length c)) (w.heap.size + 1) c0 c1 c2 c3 c4) ∧
    (put5 (w2.setCell ⟨pb, 2, none⟩ (.slice p L.length c)) (w.heap.size + 1) c0 c1 c2 c3 c4).heap[w.heap.size + 1]? = some (.cells #[c0, c1, c2, c3, c4] 27 (0, 0)) := by
  have hne : w.heap.size + 1 ≠ pb := by
    rintro rfl
    have := h.ps.box
    rw [hz] at this
    simp at this
  have hz3 : (w2.setCell ⟨pb, 2, none⟩ (.slice p L.length c)).heap[w.heap.size + 1]? = some ZE := (Below.heap_setCell _ _ _ _ hne).trans hz
  have hc5 := put5_chg (w2.setCell ⟨pb, 2, none⟩ (.slice p L.length c)) (w.heap.size + 1) c0 c1 c2 c3 c4
  have hks : KpE pb (w.heap.size + 1) w2 (put5 (w2.setCell ⟨pb, 2, none⟩ (.slice p L.length c)) (w.heap.size + 1) c0 c1 c2 c3 c4) := ((KpD.set pb w2 2 (.slice p L.length c)).e _).trans (KpE.of_chg pb hc5)
  have hsz : w2.heap.size ≤ (put5 (w2.setCell ⟨pb, 2, none⟩ (.slice p L.length c)) (w.heap.size + 1) c0 c1 c2 c3 c4).heap.size := by
    have := hc5.size
    rw [World.size_setCell] at this
    exact this
  refine ⟨⟨av, kv, rfl, (hp.keep hsz (okP_ke h.ps.box hz hks)).mono okP_N, (hkd.keep hsz (okN_ke h.ps.box hz hN hks)).mono (okN_mono (by omega))⟩, h.cut.chgT hc5 hz3 (by omega), hk.freshE hks (by omega), put5_at hz3 _ _ _ _ _⟩
/-- What is asked of the content's reader. -/
def ConT (w0 : World) (pb : Nat) (bv : Value) (c : BS → Nat → List UInt8 → HT → Nat → Except (Nat × Nat) (ET × Nat)) (o : Nat) (t : Tk) (s : Value) (q k : Nat) (B : Nat) : Prop :=
  ∀ (W : World) (h : HT) (L' : BS) (sv av : Value) (eb : Nat), PX w0 pb bv sv L' k W → L'.length ≤ B → W.heap[eb]? = some (.cells #[.string h.1, .string h.2.1, av, .slice none 0 0, .string ⟨#[]⟩] 27 (0, 0)) → PairsR (okP W) W av h.2.2 → w0.heap.size ≤ eb →
    Calls Tryz.prog 62 #[.pointer (some ⟨pb, 0, none⟩), .pointer (some ⟨eb, 0, none⟩), tokV6 t s q, .int .i64 (o : Nat)] W (ConD w0 W pb bv L' eb o (c L' o t.name h k))
set_option maxRecDepth 100000 in
set_option maxHeartbeats 16000000 in
theorem elementW_c {w0 w : World} {pb : Nat} {bv sv : Value} {L : BS} {c : BS → Nat → List UInt8 → HT → Nat → Except (Nat × Nat) (ET × Nat)} {k : Nat} (h : PX w0 pb bv sv L k w) (o : Nat) (ho : o ≤ 24) (hL : L.length ≤ 201 * o) (t : Tk) (q : Nat) (s : Value) (hs : AtsIs w s t.attrs) (hnl : t.name.length ≤ 1048576) (hal : ∀ x ∈ t.attrs, x.1.length ≤ 1048576)
    (HCT : o < 24 → t.attrs.length ≤ 201 → ConT w0 pb bv c o t s q k (201 * (o + 1))) :
    Calls Tryz.prog 31 #[.pointer (some ⟨pb, 0, none⟩), tokV6 t s q, .int .i64 (o : Nat)] w (AftD w0 w pb (elemW c L o t q k) (EleD w0 w pb bv L o)) := by
  obtain ⟨ps0, cs0, hsv, -⟩ := hs.form
  subst hsv
  obtain ⟨N, hN⟩ : ∃ N, N = t.attrs.length := ⟨_, rfl⟩
  obtain ⟨S, hS⟩ : ∃ S : ByteArray, S = ⟨t.name.toArray⟩ := ⟨_, rfl⟩
  obtain ⟨U, hU⟩ : ∃ U : ByteArray, U = ⟨t.text.toArray⟩ := ⟨_, rfl⟩
  obtain ⟨TK, hTK⟩ : ∃ TK : Int, TK = (t.kind : Nat) := ⟨_, rfl⟩
  obtain ⟨TE, hTE⟩ : ∃ TE, TE = t.empty := ⟨_, rfl⟩
  have HBG := Lib.hid (fun (W : World) (hW : PX w0 pb bv sv L k W) (hs : AtsIs W (.slice ps0 t.attrs.length cs0) t.attrs) (hat : t.attrs.length ≤ 201) => begin_c hW (by omega) t q _ hs hat hnl hal)
  unfold tokV6 at HBG
  unfold ConT at HCT
  unfold tokV6 at HCT
  unfold tokV6
  rw [← hN] at hs HBG HCT ⊢
  rw [← hS, ← hU, ← hTK, ← hTE] at HBG HCT
  rw [← hS, ← hU, ← hTK, ← hTE]
  obtain ⟨W0, hW0⟩ : ∃ W0, W0 = (w.alloc (.cells #[.int .i64 TK, .string S, .slice ps0 N cs0, .bool TE, .string U, .int .i64 (q : Nat)] 69)).alloc ZE := ⟨_, rfl⟩
  have hb2 : Below w.heap.size w W0 := hW0 ▸ (box_belT w _).trans ((box_belT _ ZE).mono (by simp))
  have ht0 : W0.heap[w.heap.size]? = some (.cells #[.int .i64 TK, .string S, .slice ps0 N cs0, .bool TE, .string U, .int .i64 (q : Nat)] 69 (0, 0)) := hW0 ▸ ((box_belT _ ZE).block _ (by simp)).trans (heap_alloc_new w _)
  have hz0 : W0.heap[w.heap.size + 1]? = some ZE := by
    have := heap_alloc_new (w.alloc (.cells #[.int .i64 TK, .string S, .slice ps0 N cs0, .bool TE, .string U, .int .i64 (q : Nat)] 69)) ZE
    rw [World.size_alloc] at this
    rw [hW0]
    exact this
  have hsz0 : W0.heap.size = w.heap.size + 2 := by rw [hW0]; simp
  have HSZ0 := Lib.hid hsz0
  have HT0 := Lib.hid ht0
  have HZ0 := Lib.hid hz0
  have HB2 := Lib.hid hb2
  have hx0 := h.below hb2
  have HX0 := Lib.hid hx0
  have HPL := Lib.hid h.ps.lt
  have HW0LE := Lib.hid (show w0.heap.size ≤ w.heap.size from h.ps.bel.size)
  have HAT0 := Lib.hid (hs.below hb2)
  have HW0 := Lib.hid hW0
  have HCN := Lib.hid HCT
  have HN := Lib.hid hN
  have HTE := Lib.hid hTE
  have hpne : w.heap.size ≠ pb := by have := h.ps.lt; omega
  have hpne1 : w.heap.size + 1 ≠ pb := by have := h.ps.lt; omega
  have HTB := Lib.hid (fun (W : World) (hk : KpD pb W0 W) => hk w.heap.size _ _ _ hpne (by decide) ht0)
  have HZB := Lib.hid (fun (W : World) (hk : KpD pb W0 W) => hk (w.heap.size + 1) _ _ _ hpne1 (by decide) hz0)
  have HATB := Lib.hid (fun (W : World) (hk : KpD pb W0 W) => AtsIs.kp (hs.below hb2) hx0.ps.box hk)
  have HFL := Lib.hid ((tfail_c W0 (.int .i64 TK) (.string S) (.slice ps0 N cs0) (.bool TE) (.string U) q 4).mono (R' := fun e w' => Boom6 q 4 e ∧ KpD pb w w' ∧ Below w0.heap.size w0 w') (fun e w' hh => ⟨hh.1, (KpD.of_below hb2).trans (KpD.of_below hh.2), hx0.ps.bel.trans (hh.2.mono hx0.ps.bel.size)⟩))
  obtain ⟨p0, c0, hsv⟩ := h.form
  subst hsv
  obtain ⟨M, hM⟩ : ∃ M, M = L.length := ⟨_, rfl⟩
  have HM := Lib.hid hM
  obtain ⟨t0, t1, t2, t3, t4, t5, tz⟩ := cellsE6 ht0
  obtain ⟨y0, y1, y2, yz⟩ := cellsP3 hx0.ps.box
  rw [← hM] at y2 hL
  have hpl0 : pb < W0.heap.size := by have := h.ps.lt; omega
  obtain ⟨R, hR⟩ : ∃ R, elemW c L o t q k = R := ⟨_, rfl⟩
  rw [hR]
  have HR := Lib.hid hR
  clear hS hU hTK hTE hb2 ht0 hz0 hs h hx0 hW0 hsz0 hR hal hnl hN hM HCT
  by_cases h24 : 24 ≤ o
  · obtain rfl : R = .error (q, 4) := by
      rw [← HR.out]
      unfold elemW
      rw [if_pos (.inl h24)]
    obtain rfl : o = 24 := by omega
    clear HR
    go_enter Tryz.func31, Tryz.ntmps31
    go_upto_region 1 with (fail)
    rw [← HW0.out]
    go_wp2_with fail
    refine HFL.out.mono ?_
    rintro e w1 ⟨hbm, hk1, hbl1⟩
    unfold Boom6 at hbm
    subst hbm
    dsimp only
    exact ⟨rfl, rfl, hk1, hbl1⟩
  have h24i : ¬ ((24 : Int) ≤ (o : Int)) := by omega
  by_cases hN2 : 201 < N
  · obtain rfl : R = .error (q, 4) := by
      rw [← HR.out]
      unfold elemW
      rw [if_pos (.inr (by rw [← HN.out]; exact hN2))]
    clear HR
    go_enter Tryz.func31, Tryz.ntmps31
    go_upto_region 1 with (fail)
    rw [← HW0.out]
    go_wp2_with fail
    refine HFL.out.mono ?_
    rintro e w1 ⟨hbm, hk1, hbl1⟩
    unfold Boom6 at hbm
    subst hbm
    dsimp only
    exact ⟨rfl, rfl, hk1, hbl1⟩
  clear HFL
  have HBG0 := Lib.hid (HBG W0 HX0.out HAT0.out (by omega))
  obtain ⟨RB, hRB⟩ : ∃ RB, beginM t L = RB := ⟨_, rfl⟩
  rw [hRB] at HBG0
  have HE := Lib.hid (show elB c o t q k RB = R from by
    rw [← HR.out, ← hRB]
    exact (elemW_eq (by rw [← HN.out]; omega)).symm)
  have HRB := Lib.hid hRB
  clear HBG hRB HR
  go_enter Tryz.func31, Tryz.ntmps31
  go_upto_region 1 with (fail)
  rw [← HW0.out]
  go_wp2_with fail
  refine HBG0.out.mono ?_
  rintro e w1 hbe
  unfold BegE at hbe
  split at hbe
  · rename_i cc
    obtain ⟨hbm, hk1, hbl1⟩ := hbe
    unfold Boom6 at hbm
    subst hbm
    dsimp only
    have hRe := HE.out
    unfold elB at hRe
    subst hRe
    exact ⟨rfl, rfl, (KpD.of_below HB2.out).trans hk1, hbl1⟩
  rename_i hh L'
  obtain ⟨av, sv', rfl, hpr, hx1, hk1⟩ := hbe
  dsimp only
  obtain ⟨pa, ca, hav, -⟩ := hpr.form
  obtain ⟨NA, hNA⟩ : ∃ NA, NA = hh.2.2.length := ⟨_, rfl⟩
  rw [← hNA] at hav
  subst hav
  have HNA := Lib.hid hNA
  clear hNA
  obtain ⟨MX, hMX, hMl⟩ := beginM_pre HRB.out
  rw [← HN.out] at hMl
  have ht1 := HTB.out _ hk1
  have hz1 := HZB.out _ hk1
  have hat1 := HATB.out _ hk1
  have hsz1 : w.heap.size + 2 ≤ w1.heap.size := by have := (Array.getElem?_eq_some_iff.1 hz1).1; omega
  have hb1 := box_belT w1 (.cells #[.string hh.1, .string hh.2.1, .slice pa NA ca, .slice none 0 0, .string ⟨#[]⟩] 27)
  have HX1 := Lib.hid (hx1.below hb1)
  have HE1 := Lib.hid (heap_alloc_new w1 (.cells #[.string hh.1, .string hh.2.1, .slice pa NA ca, .slice none 0 0, .string ⟨#[]⟩] 27))
  have HT1 := Lib.hid ((hb1.block _ (by omega)).trans ht1)
  have HZ1 := Lib.hid ((hb1.block _ (by omega)).trans hz1)
  have HK1 := Lib.hid (((KpD.of_below HB2.out).trans hk1).trans (KpD.of_below hb1))
  have HPR1 := Lib.hid (hpr.keep hb1.size (okP_below hb1))
  obtain ⟨p1, c1, hsv1⟩ := hx1.form
  subst hsv1
  obtain ⟨hm1, hm2, hm3⟩ := hx1.room
  obtain ⟨M1, hM1⟩ : ∃ M1, M1 = L'.length := ⟨_, rfl⟩
  obtain ⟨t0, t1, t2, t3, t4, t5, tz⟩ := cellsE6 HT1.out
  have hMM : M ≤ M1 := by rw [hM1, hMX, List.length_append, HM.out]; omega
  rw [← hM1] at hm2
  have hMc : M ≤ c1 := by omega
  have HM1 := Lib.hid hM1
  have htl1 : w.heap.size < w1.heap.size := by omega
  have hzl1 : w.heap.size + 1 < w1.heap.size := by omega
  have HMX := Lib.hid hMX
  have HML := Lib.hid hMl
  have hpl1 := hx1.ps.lt
  cases TE with
  | true =>
    clear t0 t1 t2 t3 t4 t5 tz
    obtain ⟨t0, t1, t2, t3, t4, t5, tz⟩ := cellsE6 ht1
    obtain ⟨y0, y1, y2, yz⟩ := cellsP3 hx1.ps.box
    obtain ⟨z0, z1, z2, z3, z4, zz⟩ := cellsE5 hz1
    rw [← hM1] at y2
    subst hMX
    have hx1' := hx1
    rw [hm1] at hx1'
    have hend := ele_end (x := mkE hh [] []) (o := o) hx1' ((KpD.of_below HB2.out).trans hk1) hz1 HW0LE.out (Nat.lt_succ_self _) hpr (show KidsD _ w1 (24 - o) (.slice none 0 0) [] from by
      obtain ⟨d, hd⟩ : ∃ d, 24 - o = d + 1 := ⟨23 - o, by omega⟩
      rw [hd]
      exact KidsD.nil _ _ _) (.string hh.1) (.string hh.2.1) (.slice pa NA ca) (.slice none 0 0) (.string ⟨#[]⟩)
    rw [← HM.out] at hend
    have hRe := HE.out
    unfold elB at hRe
    dsimp only at hRe
    rw [if_pos HTE.out.symm] at hRe
    have HEND := Lib.hid hend
    have HRE := Lib.hid hRe
    clear hM1 hMl hm1 hx1 hx1' hpr hk1 ht1 hz1 hat1 hb1 hend hRe
    go_wp2_with fail
    have hba := box_belT (put5 (w1.setCell ⟨pb, 2, none⟩ (.slice p1 M c1)) (w.heap.size + 1) (.string hh.1) (.string hh.2.1) (.slice pa NA ca) (.slice none 0 0) (.string ⟨#[]⟩)) (.cells #[.string hh.1, .string hh.2.1, .slice pa NA ca, .slice none 0 0, .string ⟨#[]⟩] 27)
    have h5 := HEND.out.2.2.2
    have h6 := (hba.block _ (Array.getElem?_eq_some_iff.1 h5).1).trans h5
    refine bodyPost_ret (results_cell_row Tryz.results31 _ _ (w.heap.size + 1) 27 _ (0, 0) _ rfl h6 Tryz.underlying27 rfl infoE5) rfl ?_
    rw [← HRE.out]
    exact ⟨_, _, rfl, HEND.out.1.keep hba.size (okN_below hba), HEND.out.2.1.below hba, HEND.out.2.2.1.trans (KpD.of_below hba)⟩
  | false =>
    have hte : t.empty = false := HTE.out.symm
    subst hMX
    have hlo : w0.heap.size ≤ w1.heap.size := by have := HW0LE.out; omega
    have HC0 := Lib.hid (HCN.out (by omega) (by omega) _ hh (L ++ MX) _ (.slice pa NA ca) w1.heap.size HX1.out (by have := HM.out; rw [List.length_append]; omega) HE1.out HPR1.out hlo)
    obtain ⟨RC, hRC⟩ : ∃ RC, c (L ++ MX) o t.name hh k = RC := ⟨_, rfl⟩
    rw [hRC] at HC0
    have hRe := HE.out
    unfold elB at hRe
    dsimp only at hRe
    rw [if_neg (by rw [hte]; simp), hRC] at hRe
    have HRE := Lib.hid hRe
    clear t0 t1 t2 t3 t4 t5 tz
    obtain ⟨t0, t1, t2, t3, t4, t5, tz⟩ := cellsE6 ht1
    clear hM1 hMl hm1 hx1 hpr hk1 ht1 hz1 hat1 hb1 hRe hRC hte y0 y1 y2 yz
    go_wp2_with fail
    refine HC0.out.mono ?_
    rintro e w2 hce
    unfold ConD at hce
    split at hce
    · obtain ⟨hbm, hk2, hbl2⟩ := hce
      unfold Boom6 at hbm
      subst hbm
      dsimp only
      rw [← HRE.out]
      exact ⟨rfl, rfl, HK1.out.freshE hk2 (by omega), hbl2⟩
    · rename_i x
      obtain ⟨av2, kv2, sv2, rfl, hbx2, hpr2, hkd2, hx2, hk2⟩ := hce
      dsimp only
      obtain ⟨p2, c2, hsv2⟩ := hx2.form
      subst hsv2
      obtain ⟨hm1, hm2, hm3⟩ := hx2.room
      obtain ⟨pa2, ca2, hav2, -⟩ := hpr2.form
      obtain ⟨pk2, ck2, hkv2, -⟩ := hkd2.form
      obtain ⟨NA2, hNA2⟩ : ∃ NA2, NA2 = x.1.attrs.length := ⟨_, rfl⟩
      obtain ⟨NK2, hNK2⟩ : ∃ NK2, NK2 = x.1.kids.length := ⟨_, rfl⟩
      rw [← hNA2] at hav2
      rw [← hNK2] at hkv2
      subst hav2
      subst hkv2
      have hz2 := hk2 (w.heap.size + 1) _ _ _ hpne1 (by omega) (by decide) HZ1.out
      have hend := ele_end (o := o) hx2 (HK1.out.freshE hk2 (by omega)) hz2 HW0LE.out (show w.heap.size + 1 < (w1.alloc (.cells #[.string hh.1, .string hh.2.1, .slice pa NA ca, .slice none 0 0, .string ⟨#[]⟩] 27)).heap.size from by rw [World.size_alloc]; omega) hpr2 hkd2 (.string x.1.space) (.string x.1.name) (.slice pa2 NA2 ca2) (.slice pk2 NK2 ck2) (.string x.1.text)
      rw [← HM.out] at hend
      have HEND := Lib.hid hend
      obtain ⟨M2, hM2⟩ : ∃ M2, M2 = (L ++ MX).length := ⟨_, rfl⟩
      obtain ⟨y0, y1, y2, yz⟩ := cellsP3 hx2.ps.box
      rw [← hM2] at y2 hm2
      obtain ⟨z0, z1, z2, z3, z4, zz⟩ := cellsE5 hz2
      obtain ⟨e0, e1, e2, e3, e4, ez⟩ := cellsE5 hbx2
      have hMM2 : M ≤ M2 := by rw [hM2, List.length_append, HM.out]; omega
      have hMc2 : M ≤ c2 := by omega
      clear t0 t1 t2 t3 t4 t5 tz hM2 hm1 hx2 hpr2 hkd2 hk2 hz2 hend hbx2 hNA2 hNK2
      go_wp2_with fail
      refine bodyPost_ret (results_cell_row Tryz.results31 _ _ (w.heap.size + 1) 27 _ (0, 0) _ rfl HEND.out.2.2.2 Tryz.underlying27 rfl infoE5) rfl ?_
      rw [← HRE.out]
      exact ⟨_, _, rfl, HEND.out.1, HEND.out.2.1, HEND.out.2.2.1⟩
end Go.Proofs.YtpcajjbdlfookaaGreatDoor

/- xmltree: a builder is written to, and what holds no bytes stays; a row of elements. -/
namespace Go.Proofs.YtpcajjbdlfookaaGreatDoor
open Go Go.RowKit Go.Deep Go.Shelf
set_option linter.unusedVariables false
set_option linter.unusedSimpArgs false

/-- What is kept: blocks that are neither the builder's nor bytes. -/
def KpW (b : Nat) (w w' : World) : Prop := ∀ (d : Nat) (cs : Array Value) (T : TypeId) (z : Nat × Nat), d ≠ b → 5 ≠ T → w.heap[d]? = some (.cells cs T z) → w'.heap[d]? = some (.cells cs T z)
set_option maxRecDepth 100000 in
set_option maxHeartbeats 1000000 in
theorem writeStringK_c (B b : Nat) (bs : List Value) (s : ByteArray) (w : World) (h : Lib.IsBuilder 131 5 B b bs w) (hlen : bs.length + s.size ≤ 140737488355328) (hBw : B ≤ w.heap.size) :
    Calls Tryz.prog 93 #[.pointer (some ⟨b, 0, none⟩), .string s] w fun e w' => e = .returned (.tuple #[.int .i64 s.size, .nilIface]) ∧ Lib.BuilderAt 131 5 B b (.pointer (some ⟨b, 0, none⟩)) (bs ++ Lib.strCells s) w' ∧ Below B w w' ∧ KpW b w w' := by
  obtain ⟨i0, hi, hz0, hz1, hz2⟩ := info_parts infoByteK
  have HC := Lib.hid (ccheck B b bs w h)
  go_enter Tryz.func93, Tryz.ntmps93
  go_wp2_with fail
  refine HC.out.mono ?_
  rintro e w1 ⟨rfl, hba, hb1, hoth⟩
  have HBA := Lib.hid hba
  have HB1 := Lib.hid hb1
  have HOTH := Lib.hid hoth
  obtain ⟨hB, v, hbk, hown, hne⟩ := hba
  have HK := Lib.hid hbk
  have HO := Lib.hid hown
  have HNE := Lib.hid hne
  have hlt := HBA.out.lt
  have c1 : w1.cell? ⟨b, 1, none⟩ = some v := by simp [World.cell?, hbk]
  clear hbk hown hne hb1 hoth
  go_wp2_with (at_builtin; refine Lib.wpList_append_own_string _ rfl _ _ 22 9 rfl B 5 i0 Tryz.underlying22 Tryz.underlying9 hi hz0 hz1 hz2 _ _ _ rfl HO.out s rfl ?c3 ?c4 ?c5 ?_)
  case c3 => unfold maxLen; omega
  case c4 => omega
  case c5 => have := HB1.out.size; omega
  intro v' w2 hown2 hgrow2 _
  have hb2 : w2.heap[b]? = some (.cells #[.pointer (some ⟨b, 0, none⟩), v] 131 (0, 0)) := by
    rw [hgrow2.block b hlt (fun e => HNE.out e.symm)]
    exact HK.out
  have d1 : w2.cell? ⟨b, 1, none⟩ = some v := by simp [World.cell?, hb2]
  have f1 : w2.frozen? ⟨b, 1, none⟩ = false := by simp [World.frozen?, hb2]
  have HOW := Lib.hid hown2
  have HG := Lib.hid hgrow2
  have HB2 := Lib.hid hb2
  obtain ⟨ao, n', cap, rfl⟩ : ∃ ao n' cap, v' = .slice ao n' cap := by
    rcases hown2.2 with ⟨hv, _⟩ | ⟨g, cap, cur, hv, _⟩
    · exact ⟨_, _, _, hv⟩
    · exact ⟨_, _, _, hv⟩
  clear hown2 hgrow2 hb2
  go_wp2_with fail
  go_ret2
  refine ⟨rfl, ?_, ?_, ?_⟩
  · exact Lib.BuilderAt.put (T := 131) (e := 5) hB HB2.out (bs' := bs ++ Lib.strCells s) (by simpa [Lib.strCells_length] using HOW.out) (by decide)
  · exact (HB1.out.grown HG.out (by have := HB1.out.size; omega) (fun k hk => (HO.out.lt k hk).1)).setCell (p := ⟨b, 1, none⟩) hB _
  · intro d cs T z hd hT hx
    have h1 := (HOTH.out d hd).trans hx
    have h2 := (HG.out.block d (Array.getElem?_eq_some_iff.1 h1).1 (fun e => row_ne HO.out h1 hT d e.symm rfl)).trans h1
    exact (Below.heap_setCell _ _ _ _ (by simpa using hd)).trans h2
theorem wstringK (w : World) (B b : Nat) (l t : List UInt8) (h : BI B b l w) (hl : l.length ≤ 33554432) (ht : t.length ≤ 33554432) (hB : B ≤ w.heap.size) :
    Calls Tryz.prog 93 #[.pointer (some ⟨b, 0, none⟩), .string ⟨t.toArray⟩] w fun e w' => (∃ n, e = .returned (.tuple #[.int .i64 n, .nilIface])) ∧ BA B b (l ++ t) w' ∧ Below B w w' ∧ KpW b w w' := by
  have := writeStringK_c B b (bcells l) ⟨t.toArray⟩ w h (by rw [bcells_length]; show l.length + t.toArray.size ≤ _; simp; omega) hB
  rw [show bcells l ++ Lib.strCells ⟨t.toArray⟩ = bcells (l ++ t) from by rw [bcells_append]; rfl] at this
  exact this.mono fun e w' ⟨h1, h2, h3, h4⟩ => ⟨⟨_, h1⟩, h2, h3, h4⟩
/-- A builder stays where only the parser and declarations change. -/
theorem BI.kp {b pb : Nat} {l : List UInt8} {w w' : World} {cs : Array Value} (h : BI b b l w) (hpb : w.heap[pb]? = some (.cells cs 45 (0, 0))) (hk : KpD pb w w') : BI b b l w' := by
  have key : ∀ p, Lib.BuilderAt 131 5 b b p (bcells l) w → Lib.BuilderAt 131 5 b b p (bcells l) w' := by
    rintro p ⟨h1, v, h2, h3, h4⟩
    refine ⟨h1, v, hk _ _ _ _ (by rintro rfl; rw [h2] at hpb; simp at hpb) (by decide) h2, rowT_keep h3 (fun g hg => ?_), h4⟩
    rcases h3.2 with ⟨rfl, _⟩ | ⟨g', cap, cur, rfl, hb, hg', _⟩
    · simp [Value.ownBlock] at hg
    · simp [Value.ownBlock] at hg
      subst hg
      exact (hk _ _ _ _ (by rintro rfl; rw [hg'] at hpb; simp at hpb) (by decide) hg').trans hg'.symm
  exact h.imp (key _) (key _)
end Go.Proofs.YtpcajjbdlfookaaGreatDoor
