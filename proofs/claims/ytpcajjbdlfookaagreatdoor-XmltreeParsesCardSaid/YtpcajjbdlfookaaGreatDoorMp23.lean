/- xmltree: how long a token's texts may be. -/
import Derived.Test.YtpcajjbdlfookaaGreatDoorMp17
import Derived.Test.YtpcajjbdlfookaaGreatDoorMp14
import Derived.Test.YtpcajjbdlfookaaGreatDoorMp22
import Derived.Test.YtpcajjbdlfookaaGreatDoorMp21
import Derived.Test.YtpcajjbdlfookaaGreatDoorMp02
import Derived.Test.YtpcajjbdlfookaaGreatDoorMp19
namespace Go.Proofs.YtpcajjbdlfookaaGreatDoor
open Go Go.RowKit Go.Deep
set_option linter.unusedVariables false
set_option linter.unusedSimpArgs false

theorem rsF_len : ∀ (f : Nat) (v : Bool) (r : List UInt8) (a : Nat) (out s : List UInt8), rsF f v r a out = .ok s → s.length ≤ out.length + 4 * r.length
  | 0, v, r, a, out, s, h => by unfold rsF at h; cases h; omega
  | f + 1, v, r, a, out, s, h => by
    unfold rsF at h
    split at h
    · cases h; omega
    split at h
    · split at h
      · cases h
      · rename_i c n hc
        have h1 := rsF_len f _ _ _ _ _ h
        have h2 := E_len4 c
        have h3 := refA_len hc
        rw [List.length_append, List.length_drop] at h1
        omega
    · have h1 := rsF_len f _ _ _ _ _ h
      have h2 := pl_len v (r.take (upto r))
      have h3 := upto_le r
      rw [List.length_append, List.length_drop] at h1
      rw [List.length_take] at h2
      omega
theorem rsT_lenB {v : Bool} {r s : List UInt8} (h : rsT v r = .ok s) : s.length ≤ 4 * r.length := by
  have := rsF_len _ _ _ _ _ _ h
  simpa using this
/-- A token of so many bytes at most. -/
structure TkB (M : Nat) (t : Tk) : Prop where
  name : t.name.length ≤ M
  text : t.text.length ≤ 4 * M
  ats : ∀ x ∈ t.attrs, x.1.length ≤ M
theorem attrP_len {r : List UInt8} {x : List UInt8 × List UInt8} {m : Nat} (h : attrP r = .ok (x, m)) : x.1.length ≤ r.length := by
  unfold attrP at h
  split at h
  · cases h
  split at h
  · split at h
    · cases h
    · cases h
      dsimp only
      rw [List.length_take]
      omega
  · cases h
theorem opnF_lenB (M : Nat) : ∀ (f : Nat) (r : List UInt8) (a : Nat) (l l' : List (List UInt8 × List UInt8)) (b : Bool) (m : Nat), r.length ≤ M → (∀ x ∈ l, x.1.length ≤ M) → opnF attrP f r a l = .ok ((l', b), m) → ∀ x ∈ l', x.1.length ≤ M
  | 0, r, a, l, l', b, m, hr, hl, h => by unfold opnF at h; cases h
  | f + 1, r, a, l, l', b, m, hr, hl, h => by
    unfold opnF at h
    split at h
    · cases h; exact hl
    split at h
    · cases h; exact hl
    split at h
    · cases h
    split at h
    · cases h
    · rename_i x k hx
      refine opnF_lenB M f _ _ _ l' b m (by rw [List.length_drop]; omega) ?_ h
      intro y hy
      rcases List.mem_append.1 hy with h1 | h1
      · exact hl y h1
      · obtain rfl : y = x := by simpa using h1
        have := attrP_len hx
        rw [List.length_drop] at this
        omega
theorem tokG_lenB {r : List UInt8} {k : Tk} {m : Nat} (h : tokG opnP cloP r = .ok (k, m)) : TkB r.length k := by
  unfold tokG at h
  simp only at h
  split at h
  · split at h
    · cases h
    · cases h
      refine ⟨by simp, ?_, fun x hx => by cases hx⟩
      dsimp only
      have := lns_len ((r.drop 9).take (Lib.index (r.drop 9) [93, 93, 62]).toNat)
      rw [List.length_take, List.length_drop] at this
      omega
  split at h
  · cases h
  split at h
  · split at h
    · cases h
    · rename_i t m' hx
      cases h
      unfold cloP at hx
      split at hx
      · cases hx
      split at hx
      · cases hx
        refine ⟨?_, by simp, fun x hx => by cases hx⟩
        dsimp only
        rw [List.length_take, List.length_drop]
        omega
      · cases hx
  split at h
  · split at h
    · cases h
    · rename_i t m' hx
      cases h
      unfold opnP at hx
      split at hx
      · cases hx
      split at hx
      · cases hx
      · rename_i l b m2 hy
        cases hx
        refine ⟨?_, by simp, opnF_lenB r.length _ _ _ _ _ _ _ (by rw [List.length_drop, List.length_drop]; omega) (fun x hx => by cases hx) hy⟩
        dsimp only
        rw [List.length_take, List.length_drop]
        omega
  · obtain ⟨n, -, hd⟩ := dat_eq r
    rw [hd] at h
    split at h
    · cases h
    split at h
    · cases h
    · rename_i s hs
      cases h
      refine ⟨by simp, ?_, fun x hx => by cases hx⟩
      have := rsT_lenB hs
      rw [List.length_take] at this
      dsimp only
      omega
theorem nxt_lenB {xs : List UInt8} {a : Int} {t : Tk} {k : Nat} (h : nxt insP opnP cloP xs a = (t, k, 0)) : TkB xs.length t := by
  have nil : TkB xs.length noT := ⟨by simp [noT], by simp [noT], fun x hx => by cases hx⟩
  unfold nxt at h
  split at h
  · cases h
  split at h
  · cases h
  · split at h
    · cases h
      exact nil
    · split at h
      · cases h
        exact nil
      · rename_i t' n hx
        cases h
        have hb := tokG_lenB hx
        have up : ∀ {i : Nat}, TkB (xs.drop i).length t → TkB xs.length t := fun {i} hb => by
          have hl : (xs.drop i).length ≤ xs.length := by rw [List.length_drop]; omega
          refine ⟨?_, ?_, fun x hx => ?_⟩
          · have := hb.name; omega
          · have := hb.text; omega
          · have := hb.ats x hx; omega
        exact up hb
theorem tokM_lenB {xs : List UInt8} {a q k : Nat} {t : Tk} (h : tokM xs a = .ok (t, q, k)) : TkB xs.length t := nxt_lenB (tokM_ok h).2
end Go.Proofs.YtpcajjbdlfookaaGreatDoor

/- xmltree: the parser's next, however it ends. -/
namespace Go.Proofs.YtpcajjbdlfookaaGreatDoor
open Go Go.RowKit Go.Deep Go.Shelf
set_option linter.unusedVariables false
set_option linter.unusedSimpArgs false

/-- How next ends where it reads a token; the heap has grown. -/
def TokN (w0 w : World) (pb : Nat) (bv sv : Value) (L : BS) (x : Tk × Nat × Nat) (e : Ending) (w' : World) : Prop := TokD w0 w pb bv sv L x e w' ∧ w.heap.size ≤ w'.heap.size
theorem pnextD_c {w0 w : World} (hw0 : BW w0) {pb : Nat} {bv sv : Value} {xs : List UInt8} {L : BS} {a : Nat} (hr : Rd w0 bv xs) (hl : xs.length ≤ 1048576) (h : PX w0 pb bv sv L a w) :
    Calls Tryz.prog 30 #[.pointer (some ⟨pb, 0, none⟩)] w (AftD w0 w pb (tokM xs a) (TokN w0 w pb bv sv L)) := by
  obtain ⟨p', c', rfl⟩ := h.form
  have hr' := hr
  obtain ⟨p, c, hbv, -⟩ := hr'
  subst hbv
  cases ht : tokM xs a with
  | error x =>
    obtain ⟨k, z⟩ := x
    obtain ⟨hz, t, hn⟩ := tokM_err ht
    refine (pnextE_c hw0 hr hl h.ps rfl hn hz).mono ?_
    rintro e w' ⟨h1, h2⟩
    exact ⟨h1, KpD.of_below h2, h.ps.bel.trans (h2.mono h.ps.bel.size)⟩
  | ok x =>
    obtain ⟨t, q, k⟩ := x
    obtain ⟨hq, hn⟩ := tokM_ok ht
    refine (pnext_c hw0 hr hl h.ps (q := q) (r := (skA insP xs a).2) (by rw [hq]) hn).mono ?_
    rintro e w' hh
    obtain ⟨s, he, hat, hp, hc⟩ := hh
    exact ⟨⟨s, he, hat, h.next hp hc, KpD.of_chg hc⟩, hc.size⟩
end Go.Proofs.YtpcajjbdlfookaaGreatDoor

/- xmltree: an element's content that is one text. -/
namespace Go.Proofs.YtpcajjbdlfookaaGreatDoor
open Go Go.RowKit Go.Deep Go.Shelf
set_option linter.unusedVariables false
set_option linter.unusedSimpArgs false

theorem BI.chg {b pb : Nat} {l : List UInt8} {w w' : World} (h : BI b b l w) (hk : Chg [pb] w w') (hp : pb < b) : BI b b l w' := by
  have key : ∀ p, Lib.BuilderAt 131 5 b b p (bcells l) w → Lib.BuilderAt 131 5 b b p (bcells l) w' := by
    rintro p ⟨h1, v, h2, h3, h4⟩
    refine ⟨h1, v, (hk.block b (Array.getElem?_eq_some_iff.1 h2).1 (by simp; omega)).trans h2, rowT_keep h3 (fun g hg => hk.block g (rowT_lt h3 g hg).2 (by have := (rowT_lt h3 g hg).1; simp; omega)), h4⟩
  exact h.imp (key _) (key _)
theorem BI.belowT {b : Nat} {l : List UInt8} {w w' : World} (h : BI b b l w) (hk : Below w.heap.size w w') : BI b b l w' := by
  have key : ∀ p, Lib.BuilderAt 131 5 b b p (bcells l) w → Lib.BuilderAt 131 5 b b p (bcells l) w' := by
    rintro p ⟨h1, v, h2, h3, h4⟩
    exact ⟨h1, v, (hk.block b (Array.getElem?_eq_some_iff.1 h2).1).trans h2, rowT_below h3 hk, h4⟩
  exact h.imp (key _) (key _)
theorem PS.belowB {w0 : World} {pb : Nat} {bv sv : Value} {a : Nat} {w w' : World} {B : Nat} (h : PS w0 pb bv sv a w) (hB : pb < B) (hb : Below B w w') : PS w0 pb bv sv a w' := ⟨h.bel.trans (hb.mono (by have := h.low; omega)), h.low, (hb.block _ hB).trans h.box⟩
theorem Chg.thenB {S : List Nat} {w w1 w2 : World} {B : Nat} (h : Chg S w w1) (hb : Below B w1 w2) (hB : w.heap.size ≤ B) : Chg S w w2 := ⟨hb.os.trans h.os, hb.tape.trans h.tape, hb.output.trans h.output, Nat.le_trans h.size hb.size, fun i hi hn => (hb.block i (by omega)).trans (h.block i hi hn)⟩
/-- How a call ends that gives nothing. -/
def ConE (w0 w : World) (pb eb : Nat) (bv sv : Value) (k : Nat) (c0 c1 c2 : Value) (tx : List UInt8) (e : Ending) (w' : World) : Prop :=
  e = .returned (.tuple #[]) ∧ PS w0 pb bv sv k w' ∧ w'.heap[eb]? = some (.cells #[c0, c1, c2, .slice none 0 0, .string ⟨tx.toArray⟩] 27 (0, 0)) ∧ Chg [pb, eb] w w'
set_option maxRecDepth 100000 in
set_option maxHeartbeats 8000000 in
theorem content0_c {w0 w : World} (hw0 : BW w0) {pb eb : Nat} {p : Option Addr} {n c : Nat} {xs nm tx : List UInt8} {a k1 q1 r1 k2 q2 r2 : Nat} (hr : Rd w0 (.slice p n c) xs) (hl : xs.length ≤ 1048576) (h : PS w0 pb (.slice p n c) (.slice none 0 0) a w)
    (hs1 : skA insP xs a = (q1, r1)) (hn1 : nxt insP opnP cloP xs q1 = (⟨3, [], [], false, tx⟩, k1, 0)) (hs2 : skA insP xs k1 = (q2, r2)) (hn2 : nxt insP opnP cloP xs q2 = (⟨2, nm, [], false, []⟩, k2, 0)) (htx : tx.length ≤ 33554432)
    (k0 s m0 x0 f0 z4 c0 c1 : Value) (c2 : Value) (o : Int) (he : w.heap[eb]? = some (.cells #[c0, c1, c2, .slice none 0 0, z4] 27 (0, 0))) (hne : eb ≠ pb) (hlow : w0.heap.size ≤ eb) :
    Calls Tryz.prog 62 #[.pointer (some ⟨pb, 0, none⟩), .pointer (some ⟨eb, 0, none⟩), .agg #[k0, .string ⟨nm.toArray⟩, s, m0, x0, f0], .int .i64 o] w (ConE w0 w pb eb (.slice p n c) (.slice none 0 0) k2 c0 c1 c2 tx) := by
  obtain ⟨S, hS⟩ : ∃ S : ByteArray, S = ⟨nm.toArray⟩ := ⟨_, rfl⟩
  obtain ⟨U, hU⟩ : ∃ U : ByteArray, U = ⟨tx.toArray⟩ := ⟨_, rfl⟩
  have hpl := h.lt
  have hel := (Array.getElem?_eq_some_iff.1 he).1
  obtain ⟨W0, hW0⟩ : ∃ W0, W0 = (w.alloc (.cells #[k0, .string S, s, m0, x0, f0] 69)).alloc (.cells #[.pointer none, .slice none 0 0] 131) := ⟨_, rfl⟩
  have hb2 : Below w.heap.size w W0 := hW0 ▸ ((box_belT w _).trans ((box_belT _ _).mono (by simp)))
  have hsz0 : W0.heap.size = w.heap.size + 2 := by rw [hW0]; simp
  have ht0 : W0.heap[w.heap.size]? = some (.cells #[k0, .string S, s, m0, x0, f0] 69 (0, 0)) := hW0 ▸ ((box_belT _ _).block _ (by simp)).trans (heap_alloc_new w _)
  have hbi : BI (w.heap.size + 1) (w.heap.size + 1) [] W0 := by
    refine .inl ⟨Nat.le_refl _, .slice none 0 0, ?_, World.ownsRow_nil _ _ _ _, by simp [Value.ownBlock]⟩
    have := heap_alloc_new (w.alloc (.cells #[k0, .string S, s, m0, x0, f0] 69)) (.cells #[.pointer none, .slice none 0 0] 131)
    rw [World.size_alloc] at this
    rw [hW0]
    exact this
  have HN1 := Lib.hid (pnext_c hw0 hr hl (h.below hb2) hs1 hn1)
  have HN2 := Lib.hid (fun (W : World) (hW : PS w0 pb (.slice p n c) (.slice none 0 0) k1 W) => pnext_c hw0 hr hl hW hs2 hn2)
  have HB2 := Lib.hid hb2
  have HT0 := Lib.hid ht0
  have HBI := Lib.hid hbi
  have HSZ0 := Lib.hid hsz0
  have HW0 := Lib.hid hW0
  have HE := Lib.hid he
  have HS := Lib.hid hS
  have HU := Lib.hid hU
  have HLOW := Lib.hid (And.intro h.low hlow)
  unfold ConE
  rw [← hS, ← hU]
  clear hb2 ht0 hbi hsz0 hW0 he hw0 hr hl h hs1 hn1 hs2 hn2 hS hU
  go_enter Tryz.func62, Tryz.ntmps62
  go_wp2_with fail
  refine wp_loop_rounds 2 ?_
  rw [rounds_succ]
  go_wp2_with fail
  rw [← HW0.out]
  refine HN1.out.mono ?_
  rintro e w1 ⟨s1, rfl, hat1, hps1, hc1⟩
  obtain ⟨ps1, cs1, hsv1, -⟩ := hat1.form
  subst hsv1
  dsimp only
  rw [← HU.out]
  have hsz1 := hc1.size
  have HSZ1 := Lib.hid hsz1
  have hbi1 := (HBI.out.chg hc1 (by omega)).belowT (box_belT w1 (.cells #[.int .i64 (3 : Nat), .string ⟨#[]⟩, .slice ps1 0 cs1, .bool false, .string U, .int .i64 q1] 69))
  have HWS := Lib.hid (wstring _ _ _ [] tx hbi1 (by simp) htx (by have := HSZ0.out; simp; omega))
  rw [← HU.out] at HWS
  obtain ⟨g0, g1, g2, g3, g4, g5, gz⟩ := cellsE6 (heap_alloc_new w1 (.cells #[.int .i64 (3 : Nat), .string ⟨#[]⟩, .slice ps1 0 cs1, .bool false, .string U, .int .i64 q1] 69))
  have HP1 := Lib.hid hps1
  have HC1 := Lib.hid hc1
  clear hat1 hps1 hc1 hbi1
  go_wp2_with fail
  refine HWS.out.mono ?_
  rintro e w2 ⟨⟨z, rfl⟩, hba2, hb2⟩
  have hbw1 := box_belT w1 (.cells #[.int .i64 (3 : Nat), .string ⟨#[]⟩, .slice ps1 0 cs1, .bool false, .string U, .int .i64 q1] 69)
  have hsz2 := hb2.size
  have hps2 := (HP1.out.below hbw1).belowB (by omega) hb2
  have HB12 := Lib.hid (show ∀ i, i < w.heap.size + 1 → i ≠ pb → w2.heap[i]? = W0.heap[i]? from fun i hi hp => (hb2.block i hi).trans ((hbw1.block i (by have := HSZ0.out; omega)).trans (HC1.out.block i (by have := HSZ0.out; omega) (by simpa using hp))))
  have HPS2 := Lib.hid hps2
  have HBA2 := Lib.hid hba2
  have HSZ2 := Lib.hid (show w1.heap.size + 1 ≤ w2.heap.size from by simpa using hsz2)
  have HCW2 := Lib.hid ((((Chg.of_below (S := [pb]) HB2.out).then HC1.out (fun i hi => .inl hi)).alloc' _).thenB hb2 (by omega))
  clear hb2 hba2 hbw1 hsz2 hps2 g0 g1 g2 g3 g4 g5 gz
  go_wp2_with fail
  rw [rounds_succ]
  go_wp2_with fail
  refine (HN2.out _ HPS2.out).mono ?_
  rintro e w3 ⟨s3, rfl, hat3, hps3, hc3⟩
  obtain ⟨ps3, cs3, hsv3, -⟩ := hat3.form
  subst hsv3
  dsimp only
  rw [← HS.out]
  have hsz3 := hc3.size
  have HCW3 := Lib.hid (HCW2.out.then hc3 (fun i hi => .inl hi))
  have HB13 := Lib.hid (show ∀ i, i < w.heap.size + 1 → i ≠ pb → w3.heap[i]? = W0.heap[i]? from fun i hi hp => (hc3.block i (by have := HSZ0.out; have := HSZ2.out; omega) (by simpa using hp)).trans (HB12.out i hi hp))
  have hbi3 := (((show BI _ _ _ _ from .inr HBA2.out).chg hc3 (by omega)).belowT (box_belT w3 (.cells #[.int .i64 (2 : Nat), .string S, .slice ps3 0 cs3, .bool false, .string ⟨#[]⟩, .int .i64 q2] 69)))
  have HST := Lib.hid (btext _ _ _ _ hbi3 (by have := HSZ0.out; have := HSZ2.out; simp; omega))
  rw [List.nil_append, ← HU.out] at HST
  obtain ⟨g0, g1, g2, g3, g4, g5, gz⟩ := cellsE6 (heap_alloc_new w3 (.cells #[.int .i64 (2 : Nat), .string S, .slice ps3 0 cs3, .bool false, .string ⟨#[]⟩, .int .i64 q2] 69))
  have ht3 := (HB13.out w.heap.size (by omega) (by omega)).trans HT0.out
  obtain ⟨t0, t1, t2, t3, t4, t5, tz⟩ := cellsE6 ht3
  have htl3 := (Array.getElem?_eq_some_iff.1 ht3).1
  have HPS3 := Lib.hid hps3
  have HSZ3 := Lib.hid hsz3
  clear hat3 hps3 hc3 hbi3 ht3 hsz3
  go_wp2_with fail
  refine HST.out.mono ?_
  rintro e w4 ⟨rfl, hb4⟩
  have hbw3 := box_belT w3 (.cells #[.int .i64 (2 : Nat), .string S, .slice ps3 0 cs3, .bool false, .string ⟨#[]⟩, .int .i64 q2] 69)
  have hps4 := (HPS3.out.below hbw3).belowB (by omega) hb4
  have HB14 := Lib.hid (show ∀ i, i < w.heap.size + 1 → i ≠ pb → w4.heap[i]? = W0.heap[i]? from fun i hi hp => (hb4.block i hi).trans ((hbw3.block i (by have := HSZ0.out; have := HSZ2.out; have := HSZ3.out; omega)).trans (HB13.out i hi hp)))
  have he4 := ((HB14.out eb (by omega) hne).trans (HB2.out.block eb hel)).trans HE.out
  obtain ⟨e0, e1, e2, e3, e4, ez⟩ := cellsE5 he4
  have HPS4 := Lib.hid hps4
  have HCW4 := Lib.hid ((HCW3.out.alloc' _).thenB hb4 (by omega))
  have HE4 := Lib.hid he4
  have hsz4 := hb4.size
  have HSZ4 := Lib.hid (show w.heap.size + 1 ≤ w4.heap.size from by have := HSZ0.out; have := HSZ2.out; have := HSZ3.out; simp at hsz4; omega)
  clear hb4 hbw3 hps4 he4 hsz4 g0 g1 g2 g3 g4 g5 gz t0 t1 t2 t3 t4 t5 tz
  go_wp2_with fail
  refine bodyPost_ret (results_none rfl _ _ _) rfl ?_
  refine ⟨rfl, ⟨HPS4.out.bel.setCell (p := ⟨eb, 4, none⟩) HLOW.out.2 _, HPS4.out.low, (Below.heap_setCell _ _ _ _ (by simpa using Ne.symm hne)).trans HPS4.out.box⟩, by rw [block_set _ _ _ _ _ _ _ HE4.out]; rfl, ?_⟩
  exact (HCW4.out.mono (fun i hi => by simp at hi; simp [hi])).set' eb 4 _ (.inl (by simp))
end Go.Proofs.YtpcajjbdlfookaaGreatDoor

/- xmltree: an element that holds one text; a document of one element. -/
namespace Go.Proofs.YtpcajjbdlfookaaGreatDoor
open Go Go.RowKit Go.Deep Go.Shelf
set_option linter.unusedVariables false
set_option linter.unusedSimpArgs false

theorem PS.respace {w0 : World} {pb : Nat} {bv sv : Value} {a : Nat} {w : World} (h : PS w0 pb bv sv a w) (u : Value) : PS w0 pb bv u a (w.setCell ⟨pb, 2, none⟩ u) :=
  ⟨h.bel.setCell (p := ⟨pb, 2, none⟩) h.low _, h.low, by rw [block_set _ _ _ _ _ _ _ h.box]; rfl⟩
theorem PS.chgT {w0 : World} {pb b : Nat} {bv sv : Value} {a : Nat} {w w' : World} (h : PS w0 pb bv sv a w) (hc : Chg [b] w w') (hn : pb ≠ b) (hb : w0.heap.size ≤ b) : PS w0 pb bv sv a w' :=
  ⟨h.bel.trans (hc.below (B := w0.heap.size) h.bel.size (fun i hi => by simp at hi; subst hi; exact hb)), h.low, (hc.block pb h.lt (by simpa using hn)).trans h.box⟩
/-- How an element ends. -/
def ElE (w0 w : World) (pb : Nat) (bv sv : Value) (k : Nat) (nm tx : List UInt8) (e : Ending) (w' : World) : Prop :=
  e = .returned (.agg #[.string ⟨#[]⟩, .string ⟨nm.toArray⟩, .slice none 0 0, .slice none 0 0, .string ⟨tx.toArray⟩]) ∧ PS w0 pb bv sv k w' ∧ Chg [pb] w w'
set_option maxRecDepth 100000 in
set_option maxHeartbeats 8000000 in
theorem element0_c {w0 w : World} (hw0 : BW w0) {pb : Nat} {p : Option Addr} {n c : Nat} {xs nm tx : List UInt8} {a k1 q1 r1 k2 q2 r2 : Nat} (hr : Rd w0 (.slice p n c) xs) (hl : xs.length ≤ 1048576) (h : PS w0 pb (.slice p n c) (.slice none 0 0) a w)
    (hs1 : skA insP xs a = (q1, r1)) (hn1 : nxt insP opnP cloP xs q1 = (⟨3, [], [], false, tx⟩, k1, 0)) (hs2 : skA insP xs k1 = (q2, r2)) (hn2 : nxt insP opnP cloP xs q2 = (⟨2, nm, [], false, []⟩, k2, 0)) (htx : tx.length ≤ 33554432)
    (hnm : (58 : UInt8) ∉ nm) (hnl : nm.length ≤ 1048576) (k0 s x0 f0 : Value) (hs : AtsIs w s []) :
    Calls Tryz.prog 31 #[.pointer (some ⟨pb, 0, none⟩), .agg #[k0, .string ⟨nm.toArray⟩, s, .bool false, x0, f0], .int .i64 0] w (ElE w0 w pb (.slice p n c) (.slice none 0 0) k2 nm tx) := by
  obtain ⟨ps, cs, hsv, -⟩ := hs.form
  subst hsv
  obtain ⟨W0, hW0⟩ : ∃ W0, W0 = (w.alloc (.cells #[k0, .string ⟨nm.toArray⟩, .slice ps 0 cs, .bool false, x0, f0] 69)).alloc ZE := ⟨_, rfl⟩
  have hb2 : Below w.heap.size w W0 := hW0 ▸ ((box_belT w _).trans ((box_belT _ _).mono (by simp)))
  have hsz0 : W0.heap.size = w.heap.size + 2 := by rw [hW0]; simp
  have ht0 : W0.heap[w.heap.size]? = some (.cells #[k0, .string ⟨nm.toArray⟩, .slice ps 0 cs, .bool false, x0, f0] 69 (0, 0)) := hW0 ▸ ((box_belT _ _).block _ (by simp)).trans (heap_alloc_new w _)
  have hz0 : W0.heap[w.heap.size + 1]? = some ZE := by
    have := heap_alloc_new (w.alloc (.cells #[k0, .string ⟨nm.toArray⟩, .slice ps 0 cs, .bool false, x0, f0] 69)) ZE
    rw [World.size_alloc] at this
    rw [hW0]
    exact this
  have hp0 := h.below hb2
  have HBG := Lib.hid (begin0_c hp0 k0 (.bool false) x0 f0 (.slice ps 0 cs) nm hnm hnl (hs.below hb2))
  have HCT := Lib.hid (fun (W : World) (eb : Nat) (hW : PS w0 pb (.slice p n c) (.slice none 0 0) a W) (he : W.heap[eb]? = some (.cells #[.string ⟨#[]⟩, .string ⟨nm.toArray⟩, .slice none 0 0, .slice none 0 0, .string ⟨#[]⟩] 27 (0, 0))) (hne : eb ≠ pb) (hlow : w0.heap.size ≤ eb) =>
    content0_c hw0 hr hl hW hs1 hn1 hs2 hn2 htx k0 (.slice ps 0 cs) (.bool false) x0 f0 _ _ _ _ 0 he hne hlow)
  obtain ⟨S, hS⟩ : ∃ S : ByteArray, S = ⟨nm.toArray⟩ := ⟨_, rfl⟩
  obtain ⟨U, hU⟩ : ∃ U : ByteArray, U = ⟨tx.toArray⟩ := ⟨_, rfl⟩
  unfold ConE at HCT
  unfold ElE
  rw [← hS] at ht0 hW0 HBG HCT ⊢
  rw [← hU] at HCT ⊢
  have hpl := h.lt
  have HP0 := Lib.hid hp0
  have HB2 := Lib.hid hb2
  have HSZ0 := Lib.hid hsz0
  have HT0 := Lib.hid ht0
  have HZ0 := Lib.hid hz0
  have HW0 := Lib.hid hW0
  have HPP := Lib.hid h
  have hpl0 : pb < W0.heap.size := by omega
  obtain ⟨t0, t1, t2, t3, t4, t5, tz⟩ := cellsE6 ht0
  obtain ⟨y0, y1, y2, yz⟩ := cellsP3 hp0.box
  clear hb2 hW0 hw0 hr hl h hs1 hn1 hs2 hn2 hS hU hs hp0 ht0 hz0
  go_enter Tryz.func31, Tryz.ntmps31
  go_upto_region 1 with (fail)
  rw [← HW0.out]
  go_wp2_with fail
  refine HBG.out.mono ?_
  rintro e w1 ⟨rfl, hb1⟩
  have hps1 := HP0.out.below hb1
  have hbe := box_belT w1 (.cells #[.string ⟨#[]⟩, .string S, .slice none 0 0, .slice none 0 0, .string ⟨#[]⟩] 27)
  have HC2 := Lib.hid (HCT.out (w1.alloc (.cells #[.string ⟨#[]⟩, .string S, .slice none 0 0, .slice none 0 0, .string ⟨#[]⟩] 27)) w1.heap.size (hps1.below hbe) (heap_alloc_new w1 _) (by have := hps1.lt; omega) (by have := hps1.lt; have := hps1.low; omega))
  have ht1 := (hb1.block w.heap.size (by omega)).trans HT0.out
  have hz1 := (hb1.block (w.heap.size + 1) (by omega)).trans HZ0.out
  have hsz1 := hb1.size
  have htl1 : w.heap.size < w1.heap.size := by omega
  have HT1 := Lib.hid ht1
  have HZ1 := Lib.hid hz1
  have HB1 := Lib.hid (HB2.out.trans (hb1.mono HB2.out.size))
  clear t0 t1 t2 t3 t4 t5 tz y0 y1 y2 yz
  obtain ⟨t0, t1, t2, t3, t4, t5, tz⟩ := cellsE6 ht1
  clear hps1 hbe ht1 hz1 hb1
  go_wp2_with fail
  refine HC2.out.mono ?_
  rintro e w2 ⟨rfl, hps2, he2, hc2⟩
  have hba := box_belT w1 (.cells #[.string ⟨#[]⟩, .string S, .slice none 0 0, .slice none 0 0, .string ⟨#[]⟩] 27)
  have hz2 := (hc2.block (w.heap.size + 1) (by simp; omega) (by simp; omega)).trans ((hba.block _ (by omega)).trans HZ1.out)
  have HCW := Lib.hid (((Chg.of_below (S := [pb]) HB1.out).alloc' (.cells #[.string ⟨#[]⟩, .string S, .slice none 0 0, .slice none 0 0, .string ⟨#[]⟩] 27)).then hc2 (fun i hi => by simp at hi; rcases hi with rfl | rfl; exact .inl (by simp); exact .inr (by omega)))
  obtain ⟨e0, e1, e2, e3, e4, ez⟩ := cellsE5 he2
  obtain ⟨y0, y1, y2, yz⟩ := cellsP3 hps2.box
  obtain ⟨z0, z1, z2, z3, z4, zz⟩ := cellsE5 hz2
  have HPS2 := Lib.hid hps2
  have hpl2 := hps2.lt
  have hsp := hps2.respace (.slice none 0 0)
  have hz3 : (w2.setCell ⟨pb, 2, none⟩ (.slice none 0 0)).heap[w.heap.size + 1]? = some ZE := (Below.heap_setCell _ _ _ _ (by simp; omega)).trans hz2
  have hc5 := put5_chg (w2.setCell ⟨pb, 2, none⟩ (.slice none 0 0)) (w.heap.size + 1) (.string ⟨#[]⟩) (.string S) (.slice none 0 0) (.slice none 0 0) (.string U)
  have HA5 := Lib.hid (put5_at hz3 (.string ⟨#[]⟩) (.string S) (.slice none 0 0) (.slice none 0 0) (.string U))
  have HFIN := Lib.hid (And.intro (hsp.chgT (b := w.heap.size + 1) hc5 (by omega) (by have := hps2.low; omega)) ((HCW.out.set' pb 2 (.slice none 0 0) (.inl (by simp))).then hc5 (fun i hi => by simp at hi; subst hi; exact .inr (by omega))))
  clear hsp hz3 hc5
  clear t0 t1 t2 t3 t4 t5 tz hps2 he2 hc2 hba hz2
  go_wp2_with fail
  refine bodyPost_ret (results_cell_row Tryz.results31 _ _ (w.heap.size + 1) 27 _ (0, 0) _ rfl HA5.out Tryz.underlying27 rfl infoE5) rfl ?_
  exact ⟨rfl, HFIN.out.1, HFIN.out.2⟩
end Go.Proofs.YtpcajjbdlfookaaGreatDoor

/- xmltree: how an element and its content end. -/
namespace Go.Proofs.YtpcajjbdlfookaaGreatDoor
open Go Go.RowKit Go.Deep Go.Shelf
set_option linter.unusedVariables false
set_option linter.unusedSimpArgs false

theorem declM_pre : ∀ (l : List (List UInt8 × List UInt8)) (L L' : BS), declM L l = some L' → ∃ M, L' = L ++ M ∧ M.length ≤ l.length
  | [], L, L', h => by
    unfold declM at h
    cases h
    exact ⟨[], by simp, by simp⟩
  | a :: r, L, L', h => by
    unfold declM at h
    split at h
    · split at h
      · cases h
      · obtain ⟨M, hM, hl⟩ := declM_pre r _ _ h
        exact ⟨[((dclM a.1).1, a.2)] ++ M, by rw [hM, List.append_assoc], by simp; omega⟩
    · obtain ⟨M, hM, hl⟩ := declM_pre r _ _ h
      exact ⟨M, hM, by simp; omega⟩
theorem beginM_pre {t : Tk} {L L' : BS} {h : HT} (hb : beginM t L = .ok (h, L')) : ∃ M, L' = L ++ M ∧ M.length ≤ t.attrs.length := by
  unfold beginM at hb
  split at hb
  · cases hb
  split at hb
  · cases hb
  · rename_i L1 hd
    split at hb
    · cases hb
    split at hb
    · cases hb
    split at hb
    · cases hb
    · cases hb
      exact declM_pre _ _ _ hd
theorem dcells_len (L : BS) : (dcells L).length = L.length * 2 := by
  unfold dcells
  induction L with
  | nil => rfl
  | cons a r ih => rw [List.flatMap_cons, List.length_append, ih]; simp; omega
/-- A row cut to its first elements. -/
theorem row_first {w : World} {base n m size : Nat} {e : TypeId} {p : Option Addr} {c : Nat} {xs ys : List Value} (h : w.ownsRow base e size (.slice p (n + m) c) (n + m) (xs ++ ys)) (hx : xs.length = n * size) : w.ownsRow base e size (.slice p n c) n xs := by
  refine ⟨hx, ?_⟩
  rcases h.2 with ⟨h1, h2⟩ | ⟨g, cap, cur, h1, h2, h3, h4, h5, h6, h7⟩
  · left
    simp only [Value.slice.injEq] at h1
    obtain ⟨rfl, h4, rfl⟩ := h1
    obtain rfl : n = 0 := by omega
    exact ⟨rfl, rfl⟩
  · right
    cases h1
    refine ⟨g, c, cur, rfl, h2, h3, by omega, h5, h6, ?_⟩
    have h8 : cur.toList.take (n * size) = (cur.toList.take ((n + m) * size)).take (n * size) := by
      rw [List.take_take, Nat.min_eq_left (Nat.mul_le_mul_right _ (by omega))]
    rw [h8, h7, ← hx, List.take_left']
    rfl
/-- The parser with its declarations cut back. -/
theorem PX.cut {w0 w : World} {pb : Nat} {bv : Value} {L M : BS} {a c : Nat} {p : Option Addr} (h : PX w0 pb bv (.slice p (L ++ M).length c) (L ++ M) a w) : PX w0 pb bv (.slice p L.length c) L a (w.setCell ⟨pb, 2, none⟩ (.slice p L.length c)) := by
  refine ⟨h.ps.respace _, rowT_keep ?_ fun g hg => Below.heap_setCell _ _ _ _ ?_⟩
  · have ho := h.own
    rw [List.length_append] at ho
    have e : dcells (L ++ M) = dcells L ++ dcells M := by unfold dcells; rw [List.flatMap_append]
    rw [e] at ho
    exact row_first ho (dcells_len L)
  · have ho := h.own
    refine row_ne ho h.ps.box (by decide) g ?_
    cases p with
    | none => simp [Value.ownBlock] at hg
    | some x => exact hg
def KpE (pb eb : Nat) (w w' : World) : Prop := ∀ (b : Nat) (cs : Array Value) (T : TypeId) (z : Nat × Nat), b ≠ pb → b ≠ eb → 126 ≠ T → w.heap[b]? = some (.cells cs T z) → w'.heap[b]? = some (.cells cs T z)
theorem KpD.e {pb : Nat} (eb : Nat) {w w' : World} (h : KpD pb w w') : KpE pb eb w w' := fun b cs T z hb _ hT hx => h b cs T z hb hT hx
theorem KpE.trans {pb eb : Nat} {w1 w2 w3 : World} (h : KpE pb eb w1 w2) (h' : KpE pb eb w2 w3) : KpE pb eb w1 w3 := fun b cs T z hb he hT hx => h' b cs T z hb he hT (h b cs T z hb he hT hx)
theorem KpE.set (pb eb : Nat) (w : World) (o : Nat) (v : Value) : KpE pb eb w (w.setCell ⟨eb, o, none⟩ v) := fun b cs T z _ he hT hx => (Below.heap_setCell _ _ _ _ (by simpa using he)).trans hx
/-- What is new is none of what was. -/
theorem KpD.freshE {pb eb : Nat} {w w1 w2 : World} (h : KpD pb w w1) (h' : KpE pb eb w1 w2) (he : w.heap.size ≤ eb) : KpD pb w w2 := fun b cs T z hb hT hx =>
  h' b cs T z hb (by have := (Array.getElem?_eq_some_iff.1 hx).1; omega) hT (h b cs T z hb hT hx)
/-- How an element ends that is read. -/
def EleD (w0 w : World) (pb : Nat) (bv : Value) (L : BS) (o : Nat) (x : ET × Nat) (e : Ending) (w' : World) : Prop :=
  ∃ v sv', e = .returned v ∧ ElemD (okN w.heap.size w') w' (24 - o) v x.1 ∧ PX w0 pb bv sv' L x.2 w' ∧ KpD pb w w'
/-- How the content of an element ends. -/
def ConD (w0 w : World) (pb : Nat) (bv : Value) (L : BS) (eb o : Nat) (R : Except (Nat × Nat) (ET × Nat)) (e : Ending) (w' : World) : Prop := match R with
  | .error x => Boom6 x.1 x.2 e ∧ KpE pb eb w w' ∧ Below w0.heap.size w0 w'
  | .ok x => ∃ av kv sv', e = .returned (.tuple #[]) ∧ w'.heap[eb]? = some (.cells #[.string x.1.space, .string x.1.name, av, kv, .string x.1.text] 27 (0, 0)) ∧ PairsR (okP w') w' av x.1.attrs ∧ KidsD (okN w.heap.size w') w' (24 - o) kv x.1.kids ∧ PX w0 pb bv sv' L x.2 w' ∧ KpE pb eb w w'
end Go.Proofs.YtpcajjbdlfookaaGreatDoor

/- xmltree: the reference: element: what is needed before it is walked. -/
namespace Go.Proofs.YtpcajjbdlfookaaGreatDoor
open Go Go.RowKit Go.Deep Go.Shelf
set_option linter.unusedVariables false
set_option linter.unusedSimpArgs false

/-- A tag's element, by the reference's order of tests. -/
def relM (t : Tk) (L : BS) : Except Nat (HT × BS) := if 201 < t.attrs.length then .error 4 else beginM t L
abbrev zEl2 : Value := .agg #[.string ⟨#[]⟩, .string ⟨#[]⟩, .slice none 0 0, .slice none 0 0, .string ⟨#[]⟩]
/-- How element ends. -/
def RelE (w : World) (R : Except Nat (HT × BS)) (e : Ending) (w' : World) : Prop := match R with
  | .error c => e = .returned (.tuple #[zEl2, .slice none 0 0, .int .i64 (c : Nat)]) ∧ Below w.heap.size w w'
  | .ok (h, L') => ∃ av v', e = .returned (.tuple #[.agg #[.string h.1, .string h.2.1, av, .slice none 0 0, .string ⟨#[]⟩], v', .int .i64 0]) ∧ PairsR (fun b => w.heap.size ≤ b) w' av h.2.2 ∧ RB w' v' L' ∧ Below w.heap.size w w'
theorem results_rel (tm : Array Value) (V : World) (b : Nat) (c0 c1 c2 c3 c4 k z : Value) (h2 : tm.getD 4 undef = .pointer (some ⟨b, 0, none⟩)) (h3 : tm.getD 5 undef = k) (h4 : tm.getD 6 undef = z) (h : V.heap[b]? = some (.cells #[c0, c1, c2, c3, c4] 27 (0, 0))) :
    (results Tryz.f39 tm).run Tryz.prog V = .ok (.tuple #[.agg #[c0, c1, c2, c3, c4], k, z]) V := by
  obtain ⟨e0, e1, e2, e3, e4, _⟩ := cellsE5 h
  have h2' : tm[4]?.getD undef = .pointer (some ⟨b, 0, none⟩) := by simpa using h2
  have h3' : tm[5]?.getD undef = k := by simpa using h3
  have h4' : tm[6]?.getD undef = z := by simpa using h4
  simp [results, Tryz.results39, go_sem, h2', h3', h4', e0, e1, e2, e3, e4]
/-- While the reference reads the attributes: w1, the world in which the element's box was made. -/
structure RpI (W1 : World) (L' : BS) (SP NM : ByteArray) (l : List (List UInt8 × List UInt8)) (k : Nat) (av : Value) (ps : List PT) (wr : World) : Prop where
  bel : Below W1.heap.size W1 wr
  box : wr.heap[W1.heap.size]? = some (.cells #[.string SP, .string NM, av, .slice none 0 0, .string ⟨#[]⟩] 27 (0, 0))
  own : wr.ownsRow W1.heap.size 58 3 av ps.length (pcells ps)
  eq : pairsM L' [] l = pairsM L' ps (l.drop k)
  len : ps.length ≤ k
theorem RpI.step {W1 wr w' : World} {L' : BS} {SP NM : ByteArray} {l : List (List UInt8 × List UInt8)} {k k' : Nat} {av : Value} {ps : List PT} (h : RpI W1 L' SP NM l k av ps wr) (hb : Below wr.heap.size wr w') (hk : k ≤ k') (he : pairsM L' ps (l.drop k) = pairsM L' ps (l.drop k')) : RpI W1 L' SP NM l k' av ps w' :=
  ⟨h.bel.trans (hb.mono h.bel.size), (hb.block _ (Array.getElem?_eq_some_iff.1 h.box).1).trans h.box, rowT_below h.own hb, h.eq.trans he, Nat.le_trans h.len hk⟩
theorem RpI.push {W1 wr W w' : World} {m : Nat} {L' : BS} {SP NM : ByteArray} {l : List (List UInt8 × List UInt8)} {k : Nat} {av av' : Value} {ps : List PT} (h0 : RpI W1 L' SP NM l k av ps wr) (hb : Below wr.heap.size wr W) (p : PT) (hg : W.grownBy w' av.ownBlock) (ho : w'.ownsRow W1.heap.size 58 3 av' m (pcells ps ++ [.string p.1, .string p.2.1, .string p.2.2])) (hm : m = ps.length + 1) (he : pairsM L' ps (l.drop k) = pairsM L' (ps ++ [p]) (l.drop (k + 1))) :
    RpI W1 L' SP NM l (k + 1) av' (ps ++ [p]) (w'.setCell ⟨W1.heap.size, 2, none⟩ av') ∧ w'.heap[W1.heap.size]? = some (.cells #[.string SP, .string NM, av, .slice none 0 0, .string ⟨#[]⟩] 27 (0, 0)) := by
  subst hm
  have h := h0.step hb (Nat.le_refl k) rfl
  have hbx : w'.heap[W1.heap.size]? = some (.cells #[.string SP, .string NM, av, .slice none 0 0, .string ⟨#[]⟩] 27 (0, 0)) := (hg.block W1.heap.size (Array.getElem?_eq_some_iff.1 h.box).1 (fun e => row_ne h.own h.box (by decide) W1.heap.size e.symm rfl)).trans h.box
  have hrow := fun g hg => rowT_lt h.own g hg
  have hbel := h.bel.grown hg h.bel.size (fun b e => (hrow b e).1)
  have hset : ∀ i, i ≠ W1.heap.size → (w'.setCell ⟨W1.heap.size, 2, none⟩ av').heap[i]? = w'.heap[i]? := fun i hi => Below.heap_setCell _ _ _ _ hi
  refine ⟨⟨hbel.setCell (p := ⟨W1.heap.size, 2, none⟩) (Nat.le_refl _) _, by rw [block_set _ _ _ _ _ _ _ hbx]; rfl, ?_, h.eq.trans he, by rw [List.length_append]; have := h.len; simp; omega⟩, hbx⟩
  have e : pcells (ps ++ [p]) = pcells ps ++ [.string p.1, .string p.2.1, .string p.2.2] := by
    unfold pcells
    rw [List.flatMap_append]
    rfl
  rw [e, List.length_append]
  exact rowT_keep ho fun g hg2 => hset g (row_ne ho hbx (by decide) g hg2)
/-- The element's lists, given back. -/
theorem RpI.give {w W1 wr w2 : World} {L' : BS} {SP NM : ByteArray} {l : List (List UInt8 × List UInt8)} {k : Nat} {av : Value} {ps : List PT} (h : RpI W1 L' SP NM l k av ps wr) (hw : w.heap.size ≤ W1.heap.size) (hb : Below wr.heap.size wr w2) : PairsR (fun b => w.heap.size ≤ b) w2 av ps :=
  PairsR.ofOwn (OwnS.ofRow (rowT_below h.own hb)) (fun b hb => Nat.le_trans hw hb)
end Go.Proofs.YtpcajjbdlfookaaGreatDoor
