/- xmllex: the scanner: its state; rest, fail, take, need, through. -/
import Derived.Test.YtgkoknckaajgmaaGreatDoorHm
import Derived.Deep.QuietTactic
import Derived.BigQuiet
namespace Go.Proofs.YtgkoknckaajgmaaGreatDoor
open Go.RowKit
set_option linter.unusedVariables false

def Far (pb : Nat) : Prop := 0 ≠ pb ∧ 1 ≠ pb ∧ 2 ≠ pb ∧ 3 ≠ pb ∧ 4 ≠ pb
theorem chg_cell {pb g o : Nat} {w w' : World} {u : Value} (h : Chg [pb] w w') (hc : w.cell? ⟨g, o, none⟩ = some u) (hg : g ≠ pb) : w'.cell? ⟨g, o, none⟩ = some u := by
  rw [World.cell?_of_block (w := w) (h.block g (World.block_lt_of_cell? w _ hc) (by simpa using hg))]
  exact hc
theorem BW.chg {pb : Nat} {w w' : World} (h : BW w) (hc : Chg [pb] w w') (hf : Far pb) : BW w' := by
  obtain ⟨f1, f2, f3, f4, f5⟩ := hf
  refine ⟨⟨fun c hx => chg_cell hc (h.tab.1 c hx) f1, fun i hi => ⟨chg_cell hc (h.tab.2 i hi).1 f2, chg_cell hc (h.tab.2 i hi).2 f2⟩⟩, ?_, ?_, ?_⟩
  · obtain ⟨m, hm⟩ := h.mx
    exact ⟨m, chg_cell hc hm f3⟩
  · obtain ⟨ev, h1, h2⟩ := h.es
    exact ⟨ev, chg_cell hc h1 f4, h2⟩
  · obtain ⟨ev, h1, h2⟩ := h.er
    exact ⟨ev, chg_cell hc h1 f5, h2⟩
/-- The scanner at block pb reads these bytes, from a on; f: where the present piece begins. -/
structure SC (w : World) (pb : Nat) (xs : List UInt8) (a f : Nat) : Prop where
  bw : BW w
  far : Far pb
  box : ∃ p c, w.heap[pb]? = some (.cells #[.slice p xs.length c, .int .i64 (a : Nat), .int .i64 (f : Nat)] 162 (0, 0)) ∧ Rd w (.slice p xs.length c) xs ∧ (0 < xs.length → ∀ g o m, p = some ⟨g, o, m⟩ → g < pb)
  le : a ≤ xs.length ∧ xs.length ≤ 1048576 ∧ f ≤ 1048576
theorem SC.lt {w : World} {pb : Nat} {xs : List UInt8} {a f : Nat} (h : SC w pb xs a f) : pb < w.heap.size := by
  obtain ⟨p, c, hb, _⟩ := h.box
  exact (Array.getElem?_eq_some_iff.1 hb).1
theorem rd_chg {pb : Nat} {w w' : World} {v s0 : Value} {n1 n2 : Int} {xs : List UInt8} (h : Rd w v xs) (hc : Chg [pb] w w') (hb : w.heap[pb]? = some (.cells #[s0, .int .i64 n1, .int .i64 n2] 162 (0, 0))) (hs : ∃ p n c, s0 = .slice p n c) : Rd w' v xs := by
  obtain ⟨sp, sn, sc, rfl⟩ := hs
  obtain ⟨p, c, rfl, h1, h2, h3, h4⟩ := h
  refine ⟨p, c, rfl, h1, h2, h3, fun hp => ?_⟩
  obtain ⟨g, o, hg, hx⟩ := h4 hp
  refine ⟨g, o, hg, fun i hi => chg_cell hc (hx i hi) ?_⟩
  rintro rfl
  have := hx i hi
  simp only [World.cell?, hb] at this
  match o + i, this with
  | 0, hc => simp at hc
  | 1, hc => simp at hc
  | 2, hc => simp at hc
  | k + 3, hc => simp at hc
theorem SC.rd {w w' : World} {pb : Nat} {xs ys : List UInt8} {a f : Nat} {v : Value} (h : SC w pb xs a f) (hr : Rd w v ys) (hc : Chg [pb] w w') : Rd w' v ys := by
  obtain ⟨p, c, hb, _⟩ := h.box
  exact rd_chg hr hc hb ⟨_, _, _, rfl⟩
theorem SC.below {w w' : World} {pb : Nat} {xs : List UInt8} {a f : Nat} (h : SC w pb xs a f) (hb : Below w.heap.size w w') : SC w' pb xs a f := by
  obtain ⟨p, c, h1, h2, h9⟩ := h.box
  exact ⟨h.bw.below hb, h.far, ⟨p, c, (hb.block _ h.lt).trans h1, h2.below hb, h9⟩, h.le⟩
theorem cells3 {w : World} {b : Nat} {c0 c1 c2 : Value} {T : TypeId} (h : w.heap[b]? = some (.cells #[c0, c1, c2] T (0, 0))) : w.cell? ⟨b, 0, none⟩ = some c0 ∧ w.cell? ⟨b, 1, none⟩ = some c1 ∧ w.cell? ⟨b, 2, none⟩ = some c2 ∧ (∀ o, w.frozen? ⟨b, o, none⟩ = false) := by
  refine ⟨?_, ?_, ?_, fun o => ?_⟩ <;> simp [World.cell?, World.frozen?, h]
/-- The offset goes on; the piece's beginning is set. -/
theorem SC.go {w w' : World} {pb : Nat} {xs : List UInt8} {a f : Nat} (h : SC w pb xs a f) (hb : Below w.heap.size w w') (a' : Nat) (ha : a' ≤ xs.length) : SC (w'.setCell ⟨pb, 1, none⟩ (.int .i64 (a' : Nat))) pb xs a' f ∧ Chg [pb] w (w'.setCell ⟨pb, 1, none⟩ (.int .i64 (a' : Nat))) := by
  have h' := h.below hb
  obtain ⟨p, c, h1, h2, h9⟩ := h'.box
  have hc : Chg [pb] w' (w'.setCell ⟨pb, 1, none⟩ (.int .i64 (a' : Nat))) := (Chg.refl _ _).set' _ _ _ (.inl (by simp))
  refine ⟨⟨h'.bw.chg hc h.far, h.far, ⟨p, c, ?_, rd_chg h2 hc h1 ⟨_, _, _, rfl⟩, h9⟩, ha, h.le.2⟩, (Chg.of_below hb).trans hc⟩
  rw [block_set _ _ _ _ _ _ _ h1]
  rfl
theorem SC.mark {w : World} {pb : Nat} {xs : List UInt8} {a f : Nat} (h : SC w pb xs a f) : SC (w.setCell ⟨pb, 2, none⟩ (.int .i64 (a : Nat))) pb xs a a ∧ Chg [pb] w (w.setCell ⟨pb, 2, none⟩ (.int .i64 (a : Nat))) := by
  obtain ⟨p, c, h1, h2, h9⟩ := h.box
  have hc : Chg [pb] w (w.setCell ⟨pb, 2, none⟩ (.int .i64 (a : Nat))) := (Chg.refl _ _).set' _ _ _ (.inl (by simp))
  refine ⟨⟨h.bw.chg hc h.far, h.far, ⟨p, c, ?_, rd_chg h2 hc h1 ⟨_, _, _, rfl⟩, h9⟩, h.le.1, h.le.2.1, by have := h.le; omega⟩, hc⟩
  rw [block_set _ _ _ _ _ _ _ h1]
  rfl

/-- What is raised. -/
def Boom (f : Nat) (c : Int) (e : Ending) : Prop := e = .panicked [{ v := .iface 160 (.agg #[.int .i64 (f : Nat), .int .i64 c]), recovered := false }]
theorem fail_c {w : World} {pb : Nat} {xs : List UInt8} {a f : Nat} (h : SC w pb xs a f) (c : Int) : Calls Tryz.prog 120 #[.pointer (some ⟨pb, 0, none⟩), .int .i64 c] w fun e w' => Boom f c e ∧ w = w' := by
  obtain ⟨p, cc, hb, _⟩ := h.box
  obtain ⟨c0, c1, c2, _⟩ := cells3 hb
  clear h hb c0 c1
  go_enter Tryz.func120, Tryz.ntmps120
  go_wp2
  exact ⟨rfl, rfl, rfl⟩
set_option maxRecDepth 100000 in
theorem rest_c {w : World} {pb : Nat} {xs : List UInt8} {a f : Nat} (h : SC w pb xs a f) : Calls Tryz.prog 131 #[.pointer (some ⟨pb, 0, none⟩)] w fun e w' =>
    ∃ p m c, e = .returned (.slice p m c) ∧ Rd w' (.slice p m c) (xs.drop a) ∧ Below w.heap.size w w' := by
  obtain ⟨p, cc, hb, hr, _⟩ := h.box
  obtain ⟨c0, c1, c2, _⟩ := cells3 hb
  obtain ⟨p', m, c', hs, hr'⟩ := slice_from hr a h.le.1
  have HR := Lib.hid hr'
  have HB := Lib.hid (Below.refl w.heap.size w)
  obtain ⟨L, hL⟩ : ∃ L, L = xs.length := ⟨_, rfl⟩
  rw [← hL] at hs c0
  clear h hb c2 hr hr' hL
  go_enter Tryz.func131, Tryz.ntmps131
  go_wp2_with fail
  go_quiet (fail)
  go_wp2
  go_ret
  exact ⟨_, _, _, rfl, HR.out.below (below_drewN (Below.refl _ _) _), below_drewN (Below.refl _ _) _⟩

def adv : Bool → Nat → Nat → Nat
  | true, a, n => a + n
  | false, a, _ => a
theorem pre_len {r m : List UInt8} (h : Lib.hasPrefix r m = true) : m.length ≤ r.length := by
  unfold Lib.hasPrefix at h
  exact (List.isPrefixOf_iff_prefix.1 h).length_le
set_option maxRecDepth 100000 in
set_option maxHeartbeats 1000000 in
theorem take_c {w : World} {pb : Nat} {xs : List UInt8} {a f : Nat} (h : SC w pb xs a f) (ms : ByteArray) (hms : ms.size ≤ 100) (b : Bool) (hb : Lib.hasPrefix (xs.drop a) ms.data.toList = b) : Calls Tryz.prog 115 #[.pointer (some ⟨pb, 0, none⟩), .string ms] w fun e w' =>
    e = .returned (.bool b) ∧ SC w' pb xs (adv b a ms.size) f ∧ Chg [pb] w w' := by
  have hml : ms.data.toList.length = ms.size := by rw [Array.length_toList]; rfl
  have HRC := Lib.hid (rest_c h)
  have HS := Lib.hid h
  have HB := Lib.hid hb
  have hcv := fun (w : World) => Lib.run_convert_string_bytes (P := Tryz.prog) w 9 22 5 ms (u := .string) Tryz.underlying9 Tryz.underlying22 Tryz.underlying5
  have hle := h.le
  clear h hb
  cases b with
  | false =>
    go_enter Tryz.func115, Tryz.ntmps115
    go_wp2_with fail
    refine HRC.out.mono ?_
    rintro e w1 ⟨p, m, c, rfl, hr, hb1⟩
    have hbw := bytesW_below w1 5 ms
    have HP := hasPrefix_c (Lib.bytesWorld w1 5 ms) _ _ _ _ (hr.below hbw) (bytesW_rd w1 5 ms (by omega))
    rw [HB.out] at HP
    have HPP := Lib.hid HP
    have HX := Lib.hid (hb1.trans (hbw.mono hb1.size))
    have hcv1 := hcv w1
    obtain ⟨W, hW⟩ : ∃ W, W = Lib.bytesWorld w1 5 ms := ⟨_, rfl⟩
    rw [← hW] at HPP HX hcv1
    clear hb1 hr hbw hW HP hcv
    go_wp2_with (go_at_call 130; refine (HPP.out).mono ?_; rintro e w2 ⟨rfl, rfl⟩)
    go_ret
    exact ⟨rfl, HS.out.below HX.out, Chg.of_below HX.out⟩
  | true =>
    have hpl := pre_len HB.out
    rw [hml, List.length_drop] at hpl
    go_enter Tryz.func115, Tryz.ntmps115
    go_wp2_with fail
    refine HRC.out.mono ?_
    rintro e w1 ⟨p, m, c, rfl, hr, hb1⟩
    have hbw := bytesW_below w1 5 ms
    have HP := hasPrefix_c (Lib.bytesWorld w1 5 ms) _ _ _ _ (hr.below hbw) (bytesW_rd w1 5 ms (by omega))
    rw [HB.out] at HP
    have HPP := Lib.hid HP
    have hx := hb1.trans (hbw.mono hb1.size)
    have HX := Lib.hid hx
    have hcv1 := hcv w1
    obtain ⟨sp, sc, hbox, _⟩ := (HS.out.below hx).box
    obtain ⟨c0, c1, c2, cz⟩ := cells3 hbox
    have HG := Lib.hid (HS.out.go hx (a + ms.size) (by omega))
    rw [show ((a + ms.size : Nat) : Int) = (a : Int) + (ms.size : Int) by omega] at HG
    obtain ⟨W, hW⟩ : ∃ W, W = Lib.bytesWorld w1 5 ms := ⟨_, rfl⟩
    rw [← hW] at HPP HX hcv1 c1 cz HG
    clear hb1 hr hbw hW HP hcv hx hbox c0 c2
    go_wp2_with (go_at_call 130; refine (HPP.out).mono ?_; rintro e w2 ⟨rfl, rfl⟩)
    go_ret
    exact ⟨rfl, HG.out.1, HG.out.2⟩
end Go.Proofs.YtgkoknckaajgmaaGreatDoor
