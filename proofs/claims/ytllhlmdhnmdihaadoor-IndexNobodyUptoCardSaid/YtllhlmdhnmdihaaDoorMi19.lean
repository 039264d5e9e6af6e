/- Proved: for all cases and all events that together are of bulk at most 1048576, the law IndexNobody returns true: an index that no call made (nil, or the zero value) has no hooks for the event, and records nothing: the case that its Latch returns is the given one, with no paths. Conditions: the card's (the arguments' size). -/
import Derived.Test.YtllhlmdhnmdihaaDoorMi18
import Derived.Test.YtllhlmdhnmdihaaDoorMi17
import Derived.ProofKit
import Derived.SizedLaws
import Derived.ShutString
import Derived.ChangeOld
namespace Go.Proofs.YtllhlmdhnmdihaaDoor.indexNobody
open Go Go.ChangeShapes Go.WideShapes Go.ChangeAt Go.RowKit Go.Shelf Go.Deep
open Go.ChangeMaps (open_string shut_string)
set_option linter.unusedVariables false
set_option linter.unusedSimpArgs false

theorem okC_parts {c : CV} (h : okC c = true) : (∀ x ∈ c.insts, x.ls.length ≤ 40) ∧ (∀ x ∈ c.docs, x.rs.length ≤ 40) ∧ c.insts.length ≤ 40 ∧ c.docs.length ≤ 100 := by
  unfold okC okI okD at h
  simp only [Bool.and_eq_true, List.all_eq_true, decide_eq_true_eq] at h
  obtain ⟨⟨h1, h2⟩, h3, h4⟩ := h
  exact ⟨fun x hx => (h1 x hx).2, fun x hx => (h2 x hx).2, h3, by omega⟩

/-- An event, given by value. -/
structure EvV where
  p : ByteArray
  f : Bool
  n : Int
def EvV.val (x : EvV) : Value := .agg #[.string x.p, .bool x.f, .int .i64 x.n]

section
variable {H : Type} {enc : TypeId × Value → H} {P : Program} {w : World} {base : Nat} {spare : Nat → Bool} {held : Bool}
/-- A struct of three one-cell fields, by value. -/
theorem agg3_open {r : Reach} {b0 : Nat} {t : TypeId} {f0 f1 f2 : Field} {v : Value} {d : DataW H} {p : List MemPlace} (hs : P.underlying t = some (.struct #[f0, f1, f2])) (hone : oneCellFields P #[f0, f1, f2] = true) (hC : P.cellsOf t = 3)
    (hv : Value.okWide P w r b0 t v) (h : DataW.Trod enc P w base spare held t v d p) :
    ∃ (v0 v1 v2 : Value) (y0 y1 y2 : DataW H × List MemPlace) (n : Nat), v = .agg #[v0, v1, v2] ∧ d = .agg [y0.1, y1.1, y2.1] ∧
      DataW.trod enc P w base spare held n f0.type [v0] = some y0 ∧ DataW.trod enc P w base spare held n f1.type [v1] = some y1 ∧ DataW.trod enc P w base spare held n f2.type [v2] = some y2 := by
  obtain ⟨cs, rfl, hsz⟩ := okWide_struct hs hv
  obtain ⟨l⟩ := cs
  match l, hsz.trans hC with
  | [c0, c1, c2], _ =>
    obtain ⟨fuel, hf⟩ := h
    obtain ⟨xs, n, _, hx, _, hlen, hg⟩ := DataW.trod_struct hs hf
    obtain ⟨o0, k0⟩ := hone_of hone 0 f0 rfl
    obtain ⟨o1, k1⟩ := hone_of hone 1 f1 rfl
    obtain ⟨o2, k2⟩ := hone_of hone 2 f2 rfl
    match xs, hlen with
    | [y0, y1, y2], _ =>
      simp only [Prod.mk.injEq] at hx
      exact ⟨c0, c1, c2, y0, y1, y2, n, rfl, by simpa using hx.1, by simpa [Value.cells, o0, k0] using hg 0 f0 rfl, by simpa [Value.cells, o1, k1] using hg 1 f1 rfl, by simpa [Value.cells, o2, k2] using hg 2 f2 rfl⟩
set_option maxRecDepth 100000 in
theorem event_open {r : Reach} {b0 : Nat} {v : Value} {d : DataW H} {p : List MemPlace} (hv : Value.okWide Tryd.prog w r b0 27 v) (h : DataW.Trod enc Tryd.prog w base spare held 27 v d p) :
    ∃ x : EvV, v = x.val ∧ ∃ a b : DataW H, d = .agg [.lit (.string x.p.data.toList), a, b] := by
  obtain ⟨v0, v1, v2, y0, y1, y2, m, rfl, hd, t0, t1, t2⟩ := agg3_open Tryd.underlying27 (by kernel_rfl) (by kernel_rfl) hv h
  obtain ⟨s, e0, x0, hs⟩ := DataW.trod_string Tryd.underlying9 t0
  obtain ⟨y, e1, _⟩ := DataW.trod_bool Tryd.underlying4 t1
  obtain ⟨n, e2, _, wn⟩ := DataW.trod_int Tryd.underlying3 t2
  simp only [List.cons.injEq, and_true] at e0 e1 e2
  subst e0 e1 e2
  exact ⟨⟨s, y, n⟩, rfl, y1.1, y2.1, by rw [hd, x0]⟩
end
theorem bulk_event {H : Type} (a b : DataW H) (s : ByteArray) (l : List (DataW H)) (hk : Rows.uptoBulkAll l ≤ 1048576) (h : DataW.agg [.lit (.string s.data.toList), a, b] ∈ l) : s.size ≤ 1048576 := by
  have h1 := bulk_part h
  have h2 : Rows.uptoBulk (DataW.lit (.string s.data.toList) : DataW H) ≤ Rows.uptoBulkAll [.lit (.string s.data.toList), a, b] := bulk_part (by simp)
  have h3 : s.data.toList.length = s.size := by rw [Array.length_toList]; rfl
  simp only [Rows.uptoBulk] at h1 h2
  omega

set_option maxRecDepth 100000 in
set_option maxHeartbeats 4000000 in
theorem walk (c : CV) (ev : EvV) (w : World) (hT : Tabs w) (hc : CVok w c) (he : ev.p.size ≤ 1048576) :
    Calls Tryd.prog 3 #[c.val, ev.val] w fun e w' => e = .returned (.bool true) ∧ Below w.heap.size w w' := by
  have HP := Lib.hid (fun (W : World) (hb : Below w.heap.size w W) => plain_c W c (hc.below hb))
  have HA := Lib.hid awake_c
  have hl1 := hc.insts.1
  have hd1 := hc.docs.1
  have HL := Lib.hid (fun (ok : okC c = true) (x : Value) (W : World) (hb : Below w.heap.size w W) (hx : Nobody W x) => latch_none W x hx c (hc.below hb) (okC_parts ok).1 (okC_parts ok).2.1 (okC_parts ok).2.2.1 (okC_parts ok).2.2.2 ev.p ev.f ev.n (by omega))
  have HF := Lib.hid (fun (x : Value) (W : World) (hx : Nobody W x) => for_none W x hx ev.p ev.f ev.n (by omega))
  have HS := Lib.hid (fun (c2 : CV) (W : World) (hb : Below w.heap.size w W) (h2 : CVok W c2) (hs : sameC c2 c = true) => (show Calls Tryd.prog 8 #[c2.val, c.val] W fun e w' => e = .returned (.bool true) ∧ Below W.heap.size W w' from by have := rsameC_c W c2 c h2 (hc.below hb); rwa [hs] at this))
  obtain ⟨q, eq⟩ : ∃ q, okC c = q := ⟨_, rfl⟩
  simp only [eq] at HP HL
  clear hc hT he
  have HSQ := Lib.hid (fun (c2 : CV) (h : sameC c2 c = true) => h)
  obtain ⟨SC, hSC⟩ : ∃ SC : CV → Prop, ∀ c2, SC c2 = (sameC c2 c = true) := ⟨fun c2 => sameC c2 c = true, fun _ => rfl⟩
  clear HSQ
  have HLC := Lib.hid (fun (W : World) (e : Ending) (W' : World) (h : LatchC W c e W') => (show ∃ c2 : CV, e = .returned (.tuple #[c2.val, .slice none 0 0]) ∧ CVok W' c2 ∧ SC c2 ∧ Below W.heap.size W W' from by obtain ⟨c2, h1, h2, h3, h4⟩ := h; exact ⟨c2, h1, h2, by rw [hSC]; exact h3, h4⟩))
  have HL2 := Lib.hid (fun (ok : q = true) (x : Value) (W : World) (hb : Below w.heap.size w W) (hx : Nobody W x) => (HL.out ok x W hb hx).mono fun e W' h => HLC.out W e W' h)
  have HS2 := Lib.hid (fun (c2 : CV) (W : World) (hb : Below w.heap.size w W) (h2 : CVok W c2) (hs : SC c2) => HS.out c2 W hb h2 (by rw [← hSC]; exact hs))
  clear HL HS HLC hSC eq
  obtain ⟨id, mo, iv, dv, cl, is, ds⟩ := c
  dsimp only at hl1 hd1
  obtain ⟨a, ca, hv1, hz1, hz2, hz3, hz4⟩ := hl1
  obtain ⟨b, cb, hv3, hz5, hz6, hz7, hz8⟩ := hd1
  clear hz1 hz2 hz3 hz4 hz5 hz6 hz7 hz8
  subst hv1 hv3
  obtain ⟨p, f, n⟩ := ev
  unfold CV.val at HP HL2 HS2 ⊢
  unfold EvV.val
  dsimp only at HP HL2 HS2 HF ⊢
  obtain ⟨w0, hw0⟩ : ∃ x, x = (w.alloc (.cells #[.int .i64 id, .string mo, .slice a is.length ca, .slice b ds.length cb, .int .i64 cl] 25)).alloc (.cells #[.string p, .bool f, .int .i64 n] 27) := ⟨_, rfl⟩
  have HBW := Lib.hid (show Below w.heap.size w w0 from by rw [hw0]; exact (box_bel' w _).alloc (box_bel' w _).size _)
  have HB1 := Lib.hid (show w0.heap[w.heap.size]? = some (.cells #[.int .i64 id, .string mo, .slice a is.length ca, .slice b ds.length cb, .int .i64 cl] 25 (0, 0)) from by rw [hw0]; exact two_old w _ _)
  have HB2 := Lib.hid (show w0.heap[w.heap.size + 1]? = some (.cells #[.string p, .bool f, .int .i64 n] 27 (0, 0)) from by rw [hw0]; exact two_new w _ _)
  have HSW := Lib.hid (show w0.heap.size = w.heap.size + 2 from by rw [hw0]; simp)
  have HW0 := Lib.hid hw0
  clear hw0
  cases q
  · clear HL2 HS2 HF
    go_enter Tryd.func3, Tryd.ntmps3
    go_wp2_with fail
    rw [← HW0.out]
    obtain ⟨d0, d1, d2, d3, d4, dz⟩ := cells5 HB1.out
    go_wp2_with fail
    refine (HP.out _ HBW.out).mono ?_
    rintro e w1 ⟨rfl, hb1⟩
    have HC1 := Lib.hid (HBW.out.trans (hb1.mono HBW.out.size))
    clear hb1
    go_wp2_with fail
    refine (HA.out _).mono ?_
    rintro e w2 ⟨rfl, hb2⟩
    go_wp2_with fail
    go_ret
    exact ⟨rfl, HC1.out.trans (hb2.mono HC1.out.size)⟩
  · have HL3 := Lib.hid (HL2.out rfl)
    clear HL2
    go_enter Tryd.func3, Tryd.ntmps3
    go_wp2_with fail
    rw [← HW0.out]
    obtain ⟨d0, d1, d2, d3, d4, dz⟩ := cells5 HB1.out
    go_wp2_with fail
    refine (HP.out _ HBW.out).mono ?_
    rintro e w1 ⟨rfl, hb1⟩
    have HC1 := Lib.hid (HBW.out.trans (hb1.mono HBW.out.size))
    have hs1 : w.heap.size + 2 ≤ w1.heap.size := by have := hb1.size; have := HSW.out; omega
    have g1 := (hb1.block w.heap.size (by have := HSW.out; omega)).trans HB1.out
    have g2 := (hb1.block (w.heap.size + 1) (by have := HSW.out; omega)).trans HB2.out
    have G1 := Lib.hid g1
    have G2 := Lib.hid g2
    clear hb1 d0 d1 d2 d3 d4 dz g1 g2
    go_wp2_with fail
    obtain ⟨w2, hw2⟩ : ∃ y, y = (w1.alloc (.cells zeroX 41)).alloc (.cells #[.pointer none, .pointer (some ⟨w1.heap.size, 0, none⟩)] 30) := ⟨_, rfl⟩
    have hbb : Below w1.heap.size w1 w2 := by rw [hw2]; exact (box_bel' w1 _).alloc (box_bel' w1 _).size _
    have HX := Lib.hid (show ∀ k, k < 2 → ∃ x, w2.cell? ⟨w1.heap.size + 1, k, none⟩ = some x ∧ Nobody w2 x from by
      have e2 : w2.heap[w1.heap.size + 1]? = some (.cells #[.pointer none, .pointer (some ⟨w1.heap.size, 0, none⟩)] 30 (0, 0)) := by rw [hw2]; exact two_new w1 _ _
      have e1 : w2.heap[w1.heap.size]? = some (.cells zeroX 41 (0, 0)) := by rw [hw2]; exact two_old w1 _ _
      intro k hk
      rcases (by omega : k = 0 ∨ k = 1) with rfl | rfl
      · exact ⟨.pointer none, by simp [World.cell?, e2], .inl rfl⟩
      · exact ⟨.pointer (some ⟨w1.heap.size, 0, none⟩), by simp [World.cell?, e2], .inr ⟨_, rfl, e1⟩⟩)
    have hl2 : w1.heap.size + 1 < w2.heap.size := by rw [hw2]; simp
    unfold zeroX at hw2
    rw [← hw2]
    have HB2' := Lib.hid (HC1.out.trans (hbb.mono HC1.out.size))
    have HG1 := Lib.hid ((hbb.block w.heap.size (by omega)).trans G1.out)
    have HG2 := Lib.hid ((hbb.block (w.heap.size + 1) (by omega)).trans G2.out)
    have hl1 : w.heap.size + 1 < w2.heap.size := by omega
    clear hw2 hbb
    go_loopw [17] (fun i wr => ∃ k : Nat, k ≤ 2 ∧ i = .int .i64 k ∧ Below w2.heap.size w2 wr) (fun i _ => 2 - (intOf i).toNat)
    case atStart => exact ⟨0, by omega, rfl, Below.refl _ _⟩
    case round =>
      obtain ⟨k, hk, rfl, hbr⟩ := hrel
      have HBR := Lib.hid hbr
      clear hbr
      have hk2 : (k : Int) ≤ 2 := by omega
      by_cases hlt : k < 2
      · obtain ⟨x, hxc, hxn⟩ := HX.out k hlt
        have HXN := Lib.hid (hxn.below HBR.out)
        have x0 : wr.cell? ⟨w1.heap.size + 1, k, none⟩ = some x := (HBR.out.cell (p := ⟨w1.heap.size + 1, k, none⟩) hl2).trans hxc
        obtain ⟨d0, d1, d2, d3, d4, dz⟩ := cells5 ((HBR.out.block w.heap.size (by omega)).trans HG1.out)
        obtain ⟨f0, f1, f2, fz⟩ := cells3x ((HBR.out.block (w.heap.size + 1) (by omega)).trans HG2.out)
        have hd : decide ((k : Int) < 2) = true := decide_eq_true (by omega)
        clear hxc hxn
        go_wp2_with fail
        refine (HL3.out x _ (HB2'.out.trans (HBR.out.mono HB2'.out.size)) HXN.out).mono ?_
        rintro e w4 ⟨c2, rfl, hc2, hs2, hb4⟩
        have HBx := Lib.hid (HBR.out.trans (hb4.mono HBR.out.size))
        have HXN4 := Lib.hid (HXN.out.below hb4)
        have HC2 := Lib.hid hc2
        have HSC := Lib.hid hs2
        have hl4 := hc2.insts.1
        have hd4 := hc2.docs.1
        have HS4 := Lib.hid (fun (W : World) (hb : Below w4.heap.size w4 W) => HS2.out c2 W ((HB2'.out.trans (HBx.out.mono HB2'.out.size)).trans (hb.mono (HB2'.out.trans (HBx.out.mono HB2'.out.size)).size)) (HC2.out.below hb) HSC.out)
        clear d0 d1 d2 d3 d4 dz f0 f1 f2 fz x0 hc2 hs2 hb4
        obtain ⟨d0, d1, d2, d3, d4, dz⟩ := cells5 ((HBx.out.block w.heap.size (by omega)).trans HG1.out)
        obtain ⟨f0, f1, f2, fz⟩ := cells3x ((HBx.out.block (w.heap.size + 1) (by omega)).trans HG2.out)
        have hl5 : w.heap.size + 1 < w4.heap.size := by have := HBx.out.size; omega
        obtain ⟨id2, mo2, iv2, dv2, cl2, is2, ds2⟩ := c2
        dsimp only at hl4 hd4
        obtain ⟨a2, ca2, hv2, hz1, hz2, hz3, hz4⟩ := hl4
        obtain ⟨b2, cb2, hv4, hz5, hz6, hz7, hz8⟩ := hd4
        clear hz1 hz2 hz3 hz4 hz5 hz6 hz7 hz8
        subst hv2 hv4
        dsimp only at HS4 ⊢
        go_wp2_with fail
        refine (HF.out x _ (HXN4.out.below ((Below.refl _ _).alloc (Nat.le_refl _) _))).mono ?_
        rintro e w5 ⟨rfl, hb5⟩
        have HB5 := Lib.hid (((Below.refl w4.heap.size w4).alloc (Nat.le_refl _) _).trans (hb5.mono (by simp)))
        have hs5 : w4.heap.size < w5.heap.size := by have := hb5.size; simp at this; omega
        clear d0 d1 d2 d3 d4 dz f0 f1 f2 fz
        obtain ⟨d0, d1, d2, d3, d4, dz⟩ := cells5 ((HB5.out.block w.heap.size (by omega)).trans ((HBx.out.block w.heap.size (by omega)).trans HG1.out))
        obtain ⟨g0, g1, g2, g3, g4, gz⟩ := cells5 ((hb5.block w4.heap.size (by simp)).trans (heap_alloc_new w4 _))
        clear hb5
        go_wp2_with fail
        refine (HS4.out _ HB5.out).mono ?_
        rintro e w6 ⟨rfl, hb6⟩
        have HB6 := Lib.hid (HB5.out.trans (hb6.mono HB5.out.size))
        clear hb6 d0 d1 d2 d3 d4 dz g0 g1 g2 g3 g4 gz
        go_wp2_with fail
        go_roundw
        case rel => exact ⟨k + 1, by omega, by go_num, HBx.out.trans (HB6.out.mono HBx.out.size)⟩
        case measure => simp [intOf]; omega
      · have hd : decide ((k : Int) < 2) = false := decide_eq_false (by omega)
        go_wp2_with fail
        refine (HA.out _).mono ?_
        rintro e w5 ⟨rfl, hb5⟩
        go_wp2_with fail
        go_ret
        exact ⟨rfl, (HB2'.out.trans (HBR.out.mono HB2'.out.size)).trans (hb5.mono (HB2'.out.trans (HBR.out.mono HB2'.out.size)).size)⟩

-- FRAME
theorem own : ownKnob Tryd.prog.godebug = none := by kernel_rfl
theorem laidOut : laidOutB Tryd.prog = true := by kernel_rfl

theorem laid_met (os : Os) : laidMet Tryd.prog Rows.indexNobodyUptoRow.laid ((laidWorld os).forCall (fun _ _ => 0) ⟨#[], #[.agg #[.int .i64 0, .string ByteArray.empty, .slice none 0 0, .slice none 0 0, .int .i64 0], .agg #[.string ByteArray.empty, .bool false, .int .i64 0]], []⟩).memory :=
  laidMet_of_run' 8 (by kernel_rfl) (by kernel_rfl)
theorem reads (os : Os) {H : Type} (enc : TypeId × Value → H) : ∃ places, DataW.whole enc Tryd.prog ((laidWorld os).forCall (fun _ _ => 0) ⟨#[], #[.agg #[.int .i64 0, .string ByteArray.empty, .slice none 0 0, .slice none 0 0, .int .i64 0], .agg #[.string ByteArray.empty, .bool false, .int .i64 0]], []⟩).memory Tryd.f3.params.toList Rows.indexNobodySpec.vars false (#[.agg #[.int .i64 0, .string ByteArray.empty, .slice none 0 0, .slice none 0 0, .int .i64 0], .agg #[.string ByteArray.empty, .bool false, .int .i64 0]] : Array Value).toList 8 = some ([.agg [.lit (.int .i64 0), .lit (.string []), .nil, .nil, .lit (.int .i64 0)], .agg [.lit (.string []), .lit (.bool false), .lit (.int .i64 0)]], [], places) :=
  ⟨[], by kernel_rfl⟩

set_option maxRecDepth 100000 in
theorem lifted (os : Os) (started : os.Started) (H : Type) (enc : TypeId × Value → H) (F : Stop.Interp) :
    ReturnsInHanded {} Tryd.checked os 3 .any ((Rows.OpenSpec.upto Rows.indexNobodySpec).preRow enc Tryd.prog Tryd.f3 Rows.indexNobodyUptoRow.domain false Rows.indexNobodyUptoRow.laid) (((Rows.OpenSpec.upto Rows.indexNobodySpec).at F).post enc Tryd.prog Tryd.f3 false true false false) := by
  obtain ⟨places, hx⟩ := reads os enc
  refine returnsInHanded_of_row (C := Tryd.checked) (s := Rows.OpenSpec.upto Rows.indexNobodySpec) own started (by kernel_rfl) Tryd.func3
    (witness_row_at (enc := enc) (C := Tryd.checked) false (laidWorld os) #[.agg #[.int .i64 0, .string ByteArray.empty, .slice none 0 0, .slice none 0 0, .int .i64 0], .agg #[.string ByteArray.empty, .bool false, .int .i64 0]] rfl (by kernel_rfl) (by kernel_rfl) (by kernel_rfl)
      (OpenSpec.preRow_of_cond 8 hx (by kernel_rfl) (fun k hk => by cases hk; kernel_rfl) (by kernel_rfl) (laid_met os))) ?_
  intro W base args ds gs before hval0 hW hcnd hcond hsz0 hL _ _
  have hT := tabs_of hL
  have hk0 := hcond _ rfl
  have hsz : (DataW.weightsEach Tryd.prog (Tryd.f3.params.toList ++ Rows.indexNobodySpec.plain.varTypes Tryd.prog) (ds ++ gs)).all (· ≤ reachBytes) = true := hsz0
  have hval : ∀ (j : Nat) t v, Tryd.f3.params[j]? = some t → args[j]? = some v → Value.okWide Tryd.prog W .any base t v := hval0
  have hW' := hW
  obtain ⟨p, q, hA0, hV, rfl, hfz, hnd⟩ := hW
  have hA : DataW.TrodAll enc Tryd.prog W 0 (fun _ => true) true Tryd.f3.params.toList args.toList ds p := hA0
  rw [Tryd.params3] at hA hval hsz
  obtain ⟨v0, vs0, d0, ds0, p0, q0, hargs, rfl, rfl, h0, r0⟩ := trodAll_cons hA
  obtain ⟨v1, vs1, d1, ds1, p1, q1, rfl, rfl, rfl, h1, r1⟩ := trodAll_cons r0
  obtain ⟨rfl, rfl, rfl⟩ := trodAll_nil r1
  obtain rfl : args = #[v0, v1] := by cases args; simp_all
  obtain ⟨rfl, rfl⟩ := trodVars_none hV
  have hk := bulk_bound hk0
  simp only [List.append_nil] at hk
  have k0 := h0
  have lt0 : ∀ x ∈ p0, x.block < W.heap.size := by obtain ⟨m, hm⟩ := k0; exact DataW.trod_lt m _ _ _ hm
  obtain ⟨x0, rfl, o0⟩ := case_open (hval 0 25 v0 rfl rfl) h0 (fun n hn => of_decide_eq_true (List.all_eq_true.1 hsz _ (DataW.weights_mem_each (j := 0) rfl rfl n hn)))
  have k1 := h1
  have lt1 : ∀ x ∈ p1, x.block < W.heap.size := by obtain ⟨m, hm⟩ := k1; exact DataW.trod_lt m _ _ _ hm
  obtain ⟨x1, rfl, da1, db1, rfl⟩ := event_open (hval 1 27 v1 rfl rfl) h1
  have l1 : x1.p.size ≤ 1048576 := bulk_event da1 db1 _ _ hk (by simp)
  clear hA0 hval0
  refine (walk x0 x1 W hT o0 l1).mono fun e W' ⟨he, bel⟩ => ?_
  subst he
  exact ⟨_, rfl, _, _, _, [], _, [], hW', trodAll_mk1 (shut_bool Tryd.underlying4 _), (trodAll_cons_mk (Below.trod laidOut (by kernel_rfl) (of_decide_eq_true (by kernel_rfl)) k0 bel lt0) (trodAll_cons_mk (Below.trod laidOut (by kernel_rfl) (of_decide_eq_true (by kernel_rfl)) k1 bel lt1) trodAll_mk0)), rfl, bel.frame _, fun h => by cases h⟩

theorem said : Rows.IndexNobodyUptoSaid :=
  OpenClaim.holds_of_cond 3 Tryd.f3 rfl rfl rfl rfl rfl rfl rfl ⟨rfl, rfl, rfl, rfl, rfl⟩ rfl rfl rfl rfl rfl (by kernel_rfl) Tryd.func3 (by kernel_rfl)
    (of_decide_eq_true (by kernel_rfl)) (by unfold Func.isWrapper; first | (rw [if_pos (by decide +kernel)]; kernel_rfl) | (rw [if_neg (by decide +kernel)]; exact ⟨rfl, rfl⟩))
    (fun os started H enc _ F => by rw [OpenClaim.pre_eq_preRow]; exact lifted os started H enc F)

theorem plain (f : FuncId) (fn : Func) (hf : Tryd.pinned.checked.prog.funcNamed "dossier/dossierlaw21.IndexNobody" = some f) (hfn : Tryd.pinned.checked.prog.funcs[f]? = some fn) :
    false = Tryd.pinned.checked.prog.looks [] ∧ ∀ (j : Nat) t, fn.params[j]? = some t → Tryd.pinned.checked.prog.wantsStandIn t = false := by
  obtain rfl : f = 3 := Option.some.inj ((show Tryd.prog.funcNamed "dossier/dossierlaw21.IndexNobody" = some 3 by kernel_rfl).symm.trans hf) |>.symm
  obtain rfl : fn = Tryd.f3 := (Option.some.inj (Tryd.func3.symm.trans hfn)).symm
  refine ⟨by kernel_rfl, fun j t ht => ?_⟩
  rw [Tryd.params3] at ht
  have hm := Array.mem_of_getElem? ht
  simp only [Array.mem_def, List.mem_cons, List.not_mem_nil, or_false] at hm
  rcases hm with rfl | rfl
  · exact (show Tryd.prog.wantsStandIn 25 = false by kernel_rfl)
  · exact (show Tryd.prog.wantsStandIn 27 = false by kernel_rfl)

/-- The statement: the card. -/
theorem proved : Rows.IndexNobodyUptoCardSaid :=
  Claim7.holds_tied_plain_at .later [] _ _ _ _ said (fun _ h => by cases h) (by kernel_rfl) (fun _ h => by cases h) indexNobodyUpto_row_tie rfl ⟨rfl, rfl⟩ (by kernel_rfl) rfl plain (by kernel_rfl)
end Go.Proofs.YtllhlmdhnmdihaaDoor.indexNobody
