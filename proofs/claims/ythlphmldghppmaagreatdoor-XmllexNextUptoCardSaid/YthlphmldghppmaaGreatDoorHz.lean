/- xmllex: scan with Next's closure. -/
import Derived.Test.YthlphmldghppmaaGreatDoorHy
namespace Go.Proofs.YthlphmldghppmaaGreatDoor
open Go.RowKit
set_option linter.unusedVariables false

theorem results_scan (tm : Array Value) (V : World) (b1 b2 : Nat) (c1 c2 : Value) (h6 : tm.getD 6 undef = .pointer (some ⟨b1, 0, none⟩)) (h7 : tm.getD 7 undef = .pointer (some ⟨b2, 0, none⟩)) (hb1 : V.heap[b1]? = some (.cells #[c1] 3 (0, 0))) (hb2 : V.heap[b2]? = some (.cells #[c2] 27 (0, 0))) :
    (results Tryz.f18 tm).run Tryz.prog V = .ok (.tuple #[c1, c2]) V := by
  obtain ⟨e0, _⟩ := cells1 hb1
  obtain ⟨e8, _⟩ := cells1 hb2
  have h2' : tm[6]?.getD undef = .pointer (some ⟨b1, 0, none⟩) := by simpa using h6
  have h3' : tm[7]?.getD undef = .pointer (some ⟨b2, 0, none⟩) := by simpa using h7
  simp [results, Tryz.results18, go_sem, h2', h3', e0, e8]
abbrev RI : Obj := .cells #[.int .i64 0] 3
abbrev RE : Obj := .cells #[.int .i64 0] 27
abbrev W0 (w : World) : World := (w.alloc RI).alloc RE
theorem W0_size (w : World) : (W0 w).heap.size = w.heap.size + 2 := by simp
theorem W0_below (w : World) : Below w.heap.size w (W0 w) := (bel_alloc w RI).trans ((bel_alloc _ RE).mono (by simp))
theorem W0_6 (w : World) : (W0 w).heap[w.heap.size]? = some RI := ((bel_alloc (w.alloc RI) RE).block w.heap.size (by simp)).trans (heap_alloc_new w _)
theorem W0_7 (w : World) : (W0 w).heap[w.heap.size + 1]? = some RE := by
  have := heap_alloc_new (w.alloc RI) RE
  rwa [show (w.alloc RI).heap.size = w.heap.size + 1 from by simp] at this
abbrev SB (p : Option Addr) (n c : Nat) (a : Int) : Obj := .cells #[.slice p n c, .int .i64 a, .int .i64 0] 69
abbrev W1 (w : World) (p : Option Addr) (n c : Nat) (a : Int) : World := (W0 w).alloc (SB p n c a)
theorem W1_below (w : World) (p : Option Addr) (n c : Nat) (a : Int) : Below w.heap.size w (W1 w p n c a) := (W0_below w).trans ((bel_alloc _ _).mono (by simp; omega))
theorem W1_sc {w : World} (hw : BW w) {p : Option Addr} {n c : Nat} {xs : List UInt8} (h : Rd w (.slice p n c) xs) (hl : xs.length ≤ 1048576) {a : Nat} (ha : a ≤ xs.length) : SC (W1 w p n c (a : Nat)) (w.heap.size + 2) xs a 0 := by
  have hn := h.len
  subst hn
  refine ⟨hw.below (W1_below w _ _ _ _), hw.far (by omega), ⟨p, c, ?_, h.below (W1_below w _ _ _ _), fun h0 g o m e => ?_⟩, ha, hl, by omega⟩
  · have := heap_alloc_new (W0 w) (SB p xs.length c (a : Nat))
    rw [W0_size] at this
    exact this
  · obtain ⟨p', c', hv, _, _, _, h4⟩ := h
    cases hv
    obtain ⟨g', o', e', hx⟩ := h4 h0
    rw [e] at e'
    cases e'
    have := World.block_lt_of_cell? w _ (hx 0 h0)
    dsimp only at this
    omega
theorem W1_at (w : World) (p : Option Addr) (n c : Nat) (a : Int) : (W1 w p n c a).heap[w.heap.size]? = some RI ∧ (W1 w p n c a).heap[w.heap.size + 1]? = some RE :=
  ⟨((bel_alloc (W0 w) _).block w.heap.size (by simp; omega)).trans (W0_6 w), ((bel_alloc (W0 w) _).block (w.heap.size + 1) (by simp)).trans (W0_7 w)⟩

/-- No error is number 0. -/
def NZ {α : Type} (x : Except Nat α) : Prop := ∀ z, x = .error z → z ≠ 0
/-- How scan ends. -/
def ScAft (L : Nat) (w : World) (tb : Nat) (R : Tk × Nat × Nat) (e : Ending) (w' : World) : Prop :=
  e = .returned (.tuple #[.int .i64 (R.2.1 : Nat), .int .i64 (R.2.2 : Nat)]) ∧ TokAt w' tb R.1 ∧ Chg [tb] w w' ∧ (R.2.2 = 0 → R.2.1 ≤ L)
abbrev F19 (tb : Nat) : Value := .func (.func 19) #[] #[.pointer (some ⟨tb, 0, none⟩)]

set_option maxRecDepth 100000 in
set_option maxHeartbeats 2000000 in
theorem scan_out {w : World} {p : Option Addr} {n c : Nat} {xs : List UInt8} (hn : xs.length = n) {at_ : Int} (F : Value) (tb : Nat) (ht : w.heap[tb]? = some REST) (h : at_ < 0 ∨ (xs.length : Int) < at_) : Calls Tryz.prog 18 #[.slice p n c, .int .i64 at_, F] w
    (ScAft n w tb (noT, 0, 1)) := by
  obtain ⟨x0, xz⟩ := cells1 (W0_6 w)
  obtain ⟨y0, yz⟩ := cells1 (W0_7 w)
  have HT := Lib.hid ht
  have h1 : ((w.alloc RI).alloc (.cells #[.int .i64 1] 27)).heap[w.heap.size]? = some (.cells #[.int .i64 0] 3 (0, 0)) := ((bel_alloc (w.alloc RI) _).block w.heap.size (by simp)).trans (heap_alloc_new w _)
  have h2 : ((w.alloc RI).alloc (.cells #[.int .i64 1] 27)).heap[w.heap.size + 1]? = some (.cells #[.int .i64 1] 27 (0, 0)) := by
    have := heap_alloc_new (w.alloc RI) (.cells #[.int .i64 1] 27)
    rwa [show (w.alloc RI).heap.size = w.heap.size + 1 from by simp] at this
  have h3 : Chg [] w ((w.alloc RI).alloc (.cells #[.int .i64 1] 27)) := (Chg.alloc [] w _).alloc' _
  have H1 := Lib.hid h1
  have H2 := Lib.hid h2
  have H3 := Lib.hid h3
  clear h1 h2 h3 ht
  by_cases h0 : at_ < 0
  · have t0 : decide (at_ < 0) = true := by simpa using h0
    clear h
    go_enter_defers Tryz.func18, Tryz.ntmps18
    go_wp2_with fail
    refine ⟨_, results_scan _ _ w.heap.size (w.heap.size + 1) _ _ rfl rfl H1.out H2.out, ?_⟩
    exact ⟨rfl, TokAt.none ((H3.out.block tb (Array.getElem?_eq_some_iff.1 HT.out).1 (by simp)).trans HT.out), H3.out.mono (by simp), by simp⟩
  · have t0 : decide (at_ < 0) = false := by simpa using h0
    have t1 : decide ((n : Int) < at_) = true := by simp; omega
    clear h
    go_enter_defers Tryz.func18, Tryz.ntmps18
    go_wp2_with fail
    refine ⟨_, results_scan _ _ w.heap.size (w.heap.size + 1) _ _ rfl rfl H1.out H2.out, ?_⟩
    exact ⟨rfl, TokAt.none ((H3.out.block tb (Array.getElem?_eq_some_iff.1 HT.out).1 (by simp)).trans HT.out), H3.out.mono (by simp), by simp⟩

set_option maxRecDepth 100000 in
set_option maxHeartbeats 2000000 in
theorem scan_inb {w : World} (hw : BW w) {p : Option Addr} {n c : Nat} {xs : List UInt8} (hr : Rd w (.slice p n c) xs) (hl : xs.length ≤ 1048576) {a : Nat} (ha : a ≤ xs.length) (tb : Nat) (ht : w.heap[tb]? = some REST) (hnz : NZ (tokA (xs.drop (skpF insP (xs.length + 1) (xs.drop a) a).1))) : Calls Tryz.prog 18 #[.slice p n c, .int .i64 (a : Nat), F19 tb] w
    (ScAft n w tb (nxt insP opnP cloP xs (a : Int))) := by
  have hn := hr.len
  have HT := Lib.hid ht
  have htl := (Array.getElem?_eq_some_iff.1 ht).1
  have hmf : ∀ (fn : Fn) (first cap : Array Value) (w : World), (Instr.makeFunc fn first cap).run Tryz.prog w = .ok (.func fn first cap) w := fun _ _ _ _ => rfl
  have HNX := Lib.hid (next1_c (W1_sc hw hr hl ha) (((W1_below w p n c (a : Nat)).block tb htl).trans ht) (by omega))
  have HNA := Lib.hid (nxt_in ha)
  have h6 := (W1_at w p n c (a : Nat))
  have H67 := Lib.hid h6
  have HWB := Lib.hid (W1_below w p n c (a : Nat))
  obtain ⟨x0, xz⟩ := cells1 (W0_6 w)
  obtain ⟨y0, yz⟩ := cells1 (W0_7 w)
  have t0 : decide ((a : Int) < 0) = false := by simp
  have t1 : ¬ n < a := by omega
  have t2 : decide (n < a) = false := by simpa using t1
  rw [HNA.out]
  have HLN := Lib.hid hn
  have HNZ := Lib.hid (show ∀ k z, nxtA xs a = .error (k, z) → z ≠ 0 from by
    intro k z he
    unfold nxtA at he
    rcases hq : skpF insP (xs.length + 1) (xs.drop a) a with ⟨k', _ | _⟩
    · rw [hq] at he
      cases he
      decide
    · rw [hq] at he hnz
      dsimp only at he hnz
      cases hz : tokA (xs.drop k') with
      | error y =>
        rw [hz] at he
        cases he
        exact hnz _ hz
      | ok y =>
        rw [hz] at he
        cases he)
  clear hr hw ht hl h6 hn hnz
  cases hR : nxtA xs a with
  | error q =>
    obtain ⟨k, z⟩ := q
    rw [hR] at HNX
    have HZ := Lib.hid (HNZ.out k z hR)
    clear hR
    dsimp only
    go_enter_defers Tryz.func18, Tryz.ntmps18
    go_wp2_with fail
    refine HNX.out.mono ?_
    rintro e w2 ⟨he, hc⟩
    unfold Boom at he
    subst he
    have hb6 := (hc.block w.heap.size (by simp; omega) (by simp)).trans H67.out.1
    have hb7 := (hc.block (w.heap.size + 1) (by simp) (by simp)).trans H67.out.2
    refine leaves_cons (f := 37) (args := #[.pointer (some ⟨w.heap.size, 0, none⟩), .pointer (some ⟨w.heap.size + 1, 0, none⟩)]) (by simp) (by simp [go_sem]) ?_
    refine (scatch_c w.heap.size (w.heap.size + 1) 0 0 (k : Nat) (z : Nat) [] w2 hb6 hb7).mono ?_
    rintro e u' w'' ⟨rfl, rfl, g1, g2, gc⟩
    refine ⟨_, results_scan _ w'' w.heap.size (w.heap.size + 1) _ _ rfl rfl g1 g2, ?_⟩
    have hcc : Chg [] w w'' := ((Chg.of_below HWB.out).then hc (fun i hi => by simp at hi; exact .inr (by omega))).then gc (fun i hi => by simp at hi; exact .inr (by omega))
    exact ⟨rfl, TokAt.none ((hcc.block tb htl (by simp)).trans HT.out), hcc.mono (by simp), fun h => absurd h HZ.out⟩
  | ok q =>
    obtain ⟨t, k⟩ := q
    rw [hR] at HNX
    clear hR
    dsimp only
    go_enter_defers Tryz.func18, Tryz.ntmps18
    go_wp2_with fail
    refine HNX.out.mono ?_
    rintro e w2 ⟨rfl, htk, ⟨c0, c2, hbox⟩, hc, hkl⟩
    have HKL := Lib.hid hkl
    clear hkl
    have hb6 := (hc.block w.heap.size (by simp; omega) (by simp; omega)).trans H67.out.1
    have hb7 := (hc.block (w.heap.size + 1) (by simp) (by simp; omega)).trans H67.out.2
    have h1 : ((w2.setCell ⟨w.heap.size, 0, none⟩ (.int .i64 (k : Nat))).setCell ⟨w.heap.size + 1, 0, none⟩ (.int .i64 0)).heap[w.heap.size]? = some (.cells #[.int .i64 (k : Nat)] 3 (0, 0)) := by
      rw [Below.heap_setCell _ _ _ _ (by simp), block_set _ _ _ _ _ _ _ hb6]
      rfl
    have h2 : ((w2.setCell ⟨w.heap.size, 0, none⟩ (.int .i64 (k : Nat))).setCell ⟨w.heap.size + 1, 0, none⟩ (.int .i64 0)).heap[w.heap.size + 1]? = some (.cells #[.int .i64 0] 27 (0, 0)) := by
      rw [block_set _ _ _ _ _ _ _ ((Below.heap_setCell _ _ _ _ (by simp)).trans hb7)]
      rfl
    have gc : Chg [w.heap.size, w.heap.size + 1] w2 ((w2.setCell ⟨w.heap.size, 0, none⟩ (.int .i64 (k : Nat))).setCell ⟨w.heap.size + 1, 0, none⟩ (.int .i64 0)) := ((Chg.refl _ _).set' _ _ _ (.inl (by simp))).set' _ _ _ (.inl (by simp))
    have H1 := Lib.hid h1
    have H2 := Lib.hid h2
    have HCC := Lib.hid (((Chg.of_below (S := [tb]) HWB.out).then hc (fun i hi => by simp at hi; rcases hi with rfl | rfl; exact .inr (by omega); exact .inl (by simp))).then gc (fun i hi => by simp at hi; exact .inr (by omega)))
    have HTK := Lib.hid (htk.far gc (by simp; omega) (fun b hb => by simp at hb; rcases hb with rfl | rfl; exact ⟨_, _, _, hb6⟩; exact ⟨_, _, _, hb7⟩))
    obtain ⟨u0, uz⟩ := cells1 hb6
    obtain ⟨v0, vz⟩ := cells1 hb7
    obtain ⟨d0, d1, d2, dz⟩ := cells3 hbox
    clear h1 h2 gc hc htk hb6 hb7 hbox d0 d2
    go_wp2_with fail
    refine leaves_cons (f := 37) (args := #[.pointer (some ⟨w.heap.size, 0, none⟩), .pointer (some ⟨w.heap.size + 1, 0, none⟩)]) (by simp) (by simp [go_sem]) ?_
    refine (sidle_c w.heap.size (w.heap.size + 1) _).mono ?_
    rintro e u' w'' ⟨rfl, rfl, rfl⟩
    refine ⟨_, results_scan _ _ w.heap.size (w.heap.size + 1) _ _ rfl rfl H1.out H2.out, ?_⟩
    exact ⟨rfl, HTK.out, HCC.out, fun _ => by have := HKL.out; have := HLN.out; dsimp only; omega⟩
end Go.Proofs.YthlphmldghppmaaGreatDoor
