/- xmllex: Skip. -/
import Derived.Test.YtgkoknckaajgmaaGreatDoorIa
namespace Go.Proofs.YtgkoknckaajgmaaGreatDoor
open Go.RowKit
set_option linter.unusedVariables false

/-- Where comments and instructions end, and the error. -/
def skA (ins : List UInt8 → Option Nat) (xs : List UInt8) (at_ : Int) : Nat × Nat :=
  if at_ < 0 ∨ (xs.length : Int) < at_ then (0, 1) else match skpF ins (xs.length + 1) (xs.drop at_.toNat) at_.toNat with
    | (k, false) => (k, 11)
    | (k, true) => (k, 0)
set_option maxRecDepth 100000 in
theorem skip1_c {w : World} {pb : Nat} {xs : List UInt8} {a f : Nat} (h : SC w pb xs a f) : Calls Tryz.prog 92 #[.pointer (some ⟨pb, 0, none⟩)] w
    (SkAft w pb xs (skpF insP (xs.length + 1) (xs.drop a) a)) := by
  have HSK := skip_c h
  obtain ⟨R, hR⟩ : ∃ R, R = skpF insP (xs.length + 1) (xs.drop a) a := ⟨_, rfl⟩
  rw [← hR] at HSK ⊢
  obtain ⟨k, ok⟩ := R
  clear h hR
  cases ok with
  | false =>
    have HSK2 : Hid (Calls Tryz.prog 93 #[.pointer (some ⟨pb, 0, none⟩)] w fun e w' => Boom k 11 e ∧ Chg [pb] w w') := HSK
    clear HSK
    go_enter Tryz.func92, Tryz.ntmps92
    go_wp2_with (go_at_call 93; refine (HSK2.out).mono ?_; rintro e w1 ⟨he, hc⟩; unfold Boom at he; subst he; have HC := Lib.hid hc; clear hc)
    exact ⟨rfl, rfl, HC.out⟩
  | true =>
    have HSK2 : Hid (Calls Tryz.prog 93 #[.pointer (some ⟨pb, 0, none⟩)] w fun e w' => e = .returned (.tuple #[]) ∧ SC w' pb xs k k ∧ Chg [pb] w w') := HSK
    clear HSK
    go_enter Tryz.func92, Tryz.ntmps92
    go_wp2_with fail
    refine HSK2.out.mono ?_
    rintro e w1 ⟨rfl, hs, hc⟩
    have HS := Lib.hid (And.intro hs hc)
    clear hs hc
    go_wp2_with fail
    go_end0
    exact ⟨rfl, HS.out.1, HS.out.2⟩
abbrev F23 : Value := .func (.func 92) #[] #[]
def SkEnd (w : World) (R : Nat × Nat) (e : Ending) (w' : World) : Prop := e = .returned (.tuple #[.int .i64 (R.1 : Nat), .int .i64 (R.2 : Nat)]) ∧ Below w.heap.size w w'
set_option maxRecDepth 100000 in
set_option maxHeartbeats 2000000 in
theorem scan_sk {w : World} (hw : BW w) {p : Option Addr} {n c : Nat} {xs : List UInt8} (hr : Rd w (.slice p n c) xs) (hl : xs.length ≤ 1048576) (at_ : Int) : Calls Tryz.prog 91 #[.slice p n c, .int .i64 at_, F23] w
    (SkEnd w (skA insP xs at_)) := by
  by_cases ho : at_ < 0 ∨ (xs.length : Int) < at_
  · rw [show skA insP xs at_ = (0, 1) from by unfold skA; rw [if_pos ho]]
    have hb := (Chg.of_below (S := []) (Below.refl w.heap.size w))
    obtain ⟨tw, tb, htb⟩ : ∃ (tw : World) (tb : Nat), tw = w ∧ tb = w.heap.size := ⟨_, _, rfl, rfl⟩
    have hn := hr.len
    obtain ⟨x0, xz⟩ := cells1 (W0_6 w)
    obtain ⟨y0, yz⟩ := cells1 (W0_7 w)
    have h1 : ((w.alloc RI).alloc (.cells #[.int .i64 1] 28)).heap[w.heap.size]? = some (.cells #[.int .i64 0] 3 (0, 0)) := ((bel_alloc (w.alloc RI) _).block w.heap.size (by simp)).trans (heap_alloc_new w _)
    have h2 : ((w.alloc RI).alloc (.cells #[.int .i64 1] 28)).heap[w.heap.size + 1]? = some (.cells #[.int .i64 1] 28 (0, 0)) := by
      have := heap_alloc_new (w.alloc RI) (.cells #[.int .i64 1] 28)
      rwa [show (w.alloc RI).heap.size = w.heap.size + 1 from by simp] at this
    have h3 : Below w.heap.size w ((w.alloc RI).alloc (.cells #[.int .i64 1] 28)) := (bel_alloc w RI).trans ((bel_alloc _ _).mono (by simp))
    have H1 := Lib.hid h1
    have H2 := Lib.hid h2
    have H3 := Lib.hid h3
    clear h1 h2 h3 hb htb hr hw
    by_cases h0 : at_ < 0
    · have t0 : decide (at_ < 0) = true := by simpa using h0
      clear ho
      go_enter_defers Tryz.func91, Tryz.ntmps91
      go_wp2_with fail
      refine ⟨_, results_scan _ _ w.heap.size (w.heap.size + 1) _ _ rfl rfl H1.out H2.out, ?_⟩
      exact ⟨rfl, H3.out⟩
    · have t0 : decide (at_ < 0) = false := by simpa using h0
      have t1 : decide ((n : Int) < at_) = true := by simp; omega
      clear ho
      go_enter_defers Tryz.func91, Tryz.ntmps91
      go_wp2_with fail
      refine ⟨_, results_scan _ _ w.heap.size (w.heap.size + 1) _ _ rfl rfl H1.out H2.out, ?_⟩
      exact ⟨rfl, H3.out⟩
  obtain ⟨a, rfl⟩ : ∃ a : Nat, at_ = (a : Int) := ⟨at_.toNat, by omega⟩
  have ha : a ≤ xs.length := by omega
  have hn := hr.len
  have hmf : ∀ (fn : Fn) (first cap : Array Value) (w : World), (Instr.makeFunc fn first cap).run Tryz.prog w = .ok (.func fn first cap) w := fun _ _ _ _ => rfl
  have HNX := Lib.hid (skip1_c (W1_sc hw hr hl ha))
  have HA : skA insP xs (a : Int) = match skpF insP (xs.length + 1) (xs.drop a) a with
    | (k, false) => (k, 11)
    | (k, true) => (k, 0) := by unfold skA; rw [if_neg ho]; rfl
  have h6 := (W1_at w p n c (a : Nat))
  have H67 := Lib.hid h6
  have HWB := Lib.hid (W1_below w p n c (a : Nat))
  obtain ⟨x0, xz⟩ := cells1 (W0_6 w)
  obtain ⟨y0, yz⟩ := cells1 (W0_7 w)
  have t0 : decide ((a : Int) < 0) = false := by simp
  have t1 : ¬ n < a := by omega
  have t2 : decide (n < a) = false := by simpa using t1
  rw [HA]
  obtain ⟨⟨k, ok⟩, hR⟩ : ∃ R, R = skpF insP (xs.length + 1) (xs.drop a) a := ⟨_, rfl⟩
  rw [← hR] at HNX ⊢
  clear hr hw hl h6 hn HA hR ho
  cases ok with
  | false =>
    dsimp only
    go_enter_defers Tryz.func91, Tryz.ntmps91
    go_wp2_with fail
    refine HNX.out.mono ?_
    rintro e w2 ⟨he, hc⟩
    unfold Boom at he
    subst he
    have hb6 := (hc.block w.heap.size (by simp; omega) (by simp)).trans H67.out.1
    have hb7 := (hc.block (w.heap.size + 1) (by simp) (by simp)).trans H67.out.2
    refine leaves_cons (f := 114) (args := #[.pointer (some ⟨w.heap.size, 0, none⟩), .pointer (some ⟨w.heap.size + 1, 0, none⟩)]) (by simp) (by simp [go_sem]) ?_
    refine (scatch_c w.heap.size (w.heap.size + 1) 0 0 (k : Nat) 11 [] w2 hb6 hb7).mono ?_
    rintro e u' w'' ⟨rfl, rfl, g1, g2, gc⟩
    refine ⟨_, results_scan _ w'' w.heap.size (w.heap.size + 1) _ _ rfl rfl g1 g2, ?_⟩
    have hcc : Chg [] w w'' := ((Chg.of_below HWB.out).then hc (fun i hi => by simp at hi; exact .inr (by omega))).then gc (fun i hi => by simp at hi; exact .inr (by omega))
    exact ⟨rfl, hcc.below (Nat.le_refl _) (by simp)⟩
  | true =>
    dsimp only
    go_enter_defers Tryz.func91, Tryz.ntmps91
    go_wp2_with fail
    refine HNX.out.mono ?_
    rintro e w2 ⟨rfl, hs, hc⟩
    obtain ⟨p2, c2', hbox, _⟩ := hs.box
    have hb6 := (hc.block w.heap.size (by simp; omega) (by simp)).trans H67.out.1
    have hb7 := (hc.block (w.heap.size + 1) (by simp) (by simp)).trans H67.out.2
    have h1 : ((w2.setCell ⟨w.heap.size, 0, none⟩ (.int .i64 (k : Nat))).setCell ⟨w.heap.size + 1, 0, none⟩ (.int .i64 0)).heap[w.heap.size]? = some (.cells #[.int .i64 (k : Nat)] 3 (0, 0)) := by
      rw [Below.heap_setCell _ _ _ _ (by simp), block_set _ _ _ _ _ _ _ hb6]
      rfl
    have h2 : ((w2.setCell ⟨w.heap.size, 0, none⟩ (.int .i64 (k : Nat))).setCell ⟨w.heap.size + 1, 0, none⟩ (.int .i64 0)).heap[w.heap.size + 1]? = some (.cells #[.int .i64 0] 28 (0, 0)) := by
      rw [block_set _ _ _ _ _ _ _ ((Below.heap_setCell _ _ _ _ (by simp)).trans hb7)]
      rfl
    have gc : Chg [w.heap.size, w.heap.size + 1] w2 ((w2.setCell ⟨w.heap.size, 0, none⟩ (.int .i64 (k : Nat))).setCell ⟨w.heap.size + 1, 0, none⟩ (.int .i64 0)) := ((Chg.refl _ _).set' _ _ _ (.inl (by simp))).set' _ _ _ (.inl (by simp))
    have H1 := Lib.hid h1
    have H2 := Lib.hid h2
    have HCC := Lib.hid (((Chg.of_below (S := []) HWB.out).then hc (fun i hi => by simp at hi; exact .inr (by omega))).then gc (fun i hi => by simp at hi; exact .inr (by omega)))
    obtain ⟨u0, uz⟩ := cells1 hb6
    obtain ⟨v0, vz⟩ := cells1 hb7
    obtain ⟨d0, d1, d2, dz⟩ := cells3 hbox
    clear h1 h2 gc hc hb6 hb7 hbox d0 d2 hs
    go_wp2_with fail
    refine leaves_cons (f := 114) (args := #[.pointer (some ⟨w.heap.size, 0, none⟩), .pointer (some ⟨w.heap.size + 1, 0, none⟩)]) (by simp) (by simp [go_sem]) ?_
    refine (sidle_c w.heap.size (w.heap.size + 1) _).mono ?_
    rintro e u' w'' ⟨rfl, rfl, rfl⟩
    refine ⟨_, results_scan _ _ w.heap.size (w.heap.size + 1) _ _ rfl rfl H1.out H2.out, ?_⟩
    exact ⟨rfl, HCC.out.below (Nat.le_refl _) (by simp)⟩
set_option maxRecDepth 100000 in
theorem xskip_c {w : World} (hw : BW w) {v : Value} {xs : List UInt8} (hr : Rd w v xs) (hl : xs.length ≤ 1048576) (at_ : Int) : Calls Tryz.prog 69 #[v, .int .i64 at_] w
    (SkEnd w (skA insP xs at_)) := by
  obtain ⟨p, c, rfl⟩ := rd_form hr
  obtain ⟨L, hL⟩ : ∃ L, L = xs.length := ⟨_, rfl⟩
  rw [← hL] at hr ⊢
  have HSC := Lib.hid (scan_sk hw hr hl at_)
  obtain ⟨⟨k, z⟩, hR⟩ : ∃ R, R = skA insP xs at_ := ⟨_, rfl⟩
  rw [← hR] at HSC ⊢
  clear hr hw hl hR hL
  go_enter Tryz.func69, Tryz.ntmps69
  go_wp2_with fail
  refine HSC.out.mono ?_
  rintro e w2 ⟨rfl, hb⟩
  have HB := Lib.hid hb
  clear hb
  go_wp2_with fail
  go_ret2
  exact ⟨rfl, HB.out⟩
end Go.Proofs.YtgkoknckaajgmaaGreatDoor
