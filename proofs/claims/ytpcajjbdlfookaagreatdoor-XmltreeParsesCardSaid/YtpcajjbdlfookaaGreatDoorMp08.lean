/- xmllex: Next's closure. -/
import Derived.Test.YtpcajjbdlfookaaGreatDoorMp07
import Derived.Test.YtpcajjbdlfookaaGreatDoorCards
import Derived.Test.YtpcajjbdlfookaaGreatDoorTie
import Derived.Test.YtpcajjbdlfookaaGreatDoorCw
import Derived.ProofKit
import Derived.OpenShut
import Derived.Deep.DeepHandedRow
import Derived.Lib.LaidU8
import Derived.PinnedBridge
import Derived.MakeChecks
import Derived.Test.YtpcajjbdlfookaaGreatDoorRows
namespace Go.Proofs.YtpcajjbdlfookaaGreatDoor
open Go.RowKit
set_option linter.unusedVariables false

def nxtA (xs : List UInt8) (a : Nat) : Except (Nat × Nat) (Tk × Nat) := match skpF insP (xs.length + 1) (xs.drop a) a with
  | (k, false) => .error (k, 11)
  | (k, true) => match tokA (xs.drop k) with
    | .error e => .error (k, e)
    | .ok (t, n) => .ok (t, k + n)
theorem nxt_in {xs : List UInt8} {a : Nat} (h : a ≤ xs.length) : nxt insP opnP cloP xs (a : Int) = match nxtA xs a with
    | .error (k, c) => (noT, k, c)
    | .ok (t, k) => (t, k, 0) := by
  unfold nxt nxtA
  rw [if_neg (by omega), Int.toNat_natCast]
  rcases skpF insP (xs.length + 1) (xs.drop a) a with ⟨k, _ | _⟩
  · rfl
  · dsimp only
    unfold tokA
    by_cases h0 : xs.drop k = []
    · rw [if_pos h0, if_pos h0]
      rfl
    · rw [if_neg h0, if_neg h0]
      rcases tokG opnP cloP (xs.drop k) with e | ⟨t, n⟩ <;> rfl
theorem nxt_out {xs : List UInt8} {at_ : Int} (h : at_ < 0 ∨ (xs.length : Int) < at_) : nxt insP opnP cloP xs at_ = (noT, 0, 1) := by
  unfold nxt
  rw [if_pos h]

/-- A token in its box. -/
def TokAt (w : World) (tb : Nat) (t : Tk) : Prop := ∃ s, w.heap[tb]? = some (.cells #[.int .i64 (t.kind : Nat), .string ⟨t.name.toArray⟩, s, .bool t.empty, .string ⟨t.text.toArray⟩] 52 (0, 0)) ∧ AtsIs w s t.attrs
theorem tok_put {w5 : World} {tb : Nat} {t : Tk} {p : Option Addr} {n c : Nat} {S1 S2 : ByteArray} (hb : w5.heap[tb]? = some REST) (hat : AtsIs w5 (.slice p n c) t.attrs) (h1 : S1 = ⟨t.name.toArray⟩) (h2 : S2 = ⟨t.text.toArray⟩) :
    TokAt (put5 w5 tb (.int .i64 (t.kind : Nat)) (.string S1) (.slice p n c) (.bool t.empty) (.string S2)) tb t := by
  subst h1 h2
  exact ⟨_, put5_at hb _ _ _ _ _, hat.poke hb (put5_chg _ _ _ _ _ _ _)⟩
theorem TokAt.none {w : World} {tb : Nat} (hb : w.heap[tb]? = some REST) : TokAt w tb noT := ⟨_, hb, AtsIs.nil _⟩
/-- Boxes of numbers hold no attribute. -/
theorem AtsIs.far {w w' : World} {S : List Nat} {v : Value} {l : List (List UInt8 × List UInt8)} (h : AtsIs w v l) (hk : Chg S w w') (hS : ∀ b ∈ S, ∃ i n T, w.heap[b]? = some (.cells #[.int i n] T (0, 0))) : AtsIs w' v l := by
  obtain ⟨p0, c0, hv, h1, h2, h3, h4⟩ := h
  refine ⟨p0, c0, hv, h1, h2, h3, fun hp => ?_⟩
  obtain ⟨g, o, hg, ⟨cs, z, hcs⟩, hx⟩ := h4 hp
  have hns : g ∉ S := by
    intro hm
    obtain ⟨i, n, T, hb⟩ := hS g hm
    cases l with
    | nil => simp at hp
    | cons x t =>
      have e0 := hx 0 (.string ⟨x.1.toArray⟩) (by simp)
      simp only [World.cell?, hb] at e0
      match o, e0 with
      | 0, e0 => simp at e0
      | k + 1, e0 => simp at e0
  refine ⟨g, o, hg, ⟨cs, z, (hk.block g (Array.getElem?_eq_some_iff.1 hcs).1 hns).trans hcs⟩, fun j u hu => ?_⟩
  have hx' := hx j u hu
  rw [World.cell?_of_block (w := w) (hk.block g (World.block_lt_of_cell? w _ hx') hns)]
  exact hx'
theorem TokAt.far {w w' : World} {S : List Nat} {tb : Nat} {t : Tk} (h : TokAt w tb t) (hk : Chg S w w') (htb : tb ∉ S) (hS : ∀ b ∈ S, ∃ i n T, w.heap[b]? = some (.cells #[.int i n] T (0, 0))) : TokAt w' tb t := by
  obtain ⟨s, hb, ha⟩ := h
  exact ⟨s, (hk.block tb (Array.getElem?_eq_some_iff.1 hb).1 htb).trans hb, ha.far hk hS⟩

def NxAft (w : World) (pb tb : Nat) (xs : List UInt8) (R : Except (Nat × Nat) (Tk × Nat)) (e : Ending) (w' : World) : Prop := match R with
  | .error (k, c) => Boom k (c : Nat) e ∧ Chg [pb] w w'
  | .ok (t, k) => e = .returned (.tuple #[]) ∧ TokAt w' tb t ∧ (∃ c0 c2, w'.heap[pb]? = some (.cells #[c0, .int .i64 (k : Nat), c2] 155 (0, 0))) ∧ Chg [pb, tb] w w' ∧ k ≤ xs.length

set_option maxRecDepth 100000 in
set_option maxHeartbeats 2000000 in
theorem next1_c {w : World} {pb tb : Nat} {xs : List UInt8} {a f : Nat} (h : SC w pb xs a f) (ht : w.heap[tb]? = some REST) (hne : tb ≠ pb) : Calls Tryz.prog 84 #[.pointer (some ⟨pb, 0, none⟩), .pointer (some ⟨tb, 0, none⟩)] w
    (NxAft w pb tb xs (nxtA xs a)) := by
  have HSK := skip_c h
  obtain ⟨R, hR⟩ : ∃ R, R = skpF insP (xs.length + 1) (xs.drop a) a := ⟨_, rfl⟩
  rw [← hR] at HSK
  obtain ⟨k, ok⟩ := R
  have hpl := h.lt
  have HT := Lib.hid ht
  clear h ht
  cases ok with
  | false =>
    rw [show nxtA xs a = .error (k, 11) from by unfold nxtA; rw [← hR]]
    have HSK2 : Hid (Calls Tryz.prog 83 #[.pointer (some ⟨pb, 0, none⟩)] w fun e w' => Boom k 11 e ∧ Chg [pb] w w') := HSK
    clear HSK hR
    go_enter Tryz.func84, Tryz.ntmps84
    go_wp2_with (go_at_call 83; refine (HSK2.out).mono ?_; rintro e w1 ⟨he, hc⟩; unfold Boom at he; subst he; have HC := Lib.hid hc; clear hc)
    exact ⟨rfl, rfl, HC.out⟩
  | true =>
    have HSK2 : Hid (Calls Tryz.prog 83 #[.pointer (some ⟨pb, 0, none⟩)] w fun e w' => e = .returned (.tuple #[]) ∧ SC w' pb xs k k ∧ Chg [pb] w w') := HSK
    have HTO := Lib.hid (fun (wx : World) (hs : SC wx pb xs k k) => token_c hs)
    cases hz : tokA (xs.drop k) with
    | error z =>
      rw [show nxtA xs a = .error (k, z) from by unfold nxtA; rw [← hR]; dsimp only; rw [hz]]
      rw [hz] at HTO
      clear HSK hR hz
      go_enter Tryz.func84, Tryz.ntmps84
      go_wp2_with fail
      refine HSK2.out.mono ?_
      rintro e w1 ⟨rfl, hs, hc⟩
      have HT1 := Lib.hid (HTO.out w1 hs)
      have HC1 := Lib.hid hc
      clear hs hc
      go_wp2_with (go_at_call 85; refine (HT1.out).mono ?_; rintro e w2 ⟨he, hc⟩; unfold Boom at he; subst he; have HC2 := Lib.hid (HC1.out.trans hc); clear hc)
      exact ⟨rfl, rfl, HC2.out⟩
    | ok q =>
      obtain ⟨t, n⟩ := q
      rw [show nxtA xs a = .ok (t, k + n) from by unfold nxtA; rw [← hR]; dsimp only; rw [hz]]
      rw [hz] at HTO
      obtain ⟨S1, hS1⟩ : ∃ S1, S1 = (⟨t.name.toArray⟩ : ByteArray) := ⟨_, rfl⟩
      obtain ⟨S2, hS2⟩ : ∃ S2, S2 = (⟨t.text.toArray⟩ : ByteArray) := ⟨_, rfl⟩
      have HN1 := Lib.hid hS1
      have HN2 := Lib.hid hS2
      clear HSK hR hz hS1 hS2
      go_enter Tryz.func84, Tryz.ntmps84
      go_wp2_with fail
      refine HSK2.out.mono ?_
      rintro e w1 ⟨rfl, hs, hc⟩
      have HT1 := Lib.hid (HTO.out w1 hs)
      have HC1 := Lib.hid hc
      clear hs hc
      go_wp2_with fail
      refine HT1.out.mono ?_
      rintro e w2 ⟨v2, rfl, hv, hs, hc⟩
      obtain ⟨sv, hve, hat⟩ := hv
      rw [← HN1.out, ← HN2.out] at hve
      obtain ⟨p7, c7, hsv, _⟩ := id hat
      obtain ⟨N7, hN7⟩ : ∃ N7, N7 = t.attrs.length := ⟨_, rfl⟩
      rw [← hN7] at hsv
      subst hsv
      obtain ⟨kd, hkd⟩ : ∃ kd, kd = t.kind := ⟨_, rfl⟩
      obtain ⟨em, hem⟩ : ∃ em, em = t.empty := ⟨_, rfl⟩
      rw [← hkd, ← hem] at hve
      subst hve
      have HC2 := Lib.hid (HC1.out.trans hc)
      have hb2 : w2.heap[tb]? = some REST := (HC2.out.block tb (Array.getElem?_eq_some_iff.1 HT.out).1 (by simpa using hne)).trans HT.out
      have HTK := Lib.hid (show TokAt (put5 w2 tb (.int .i64 (kd : Nat)) (.string S1) (.slice p7 N7 c7) (.bool em) (.string S2)) tb t from by rw [hkd, hem]; exact tok_put hb2 hat HN1.out HN2.out)
      have hk5 := put5_chg w2 tb (.int .i64 (kd : Nat)) (.string S1) (.slice p7 N7 c7) (.bool em) (.string S2)
      obtain ⟨p0, c0, hbox, _⟩ := hs.box
      have HLE := Lib.hid hs.le.1
      have HBX := Lib.hid ((hk5.block pb hs.lt (by simpa using Ne.symm hne)).trans hbox)
      have HCC := Lib.hid ((HC2.out.mono (T := [pb, tb]) (by simp)).trans (hk5.mono (T := [pb, tb]) (by simp)))
      obtain ⟨z0, z1, z2, z3, z4, zz⟩ := cellsX5 hb2
      clear hs hc hat hb2 hk5 hbox hN7 hkd hem
      go_wp2_with fail
      go_end0
      exact ⟨rfl, HTK.out, ⟨_, _, HBX.out⟩, HCC.out, HLE.out⟩
end Go.Proofs.YtpcajjbdlfookaaGreatDoor

/- xmllex: scan with Next's closure. -/
namespace Go.Proofs.YtpcajjbdlfookaaGreatDoor
open Go.RowKit
set_option linter.unusedVariables false

theorem results_scan (tm : Array Value) (V : World) (b1 b2 : Nat) (c1 c2 : Value) (h6 : tm.getD 6 undef = .pointer (some ⟨b1, 0, none⟩)) (h7 : tm.getD 7 undef = .pointer (some ⟨b2, 0, none⟩)) (hb1 : V.heap[b1]? = some (.cells #[c1] 3 (0, 0))) (hb2 : V.heap[b2]? = some (.cells #[c2] 28 (0, 0))) :
    (results Tryz.f81 tm).run Tryz.prog V = .ok (.tuple #[c1, c2]) V := by
  obtain ⟨e0, _⟩ := cells1 hb1
  obtain ⟨e8, _⟩ := cells1 hb2
  have h2' : tm[6]?.getD undef = .pointer (some ⟨b1, 0, none⟩) := by simpa using h6
  have h3' : tm[7]?.getD undef = .pointer (some ⟨b2, 0, none⟩) := by simpa using h7
  simp [results, Tryz.results81, go_sem, h2', h3', e0, e8]
abbrev RI : Obj := .cells #[.int .i64 0] 3
abbrev RE : Obj := .cells #[.int .i64 0] 28
abbrev W0 (w : World) : World := (w.alloc RI).alloc RE
theorem W0_size (w : World) : (W0 w).heap.size = w.heap.size + 2 := by simp
theorem W0_below (w : World) : Below w.heap.size w (W0 w) := (bel_alloc w RI).trans ((bel_alloc _ RE).mono (by simp))
theorem W0_6 (w : World) : (W0 w).heap[w.heap.size]? = some RI := ((bel_alloc (w.alloc RI) RE).block w.heap.size (by simp)).trans (heap_alloc_new w _)
theorem W0_7 (w : World) : (W0 w).heap[w.heap.size + 1]? = some RE := by
  have := heap_alloc_new (w.alloc RI) RE
  rwa [show (w.alloc RI).heap.size = w.heap.size + 1 from by simp] at this
abbrev SB (p : Option Addr) (n c : Nat) (a : Int) : Obj := .cells #[.slice p n c, .int .i64 a, .int .i64 0] 155
abbrev W1 (w : World) (p : Option Addr) (n c : Nat) (a : Int) : World := (W0 w).alloc (SB p n c a)
theorem W1_below (w : World) (p : Option Addr) (n c : Nat) (a : Int) : Below w.heap.size w (W1 w p n c a) := (W0_below w).trans ((bel_alloc _ _).mono (by simp; omega))
theorem W1_sc {w : World} (hw : BW w) {p : Option Addr} {n c : Nat} {xs : List UInt8} (h : Rd w (.slice p n c) xs) (hl : xs.length ≤ 1048576) {a : Nat} (ha : a ≤ xs.length) : SC (W1 w p n c (a : Nat)) (w.heap.size + 2) xs a 0 := by
  have hn := h.len
  subst hn
  refine ⟨hw.below (W1_below w _ _ _ _), hw.far (by omega), ⟨p, c, ?_, h.below (W1_below w _ _ _ _), fun h0 g o m e => ?_⟩, ha, hl, by omega⟩
  · have := heap_alloc_new (W0 w) (SB p xs.length c (a : Nat))
    rw [W0_size] at this
    exact this
  · obtain ⟨p', c', hv, _, _, _, h4⟩ := h
    cases hv
    obtain ⟨g', o', e', hx⟩ := h4 h0
    rw [e] at e'
    cases e'
    have := World.block_lt_of_cell? w _ (hx 0 h0)
    dsimp only at this
    omega
theorem W1_at (w : World) (p : Option Addr) (n c : Nat) (a : Int) : (W1 w p n c a).heap[w.heap.size]? = some RI ∧ (W1 w p n c a).heap[w.heap.size + 1]? = some RE :=
  ⟨((bel_alloc (W0 w) _).block w.heap.size (by simp; omega)).trans (W0_6 w), ((bel_alloc (W0 w) _).block (w.heap.size + 1) (by simp)).trans (W0_7 w)⟩

/-- No error is number 0. -/
def NZ {α : Type} (x : Except Nat α) : Prop := ∀ z, x = .error z → z ≠ 0
/-- How scan ends. -/
def ScAft (L : Nat) (w : World) (tb : Nat) (R : Tk × Nat × Nat) (e : Ending) (w' : World) : Prop :=
  e = .returned (.tuple #[.int .i64 (R.2.1 : Nat), .int .i64 (R.2.2 : Nat)]) ∧ TokAt w' tb R.1 ∧ Chg [tb] w w' ∧ (R.2.2 = 0 → R.2.1 ≤ L)
abbrev F19 (tb : Nat) : Value := .func (.func 84) #[] #[.pointer (some ⟨tb, 0, none⟩)]

set_option maxRecDepth 100000 in
set_option maxHeartbeats 2000000 in
theorem scan_out {w : World} {p : Option Addr} {n c : Nat} {xs : List UInt8} (hn : xs.length = n) {at_ : Int} (F : Value) (tb : Nat) (ht : w.heap[tb]? = some REST) (h : at_ < 0 ∨ (xs.length : Int) < at_) : Calls Tryz.prog 81 #[.slice p n c, .int .i64 at_, F] w
    (ScAft n w tb (noT, 0, 1)) := by
  obtain ⟨x0, xz⟩ := cells1 (W0_6 w)
  obtain ⟨y0, yz⟩ := cells1 (W0_7 w)
  have HT := Lib.hid ht
  have h1 : ((w.alloc RI).alloc (.cells #[.int .i64 1] 28)).heap[w.heap.size]? = some (.cells #[.int .i64 0] 3 (0, 0)) := ((bel_alloc (w.alloc RI) _).block w.heap.size (by simp)).trans (heap_alloc_new w _)
  have h2 : ((w.alloc RI).alloc (.cells #[.int .i64 1] 28)).heap[w.heap.size + 1]? = some (.cells #[.int .i64 1] 28 (0, 0)) := by
    have := heap_alloc_new (w.alloc RI) (.cells #[.int .i64 1] 28)
    rwa [show (w.alloc RI).heap.size = w.heap.size + 1 from by simp] at this
  have h3 : Chg [] w ((w.alloc RI).alloc (.cells #[.int .i64 1] 28)) := (Chg.alloc [] w _).alloc' _
  have H1 := Lib.hid h1
  have H2 := Lib.hid h2
  have H3 := Lib.hid h3
  clear h1 h2 h3 ht
  by_cases h0 : at_ < 0
  · have t0 : decide (at_ < 0) = true := by simpa using h0
    clear h
    go_enter_defers Tryz.func81, Tryz.ntmps81
    go_wp2_with fail
    refine ⟨_, results_scan _ _ w.heap.size (w.heap.size + 1) _ _ rfl rfl H1.out H2.out, ?_⟩
    exact ⟨rfl, TokAt.none ((H3.out.block tb (Array.getElem?_eq_some_iff.1 HT.out).1 (by simp)).trans HT.out), H3.out.mono (by simp), by simp⟩
  · have t0 : decide (at_ < 0) = false := by simpa using h0
    have t1 : decide ((n : Int) < at_) = true := by simp; omega
    clear h
    go_enter_defers Tryz.func81, Tryz.ntmps81
    go_wp2_with fail
    refine ⟨_, results_scan _ _ w.heap.size (w.heap.size + 1) _ _ rfl rfl H1.out H2.out, ?_⟩
    exact ⟨rfl, TokAt.none ((H3.out.block tb (Array.getElem?_eq_some_iff.1 HT.out).1 (by simp)).trans HT.out), H3.out.mono (by simp), by simp⟩

set_option maxRecDepth 100000 in
set_option maxHeartbeats 2000000 in
theorem scan_inb {w : World} (hw : BW w) {p : Option Addr} {n c : Nat} {xs : List UInt8} (hr : Rd w (.slice p n c) xs) (hl : xs.length ≤ 1048576) {a : Nat} (ha : a ≤ xs.length) (tb : Nat) (ht : w.heap[tb]? = some REST) (hnz : NZ (tokA (xs.drop (skpF insP (xs.length + 1) (xs.drop a) a).1))) : Calls Tryz.prog 81 #[.slice p n c, .int .i64 (a : Nat), F19 tb] w
    (ScAft n w tb (nxt insP opnP cloP xs (a : Int))) := by
  have hn := hr.len
  have HT := Lib.hid ht
  have htl := (Array.getElem?_eq_some_iff.1 ht).1
  have hmf : ∀ (fn : Fn) (first cap : Array Value) (w : World), (Instr.makeFunc fn first cap).run Tryz.prog w = .ok (.func fn first cap) w := fun _ _ _ _ => rfl
  have HNX := Lib.hid (next1_c (W1_sc hw hr hl ha) (((W1_below w p n c (a : Nat)).block tb htl).trans ht) (by omega))
  have HNA := Lib.hid (nxt_in ha)
  have h6 := (W1_at w p n c (a : Nat))
  have H67 := Lib.hid h6
  have HWB := Lib.hid (W1_below w p n c (a : Nat))
  obtain ⟨x0, xz⟩ := cells1 (W0_6 w)
  obtain ⟨y0, yz⟩ := cells1 (W0_7 w)
  have t0 : decide ((a : Int) < 0) = false := by simp
  have t1 : ¬ n < a := by omega
  have t2 : decide (n < a) = false := by simpa using t1
  rw [HNA.out]
  have HLN := Lib.hid hn
  have HNZ := Lib.hid (show ∀ k z, nxtA xs a = .error (k, z) → z ≠ 0 from by
    intro k z he
    unfold nxtA at he
    rcases hq : skpF insP (xs.length + 1) (xs.drop a) a with ⟨k', _ | _⟩
    · rw [hq] at he
      cases he
      decide
    · rw [hq] at he hnz
      dsimp only at he hnz
      cases hz : tokA (xs.drop k') with
      | error y =>
        rw [hz] at he
        cases he
        exact hnz _ hz
      | ok y =>
        rw [hz] at he
        cases he)
  clear hr hw ht hl h6 hn hnz
  cases hR : nxtA xs a with
  | error q =>
    obtain ⟨k, z⟩ := q
    rw [hR] at HNX
    have HZ := Lib.hid (HNZ.out k z hR)
    clear hR
    dsimp only
    go_enter_defers Tryz.func81, Tryz.ntmps81
    go_wp2_with fail
    refine HNX.out.mono ?_
    rintro e w2 ⟨he, hc⟩
    unfold Boom at he
    subst he
    have hb6 := (hc.block w.heap.size (by simp; omega) (by simp)).trans H67.out.1
    have hb7 := (hc.block (w.heap.size + 1) (by simp) (by simp)).trans H67.out.2
    refine leaves_cons (f := 104) (args := #[.pointer (some ⟨w.heap.size, 0, none⟩), .pointer (some ⟨w.heap.size + 1, 0, none⟩)]) (by simp) (by simp [go_sem]) ?_
    refine (scatch_c w.heap.size (w.heap.size + 1) 0 0 (k : Nat) (z : Nat) [] w2 hb6 hb7).mono ?_
    rintro e u' w'' ⟨rfl, rfl, g1, g2, gc⟩
    refine ⟨_, results_scan _ w'' w.heap.size (w.heap.size + 1) _ _ rfl rfl g1 g2, ?_⟩
    have hcc : Chg [] w w'' := ((Chg.of_below HWB.out).then hc (fun i hi => by simp at hi; exact .inr (by omega))).then gc (fun i hi => by simp at hi; exact .inr (by omega))
    exact ⟨rfl, TokAt.none ((hcc.block tb htl (by simp)).trans HT.out), hcc.mono (by simp), fun h => absurd h HZ.out⟩
  | ok q =>
    obtain ⟨t, k⟩ := q
    rw [hR] at HNX
    clear hR
    dsimp only
    go_enter_defers Tryz.func81, Tryz.ntmps81
    go_wp2_with fail
    refine HNX.out.mono ?_
    rintro e w2 ⟨rfl, htk, ⟨c0, c2, hbox⟩, hc, hkl⟩
    have HKL := Lib.hid hkl
    clear hkl
    have hb6 := (hc.block w.heap.size (by simp; omega) (by simp; omega)).trans H67.out.1
    have hb7 := (hc.block (w.heap.size + 1) (by simp) (by simp; omega)).trans H67.out.2
    have h1 : ((w2.setCell ⟨w.heap.size, 0, none⟩ (.int .i64 (k : Nat))).setCell ⟨w.heap.size + 1, 0, none⟩ (.int .i64 0)).heap[w.heap.size]? = some (.cells #[.int .i64 (k : Nat)] 3 (0, 0)) := by
      rw [Below.heap_setCell _ _ _ _ (by simp), block_set _ _ _ _ _ _ _ hb6]
      rfl
    have h2 : ((w2.setCell ⟨w.heap.size, 0, none⟩ (.int .i64 (k : Nat))).setCell ⟨w.heap.size + 1, 0, none⟩ (.int .i64 0)).heap[w.heap.size + 1]? = some (.cells #[.int .i64 0] 28 (0, 0)) := by
      rw [block_set _ _ _ _ _ _ _ ((Below.heap_setCell _ _ _ _ (by simp)).trans hb7)]
      rfl
    have gc : Chg [w.heap.size, w.heap.size + 1] w2 ((w2.setCell ⟨w.heap.size, 0, none⟩ (.int .i64 (k : Nat))).setCell ⟨w.heap.size + 1, 0, none⟩ (.int .i64 0)) := ((Chg.refl _ _).set' _ _ _ (.inl (by simp))).set' _ _ _ (.inl (by simp))
    have H1 := Lib.hid h1
    have H2 := Lib.hid h2
    have HCC := Lib.hid (((Chg.of_below (S := [tb]) HWB.out).then hc (fun i hi => by simp at hi; rcases hi with rfl | rfl; exact .inr (by omega); exact .inl (by simp))).then gc (fun i hi => by simp at hi; exact .inr (by omega)))
    have HTK := Lib.hid (htk.far gc (by simp; omega) (fun b hb => by simp at hb; rcases hb with rfl | rfl; exact ⟨_, _, _, hb6⟩; exact ⟨_, _, _, hb7⟩))
    obtain ⟨u0, uz⟩ := cells1 hb6
    obtain ⟨v0, vz⟩ := cells1 hb7
    obtain ⟨d0, d1, d2, dz⟩ := cells3 hbox
    clear h1 h2 gc hc htk hb6 hb7 hbox d0 d2
    go_wp2_with fail
    refine leaves_cons (f := 104) (args := #[.pointer (some ⟨w.heap.size, 0, none⟩), .pointer (some ⟨w.heap.size + 1, 0, none⟩)]) (by simp) (by simp [go_sem]) ?_
    refine (sidle_c w.heap.size (w.heap.size + 1) _).mono ?_
    rintro e u' w'' ⟨rfl, rfl, rfl⟩
    refine ⟨_, results_scan _ _ w.heap.size (w.heap.size + 1) _ _ rfl rfl H1.out H2.out, ?_⟩
    exact ⟨rfl, HTK.out, HCC.out, fun _ => by have := HKL.out; have := HLN.out; dsimp only; omega⟩
end Go.Proofs.YtpcajjbdlfookaaGreatDoor

/- xmllex: the model's errors are not 0; each token stands behind the one ahead. -/
namespace Go.Proofs.YtpcajjbdlfookaaGreatDoor
open Go.RowKit
set_option linter.unusedVariables false

theorem NZ.err {α : Type} {n : Nat} (h : n ≠ 0) : NZ (.error n : Except Nat α) := fun z e => by cases e; exact h
theorem NZ.ok {α : Type} (x : α) : NZ (.ok x : Except Nat α) := fun z e => by cases e
theorem nz_valQ (q : UInt8) (t : List UInt8) : NZ (valQ q t) := by
  unfold valQ
  split
  · exact NZ.err (by decide)
  split
  · exact NZ.err (by decide)
  split
  · exact NZ.err (by decide)
  · exact NZ.ok _
theorem nz_valP (r : List UInt8) : NZ (valP r) := by
  unfold valP
  split
  · exact nz_valQ _ _
  split
  · exact nz_valQ _ _
  · exact NZ.err (by decide)
theorem nz_attrP (r : List UInt8) : NZ (attrP r) := by
  unfold attrP
  split
  · exact NZ.err (by decide)
  split
  · split
    · rename_i h
      exact NZ.err (nz_valP _ _ h)
    · exact NZ.ok _
  · exact NZ.err (by decide)
theorem nz_opnF (g : Nat) : ∀ (r : List UInt8) (k : Nat) (l : List (List UInt8 × List UInt8)), NZ (opnF attrP g r k l) := by
  induction g with
  | zero => exact fun r k l => NZ.err (by decide)
  | succ g ih =>
    intro r k l
    rw [opnF]
    split
    · exact NZ.ok _
    split
    · exact NZ.ok _
    split
    · exact NZ.err (by decide)
    split
    · rename_i h
      exact NZ.err (nz_attrP _ _ h)
    · exact ih _ _ _
theorem nz_opnP (r : List UInt8) : NZ (opnP r) := by
  unfold opnP
  split
  · exact NZ.err (by decide)
  split
  · rename_i h
    exact NZ.err (nz_opnF _ _ _ _ _ h)
  · exact NZ.ok _
theorem nz_cloP (r : List UInt8) : NZ (cloP r) := by
  unfold cloP
  split
  · exact NZ.err (by decide)
  split
  · exact NZ.ok _
  · exact NZ.err (by decide)
theorem dat_eq (r : List UInt8) : ∃ n, n = (if Lib.index r [60] < 0 then r.length else (Lib.index r [60]).toNat) ∧ datP r = if 0 ≤ Lib.index (r.take n) [93, 93, 62] then .error 11 else match rsT false (r.take n) with
    | .error _ => .error 13
    | .ok s => .ok (⟨3, [], [], false, s⟩, n) := ⟨_, rfl, rfl⟩
theorem nz_datP (r : List UInt8) : NZ (datP r) := by
  obtain ⟨n, _, h⟩ := dat_eq r
  rw [h]
  split
  · exact NZ.err (by decide)
  split
  · exact NZ.err (by decide)
  · exact NZ.ok _
theorem nz_up {n : Nat} {x : Except Nat (Tk × Nat)} (h : NZ x) : NZ (upT n x) := by
  cases x with
  | error e => exact h
  | ok q => exact NZ.ok _
theorem nz_tokA (r : List UInt8) : NZ (tokA r) := by
  unfold tokA
  split
  · exact NZ.ok _
  cases h1 : Lib.hasPrefix r [60, 33, 91, 67, 68, 65, 84, 65, 91] with
  | true =>
    rw [tok_cd h1]
    split
    · exact NZ.err (by decide)
    · exact NZ.ok _
  | false =>
    cases h2 : Lib.hasPrefix r [60, 33, 68, 79, 67, 84, 89, 80, 69] with
    | true => rw [tok_dt h1 h2]; exact NZ.err (by decide)
    | false =>
      cases h3 : Lib.hasPrefix r [60, 47] with
      | true => rw [tok_cl h1 h2 h3]; exact nz_up (nz_cloP _)
      | false =>
        cases h4 : Lib.hasPrefix r [60] with
        | true => rw [tok_op h1 h2 h3 h4]; exact nz_up (nz_opnP _)
        | false => rw [tok_da h1 h2 h3 h4]; exact nz_datP _

/-- A token that is not the end takes a byte. -/
theorem tok_some {r : List UInt8} {t : Tk} {n : Nat} (h : tokA r = .ok (t, n)) : (r = [] ∧ t.kind = 0 ∧ n = 0) ∨ (t.kind ≠ 0 ∧ 1 ≤ n) := by
  unfold tokA at h
  split at h
  · rename_i h0
    cases h
    exact .inl ⟨h0, rfl, rfl⟩
  rename_i h0
  refine .inr ?_
  cases h1 : Lib.hasPrefix r [60, 33, 91, 67, 68, 65, 84, 65, 91] with
  | true =>
    rw [tok_cd h1] at h
    split at h
    · cases h
    · cases h
      exact ⟨by simp, by omega⟩
  | false =>
    cases h2 : Lib.hasPrefix r [60, 33, 68, 79, 67, 84, 89, 80, 69] with
    | true => rw [tok_dt h1 h2] at h; cases h
    | false =>
      cases h3 : Lib.hasPrefix r [60, 47] with
      | true =>
        rw [tok_cl h1 h2 h3] at h
        cases hz : cloP (r.drop 2) with
        | error e => rw [hz] at h; cases h
        | ok q =>
          rw [hz] at h
          obtain ⟨t', m⟩ := q
          cases h
          unfold cloP at hz
          split at hz
          · cases hz
          split at hz
          · cases hz
            exact ⟨by simp, by omega⟩
          · cases hz
      | false =>
        cases h4 : Lib.hasPrefix r [60] with
        | true =>
          rw [tok_op h1 h2 h3 h4] at h
          cases hz : opnP (r.drop 1) with
          | error e => rw [hz] at h; cases h
          | ok q =>
            rw [hz] at h
            obtain ⟨t', m⟩ := q
            cases h
            unfold opnP at hz
            split at hz
            · cases hz
            split at hz
            · cases hz
            · cases hz
              exact ⟨by simp, by omega⟩
        | false =>
          rw [tok_da h1 h2 h3 h4] at h
          obtain ⟨n', hn', hd⟩ := dat_eq r
          rw [hd] at h
          split at h
          · cases h
          split at h
          · cases h
          · cases h
            rw [hn']
            clear hn' hd
            refine ⟨by simp, ?_⟩
            split
            · cases r with
              | nil => exact absurd rfl h0
              | cons x y => simp
            · rename_i hi
              obtain ⟨i, hi'⟩ : ∃ i : Nat, Lib.index r [60] = i := ⟨(Lib.index r [60]).toNat, by omega⟩
              rw [hi', Int.toNat_natCast]
              cases i with
              | succ i => omega
              | zero =>
                have hd := drop_at hi'
                rw [List.drop_zero] at hd
                rw [hd] at h4
                simp [Lib.hasPrefix] at h4
theorem skp_le (g : Nat) : ∀ (r : List UInt8) (a k : Nat), skpF insP g r a = (k, true) → a ≤ k := by
  induction g with
  | zero =>
    intro r a k h
    rw [skpF] at h
    cases h
    omega
  | succ g ih =>
    intro r a k h
    rw [skpF] at h
    split at h
    · split at h
      · cases h
      · have := ih _ _ _ h
        omega
    split at h
    · split at h
      · cases h
      · have := ih _ _ _ h
        omega
    · cases h
      omega
/-- Each token stands behind the one ahead, and takes a byte, unless it is the end. -/
theorem nxt_goes {xs : List UInt8} {at_ : Int} {t : Tk} {k : Nat} (h : nxt insP opnP cloP xs at_ = (t, k, 0)) : at_ ≤ k ∧ ((at_ < k ∧ t.kind ≠ 0) ∨ (t.kind = 0 ∧ xs.length ≤ k)) := by
  by_cases ho : at_ < 0 ∨ (xs.length : Int) < at_
  · rw [nxt_out ho] at h
    cases h
  obtain ⟨a, rfl⟩ : ∃ a : Nat, at_ = (a : Int) := ⟨at_.toNat, by omega⟩
  rw [nxt_in (by omega)] at h
  unfold nxtA at h
  rcases hq : skpF insP (xs.length + 1) (xs.drop a) a with ⟨k', _ | _⟩
  · rw [hq] at h
    cases h
  · rw [hq] at h
    dsimp only at h
    have hle := skp_le _ _ _ _ hq
    cases hz : tokA (xs.drop k') with
    | error y =>
      rw [hz] at h
      simp only [Prod.mk.injEq] at h
      exact absurd h.2.2 (nz_tokA _ _ hz)
    | ok y =>
      obtain ⟨t', n⟩ := y
      rw [hz] at h
      simp only [Prod.mk.injEq] at h
      obtain ⟨rfl, rfl, _⟩ := h
      rcases tok_some hz with ⟨h1, h2, h3⟩ | ⟨h1, h2⟩
      · have := congrArg List.length h1
        rw [List.length_drop, List.length_nil] at this
        exact ⟨by omega, .inr ⟨h2, by omega⟩⟩
      · exact ⟨by omega, .inl ⟨by omega, h1⟩⟩
end Go.Proofs.YtpcajjbdlfookaaGreatDoor

/- xmllex: Next. -/
namespace Go.Proofs.YtpcajjbdlfookaaGreatDoor
open Go.RowKit
set_option linter.unusedVariables false

theorem scan_c {w : World} (hw : BW w) {p : Option Addr} {n c : Nat} {xs : List UInt8} (hr : Rd w (.slice p n c) xs) (hl : xs.length ≤ 1048576) (at_ : Int) (tb : Nat) (ht : w.heap[tb]? = some REST) : Calls Tryz.prog 81 #[.slice p n c, .int .i64 at_, F19 tb] w
    (ScAft n w tb (nxt insP opnP cloP xs at_)) := by
  by_cases h : at_ < 0 ∨ (xs.length : Int) < at_
  · rw [nxt_out h]
    exact scan_out hr.len (F19 tb) tb ht h
  · obtain ⟨a, rfl⟩ : ∃ a : Nat, at_ = (a : Int) := ⟨at_.toNat, by omega⟩
    exact scan_inb hw hr hl (by omega) tb ht (nz_tokA _)
theorem results_next (tm : Array Value) (V : World) (b : Nat) (c0 c1 c2 c3 c4 k z : Value) (h4 : tm.getD 4 undef = .pointer (some ⟨b, 0, none⟩)) (h5 : tm.getD 5 undef = k) (h6 : tm.getD 6 undef = z) (h : V.heap[b]? = some (.cells #[c0, c1, c2, c3, c4] 52 (0, 0))) :
    (results Tryz.f60 tm).run Tryz.prog V = .ok (.tuple #[.agg #[c0, c1, c2, c3, c4], k, z]) V := by
  obtain ⟨e0, e1, e2, e3, e4, _⟩ := cellsX5 h
  have h4' : tm[4]?.getD undef = .pointer (some ⟨b, 0, none⟩) := by simpa using h4
  have h5' : tm[5]?.getD undef = k := by simpa using h5
  have h6' : tm[6]?.getD undef = z := by simpa using h6
  simp [results, Tryz.results60, go_sem, h4', h5', h6', e0, e1, e2, e3, e4]

/-- How Next ends. -/
def NextAft (L : Nat) (w : World) (R : Tk × Nat × Nat) (e : Ending) (w' : World) : Prop :=
  ∃ v, e = .returned (.tuple #[v, .int .i64 (R.2.1 : Nat), .int .i64 (R.2.2 : Nat)]) ∧ VT R.1 w' v ∧ Below w.heap.size w w' ∧ (R.2.2 = 0 → R.2.1 ≤ L)
set_option maxRecDepth 100000 in
set_option maxHeartbeats 2000000 in
theorem next_c {w : World} (hw : BW w) {v : Value} {xs : List UInt8} (hr : Rd w v xs) (hl : xs.length ≤ 1048576) (at_ : Int) : Calls Tryz.prog 60 #[v, .int .i64 at_] w
    (NextAft xs.length w (nxt insP opnP cloP xs at_)) := by
  obtain ⟨p, c, rfl⟩ := rd_form hr
  obtain ⟨L, hL⟩ : ∃ L, L = xs.length := ⟨_, rfl⟩
  rw [← hL] at hr
  have hb2 : Below w.heap.size w ((w.alloc REST).alloc REST) := (bel_alloc w REST).trans ((bel_alloc _ REST).mono (by simp))
  have ht1 : ((w.alloc REST).alloc REST).heap[w.heap.size + 1]? = some REST := by
    have := heap_alloc_new (w.alloc REST) REST
    rwa [show (w.alloc REST).heap.size = w.heap.size + 1 from by simp] at this
  have ht0 : ((w.alloc REST).alloc REST).heap[w.heap.size]? = some REST := ((bel_alloc (w.alloc REST) REST).block w.heap.size (by simp)).trans (heap_alloc_new w _)
  have HSC := Lib.hid (scan_c (hw.below hb2) (hr.below hb2) hl at_ (w.heap.size + 1) ht1)
  have HB2 := Lib.hid hb2
  have HT0 := Lib.hid ht0
  have hmf : ∀ (fn : Fn) (first cap : Array Value) (w : World), (Instr.makeFunc fn first cap).run Tryz.prog w = .ok (.func fn first cap) w := fun _ _ _ _ => rfl
  obtain ⟨⟨t, k, z⟩, hR⟩ : ∃ R, R = nxt insP opnP cloP xs at_ := ⟨_, rfl⟩
  rw [← hR] at HSC ⊢
  rw [← hL]
  obtain ⟨S1, hS1⟩ : ∃ S1, S1 = (⟨t.name.toArray⟩ : ByteArray) := ⟨_, rfl⟩
  obtain ⟨S2, hS2⟩ : ∃ S2, S2 = (⟨t.text.toArray⟩ : ByteArray) := ⟨_, rfl⟩
  have HN1 := Lib.hid hS1
  have HN2 := Lib.hid hS2
  clear hr hw hl hb2 ht1 ht0 hR hL hS1 hS2
  go_enter Tryz.func60, Tryz.ntmps60
  go_wp2_with fail
  refine HSC.out.mono ?_
  rintro e w2 ⟨rfl, ⟨s, hb, hat⟩, hc, hkl⟩
  have HKL := Lib.hid hkl
  clear hkl
  dsimp only at hb hat
  rw [← HN1.out, ← HN2.out] at hb
  obtain ⟨p7, c7, hsv, _⟩ := id hat
  obtain ⟨N7, hN7⟩ : ∃ N7, N7 = t.attrs.length := ⟨_, rfl⟩
  rw [← hN7] at hsv
  subst hsv
  obtain ⟨kd, hkd⟩ : ∃ kd, kd = t.kind := ⟨_, rfl⟩
  obtain ⟨em, hem⟩ : ∃ em, em = t.empty := ⟨_, rfl⟩
  rw [← hkd, ← hem] at hb
  have hb0 := (hc.block w.heap.size (by simp; omega) (by simp)).trans HT0.out
  obtain ⟨q0, q1, q2, q3, q4, qz⟩ := cellsX5 hb
  obtain ⟨z0, z1, z2, z3, z4, zz⟩ := cellsX5 hb0
  have hk5 := put5_chg w2 w.heap.size (.int .i64 (kd : Nat)) (.string S1) (.slice p7 N7 c7) (.bool em) (.string S2)
  have HPU := Lib.hid (put5_at hb0 (.int .i64 (kd : Nat)) (.string S1) (.slice p7 N7 c7) (.bool em) (.string S2))
  have HAT := Lib.hid (hat.poke hb0 hk5)
  have HBL := Lib.hid (((Chg.of_below (S := []) HB2.out).then hc (fun i hi => by simp at hi; exact .inr (by omega))).then hk5 (fun i hi => by simp at hi; exact .inr (by omega)))
  have HKD := Lib.hid (And.intro hkd hem)
  clear hc hb hat hb0 hk5 hN7 hkd hem
  go_wp2_with fail
  refine bodyPost_ret (results_next _ _ w.heap.size _ _ _ _ _ _ _ rfl rfl rfl HPU.out) rfl ?_
  exact ⟨_, rfl, ⟨_, by rw [HN1.out, HN2.out, HKD.out.1, HKD.out.2], HAT.out⟩, HBL.out.below (Nat.le_refl _) (by simp), HKL.out⟩
end Go.Proofs.YtpcajjbdlfookaaGreatDoor

/- xmllex: Skip. -/
namespace Go.Proofs.YtpcajjbdlfookaaGreatDoor
open Go.RowKit
set_option linter.unusedVariables false

/-- Where comments and instructions end, and the error. -/
def skA (ins : List UInt8 → Option Nat) (xs : List UInt8) (at_ : Int) : Nat × Nat :=
  if at_ < 0 ∨ (xs.length : Int) < at_ then (0, 1) else match skpF ins (xs.length + 1) (xs.drop at_.toNat) at_.toNat with
    | (k, false) => (k, 11)
    | (k, true) => (k, 0)
set_option maxRecDepth 100000 in
theorem skip1_c {w : World} {pb : Nat} {xs : List UInt8} {a f : Nat} (h : SC w pb xs a f) : Calls Tryz.prog 82 #[.pointer (some ⟨pb, 0, none⟩)] w
    (SkAft w pb xs (skpF insP (xs.length + 1) (xs.drop a) a)) := by
  have HSK := skip_c h
  obtain ⟨R, hR⟩ : ∃ R, R = skpF insP (xs.length + 1) (xs.drop a) a := ⟨_, rfl⟩
  rw [← hR] at HSK ⊢
  obtain ⟨k, ok⟩ := R
  clear h hR
  cases ok with
  | false =>
    have HSK2 : Hid (Calls Tryz.prog 83 #[.pointer (some ⟨pb, 0, none⟩)] w fun e w' => Boom k 11 e ∧ Chg [pb] w w') := HSK
    clear HSK
    go_enter Tryz.func82, Tryz.ntmps82
    go_wp2_with (go_at_call 83; refine (HSK2.out).mono ?_; rintro e w1 ⟨he, hc⟩; unfold Boom at he; subst he; have HC := Lib.hid hc; clear hc)
    exact ⟨rfl, rfl, HC.out⟩
  | true =>
    have HSK2 : Hid (Calls Tryz.prog 83 #[.pointer (some ⟨pb, 0, none⟩)] w fun e w' => e = .returned (.tuple #[]) ∧ SC w' pb xs k k ∧ Chg [pb] w w') := HSK
    clear HSK
    go_enter Tryz.func82, Tryz.ntmps82
    go_wp2_with fail
    refine HSK2.out.mono ?_
    rintro e w1 ⟨rfl, hs, hc⟩
    have HS := Lib.hid (And.intro hs hc)
    clear hs hc
    go_wp2_with fail
    go_end0
    exact ⟨rfl, HS.out.1, HS.out.2⟩
abbrev F23 : Value := .func (.func 82) #[] #[]
def SkEnd (w : World) (R : Nat × Nat) (e : Ending) (w' : World) : Prop := e = .returned (.tuple #[.int .i64 (R.1 : Nat), .int .i64 (R.2 : Nat)]) ∧ Below w.heap.size w w'
set_option maxRecDepth 100000 in
set_option maxHeartbeats 2000000 in
theorem scan_sk {w : World} (hw : BW w) {p : Option Addr} {n c : Nat} {xs : List UInt8} (hr : Rd w (.slice p n c) xs) (hl : xs.length ≤ 1048576) (at_ : Int) : Calls Tryz.prog 81 #[.slice p n c, .int .i64 at_, F23] w
    (SkEnd w (skA insP xs at_)) := by
  by_cases ho : at_ < 0 ∨ (xs.length : Int) < at_
  · rw [show skA insP xs at_ = (0, 1) from by unfold skA; rw [if_pos ho]]
    have hb := (Chg.of_below (S := []) (Below.refl w.heap.size w))
    obtain ⟨tw, tb, htb⟩ : ∃ (tw : World) (tb : Nat), tw = w ∧ tb = w.heap.size := ⟨_, _, rfl, rfl⟩
    have hn := hr.len
    obtain ⟨x0, xz⟩ := cells1 (W0_6 w)
    obtain ⟨y0, yz⟩ := cells1 (W0_7 w)
    have h1 : ((w.alloc RI).alloc (.cells #[.int .i64 1] 28)).heap[w.heap.size]? = some (.cells #[.int .i64 0] 3 (0, 0)) := ((bel_alloc (w.alloc RI) _).block w.heap.size (by simp)).trans (heap_alloc_new w _)
    have h2 : ((w.alloc RI).alloc (.cells #[.int .i64 1] 28)).heap[w.heap.size + 1]? = some (.cells #[.int .i64 1] 28 (0, 0)) := by
      have := heap_alloc_new (w.alloc RI) (.cells #[.int .i64 1] 28)
      rwa [show (w.alloc RI).heap.size = w.heap.size + 1 from by simp] at this
    have h3 : Below w.heap.size w ((w.alloc RI).alloc (.cells #[.int .i64 1] 28)) := (bel_alloc w RI).trans ((bel_alloc _ _).mono (by simp))
    have H1 := Lib.hid h1
    have H2 := Lib.hid h2
    have H3 := Lib.hid h3
    clear h1 h2 h3 hb htb hr hw
    by_cases h0 : at_ < 0
    · have t0 : decide (at_ < 0) = true := by simpa using h0
      clear ho
      go_enter_defers Tryz.func81, Tryz.ntmps81
      go_wp2_with fail
      refine ⟨_, results_scan _ _ w.heap.size (w.heap.size + 1) _ _ rfl rfl H1.out H2.out, ?_⟩
      exact ⟨rfl, H3.out⟩
    · have t0 : decide (at_ < 0) = false := by simpa using h0
      have t1 : decide ((n : Int) < at_) = true := by simp; omega
      clear ho
      go_enter_defers Tryz.func81, Tryz.ntmps81
      go_wp2_with fail
      refine ⟨_, results_scan _ _ w.heap.size (w.heap.size + 1) _ _ rfl rfl H1.out H2.out, ?_⟩
      exact ⟨rfl, H3.out⟩
  obtain ⟨a, rfl⟩ : ∃ a : Nat, at_ = (a : Int) := ⟨at_.toNat, by omega⟩
  have ha : a ≤ xs.length := by omega
  have hn := hr.len
  have hmf : ∀ (fn : Fn) (first cap : Array Value) (w : World), (Instr.makeFunc fn first cap).run Tryz.prog w = .ok (.func fn first cap) w := fun _ _ _ _ => rfl
  have HNX := Lib.hid (skip1_c (W1_sc hw hr hl ha))
  have HA : skA insP xs (a : Int) = match skpF insP (xs.length + 1) (xs.drop a) a with
    | (k, false) => (k, 11)
    | (k, true) => (k, 0) := by unfold skA; rw [if_neg ho]; rfl
  have h6 := (W1_at w p n c (a : Nat))
  have H67 := Lib.hid h6
  have HWB := Lib.hid (W1_below w p n c (a : Nat))
  obtain ⟨x0, xz⟩ := cells1 (W0_6 w)
  obtain ⟨y0, yz⟩ := cells1 (W0_7 w)
  have t0 : decide ((a : Int) < 0) = false := by simp
  have t1 : ¬ n < a := by omega
  have t2 : decide (n < a) = false := by simpa using t1
  rw [HA]
  obtain ⟨⟨k, ok⟩, hR⟩ : ∃ R, R = skpF insP (xs.length + 1) (xs.drop a) a := ⟨_, rfl⟩
  rw [← hR] at HNX ⊢
  clear hr hw hl h6 hn HA hR ho
  cases ok with
  | false =>
    dsimp only
    go_enter_defers Tryz.func81, Tryz.ntmps81
    go_wp2_with fail
    refine HNX.out.mono ?_
    rintro e w2 ⟨he, hc⟩
    unfold Boom at he
    subst he
    have hb6 := (hc.block w.heap.size (by simp; omega) (by simp)).trans H67.out.1
    have hb7 := (hc.block (w.heap.size + 1) (by simp) (by simp)).trans H67.out.2
    refine leaves_cons (f := 104) (args := #[.pointer (some ⟨w.heap.size, 0, none⟩), .pointer (some ⟨w.heap.size + 1, 0, none⟩)]) (by simp) (by simp [go_sem]) ?_
    refine (scatch_c w.heap.size (w.heap.size + 1) 0 0 (k : Nat) 11 [] w2 hb6 hb7).mono ?_
    rintro e u' w'' ⟨rfl, rfl, g1, g2, gc⟩
    refine ⟨_, results_scan _ w'' w.heap.size (w.heap.size + 1) _ _ rfl rfl g1 g2, ?_⟩
    have hcc : Chg [] w w'' := ((Chg.of_below HWB.out).then hc (fun i hi => by simp at hi; exact .inr (by omega))).then gc (fun i hi => by simp at hi; exact .inr (by omega))
    exact ⟨rfl, hcc.below (Nat.le_refl _) (by simp)⟩
  | true =>
    dsimp only
    go_enter_defers Tryz.func81, Tryz.ntmps81
    go_wp2_with fail
    refine HNX.out.mono ?_
    rintro e w2 ⟨rfl, hs, hc⟩
    obtain ⟨p2, c2', hbox, _⟩ := hs.box
    have hb6 := (hc.block w.heap.size (by simp; omega) (by simp)).trans H67.out.1
    have hb7 := (hc.block (w.heap.size + 1) (by simp) (by simp)).trans H67.out.2
    have h1 : ((w2.setCell ⟨w.heap.size, 0, none⟩ (.int .i64 (k : Nat))).setCell ⟨w.heap.size + 1, 0, none⟩ (.int .i64 0)).heap[w.heap.size]? = some (.cells #[.int .i64 (k : Nat)] 3 (0, 0)) := by
      rw [Below.heap_setCell _ _ _ _ (by simp), block_set _ _ _ _ _ _ _ hb6]
      rfl
    have h2 : ((w2.setCell ⟨w.heap.size, 0, none⟩ (.int .i64 (k : Nat))).setCell ⟨w.heap.size + 1, 0, none⟩ (.int .i64 0)).heap[w.heap.size + 1]? = some (.cells #[.int .i64 0] 28 (0, 0)) := by
      rw [block_set _ _ _ _ _ _ _ ((Below.heap_setCell _ _ _ _ (by simp)).trans hb7)]
      rfl
    have gc : Chg [w.heap.size, w.heap.size + 1] w2 ((w2.setCell ⟨w.heap.size, 0, none⟩ (.int .i64 (k : Nat))).setCell ⟨w.heap.size + 1, 0, none⟩ (.int .i64 0)) := ((Chg.refl _ _).set' _ _ _ (.inl (by simp))).set' _ _ _ (.inl (by simp))
    have H1 := Lib.hid h1
    have H2 := Lib.hid h2
    have HCC := Lib.hid (((Chg.of_below (S := []) HWB.out).then hc (fun i hi => by simp at hi; exact .inr (by omega))).then gc (fun i hi => by simp at hi; exact .inr (by omega)))
    obtain ⟨u0, uz⟩ := cells1 hb6
    obtain ⟨v0, vz⟩ := cells1 hb7
    obtain ⟨d0, d1, d2, dz⟩ := cells3 hbox
    clear h1 h2 gc hc hb6 hb7 hbox d0 d2 hs
    go_wp2_with fail
    refine leaves_cons (f := 104) (args := #[.pointer (some ⟨w.heap.size, 0, none⟩), .pointer (some ⟨w.heap.size + 1, 0, none⟩)]) (by simp) (by simp [go_sem]) ?_
    refine (sidle_c w.heap.size (w.heap.size + 1) _).mono ?_
    rintro e u' w'' ⟨rfl, rfl, rfl⟩
    refine ⟨_, results_scan _ _ w.heap.size (w.heap.size + 1) _ _ rfl rfl H1.out H2.out, ?_⟩
    exact ⟨rfl, HCC.out.below (Nat.le_refl _) (by simp)⟩
set_option maxRecDepth 100000 in
theorem xskip_c {w : World} (hw : BW w) {v : Value} {xs : List UInt8} (hr : Rd w v xs) (hl : xs.length ≤ 1048576) (at_ : Int) : Calls Tryz.prog 59 #[v, .int .i64 at_] w
    (SkEnd w (skA insP xs at_)) := by
  obtain ⟨p, c, rfl⟩ := rd_form hr
  obtain ⟨L, hL⟩ : ∃ L, L = xs.length := ⟨_, rfl⟩
  rw [← hL] at hr ⊢
  have HSC := Lib.hid (scan_sk hw hr hl at_)
  obtain ⟨⟨k, z⟩, hR⟩ : ∃ R, R = skA insP xs at_ := ⟨_, rfl⟩
  rw [← hR] at HSC ⊢
  clear hr hw hl hR hL
  go_enter Tryz.func59, Tryz.ntmps59
  go_wp2_with fail
  refine HSC.out.mono ?_
  rintro e w2 ⟨rfl, hb⟩
  have HB := Lib.hid hb
  clear hb
  go_wp2_with fail
  go_ret2
  exact ⟨rfl, HB.out⟩
end Go.Proofs.YtpcajjbdlfookaaGreatDoor

/- The decoder's two tables: from the row's list to the cells, and a world for the witness. -/
namespace Go.Proofs.YtpcajjbdlfookaaGreatDoor
open Go.Lib Go.RowKit

theorem first_is : Rows.laid_unicode_utf8_first = Lib.firstData := Pinned.utf8First_eq
theorem accept_is : (Rows.laid_unicode_utf8_acceptRanges : DataW Unit) = Lib.acceptData := by kernel_rfl
def tabList : List (String × DataW Unit) := [("unicode/utf8.acceptRanges", Rows.laid_unicode_utf8_acceptRanges), ("unicode/utf8.first", Rows.laid_unicode_utf8_first)]

theorem gFirst : Tryz.prog.globalNamed "unicode/utf8.first" = some 0 := by kernel_rfl
theorem gFirstT : (Tryz.prog.globals[0]?).map (·.type) = some 147 := by kernel_rfl
theorem gAcc : Tryz.prog.globalNamed "unicode/utf8.acceptRanges" = some 1 := by kernel_rfl
theorem gAccT : (Tryz.prog.globals[1]?).map (·.type) = some 150 := by kernel_rfl
theorem cells5 : Tryz.prog.cellsOf 5 = 1 := by kernel_rfl
theorem cellsFirst : Tryz.prog.cellsOf 147 = 256 := by kernel_rfl
theorem cellsAcc : Tryz.prog.cellsOf 149 = 2 := by kernel_rfl

theorem tabs_of {W : World} (h : laidMetH Tryz.prog tabList W) : Tabs W := by
  rw [MakeChecks.laidMetH_plain _ _ _ (by kernel_rfl)] at h
  have h3 : VarReads Tryz.prog W "unicode/utf8.first" Lib.firstData := by rw [← first_is]; exact laidMet.reads h (by simp [tabList])
  have h4 : VarReads Tryz.prog W "unicode/utf8.acceptRanges" Lib.acceptData := by rw [← accept_is]; exact laidMet.reads h (by simp [tabList])
  refine ⟨fun c hc => ?_, fun i hi => ?_⟩
  · obtain ⟨g, t, cs, fuel, p, hg, hty, hvar, hd⟩ := h3
    obtain rfl := Option.some.inj (gFirst.symm.trans hg)
    obtain rfl := Option.some.inj (gFirstT.symm.trans hty)
    have hcs := cells_of_tab Tryz.underlying147 Tryz.underlying5 cells5 cellsFirst hd
    have := World.var?_cell hg hvar c
    rw [this, ← Array.getElem?_toList, hcs]
    simp [firstTab, hc]
  · obtain ⟨g, t, cs, fuel, p, hg, hty, hvar, hd⟩ := h4
    obtain rfl := Option.some.inj (gAcc.symm.trans hg)
    obtain rfl := Option.some.inj (gAccT.symm.trans hty)
    obtain ⟨fuel', d, q, hdi, he⟩ := array_elem Tryz.underlying150 hd i hi
    simp only [List.getElem?_map, List.getElem?_range hi, Option.map_some, Option.some.injEq] at hdi
    subst hdi
    rw [cellsAcc] at he
    have hcs := ints_of_struct Tryz.underlying149 (fun j f hj => by
      match j, hj with
      | 0, hj => simp at hj; subst hj; exact ⟨Tryz.underlying5, rfl, cells5⟩
      | 1, hj => simp at hj; subst hj; exact ⟨Tryz.underlying5, rfl, cells5⟩
      | j + 2, hj => simp at hj) (by rw [cellsAcc]; rfl) he
    have e0 := congrArg (·[0]?) hcs
    have e1 := congrArg (·[1]?) hcs
    simp only [List.getElem?_take, List.getElem?_drop] at e0 e1
    constructor
    · rw [World.var?_cell hg hvar (2 * i), ← Array.getElem?_toList]
      simpa [Nat.mul_comm] using e0
    · rw [World.var?_cell hg hvar (2 * i + 1), ← Array.getElem?_toList]
      simpa [Nat.mul_comm] using e1

/-- A block with other cells. -/
def recells (cs : Array Value) : Obj → Obj
  | .cells _ t fz => .cells cs t fz
  | o => o
def firstCells : Array Value := ((List.range 256).map fun c => Value.int .u8 (firstT c)).toArray
def accCells : Array Value := ((List.range 32).map fun c => Value.int .u8 (if c % 2 = 0 then accLo (c / 2) else accHi (c / 2))).toArray

/-- A world for the witness: the settled one, both tables as their initialisers lay them. -/
noncomputable def laidWorld (os : Os) : World :=
  { World.holding Tryz.prog os ⟨#[], #[], []⟩ with heap := ((World.holding Tryz.prog os ⟨#[], #[], []⟩).heap.modify 0 (recells firstCells)).modify 1 (recells accCells) }
end Go.Proofs.YtpcajjbdlfookaaGreatDoor

/- What the bulk's bound gives, for the second form of a statement. -/
namespace Go.Proofs.YtpcajjbdlfookaaGreatDoor

theorem bulk_one {H : Type} (d : DataW H) : 1 ≤ Rows.uptoBulk d := by
  cases d with
  | lit l => cases l <;> simp [Rows.uptoBulk]
  | _ => simp [Rows.uptoBulk]

theorem bulk_part {H : Type} {d : DataW H} {l : List (DataW H)} (h : d ∈ l) : Rows.uptoBulk d ≤ Rows.uptoBulkAll l := by
  induction l with
  | nil => cases h
  | cons x r ih =>
    simp only [Rows.uptoBulkAll]
    cases List.mem_cons.1 h with
    | inl e => subst e; omega
    | inr e => have := ih e; omega

theorem bulk_length {H : Type} (l : List (DataW H)) : l.length ≤ Rows.uptoBulkAll l := by
  induction l with
  | nil => simp [Rows.uptoBulkAll]
  | cons x r ih => have := bulk_one x; simp only [Rows.uptoBulkAll, List.length_cons]; omega

theorem bulk_bound {H : Type} {l : List (DataW H)} (hk : Rows.uptoSmall H l = true) : Rows.uptoBulkAll l ≤ 1048576 := of_decide_eq_true hk

theorem bulk_slice {H : Type} (elems spare l : List (DataW H)) (hk : Rows.uptoBulkAll l ≤ 1048576) (h : DataW.slice elems spare ∈ l) : elems.length ≤ 1048576 := by
  have h1 := bulk_part h
  have h2 := bulk_length elems
  simp only [Rows.uptoBulk] at h1
  omega

theorem bulk_string {H : Type} (bs : List UInt8) (l : List (DataW H)) (hk : Rows.uptoBulkAll l ≤ 1048576) (h : DataW.lit (.string bs) ∈ l) : bs.length ≤ 1048576 := by
  have h1 := bulk_part h
  simp only [Rows.uptoBulk] at h1
  omega
end Go.Proofs.YtpcajjbdlfookaaGreatDoor
