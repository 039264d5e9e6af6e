/- xmllex: scan: what it raises and catches. -/
import Derived.Test.YtpcajjbdlfookaaGreatDoorMw22
import Derived.Recover
import Derived.Defers
namespace Go.Proofs.YtpcajjbdlfookaaGreatDoor
open Go.RowKit
set_option linter.unusedVariables false

theorem fault_is (f k : Int) (w : World) : (Instr.typeAssert (.iface 153 (.agg #[.int .i64 f, .int .i64 k])) 20 153 true).run Tryz.prog w = .ok (.tuple #[.agg #[.int .i64 f, .int .i64 k], .bool true]) w := by
  simp [Instr.typeAssert, go_sem]
theorem iface_nil (f k : Int) (w : World) : (binOp .eql 20 (.iface 153 (.agg #[.int .i64 f, .int .i64 k])) .nilIface).run Tryz.prog w = .ok (.bool false) w := by
  kernel_rfl
theorem nil_nil (w : World) : (binOp .eql 20 .nilIface .nilIface).run Tryz.prog w = .ok (.bool true) w := by
  kernel_rfl

set_option maxRecDepth 100000 in
set_option maxHeartbeats 2000000 in
theorem scatch_c (b c : Nat) (x y f k : Int) (older : List PanicEntry) (w : World) (hx : w.heap[b]? = some (.cells #[.int .i64 x] 3 (0, 0))) (hy : w.heap[c]? = some (.cells #[.int .i64 y] 28 (0, 0))) :
    CallsD Tryz.prog 104 #[.pointer (some ⟨b, 0, none⟩), .pointer (some ⟨c, 0, none⟩)] (.panicking ({ v := .iface 153 (.agg #[.int .i64 f, .int .i64 k]), recovered := false } :: older)) w fun e u' w' =>
      e = .returned (.tuple #[]) ∧ u' = .panicking ({ v := .iface 153 (.agg #[.int .i64 f, .int .i64 k]), recovered := true } :: older) ∧
      w'.heap[b]? = some (.cells #[.int .i64 f] 3 (0, 0)) ∧ w'.heap[c]? = some (.cells #[.int .i64 k] 28 (0, 0)) ∧ Chg [b, c] w w' := by
  have hbc : b ≠ c := by
    rintro rfl
    rw [hx] at hy
    simp at hy
  have hbl := (Array.getElem?_eq_some_iff.1 hx).1
  have hcl := (Array.getElem?_eq_some_iff.1 hy).1
  obtain ⟨x0, xz⟩ := cells1 hx
  obtain ⟨y0, yz⟩ := cells1 hy
  have HX := Lib.hid hx
  have HY := Lib.hid hy
  refine callsD_of_wpS Tryz.func104 rfl fun c₀ cs hu => ?_
  apply wpS_seq
  apply wpS_region
  simp [wpOpsS, go_sem, recoverD, hu, Tryz.ntmps104, Exit.thenS]
  refine wpS_of_wp ?_
  have hta := fault_is f k
  have hin := iface_nil f k
  clear hx hy
  have hT : #[Value.pointer (some ⟨b, 0, none⟩), Value.pointer (some ⟨c, 0, none⟩)] ++ (Array.replicate 13 undef).setIfInBounds 3 (Value.iface 153 (.agg #[.int .i64 f, .int .i64 k])) = #[Value.pointer (some ⟨b, 0, none⟩), Value.pointer (some ⟨c, 0, none⟩), undef, undef, undef, Value.iface 153 (.agg #[.int .i64 f, .int .i64 k]), undef, undef, undef, undef, undef, undef, undef, undef, undef] := rfl
  rw [hT]
  clear hT
  go_wp2_with fail
  go_region
  all_goals
    go_wp2_with fail
    have hc : Chg [b, c] w ((((w.setCell ⟨b, 0, none⟩ (.int .i64 f)).setCell ⟨c, 0, none⟩ (.int .i64 k)).alloc (.cells #[.int .i64 f, .int .i64 k] 153)).drew) := ((((Chg.refl [b, c] w).set' _ _ _ (.inl (by simp))).set' _ _ _ (.inl (by simp))).alloc' _).drew'
    have e1 : ((((w.setCell ⟨b, 0, none⟩ (.int .i64 f)).setCell ⟨c, 0, none⟩ (.int .i64 k)).alloc (.cells #[.int .i64 f, .int .i64 k] 153)).drew).heap[b]? = some (.cells #[.int .i64 f] 3 (0, 0)) := by
      rw [heap_drew, Below.heap_alloc _ _ _ (by simpa [World.size_setCell] using hbl), Below.heap_setCell _ _ _ _ hbc, block_set _ _ _ _ _ _ _ HX.out]
      rfl
    have e2 : ((((w.setCell ⟨b, 0, none⟩ (.int .i64 f)).setCell ⟨c, 0, none⟩ (.int .i64 k)).alloc (.cells #[.int .i64 f, .int .i64 k] 153)).drew).heap[c]? = some (.cells #[.int .i64 k] 28 (0, 0)) := by
      rw [heap_drew, Below.heap_alloc _ _ _ (by simpa [World.size_setCell] using hcl), block_set _ _ _ _ _ _ _ ((Below.heap_setCell _ _ _ _ (Ne.symm hbc)).trans HY.out)]
      rfl
    simp [bodyPostS, results, Tryz.results104, go_sem]
    exact ⟨e1, e2, hc⟩
set_option maxHeartbeats 2000000 in
theorem sidle_c (b c : Nat) (w : World) :
    CallsD Tryz.prog 104 #[.pointer (some ⟨b, 0, none⟩), .pointer (some ⟨c, 0, none⟩)] .returning w fun e u' w' => e = .returned (.tuple #[]) ∧ u' = .returning ∧ w' = w := by
  refine callsD_of_wpS Tryz.func104 rfl fun c₀ cs hu => ?_
  apply wpS_seq
  apply wpS_region
  simp [wpOpsS, go_sem, recoverD, hu, Tryz.ntmps104, Exit.thenS]
  refine wpS_of_wp ?_
  have hT : #[Value.pointer (some ⟨b, 0, none⟩), Value.pointer (some ⟨c, 0, none⟩)] ++ (Array.replicate 13 undef).setIfInBounds 3 Value.nilIface = #[Value.pointer (some ⟨b, 0, none⟩), Value.pointer (some ⟨c, 0, none⟩), undef, undef, undef, Value.nilIface, undef, undef, undef, undef, undef, undef, undef, undef, undef] := rfl
  rw [hT]
  clear hT
  have hin := nil_nil
  go_wp2_with fail
  cases c₀
  simp_all [bodyPostS, results, Tryz.results104, go_sem]
end Go.Proofs.YtpcajjbdlfookaaGreatDoor

/- xmllex: Next's closure. -/
namespace Go.Proofs.YtpcajjbdlfookaaGreatDoor
open Go.RowKit
set_option linter.unusedVariables false

def nxtA (xs : List UInt8) (a : Nat) : Except (Nat × Nat) (Tk × Nat) := match skpF insP (xs.length + 1) (xs.drop a) a with
  | (k, false) => .error (k, 11)
  | (k, true) => match tokA (xs.drop k) with
    | .error e => .error (k, e)
    | .ok (t, n) => .ok (t, k + n)
theorem nxt_in {xs : List UInt8} {a : Nat} (h : a ≤ xs.length) : nxt insP opnP cloP xs (a : Int) = match nxtA xs a with
    | .error (k, c) => (noT, k, c)
    | .ok (t, k) => (t, k, 0) := by
  unfold nxt nxtA
  rw [if_neg (by omega), Int.toNat_natCast]
  rcases skpF insP (xs.length + 1) (xs.drop a) a with ⟨k, _ | _⟩
  · rfl
  · dsimp only
    unfold tokA
    by_cases h0 : xs.drop k = []
    · rw [if_pos h0, if_pos h0]
      rfl
    · rw [if_neg h0, if_neg h0]
      rcases tokG opnP cloP (xs.drop k) with e | ⟨t, n⟩ <;> rfl
theorem nxt_out {xs : List UInt8} {at_ : Int} (h : at_ < 0 ∨ (xs.length : Int) < at_) : nxt insP opnP cloP xs at_ = (noT, 0, 1) := by
  unfold nxt
  rw [if_pos h]

/-- A token in its box. -/
def TokAt (w : World) (tb : Nat) (t : Tk) : Prop := ∃ s, w.heap[tb]? = some (.cells #[.int .i64 (t.kind : Nat), .string ⟨t.name.toArray⟩, s, .bool t.empty, .string ⟨t.text.toArray⟩] 52 (0, 0)) ∧ AtsIs w s t.attrs
theorem tok_put {w5 : World} {tb : Nat} {t : Tk} {p : Option Addr} {n c : Nat} {S1 S2 : ByteArray} (hb : w5.heap[tb]? = some REST) (hat : AtsIs w5 (.slice p n c) t.attrs) (h1 : S1 = ⟨t.name.toArray⟩) (h2 : S2 = ⟨t.text.toArray⟩) :
    TokAt (put5 w5 tb (.int .i64 (t.kind : Nat)) (.string S1) (.slice p n c) (.bool t.empty) (.string S2)) tb t := by
  subst h1 h2
  exact ⟨_, put5_at hb _ _ _ _ _, hat.poke hb (put5_chg _ _ _ _ _ _ _)⟩
theorem TokAt.none {w : World} {tb : Nat} (hb : w.heap[tb]? = some REST) : TokAt w tb noT := ⟨_, hb, AtsIs.nil _⟩
/-- Boxes of numbers hold no attribute. -/
theorem AtsIs.far {w w' : World} {S : List Nat} {v : Value} {l : List (List UInt8 × List UInt8)} (h : AtsIs w v l) (hk : Chg S w w') (hS : ∀ b ∈ S, ∃ i n T, w.heap[b]? = some (.cells #[.int i n] T (0, 0))) : AtsIs w' v l := by
  obtain ⟨p0, c0, hv, h1, h2, h3, h4⟩ := h
  refine ⟨p0, c0, hv, h1, h2, h3, fun hp => ?_⟩
  obtain ⟨g, o, hg, hx⟩ := h4 hp
  refine ⟨g, o, hg, fun j u hu => ?_⟩
  have hx' := hx j u hu
  have hns : g ∉ S := by
    intro hm
    obtain ⟨i, n, T, hb⟩ := hS g hm
    cases l with
    | nil => simp at hp
    | cons x t =>
      have e0 := hx 0 (.string ⟨x.1.toArray⟩) (by simp)
      simp only [World.cell?, hb] at e0
      match o, e0 with
      | 0, e0 => simp at e0
      | k + 1, e0 => simp at e0
  rw [World.cell?_of_block (w := w) (hk.block g (World.block_lt_of_cell? w _ hx') hns)]
  exact hx'
theorem TokAt.far {w w' : World} {S : List Nat} {tb : Nat} {t : Tk} (h : TokAt w tb t) (hk : Chg S w w') (htb : tb ∉ S) (hS : ∀ b ∈ S, ∃ i n T, w.heap[b]? = some (.cells #[.int i n] T (0, 0))) : TokAt w' tb t := by
  obtain ⟨s, hb, ha⟩ := h
  exact ⟨s, (hk.block tb (Array.getElem?_eq_some_iff.1 hb).1 htb).trans hb, ha.far hk hS⟩

def NxAft (w : World) (pb tb : Nat) (xs : List UInt8) (R : Except (Nat × Nat) (Tk × Nat)) (e : Ending) (w' : World) : Prop := match R with
  | .error (k, c) => Boom k (c : Nat) e ∧ Chg [pb] w w'
  | .ok (t, k) => e = .returned (.tuple #[]) ∧ TokAt w' tb t ∧ (∃ c0 c2, w'.heap[pb]? = some (.cells #[c0, .int .i64 (k : Nat), c2] 155 (0, 0))) ∧ Chg [pb, tb] w w' ∧ k ≤ xs.length

set_option maxRecDepth 100000 in
set_option maxHeartbeats 2000000 in
theorem next1_c {w : World} {pb tb : Nat} {xs : List UInt8} {a f : Nat} (h : SC w pb xs a f) (ht : w.heap[tb]? = some REST) (hne : tb ≠ pb) : Calls Tryz.prog 84 #[.pointer (some ⟨pb, 0, none⟩), .pointer (some ⟨tb, 0, none⟩)] w
    (NxAft w pb tb xs (nxtA xs a)) := by
  have HSK := skip_c h
  obtain ⟨R, hR⟩ : ∃ R, R = skpF insP (xs.length + 1) (xs.drop a) a := ⟨_, rfl⟩
  rw [← hR] at HSK
  obtain ⟨k, ok⟩ := R
  have hpl := h.lt
  have HT := Lib.hid ht
  clear h ht
  cases ok with
  | false =>
    rw [show nxtA xs a = .error (k, 11) from by unfold nxtA; rw [← hR]]
    have HSK2 : Hid (Calls Tryz.prog 83 #[.pointer (some ⟨pb, 0, none⟩)] w fun e w' => Boom k 11 e ∧ Chg [pb] w w') := HSK
    clear HSK hR
    go_enter Tryz.func84, Tryz.ntmps84
    go_wp2_with (go_at_call 83; refine (HSK2.out).mono ?_; rintro e w1 ⟨he, hc⟩; unfold Boom at he; subst he; have HC := Lib.hid hc; clear hc)
    exact ⟨rfl, rfl, HC.out⟩
  | true =>
    have HSK2 : Hid (Calls Tryz.prog 83 #[.pointer (some ⟨pb, 0, none⟩)] w fun e w' => e = .returned (.tuple #[]) ∧ SC w' pb xs k k ∧ Chg [pb] w w') := HSK
    have HTO := Lib.hid (fun (wx : World) (hs : SC wx pb xs k k) => token_c hs)
    cases hz : tokA (xs.drop k) with
    | error z =>
      rw [show nxtA xs a = .error (k, z) from by unfold nxtA; rw [← hR]; dsimp only; rw [hz]]
      rw [hz] at HTO
      clear HSK hR hz
      go_enter Tryz.func84, Tryz.ntmps84
      go_wp2_with fail
      refine HSK2.out.mono ?_
      rintro e w1 ⟨rfl, hs, hc⟩
      have HT1 := Lib.hid (HTO.out w1 hs)
      have HC1 := Lib.hid hc
      clear hs hc
      go_wp2_with (go_at_call 85; refine (HT1.out).mono ?_; rintro e w2 ⟨he, hc⟩; unfold Boom at he; subst he; have HC2 := Lib.hid (HC1.out.trans hc); clear hc)
      exact ⟨rfl, rfl, HC2.out⟩
    | ok q =>
      obtain ⟨t, n⟩ := q
      rw [show nxtA xs a = .ok (t, k + n) from by unfold nxtA; rw [← hR]; dsimp only; rw [hz]]
      rw [hz] at HTO
      obtain ⟨S1, hS1⟩ : ∃ S1, S1 = (⟨t.name.toArray⟩ : ByteArray) := ⟨_, rfl⟩
      obtain ⟨S2, hS2⟩ : ∃ S2, S2 = (⟨t.text.toArray⟩ : ByteArray) := ⟨_, rfl⟩
      have HN1 := Lib.hid hS1
      have HN2 := Lib.hid hS2
      clear HSK hR hz hS1 hS2
      go_enter Tryz.func84, Tryz.ntmps84
      go_wp2_with fail
      refine HSK2.out.mono ?_
      rintro e w1 ⟨rfl, hs, hc⟩
      have HT1 := Lib.hid (HTO.out w1 hs)
      have HC1 := Lib.hid hc
      clear hs hc
      go_wp2_with fail
      refine HT1.out.mono ?_
      rintro e w2 ⟨v2, rfl, hv, hs, hc⟩
      obtain ⟨sv, hve, hat⟩ := hv
      rw [← HN1.out, ← HN2.out] at hve
      obtain ⟨p7, c7, hsv, _⟩ := id hat
      obtain ⟨N7, hN7⟩ : ∃ N7, N7 = t.attrs.length := ⟨_, rfl⟩
      rw [← hN7] at hsv
      subst hsv
      obtain ⟨kd, hkd⟩ : ∃ kd, kd = t.kind := ⟨_, rfl⟩
      obtain ⟨em, hem⟩ : ∃ em, em = t.empty := ⟨_, rfl⟩
      rw [← hkd, ← hem] at hve
      subst hve
      have HC2 := Lib.hid (HC1.out.trans hc)
      have hb2 : w2.heap[tb]? = some REST := (HC2.out.block tb (Array.getElem?_eq_some_iff.1 HT.out).1 (by simpa using hne)).trans HT.out
      have HTK := Lib.hid (show TokAt (put5 w2 tb (.int .i64 (kd : Nat)) (.string S1) (.slice p7 N7 c7) (.bool em) (.string S2)) tb t from by rw [hkd, hem]; exact tok_put hb2 hat HN1.out HN2.out)
      have hk5 := put5_chg w2 tb (.int .i64 (kd : Nat)) (.string S1) (.slice p7 N7 c7) (.bool em) (.string S2)
      obtain ⟨p0, c0, hbox, _⟩ := hs.box
      have HLE := Lib.hid hs.le.1
      have HBX := Lib.hid ((hk5.block pb hs.lt (by simpa using Ne.symm hne)).trans hbox)
      have HCC := Lib.hid ((HC2.out.mono (T := [pb, tb]) (by simp)).trans (hk5.mono (T := [pb, tb]) (by simp)))
      obtain ⟨z0, z1, z2, z3, z4, zz⟩ := cellsX5 hb2
      clear hs hc hat hb2 hk5 hbox hN7 hkd hem
      go_wp2_with fail
      go_end0
      exact ⟨rfl, HTK.out, ⟨_, _, HBX.out⟩, HCC.out, HLE.out⟩
end Go.Proofs.YtpcajjbdlfookaaGreatDoor

/- xmllex: scan with Next's closure. -/
namespace Go.Proofs.YtpcajjbdlfookaaGreatDoor
open Go.RowKit
set_option linter.unusedVariables false

theorem results_scan (tm : Array Value) (V : World) (b1 b2 : Nat) (c1 c2 : Value) (h6 : tm.getD 6 undef = .pointer (some ⟨b1, 0, none⟩)) (h7 : tm.getD 7 undef = .pointer (some ⟨b2, 0, none⟩)) (hb1 : V.heap[b1]? = some (.cells #[c1] 3 (0, 0))) (hb2 : V.heap[b2]? = some (.cells #[c2] 28 (0, 0))) :
    (results Tryz.f81 tm).run Tryz.prog V = .ok (.tuple #[c1, c2]) V := by
  obtain ⟨e0, _⟩ := cells1 hb1
  obtain ⟨e8, _⟩ := cells1 hb2
  have h2' : tm[6]?.getD undef = .pointer (some ⟨b1, 0, none⟩) := by simpa using h6
  have h3' : tm[7]?.getD undef = .pointer (some ⟨b2, 0, none⟩) := by simpa using h7
  simp [results, Tryz.results81, go_sem, h2', h3', e0, e8]
abbrev RI : Obj := .cells #[.int .i64 0] 3
abbrev RE : Obj := .cells #[.int .i64 0] 28
abbrev W0 (w : World) : World := (w.alloc RI).alloc RE
theorem W0_size (w : World) : (W0 w).heap.size = w.heap.size + 2 := by simp
theorem W0_below (w : World) : Below w.heap.size w (W0 w) := (bel_alloc w RI).trans ((bel_alloc _ RE).mono (by simp))
theorem W0_6 (w : World) : (W0 w).heap[w.heap.size]? = some RI := ((bel_alloc (w.alloc RI) RE).block w.heap.size (by simp)).trans (heap_alloc_new w _)
theorem W0_7 (w : World) : (W0 w).heap[w.heap.size + 1]? = some RE := by
  have := heap_alloc_new (w.alloc RI) RE
  rwa [show (w.alloc RI).heap.size = w.heap.size + 1 from by simp] at this
abbrev SB (p : Option Addr) (n c : Nat) (a : Int) : Obj := .cells #[.slice p n c, .int .i64 a, .int .i64 0] 155
abbrev W1 (w : World) (p : Option Addr) (n c : Nat) (a : Int) : World := (W0 w).alloc (SB p n c a)
theorem W1_below (w : World) (p : Option Addr) (n c : Nat) (a : Int) : Below w.heap.size w (W1 w p n c a) := (W0_below w).trans ((bel_alloc _ _).mono (by simp; omega))
theorem W1_sc {w : World} (hw : BW w) {p : Option Addr} {n c : Nat} {xs : List UInt8} (h : Rd w (.slice p n c) xs) (hl : xs.length ≤ 1048576) {a : Nat} (ha : a ≤ xs.length) : SC (W1 w p n c (a : Nat)) (w.heap.size + 2) xs a 0 := by
  have hn := h.len
  subst hn
  refine ⟨hw.below (W1_below w _ _ _ _), hw.far (by omega), ⟨p, c, ?_, h.below (W1_below w _ _ _ _), fun h0 g o m e => ?_⟩, ha, hl, by omega⟩
  · have := heap_alloc_new (W0 w) (SB p xs.length c (a : Nat))
    rw [W0_size] at this
    exact this
  · obtain ⟨p', c', hv, _, _, _, h4⟩ := h
    cases hv
    obtain ⟨g', o', e', hx⟩ := h4 h0
    rw [e] at e'
    cases e'
    have := World.block_lt_of_cell? w _ (hx 0 h0)
    dsimp only at this
    omega
theorem W1_at (w : World) (p : Option Addr) (n c : Nat) (a : Int) : (W1 w p n c a).heap[w.heap.size]? = some RI ∧ (W1 w p n c a).heap[w.heap.size + 1]? = some RE :=
  ⟨((bel_alloc (W0 w) _).block w.heap.size (by simp; omega)).trans (W0_6 w), ((bel_alloc (W0 w) _).block (w.heap.size + 1) (by simp)).trans (W0_7 w)⟩

/-- No error is number 0. -/
def NZ {α : Type} (x : Except Nat α) : Prop := ∀ z, x = .error z → z ≠ 0
/-- How scan ends. -/
def ScAft (L : Nat) (w : World) (tb : Nat) (R : Tk × Nat × Nat) (e : Ending) (w' : World) : Prop :=
  e = .returned (.tuple #[.int .i64 (R.2.1 : Nat), .int .i64 (R.2.2 : Nat)]) ∧ TokAt w' tb R.1 ∧ Chg [tb] w w' ∧ (R.2.2 = 0 → R.2.1 ≤ L)
abbrev F19 (tb : Nat) : Value := .func (.func 84) #[] #[.pointer (some ⟨tb, 0, none⟩)]

set_option maxRecDepth 100000 in
set_option maxHeartbeats 2000000 in
theorem scan_out {w : World} {p : Option Addr} {n c : Nat} {xs : List UInt8} (hn : xs.length = n) {at_ : Int} (F : Value) (tb : Nat) (ht : w.heap[tb]? = some REST) (h : at_ < 0 ∨ (xs.length : Int) < at_) : Calls Tryz.prog 81 #[.slice p n c, .int .i64 at_, F] w
    (ScAft n w tb (noT, 0, 1)) := by
  obtain ⟨x0, xz⟩ := cells1 (W0_6 w)
  obtain ⟨y0, yz⟩ := cells1 (W0_7 w)
  have HT := Lib.hid ht
  have h1 : ((w.alloc RI).alloc (.cells #[.int .i64 1] 28)).heap[w.heap.size]? = some (.cells #[.int .i64 0] 3 (0, 0)) := ((bel_alloc (w.alloc RI) _).block w.heap.size (by simp)).trans (heap_alloc_new w _)
  have h2 : ((w.alloc RI).alloc (.cells #[.int .i64 1] 28)).heap[w.heap.size + 1]? = some (.cells #[.int .i64 1] 28 (0, 0)) := by
    have := heap_alloc_new (w.alloc RI) (.cells #[.int .i64 1] 28)
    rwa [show (w.alloc RI).heap.size = w.heap.size + 1 from by simp] at this
  have h3 : Chg [] w ((w.alloc RI).alloc (.cells #[.int .i64 1] 28)) := (Chg.alloc [] w _).alloc' _
  have H1 := Lib.hid h1
  have H2 := Lib.hid h2
  have H3 := Lib.hid h3
  clear h1 h2 h3 ht
  by_cases h0 : at_ < 0
  · have t0 : decide (at_ < 0) = true := by simpa using h0
    clear h
    go_enter_defers Tryz.func81, Tryz.ntmps81
    go_wp2_with fail
    refine ⟨_, results_scan _ _ w.heap.size (w.heap.size + 1) _ _ rfl rfl H1.out H2.out, ?_⟩
    exact ⟨rfl, TokAt.none ((H3.out.block tb (Array.getElem?_eq_some_iff.1 HT.out).1 (by simp)).trans HT.out), H3.out.mono (by simp), by simp⟩
  · have t0 : decide (at_ < 0) = false := by simpa using h0
    have t1 : decide ((n : Int) < at_) = true := by simp; omega
    clear h
    go_enter_defers Tryz.func81, Tryz.ntmps81
    go_wp2_with fail
    refine ⟨_, results_scan _ _ w.heap.size (w.heap.size + 1) _ _ rfl rfl H1.out H2.out, ?_⟩
    exact ⟨rfl, TokAt.none ((H3.out.block tb (Array.getElem?_eq_some_iff.1 HT.out).1 (by simp)).trans HT.out), H3.out.mono (by simp), by simp⟩

set_option maxRecDepth 100000 in
set_option maxHeartbeats 2000000 in
theorem scan_inb {w : World} (hw : BW w) {p : Option Addr} {n c : Nat} {xs : List UInt8} (hr : Rd w (.slice p n c) xs) (hl : xs.length ≤ 1048576) {a : Nat} (ha : a ≤ xs.length) (tb : Nat) (ht : w.heap[tb]? = some REST) (hnz : NZ (tokA (xs.drop (skpF insP (xs.length + 1) (xs.drop a) a).1))) : Calls Tryz.prog 81 #[.slice p n c, .int .i64 (a : Nat), F19 tb] w
    (ScAft n w tb (nxt insP opnP cloP xs (a : Int))) := by
  have hn := hr.len
  have HT := Lib.hid ht
  have htl := (Array.getElem?_eq_some_iff.1 ht).1
  have hmf : ∀ (fn : Fn) (first cap : Array Value) (w : World), (Instr.makeFunc fn first cap).run Tryz.prog w = .ok (.func fn first cap) w := fun _ _ _ _ => rfl
  have HNX := Lib.hid (next1_c (W1_sc hw hr hl ha) (((W1_below w p n c (a : Nat)).block tb htl).trans ht) (by omega))
  have HNA := Lib.hid (nxt_in ha)
  have h6 := (W1_at w p n c (a : Nat))
  have H67 := Lib.hid h6
  have HWB := Lib.hid (W1_below w p n c (a : Nat))
  obtain ⟨x0, xz⟩ := cells1 (W0_6 w)
  obtain ⟨y0, yz⟩ := cells1 (W0_7 w)
  have t0 : decide ((a : Int) < 0) = false := by simp
  have t1 : ¬ n < a := by omega
  have t2 : decide (n < a) = false := by simpa using t1
  rw [HNA.out]
  have HLN := Lib.hid hn
  have HNZ := Lib.hid (show ∀ k z, nxtA xs a = .error (k, z) → z ≠ 0 from by
    intro k z he
    unfold nxtA at he
    rcases hq : skpF insP (xs.length + 1) (xs.drop a) a with ⟨k', _ | _⟩
    · rw [hq] at he
      cases he
      decide
    · rw [hq] at he hnz
      dsimp only at he hnz
      cases hz : tokA (xs.drop k') with
      | error y =>
        rw [hz] at he
        cases he
        exact hnz _ hz
      | ok y =>
        rw [hz] at he
        cases he)
  clear hr hw ht hl h6 hn hnz
  cases hR : nxtA xs a with
  | error q =>
    obtain ⟨k, z⟩ := q
    rw [hR] at HNX
    have HZ := Lib.hid (HNZ.out k z hR)
    clear hR
    dsimp only
    go_enter_defers Tryz.func81, Tryz.ntmps81
    go_wp2_with fail
    refine HNX.out.mono ?_
    rintro e w2 ⟨he, hc⟩
    unfold Boom at he
    subst he
    have hb6 := (hc.block w.heap.size (by simp; omega) (by simp)).trans H67.out.1
    have hb7 := (hc.block (w.heap.size + 1) (by simp) (by simp)).trans H67.out.2
    refine leaves_cons (f := 104) (args := #[.pointer (some ⟨w.heap.size, 0, none⟩), .pointer (some ⟨w.heap.size + 1, 0, none⟩)]) (by simp) (by simp [go_sem]) ?_
    refine (scatch_c w.heap.size (w.heap.size + 1) 0 0 (k : Nat) (z : Nat) [] w2 hb6 hb7).mono ?_
    rintro e u' w'' ⟨rfl, rfl, g1, g2, gc⟩
    refine ⟨_, results_scan _ w'' w.heap.size (w.heap.size + 1) _ _ rfl rfl g1 g2, ?_⟩
    have hcc : Chg [] w w'' := ((Chg.of_below HWB.out).then hc (fun i hi => by simp at hi; exact .inr (by omega))).then gc (fun i hi => by simp at hi; exact .inr (by omega))
    exact ⟨rfl, TokAt.none ((hcc.block tb htl (by simp)).trans HT.out), hcc.mono (by simp), fun h => absurd h HZ.out⟩
  | ok q =>
    obtain ⟨t, k⟩ := q
    rw [hR] at HNX
    clear hR
    dsimp only
    go_enter_defers Tryz.func81, Tryz.ntmps81
    go_wp2_with fail
    refine HNX.out.mono ?_
    rintro e w2 ⟨rfl, htk, ⟨c0, c2, hbox⟩, hc, hkl⟩
    have HKL := Lib.hid hkl
    clear hkl
    have hb6 := (hc.block w.heap.size (by simp; omega) (by simp; omega)).trans H67.out.1
    have hb7 := (hc.block (w.heap.size + 1) (by simp) (by simp; omega)).trans H67.out.2
    have h1 : ((w2.setCell ⟨w.heap.size, 0, none⟩ (.int .i64 (k : Nat))).setCell ⟨w.heap.size + 1, 0, none⟩ (.int .i64 0)).heap[w.heap.size]? = some (.cells #[.int .i64 (k : Nat)] 3 (0, 0)) := by
      rw [Below.heap_setCell _ _ _ _ (by simp), block_set _ _ _ _ _ _ _ hb6]
      rfl
    have h2 : ((w2.setCell ⟨w.heap.size, 0, none⟩ (.int .i64 (k : Nat))).setCell ⟨w.heap.size + 1, 0, none⟩ (.int .i64 0)).heap[w.heap.size + 1]? = some (.cells #[.int .i64 0] 28 (0, 0)) := by
      rw [block_set _ _ _ _ _ _ _ ((Below.heap_setCell _ _ _ _ (by simp)).trans hb7)]
      rfl
    have gc : Chg [w.heap.size, w.heap.size + 1] w2 ((w2.setCell ⟨w.heap.size, 0, none⟩ (.int .i64 (k : Nat))).setCell ⟨w.heap.size + 1, 0, none⟩ (.int .i64 0)) := ((Chg.refl _ _).set' _ _ _ (.inl (by simp))).set' _ _ _ (.inl (by simp))
    have H1 := Lib.hid h1
    have H2 := Lib.hid h2
    have HCC := Lib.hid (((Chg.of_below (S := [tb]) HWB.out).then hc (fun i hi => by simp at hi; rcases hi with rfl | rfl; exact .inr (by omega); exact .inl (by simp))).then gc (fun i hi => by simp at hi; exact .inr (by omega)))
    have HTK := Lib.hid (htk.far gc (by simp; omega) (fun b hb => by simp at hb; rcases hb with rfl | rfl; exact ⟨_, _, _, hb6⟩; exact ⟨_, _, _, hb7⟩))
    obtain ⟨u0, uz⟩ := cells1 hb6
    obtain ⟨v0, vz⟩ := cells1 hb7
    obtain ⟨d0, d1, d2, dz⟩ := cells3 hbox
    clear h1 h2 gc hc htk hb6 hb7 hbox d0 d2
    go_wp2_with fail
    refine leaves_cons (f := 104) (args := #[.pointer (some ⟨w.heap.size, 0, none⟩), .pointer (some ⟨w.heap.size + 1, 0, none⟩)]) (by simp) (by simp [go_sem]) ?_
    refine (sidle_c w.heap.size (w.heap.size + 1) _).mono ?_
    rintro e u' w'' ⟨rfl, rfl, rfl⟩
    refine ⟨_, results_scan _ _ w.heap.size (w.heap.size + 1) _ _ rfl rfl H1.out H2.out, ?_⟩
    exact ⟨rfl, HTK.out, HCC.out, fun _ => by have := HKL.out; have := HLN.out; dsimp only; omega⟩
end Go.Proofs.YtpcajjbdlfookaaGreatDoor
