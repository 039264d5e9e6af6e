/- xmllex: Next's closure. -/
import Derived.Test.YtgkoknckaajgmaaGreatDoorHx
namespace Go.Proofs.YtgkoknckaajgmaaGreatDoor
open Go.RowKit
set_option linter.unusedVariables false

def nxtA (xs : List UInt8) (a : Nat) : Except (Nat × Nat) (Tk × Nat) := match skpF insP (xs.length + 1) (xs.drop a) a with
  | (k, false) => .error (k, 11)
  | (k, true) => match tokA (xs.drop k) with
    | .error e => .error (k, e)
    | .ok (t, n) => .ok (t, k + n)
theorem nxt_in {xs : List UInt8} {a : Nat} (h : a ≤ xs.length) : nxt insP opnP cloP xs (a : Int) = match nxtA xs a with
    | .error (k, c) => (noT, k, c)
    | .ok (t, k) => (t, k, 0) := by
  unfold nxt nxtA
  rw [if_neg (by omega), Int.toNat_natCast]
  rcases skpF insP (xs.length + 1) (xs.drop a) a with ⟨k, _ | _⟩
  · rfl
  · dsimp only
    unfold tokA
    by_cases h0 : xs.drop k = []
    · rw [if_pos h0, if_pos h0]
      rfl
    · rw [if_neg h0, if_neg h0]
      rcases tokG opnP cloP (xs.drop k) with e | ⟨t, n⟩ <;> rfl
theorem nxt_out {xs : List UInt8} {at_ : Int} (h : at_ < 0 ∨ (xs.length : Int) < at_) : nxt insP opnP cloP xs at_ = (noT, 0, 1) := by
  unfold nxt
  rw [if_pos h]

/-- A token in its box. -/
def TokAt (w : World) (tb : Nat) (t : Tk) : Prop := ∃ s, w.heap[tb]? = some (.cells #[.int .i64 (t.kind : Nat), .string ⟨t.name.toArray⟩, s, .bool t.empty, .string ⟨t.text.toArray⟩] 57 (0, 0)) ∧ AtsIs w s t.attrs
theorem tok_put {w5 : World} {tb : Nat} {t : Tk} {p : Option Addr} {n c : Nat} {S1 S2 : ByteArray} (hb : w5.heap[tb]? = some REST) (hat : AtsIs w5 (.slice p n c) t.attrs) (h1 : S1 = ⟨t.name.toArray⟩) (h2 : S2 = ⟨t.text.toArray⟩) :
    TokAt (put5 w5 tb (.int .i64 (t.kind : Nat)) (.string S1) (.slice p n c) (.bool t.empty) (.string S2)) tb t := by
  subst h1 h2
  exact ⟨_, put5_at hb _ _ _ _ _, hat.poke hb (put5_chg _ _ _ _ _ _ _)⟩
theorem TokAt.none {w : World} {tb : Nat} (hb : w.heap[tb]? = some REST) : TokAt w tb noT := ⟨_, hb, AtsIs.nil _⟩
/-- Boxes of numbers hold no attribute. -/
theorem AtsIs.far {w w' : World} {S : List Nat} {v : Value} {l : List (List UInt8 × List UInt8)} (h : AtsIs w v l) (hk : Chg S w w') (hS : ∀ b ∈ S, ∃ i n T, w.heap[b]? = some (.cells #[.int i n] T (0, 0))) : AtsIs w' v l := by
  obtain ⟨p0, c0, hv, h1, h2, h3, h4⟩ := h
  refine ⟨p0, c0, hv, h1, h2, h3, fun hp => ?_⟩
  obtain ⟨g, o, hg, hx⟩ := h4 hp
  refine ⟨g, o, hg, fun j u hu => ?_⟩
  have hx' := hx j u hu
  have hns : g ∉ S := by
    intro hm
    obtain ⟨i, n, T, hb⟩ := hS g hm
    cases l with
    | nil => simp at hp
    | cons x t =>
      have e0 := hx 0 (.string ⟨x.1.toArray⟩) (by simp)
      simp only [World.cell?, hb] at e0
      match o, e0 with
      | 0, e0 => simp at e0
      | k + 1, e0 => simp at e0
  rw [World.cell?_of_block (w := w) (hk.block g (World.block_lt_of_cell? w _ hx') hns)]
  exact hx'
theorem TokAt.far {w w' : World} {S : List Nat} {tb : Nat} {t : Tk} (h : TokAt w tb t) (hk : Chg S w w') (htb : tb ∉ S) (hS : ∀ b ∈ S, ∃ i n T, w.heap[b]? = some (.cells #[.int i n] T (0, 0))) : TokAt w' tb t := by
  obtain ⟨s, hb, ha⟩ := h
  exact ⟨s, (hk.block tb (Array.getElem?_eq_some_iff.1 hb).1 htb).trans hb, ha.far hk hS⟩

def NxAft (w : World) (pb tb : Nat) (xs : List UInt8) (R : Except (Nat × Nat) (Tk × Nat)) (e : Ending) (w' : World) : Prop := match R with
  | .error (k, c) => Boom k (c : Nat) e ∧ Chg [pb] w w'
  | .ok (t, k) => e = .returned (.tuple #[]) ∧ TokAt w' tb t ∧ (∃ c0 c2, w'.heap[pb]? = some (.cells #[c0, .int .i64 (k : Nat), c2] 162 (0, 0))) ∧ Chg [pb, tb] w w' ∧ k ≤ xs.length

set_option maxRecDepth 100000 in
set_option maxHeartbeats 2000000 in
theorem next1_c {w : World} {pb tb : Nat} {xs : List UInt8} {a f : Nat} (h : SC w pb xs a f) (ht : w.heap[tb]? = some REST) (hne : tb ≠ pb) : Calls Tryz.prog 94 #[.pointer (some ⟨pb, 0, none⟩), .pointer (some ⟨tb, 0, none⟩)] w
    (NxAft w pb tb xs (nxtA xs a)) := by
  have HSK := skip_c h
  obtain ⟨R, hR⟩ : ∃ R, R = skpF insP (xs.length + 1) (xs.drop a) a := ⟨_, rfl⟩
  rw [← hR] at HSK
  obtain ⟨k, ok⟩ := R
  have hpl := h.lt
  have HT := Lib.hid ht
  clear h ht
  cases ok with
  | false =>
    rw [show nxtA xs a = .error (k, 11) from by unfold nxtA; rw [← hR]]
    have HSK2 : Hid (Calls Tryz.prog 93 #[.pointer (some ⟨pb, 0, none⟩)] w fun e w' => Boom k 11 e ∧ Chg [pb] w w') := HSK
    clear HSK hR
    go_enter Tryz.func94, Tryz.ntmps94
    go_wp2_with (go_at_call 93; refine (HSK2.out).mono ?_; rintro e w1 ⟨he, hc⟩; unfold Boom at he; subst he; have HC := Lib.hid hc; clear hc)
    exact ⟨rfl, rfl, HC.out⟩
  | true =>
    have HSK2 : Hid (Calls Tryz.prog 93 #[.pointer (some ⟨pb, 0, none⟩)] w fun e w' => e = .returned (.tuple #[]) ∧ SC w' pb xs k k ∧ Chg [pb] w w') := HSK
    have HTO := Lib.hid (fun (wx : World) (hs : SC wx pb xs k k) => token_c hs)
    cases hz : tokA (xs.drop k) with
    | error z =>
      rw [show nxtA xs a = .error (k, z) from by unfold nxtA; rw [← hR]; dsimp only; rw [hz]]
      rw [hz] at HTO
      clear HSK hR hz
      go_enter Tryz.func94, Tryz.ntmps94
      go_wp2_with fail
      refine HSK2.out.mono ?_
      rintro e w1 ⟨rfl, hs, hc⟩
      have HT1 := Lib.hid (HTO.out w1 hs)
      have HC1 := Lib.hid hc
      clear hs hc
      go_wp2_with (go_at_call 95; refine (HT1.out).mono ?_; rintro e w2 ⟨he, hc⟩; unfold Boom at he; subst he; have HC2 := Lib.hid (HC1.out.trans hc); clear hc)
      exact ⟨rfl, rfl, HC2.out⟩
    | ok q =>
      obtain ⟨t, n⟩ := q
      rw [show nxtA xs a = .ok (t, k + n) from by unfold nxtA; rw [← hR]; dsimp only; rw [hz]]
      rw [hz] at HTO
      obtain ⟨S1, hS1⟩ : ∃ S1, S1 = (⟨t.name.toArray⟩ : ByteArray) := ⟨_, rfl⟩
      obtain ⟨S2, hS2⟩ : ∃ S2, S2 = (⟨t.text.toArray⟩ : ByteArray) := ⟨_, rfl⟩
      have HN1 := Lib.hid hS1
      have HN2 := Lib.hid hS2
      clear HSK hR hz hS1 hS2
      go_enter Tryz.func94, Tryz.ntmps94
      go_wp2_with fail
      refine HSK2.out.mono ?_
      rintro e w1 ⟨rfl, hs, hc⟩
      have HT1 := Lib.hid (HTO.out w1 hs)
      have HC1 := Lib.hid hc
      clear hs hc
      go_wp2_with fail
      refine HT1.out.mono ?_
      rintro e w2 ⟨v2, rfl, hv, hs, hc⟩
      obtain ⟨sv, hve, hat⟩ := hv
      rw [← HN1.out, ← HN2.out] at hve
      obtain ⟨p7, c7, hsv, _⟩ := id hat
      obtain ⟨N7, hN7⟩ : ∃ N7, N7 = t.attrs.length := ⟨_, rfl⟩
      rw [← hN7] at hsv
      subst hsv
      obtain ⟨kd, hkd⟩ : ∃ kd, kd = t.kind := ⟨_, rfl⟩
      obtain ⟨em, hem⟩ : ∃ em, em = t.empty := ⟨_, rfl⟩
      rw [← hkd, ← hem] at hve
      subst hve
      have HC2 := Lib.hid (HC1.out.trans hc)
      have hb2 : w2.heap[tb]? = some REST := (HC2.out.block tb (Array.getElem?_eq_some_iff.1 HT.out).1 (by simpa using hne)).trans HT.out
      have HTK := Lib.hid (show TokAt (put5 w2 tb (.int .i64 (kd : Nat)) (.string S1) (.slice p7 N7 c7) (.bool em) (.string S2)) tb t from by rw [hkd, hem]; exact tok_put hb2 hat HN1.out HN2.out)
      have hk5 := put5_chg w2 tb (.int .i64 (kd : Nat)) (.string S1) (.slice p7 N7 c7) (.bool em) (.string S2)
      obtain ⟨p0, c0, hbox, _⟩ := hs.box
      have HLE := Lib.hid hs.le.1
      have HBX := Lib.hid ((hk5.block pb hs.lt (by simpa using Ne.symm hne)).trans hbox)
      have HCC := Lib.hid ((HC2.out.mono (T := [pb, tb]) (by simp)).trans (hk5.mono (T := [pb, tb]) (by simp)))
      obtain ⟨z0, z1, z2, z3, z4, zz⟩ := cellsX5 hb2
      clear hs hc hat hb2 hk5 hbox hN7 hkd hem
      go_wp2_with fail
      go_end0
      exact ⟨rfl, HTK.out, ⟨_, _, HBX.out⟩, HCC.out, HLE.out⟩
end Go.Proofs.YtgkoknckaajgmaaGreatDoor
