/- xmllex: the scanner: tagName, instruction, skip. -/
import Derived.Test.YtpcajjbdlfookaaGreatDoorMw15
namespace Go.Proofs.YtpcajjbdlfookaaGreatDoor
open Go.RowKit
set_option linter.unusedVariables false

set_option maxRecDepth 100000 in
set_option maxHeartbeats 1000000 in
/-- The end of tagName: the text from a to a + n. -/
theorem tagName_c {w : World} {pb : Nat} {xs : List UInt8} {a f : Nat} (h : SC w pb xs a f) : Calls Tryz.prog 126 #[.pointer (some ⟨pb, 0, none⟩)] w
    (Aft w pb xs a f VS (tgP (xs.drop a))) := by
  have HN := Lib.hid (sname_c h)
  have hle := h.le
  obtain ⟨p0, cc0, hb0, _⟩ := h.box
  obtain ⟨c0, c1, c2, _⟩ := cells3 hb0
  have hnl := nameAt_le (xs.drop a)
  have hdl : (xs.drop a).length = xs.length - a := List.length_drop ..
  clear h hb0 c0 c2
  by_cases h0 : nameAt (xs.drop a) = 0
  · have HT := Lib.hid (show tgP (xs.drop a) = .error 11 from by unfold tgP tagP; rw [if_pos h0])
    rw [if_pos h0] at HN
    rw [HT.out]
    clear h0 hnl hdl
    go_enter Tryz.func126, Tryz.ntmps126
    go_wp2_with (go_at_call 123; refine (HN.out).mono ?_; rintro e w1 ⟨he, hc⟩; unfold Boom at he; subst he; have HC := Lib.hid hc; clear hc)
    exact ⟨rfl, rfl, HC.out⟩
  · rw [if_neg h0] at HN
    obtain ⟨n, hn⟩ : ∃ n, n = nameAt (xs.drop a) := ⟨_, rfl⟩
    have hdd : (xs.drop a).drop n = xs.drop (a + n) := by rw [List.drop_drop]
    rw [← hn] at HN h0 hnl
    cases hp : Lib.hasPrefix (xs.drop (a + n)) [58] with
    | false =>
      have HT := Lib.hid (show tgP (xs.drop a) = .ok ((xs.drop a).take n, n) from by unfold tgP tagP; rw [← hn, if_neg h0, hdd, hp]; rfl)
      rw [HT.out]
      have HTK := Lib.hid (fun (wx : World) (hs : SC wx pb xs (a + n) f) => take_c hs ⟨#[58]⟩ (by decide) false hp)
      clear h0 hn hdd hp
      go_enter Tryz.func126, Tryz.ntmps126
      go_wp2_with fail
      refine HN.out.mono ?_
      rintro e w1 ⟨v, rfl, hv, hs, hc⟩
      have HK := Lib.hid (HTK.out w1 hs)
      have HC1 := Lib.hid hc
      subst hv
      clear hs hc
      go_wp2_with fail
      refine HK.out.mono ?_
      rintro e w2 ⟨rfl, hs, hc⟩
      have HS2 := Lib.hid (show SC w2 pb xs (a + n) f from hs)
      have HC2 := Lib.hid (HC1.out.trans hc)
      obtain ⟨p, c, hbox, hrd, _⟩ := HS2.out.box
      obtain ⟨d0, d1, d2, dz⟩ := cells3 hbox
      obtain ⟨p', m', c', hsl, hr'⟩ := slice_mid hrd a (a + n) (by omega) (by omega)
      rw [show a + n - a = n by omega] at hr'
      rw [show ((a + n : Nat) : Int) = (a : Int) + (n : Int) by omega] at d1 hsl
      have hcv := fun q => (hr'.below (below_drewN (Below.refl _ _) q)).conv (P := Tryz.prog) 22 5 9 Tryz.underlying22 Tryz.underlying5 Tryz.underlying9
      have hcv0 := hr'.conv (P := Tryz.prog) 22 5 9 Tryz.underlying22 Tryz.underlying5 Tryz.underlying9
      obtain ⟨L, hL⟩ : ∃ L, L = xs.length := ⟨_, rfl⟩
      rw [← hL] at d0 hsl
      obtain ⟨S, hS⟩ : ∃ S, S = (⟨((xs.drop a).take n).toArray⟩ : ByteArray) := ⟨_, rfl⟩
      rw [← hS] at hcv hcv0
      have HSS := Lib.hid hS
      clear hs hc hbox hrd hr' hL hS
      go_wp2_with fail
      go_quiet (fail)
      go_wp2
      go_ret
      exact ⟨_, rfl, by rw [VS, ← HSS.out]; rfl, HS2.out.below (below_drewN (Below.refl _ _) _), HC2.out.trans (Chg.of_below (below_drewN (Below.refl _ _) _))⟩
    | true =>
      have hpl := pre_len hp
      rw [List.length_singleton, List.length_drop] at hpl
      have HTK := Lib.hid (fun (wx : World) (hs : SC wx pb xs (a + n) f) => take_c hs ⟨#[58]⟩ (by decide) true hp)
      have hd1 : (xs.drop a).drop (n + 1) = xs.drop (a + n + 1) := by rw [List.drop_drop, Nat.add_assoc]
      have hnl2 := nameAt_le (xs.drop (a + n + 1))
      rw [List.length_drop] at hnl2
      by_cases h1 : nameAt (xs.drop (a + n + 1)) = 0
      · have HT := Lib.hid (show tgP (xs.drop a) = .error 11 from by unfold tgP tagP; rw [← hn, if_neg h0, hdd, hp, if_pos rfl, hd1, if_pos h1])
        rw [HT.out]
        have HN2 := Lib.hid (fun (wx : World) (hs : SC wx pb xs (a + n + 1) f) => sname_c hs)
        rw [if_pos h1] at HN2
        clear h0 hn hdd hp h1 hd1
        go_enter Tryz.func126, Tryz.ntmps126
        go_wp2_with fail
        refine HN.out.mono ?_
        rintro e w1 ⟨v, rfl, hv, hs, hc⟩
        have HK := Lib.hid (HTK.out w1 hs)
        have HC1 := Lib.hid hc
        subst hv
        clear hs hc
        go_wp2_with fail
        refine HK.out.mono ?_
        rintro e w2 ⟨rfl, hs, hc⟩
        have HM := Lib.hid (HN2.out w2 hs)
        have HC2 := Lib.hid (HC1.out.trans hc)
        clear hs hc
        go_wp2_with (go_at_call 123; refine (HM.out).mono ?_; rintro e w3 ⟨he, hc⟩; unfold Boom at he; subst he; have HC3 := Lib.hid (HC2.out.trans hc); clear hc)
        exact ⟨rfl, rfl, HC3.out⟩
      · obtain ⟨n2, hn2⟩ : ∃ n2, n2 = nameAt (xs.drop (a + n + 1)) := ⟨_, rfl⟩
        have HT := Lib.hid (show tgP (xs.drop a) = .ok ((xs.drop a).take (n + 1 + n2), n + 1 + n2) from by unfold tgP tagP; rw [← hn, if_neg h0, hdd, hp, if_pos rfl, hd1, if_neg h1, ← hn2])
        rw [HT.out]
        have HN2 := Lib.hid (fun (wx : World) (hs : SC wx pb xs (a + n + 1) f) => sname_c hs)
        rw [if_neg h1, ← hn2] at HN2
        rw [← hn2] at hnl2
        obtain ⟨M, hM⟩ : ∃ M, M = n + 1 + n2 := ⟨_, rfl⟩
        rw [← hM]
        have HMM := Lib.hid (show a + n + 1 + n2 = a + M by omega)
        have hMl : a + M ≤ xs.length := by omega
        clear h0 hn hdd hp h1 hd1 hn2 hM
        go_enter Tryz.func126, Tryz.ntmps126
        go_wp2_with fail
        refine HN.out.mono ?_
        rintro e w1 ⟨v, rfl, hv, hs, hc⟩
        have HK := Lib.hid (HTK.out w1 hs)
        have HC0 := Lib.hid hc
        subst hv
        clear hs hc
        go_wp2_with fail
        refine HK.out.mono ?_
        rintro e w3 ⟨rfl, hs, hc⟩
        have HM := Lib.hid (HN2.out w3 hs)
        have HC1 := Lib.hid (HC0.out.trans hc)
        clear hs hc
        go_wp2_with fail
        refine HM.out.mono ?_
        rintro e w2 ⟨v, rfl, hv, hs, hc⟩
        rw [HMM.out] at hs
        subst hv
        have HS2 := Lib.hid (show SC w2 pb xs (a + M) f from hs)
        have HC2 := Lib.hid (HC1.out.trans hc)
        obtain ⟨p, c, hbox, hrd, _⟩ := HS2.out.box
        obtain ⟨d0, d1, d2, dz⟩ := cells3 hbox
        obtain ⟨p', m', c', hsl, hr'⟩ := slice_mid hrd a (a + M) (by omega) (by omega)
        rw [show a + M - a = M by omega] at hr'
        rw [show ((a + M : Nat) : Int) = (a : Int) + (M : Int) by omega] at d1 hsl
        have hcv := fun q => (hr'.below (below_drewN (Below.refl _ _) q)).conv (P := Tryz.prog) 22 5 9 Tryz.underlying22 Tryz.underlying5 Tryz.underlying9
        have hcv0 := hr'.conv (P := Tryz.prog) 22 5 9 Tryz.underlying22 Tryz.underlying5 Tryz.underlying9
        obtain ⟨L, hL⟩ : ∃ L, L = xs.length := ⟨_, rfl⟩
        rw [← hL] at d0 hsl
        obtain ⟨S, hS⟩ : ∃ S, S = (⟨((xs.drop a).take M).toArray⟩ : ByteArray) := ⟨_, rfl⟩
        rw [← hS] at hcv hcv0
        have HSS := Lib.hid hS
        clear hs hc hbox hrd hr' hL hS
        go_wp2_with fail
        go_quiet (fail)
        go_wp2
        go_ret
        exact ⟨_, rfl, by rw [VS, ← HSS.out]; rfl, HS2.out.below (below_drewN (Below.refl _ _) _), HC2.out.trans (Chg.of_below (below_drewN (Below.refl _ _) _))⟩

/-- An instruction behind its mark. -/
def inP (r : List UInt8) : Except Nat (Unit × Nat) := match insP r with
  | none => .error 11
  | some n => .ok ((), n)
set_option maxRecDepth 100000 in
set_option maxHeartbeats 1000000 in
theorem instruction_c {w : World} {pb : Nat} {xs : List UInt8} {a f : Nat} (h : SC w pb xs a f) : Calls Tryz.prog 108 #[.pointer (some ⟨pb, 0, none⟩)] w
    (Aft w pb xs a f VU (inP (xs.drop a))) := by
  have HN := Lib.hid (sname_c h)
  have hle := h.le
  clear h
  by_cases h0 : nameAt (xs.drop a) = 0
  · have HT := Lib.hid (show inP (xs.drop a) = .error 11 from by unfold inP insP; rw [if_pos h0])
    rw [if_pos h0] at HN
    rw [HT.out]
    clear h0
    go_enter Tryz.func108, Tryz.ntmps108
    go_wp2_with (go_at_call 123; refine (HN.out).mono ?_; rintro e w1 ⟨he, hc⟩; unfold Boom at he; subst he; have HC := Lib.hid hc; clear hc)
    exact ⟨rfl, rfl, HC.out⟩
  · rw [if_neg h0] at HN
    obtain ⟨n, hn⟩ : ∃ n, n = nameAt (xs.drop a) := ⟨_, rfl⟩
    have hdd : (xs.drop a).drop n = xs.drop (a + n) := by rw [List.drop_drop]
    rw [← hn] at HN h0
    cases hp : Lib.hasPrefix (xs.drop (a + n)) [63, 62] with
    | true =>
      have HT := Lib.hid (show inP (xs.drop a) = .ok ((), n + 2) from by unfold inP insP; rw [← hn, if_neg h0, hdd, hp]; rfl)
      rw [HT.out]
      have HTK := Lib.hid (fun (wx : World) (hs : SC wx pb xs (a + n) f) => take_c hs ⟨#[63, 62]⟩ (by decide) true hp)
      clear h0 hn hdd hp
      go_enter Tryz.func108, Tryz.ntmps108
      go_wp2_with fail
      refine HN.out.mono ?_
      rintro e w1 ⟨v, rfl, hv, hs, hc⟩
      have HK := Lib.hid (HTK.out w1 hs)
      have HC1 := Lib.hid hc
      subst hv
      clear hs hc
      go_wp2_with fail
      refine HK.out.mono ?_
      rintro e w2 ⟨rfl, hs, hc⟩
      have HF := Lib.hid (And.intro hs (HC1.out.trans hc))
      clear hs hc
      go_wp2_with fail
      go_end0
      exact ⟨_, rfl, rfl, HF.out.1, HF.out.2⟩
    | false =>
      have HTK := Lib.hid (fun (wx : World) (hs : SC wx pb xs (a + n) f) => take_c hs ⟨#[63, 62]⟩ (by decide) false hp)
      have HBL := Lib.hid (fun (wx : World) (hs : SC wx pb xs (a + n) f) => blanks_c hs)
      obtain ⟨k, hk⟩ : ∃ k, k = blN (xs.drop (a + n)) := ⟨_, rfl⟩
      rw [← hk] at HBL
      by_cases hk0 : k = 0
      · have HT := Lib.hid (show inP (xs.drop a) = .error 11 from by unfold inP insP; rw [← hn, if_neg h0, hdd, hp, if_neg (by simp), ← hk, if_pos hk0])
        rw [HT.out]
        rw [show decide (0 < k) = false from by simp; omega] at HBL
        clear h0 hn hdd hp hk hk0
        go_enter Tryz.func108, Tryz.ntmps108
        go_wp2_with fail
        refine HN.out.mono ?_
        rintro e w1 ⟨v, rfl, hv, hs, hc⟩
        have HK := Lib.hid (HTK.out w1 hs)
        have HC1 := Lib.hid hc
        subst hv
        clear hs hc
        go_wp2_with fail
        refine HK.out.mono ?_
        rintro e w2 ⟨rfl, hs, hc⟩
        have HB := Lib.hid (HBL.out w2 hs)
        have HC2 := Lib.hid (HC1.out.trans hc)
        clear hs hc
        go_wp2_with fail
        refine HB.out.mono ?_
        rintro e w3 ⟨v, rfl, hv, hs, hc⟩
        have HF := Lib.hid (fail_c hs 11)
        have HC3 := Lib.hid (HC2.out.trans hc)
        unfold VBl at hv
        subst hv
        clear hs hc
        go_wp2_with (go_at_call 110; refine (HF.out).mono ?_; rintro e w4 ⟨he, rfl⟩; unfold Boom at he; subst he)
        exact ⟨rfl, rfl, HC3.out⟩
      · have hd2 : (xs.drop a).drop (n + k) = xs.drop (a + n + k) := by rw [List.drop_drop, Nat.add_assoc]
        have HTH := Lib.hid (fun (wx : World) (hs : SC wx pb xs (a + n + k) f) => through_c hs ⟨#[63, 62]⟩ (by decide))
        have e62 : (⟨#[63, 62]⟩ : ByteArray).data.toList = [63, 62] := rfl
        rw [e62] at HTH
        rw [show decide (0 < k) = true from by simp; omega] at HBL
        by_cases hi : Lib.index (xs.drop (a + n + k)) [63, 62] < 0
        · have HT := Lib.hid (show inP (xs.drop a) = .error 11 from by unfold inP insP; rw [← hn, if_neg h0, hdd, hp, if_neg (by simp), ← hk, if_neg hk0, hd2, if_pos hi])
          rw [HT.out]
          rw [show thr (xs.drop (a + n + k)) [63, 62] = .error 11 from by unfold thr; rw [if_pos hi]] at HTH
          clear h0 hn hdd hp hk hk0 hd2 hi e62
          go_enter Tryz.func108, Tryz.ntmps108
          go_wp2_with fail
          refine HN.out.mono ?_
          rintro e w1 ⟨v, rfl, hv, hs, hc⟩
          have HK := Lib.hid (HTK.out w1 hs)
          have HC1 := Lib.hid hc
          subst hv
          clear hs hc
          go_wp2_with fail
          refine HK.out.mono ?_
          rintro e w2 ⟨rfl, hs, hc⟩
          have HB := Lib.hid (HBL.out w2 hs)
          have HC2 := Lib.hid (HC1.out.trans hc)
          clear hs hc
          go_wp2_with fail
          refine HB.out.mono ?_
          rintro e w3 ⟨v, rfl, hv, hs, hc⟩
          have HF := Lib.hid (HTH.out w3 hs)
          have HC3 := Lib.hid (HC2.out.trans hc)
          unfold VBl at hv
          subst hv
          clear hs hc
          go_wp2_with (go_at_call 106; refine (HF.out).mono ?_; rintro e w4 ⟨he, hc⟩; unfold Boom at he; subst he; have HC4 := Lib.hid (HC3.out.trans hc); clear hc)
          exact ⟨rfl, rfl, HC4.out⟩
        · obtain ⟨i, hi'⟩ : ∃ i : Nat, Lib.index (xs.drop (a + n + k)) [63, 62] = i := ⟨(Lib.index (xs.drop (a + n + k)) [63, 62]).toNat, by omega⟩
          have HT := Lib.hid (show inP (xs.drop a) = .ok ((), n + k + i + 2) from by unfold inP insP; rw [← hn, if_neg h0, hdd, hp, if_neg (by simp), ← hk, if_neg hk0, hd2, if_neg hi, hi']; rfl)
          rw [HT.out]
          rw [show thr (xs.drop (a + n + k)) [63, 62] = .ok ((xs.drop (a + n + k)).take i, i + 2) from by unfold thr; rw [if_neg hi, hi']; rfl] at HTH
          have HAD := Lib.hid (show a + n + k + (i + 2) = a + (n + k + i + 2) by omega)
          clear h0 hn hdd hp hk hk0 hd2 hi e62 hi'
          go_enter Tryz.func108, Tryz.ntmps108
          go_wp2_with fail
          refine HN.out.mono ?_
          rintro e w1 ⟨v, rfl, hv, hs, hc⟩
          have HK := Lib.hid (HTK.out w1 hs)
          have HC1 := Lib.hid hc
          subst hv
          clear hs hc
          go_wp2_with fail
          refine HK.out.mono ?_
          rintro e w2 ⟨rfl, hs, hc⟩
          have HB := Lib.hid (HBL.out w2 hs)
          have HC2 := Lib.hid (HC1.out.trans hc)
          clear hs hc
          go_wp2_with fail
          refine HB.out.mono ?_
          rintro e w3 ⟨v, rfl, hv, hs, hc⟩
          have HF := Lib.hid (HTH.out w3 hs)
          have HC3 := Lib.hid (HC2.out.trans hc)
          unfold VBl at hv
          subst hv
          clear hs hc
          go_wp2_with fail
          refine HF.out.mono ?_
          rintro e w4 ⟨v4, rfl, hv4, hs, hc⟩
          have HE := Lib.hid (show SC w4 pb xs (a + (n + k + i + 2)) f from HAD.out ▸ hs)
          have HC4 := Lib.hid (HC3.out.trans hc)
          clear hs hc hv4
          go_wp2_with fail
          go_end0
          exact ⟨_, rfl, rfl, HE.out, HC4.out⟩
end Go.Proofs.YtpcajjbdlfookaaGreatDoor

/- xmllex: the scanner: skip, resolved, value. -/
namespace Go.Proofs.YtpcajjbdlfookaaGreatDoor
open Go.RowKit
set_option linter.unusedVariables false

def SkAft (w : World) (pb : Nat) (xs : List UInt8) (R : Nat × Bool) (e : Ending) (w' : World) : Prop := match R with
  | (k, true) => e = .returned (.tuple #[]) ∧ SC w' pb xs k k ∧ Chg [pb] w w'
  | (k, false) => Boom k 11 e ∧ Chg [pb] w w'
def SkI (w : World) (pb : Nat) (xs : List UInt8) (R : Nat × Bool) (wr : World) : Prop := ∃ k g f, SC wr pb xs k f ∧ Chg [pb] w wr ∧ xs.length - k < g ∧ skpF insP g (xs.drop k) k = R
theorem skp_end {g k : Nat} {r : List UInt8} {ins : List UInt8 → Option Nat} (h1 : Lib.hasPrefix r [60, 33, 45, 45] = false) (h2 : Lib.hasPrefix r [60, 63] = false) : skpF ins g r k = (k, true) := by
  cases g with
  | zero => rfl
  | succ g => rw [skpF, h1, h2]; rfl
theorem skp_com {g k : Nat} {r : List UInt8} {ins : List UInt8 → Option Nat} (h1 : Lib.hasPrefix r [60, 33, 45, 45] = true) : skpF ins (g + 1) r k = match comP (r.drop 4) with
    | none => (k, false)
    | some n => skpF ins g (r.drop (4 + n)) (k + 4 + n) := by rw [skpF, if_pos h1]; rfl
theorem skp_ins {g k : Nat} {r : List UInt8} {ins : List UInt8 → Option Nat} (h1 : Lib.hasPrefix r [60, 33, 45, 45] = false) (h2 : Lib.hasPrefix r [60, 63] = true) : skpF ins (g + 1) r k = match ins (r.drop 2) with
    | none => (k, false)
    | some n => skpF ins g (r.drop (2 + n)) (k + 2 + n) := by rw [skpF, h1, if_neg (by simp), if_pos h2]; rfl

set_option maxRecDepth 100000 in
set_option maxHeartbeats 2000000 in
theorem skip_c {w : World} {pb : Nat} {xs : List UInt8} {a f : Nat} (h : SC w pb xs a f) : Calls Tryz.prog 83 #[.pointer (some ⟨pb, 0, none⟩)] w
    (SkAft w pb xs (skpF insP (xs.length + 1) (xs.drop a) a)) := by
  obtain ⟨R, hR⟩ : ∃ R, R = skpF insP (xs.length + 1) (xs.drop a) a := ⟨_, rfl⟩
  have HI := Lib.hid (show SkI w pb xs R w from ⟨a, xs.length + 1, f, h, Chg.refl _ _, by omega, hR.symm⟩)
  rw [← hR]
  clear h hR
  go_enter Tryz.func83, Tryz.ntmps83
  go_wp2_with fail
  go_loopw [] (fun wr => SkI w pb xs R wr) (fun wr => xs.length - atOf wr pb)
  case atStart => exact HI.out
  case round =>
    obtain ⟨k, g, f', hs, hc, hg, hsk⟩ := hrel
    have HAT := Lib.hid hs.atOf
    obtain ⟨p, c, hbox, _⟩ := hs.box
    obtain ⟨d0, d1, d2, dz⟩ := cells3 hbox
    obtain ⟨hm1, hm2⟩ := hs.mark
    have hle := hs.le
    have HM := Lib.hid hm1
    have HC := Lib.hid (hc.trans hm2)
    obtain ⟨g, rfl⟩ : ∃ q, g = q + 1 := ⟨g - 1, by omega⟩
    cases h1 : Lib.hasPrefix (xs.drop k) [60, 33, 45, 45] with
    | true =>
      rw [skp_com h1] at hsk
      have HTK := Lib.hid (take_c hm1 ⟨#[60, 33, 45, 45]⟩ (by decide) true h1)
      have hd4 : (xs.drop k).drop 4 = xs.drop (k + 4) := by rw [List.drop_drop]
      rw [hd4] at hsk
      have e45 : (⟨#[45, 45]⟩ : ByteArray).data.toList = [45, 45] := rfl
      have e62 : (⟨#[62]⟩ : ByteArray).data.toList = [62] := rfl
      have HTH := Lib.hid (fun (wx : World) (hs : SC wx pb xs (k + 4) k) => through_c hs ⟨#[45, 45]⟩ (by decide))
      rw [e45] at HTH
      by_cases hi : Lib.index (xs.drop (k + 4)) [45, 45] < 0
      · rw [show comP (xs.drop (k + 4)) = none from by unfold comP; rw [if_pos hi]] at hsk
        have HS := Lib.hid (show (k, false) = R from hsk)
        rw [show thr (xs.drop (k + 4)) [45, 45] = .error 11 from by unfold thr; rw [if_pos hi]] at HTH
        clear hs hc hg hsk hbox hm1 hm2 h1 hd4 e45 e62 hi d0
        go_wp2_with fail
        refine HTK.out.mono ?_
        rintro e w1 ⟨rfl, hs, hc⟩
        have HT2 := Lib.hid (HTH.out w1 hs)
        have HC1 := Lib.hid (HC.out.trans hc)
        clear hs hc
        go_wp2_with (go_at_call 106; refine (HT2.out).mono ?_; rintro e w2 ⟨he, hc⟩; unfold Boom at he; subst he; have HC2 := Lib.hid (HC1.out.trans hc); clear hc)
        rw [← HS.out]
        exact ⟨rfl, rfl, HC2.out⟩
      · obtain ⟨i, hi'⟩ : ∃ i : Nat, Lib.index (xs.drop (k + 4)) [45, 45] = i := ⟨(Lib.index (xs.drop (k + 4)) [45, 45]).toNat, by omega⟩
        rw [show thr (xs.drop (k + 4)) [45, 45] = .ok ((xs.drop (k + 4)).take i, i + 2) from by unfold thr; rw [if_neg hi, hi']; rfl] at HTH
        have hdd : (xs.drop (k + 4)).drop (i + 2) = xs.drop (k + 4 + (i + 2)) := by rw [List.drop_drop]
        have HND := Lib.hid (fun (wx : World) (hs : SC wx pb xs (k + 4 + (i + 2)) k) => need_c hs ⟨#[62]⟩ (by decide))
        rw [e62] at HND
        cases hp : Lib.hasPrefix (xs.drop (k + 4 + (i + 2))) [62] with
        | false =>
          rw [show comP (xs.drop (k + 4)) = none from by unfold comP; rw [if_neg hi, hi', Int.toNat_natCast, hdd, hp]; rfl] at hsk
          have HS := Lib.hid (show (k, false) = R from hsk)
          rw [hp, if_neg (by simp)] at HND
          clear hs hc hg hsk hbox hm1 hm2 h1 hd4 e45 e62 hi hi' hdd hp d0
          go_wp2_with fail
          refine HTK.out.mono ?_
          rintro e w1 ⟨rfl, hs, hc⟩
          have HT2 := Lib.hid (HTH.out w1 hs)
          have HC1 := Lib.hid (HC.out.trans hc)
          clear hs hc
          go_wp2_with fail
          refine HT2.out.mono ?_
          rintro e w2 ⟨v, rfl, hv, hs, hc⟩
          have HN2 := Lib.hid (HND.out w2 hs)
          have HC2 := Lib.hid (HC1.out.trans hc)
          clear hs hc hv
          go_wp2_with (go_at_call 107; refine (HN2.out).mono ?_; rintro e w3 ⟨he, hc⟩; unfold Boom at he; subst he; have HC3 := Lib.hid (HC2.out.trans hc); clear hc)
          rw [← HS.out]
          exact ⟨rfl, rfl, HC3.out⟩
        | true =>
          rw [show comP (xs.drop (k + 4)) = some (i + 3) from by unfold comP; rw [if_neg hi, hi', Int.toNat_natCast, hdd, hp]; rfl] at hsk
          rw [hp, if_pos rfl] at HND
          have HNX := Lib.hid (fun (wx : World) (hs : SC wx pb xs (k + 4 + (i + 2) + 1) k) (hc : Chg [pb] w wx) => show SkI w pb xs R wx from ⟨k + 4 + (i + 3), g, k, (show k + 4 + (i + 2) + 1 = k + 4 + (i + 3) by omega) ▸ hs, hc, by have := hs.le.1; omega, by rw [← hsk]; dsimp only; rw [List.drop_drop, show k + (4 + (i + 3)) = k + 4 + (i + 3) by omega]⟩)
          clear hs hc hg hsk hbox hm1 hm2 h1 hd4 e45 e62 hi hi' hdd hp d0
          go_wp2_with fail
          refine HTK.out.mono ?_
          rintro e w1 ⟨rfl, hs, hc⟩
          have HT2 := Lib.hid (HTH.out w1 hs)
          have HC1 := Lib.hid (HC.out.trans hc)
          clear hs hc
          go_wp2_with fail
          refine HT2.out.mono ?_
          rintro e w2 ⟨v, rfl, hv, hs, hc⟩
          have HN2 := Lib.hid (HND.out w2 hs)
          have HC2 := Lib.hid (HC1.out.trans hc)
          clear hs hc hv
          go_wp2_with fail
          refine HN2.out.mono ?_
          rintro e w3 ⟨v3, rfl, hv, hs, hc⟩
          have HX := Lib.hid (HNX.out w3 hs (HC2.out.trans hc))
          have HA3 := Lib.hid hs.atOf
          have HL3 := Lib.hid hs.le
          subst hv
          clear hs hc
          go_wp2_with fail
          go_roundw
          case rel => exact HX.out
          case measure => rw [HA3.out, HAT.out]; have := HL3.out; show xs.length - (k + 4 + (i + 2) + 1) < _; have h9 : k + 4 + (i + 2) + 1 ≤ xs.length := HL3.out.1; omega
    | false =>
      have HTK := Lib.hid (take_c hm1 ⟨#[60, 33, 45, 45]⟩ (by decide) false h1)
      cases h2 : Lib.hasPrefix (xs.drop k) [60, 63] with
      | false =>
        rw [skp_end h1 h2] at hsk
        have HTJ := Lib.hid (fun (wx : World) (hs : SC wx pb xs k k) => take_c hs ⟨#[60, 63]⟩ (by decide) false h2)
        have HS := Lib.hid hsk
        clear hs hc hg hsk hbox hm1 hm2 h1 h2 d0
        go_wp2_with fail
        refine HTK.out.mono ?_
        rintro e w1 ⟨rfl, hs, hc⟩
        have HT2 := Lib.hid (HTJ.out w1 hs)
        have HC1 := Lib.hid (HC.out.trans hc)
        clear hs hc
        go_wp2_with fail
        refine HT2.out.mono ?_
        rintro e w2 ⟨rfl, hs, hc⟩
        have HF := Lib.hid (And.intro hs (HC1.out.trans hc))
        clear hs hc
        go_wp2_with fail
        go_end0
        rw [← HS.out]
        exact ⟨rfl, HF.out.1, HF.out.2⟩
      | true =>
        rw [skp_ins h1 h2] at hsk
        have HTJ := Lib.hid (fun (wx : World) (hs : SC wx pb xs k k) => take_c hs ⟨#[60, 63]⟩ (by decide) true h2)
        have hd2 : (xs.drop k).drop 2 = xs.drop (k + 2) := by rw [List.drop_drop]
        rw [hd2] at hsk
        have HIN := Lib.hid (fun (wx : World) (hs : SC wx pb xs (k + 2) k) => instruction_c hs)
        cases hin : insP (xs.drop (k + 2)) with
        | none =>
          rw [hin] at hsk
          rw [show inP (xs.drop (k + 2)) = .error 11 from by unfold inP; rw [hin]] at HIN
          have HS := Lib.hid (show (k, false) = R from hsk)
          clear hs hc hg hsk hbox hm1 hm2 h1 h2 hd2 hin d0
          go_wp2_with fail
          refine HTK.out.mono ?_
          rintro e w1 ⟨rfl, hs, hc⟩
          have HT2 := Lib.hid (HTJ.out w1 hs)
          have HC1 := Lib.hid (HC.out.trans hc)
          clear hs hc
          go_wp2_with fail
          refine HT2.out.mono ?_
          rintro e w2 ⟨rfl, hs, hc⟩
          have HI2 := Lib.hid (HIN.out w2 hs)
          have HC2 := Lib.hid (HC1.out.trans hc)
          clear hs hc
          go_wp2_with (go_at_call 108; refine (HI2.out).mono ?_; rintro e w3 ⟨he, hc⟩; unfold Boom at he; subst he; have HC3 := Lib.hid (HC2.out.trans hc); clear hc)
          rw [← HS.out]
          exact ⟨rfl, rfl, HC3.out⟩
        | some n =>
          rw [hin] at hsk
          rw [show inP (xs.drop (k + 2)) = .ok ((), n) from by unfold inP; rw [hin]] at HIN
          have HNX := Lib.hid (fun (wx : World) (hs : SC wx pb xs (k + 2 + n) k) (hc : Chg [pb] w wx) => show SkI w pb xs R wx from ⟨k + 2 + n, g, k, hs, hc, by have := hs.le.1; omega, by rw [← hsk]; dsimp only; rw [List.drop_drop, Nat.add_assoc]⟩)
          clear hs hc hg hsk hbox hm1 hm2 h1 h2 hd2 hin d0
          go_wp2_with fail
          refine HTK.out.mono ?_
          rintro e w1 ⟨rfl, hs, hc⟩
          have HT2 := Lib.hid (HTJ.out w1 hs)
          have HC1 := Lib.hid (HC.out.trans hc)
          clear hs hc
          go_wp2_with fail
          refine HT2.out.mono ?_
          rintro e w2 ⟨rfl, hs, hc⟩
          have HI2 := Lib.hid (HIN.out w2 hs)
          have HC2 := Lib.hid (HC1.out.trans hc)
          clear hs hc
          go_wp2_with fail
          refine HI2.out.mono ?_
          rintro e w3 ⟨v3, rfl, hv, hs, hc⟩
          have HX := Lib.hid (HNX.out w3 hs (HC2.out.trans hc))
          have HA3 := Lib.hid hs.atOf
          have HL3 := Lib.hid hs.le
          subst hv
          clear hs hc
          go_wp2_with fail
          go_roundw
          case rel => exact HX.out
          case measure => rw [HA3.out, HAT.out]; have := HL3.out.1; omega

/-- A text with its references resolved, or the error raised. -/
def rsv (l : List UInt8) : Except Nat (List UInt8 × Nat) := match rsT false l with
  | .error _ => .error 13
  | .ok s => .ok (s, 0)
set_option maxRecDepth 100000 in
theorem resolved_c {w : World} {pb : Nat} {xs : List UInt8} {a f : Nat} (h : SC w pb xs a f) (src : Value) (l : List UInt8) (hr : Rd w src l) (hl : l.length ≤ 1048576) : Calls Tryz.prog 129 #[.pointer (some ⟨pb, 0, none⟩), src] w
    (Aft w pb xs a f VS (rsv l)) := by
  have HU := unescape_c w h.bw src l hr (by omega)
  have HS := Lib.hid h
  clear h hr hl
  cases hu : rsT false l with
  | error q =>
    have HT := Lib.hid (show rsv l = .error 13 from by unfold rsv; rw [hu])
    rw [hu] at HU
    have HU2 : Hid (Calls Tryz.prog 138 #[src] w fun e w' => e = .returned (.tuple #[.string ⟨#[]⟩, .int .i64 (q : Nat), .int .i64 13]) ∧ Below w.heap.size w w') := HU
    rw [HT.out]
    clear HU hu
    go_enter Tryz.func129, Tryz.ntmps129
    go_wp2_with fail
    refine HU2.out.mono ?_
    rintro e w1 ⟨rfl, hb⟩
    have HF := Lib.hid (fail_c (HS.out.below hb) 13)
    have HC := Lib.hid (Chg.of_below (S := [pb]) hb)
    clear hb
    go_wp2_with (go_at_call 110; refine (HF.out).mono ?_; rintro e w2 ⟨he, rfl⟩; unfold Boom at he; subst he)
    exact ⟨rfl, rfl, HC.out⟩
  | ok s =>
    have HT := Lib.hid (show rsv l = .ok (s, 0) from by unfold rsv; rw [hu])
    rw [hu] at HU
    obtain ⟨S, hS⟩ : ∃ S, S = (⟨s.toArray⟩ : ByteArray) := ⟨_, rfl⟩
    have HU2 : Hid (Calls Tryz.prog 138 #[src] w fun e w' => e = .returned (.tuple #[.string S, .int .i64 0, .int .i64 0]) ∧ Below w.heap.size w w') := hS ▸ HU
    have HSS := Lib.hid hS
    rw [HT.out]
    clear HU hu hS
    go_enter Tryz.func129, Tryz.ntmps129
    go_wp2_with fail
    refine HU2.out.mono ?_
    rintro e w1 ⟨rfl, hb⟩
    have HF := Lib.hid (And.intro (HS.out.below hb) (Chg.of_below (S := [pb]) hb))
    clear hb
    go_wp2_with fail
    go_ret
    exact ⟨_, rfl, by rw [VS, ← HSS.out]; rfl, HF.out.1, HF.out.2⟩
end Go.Proofs.YtpcajjbdlfookaaGreatDoor
