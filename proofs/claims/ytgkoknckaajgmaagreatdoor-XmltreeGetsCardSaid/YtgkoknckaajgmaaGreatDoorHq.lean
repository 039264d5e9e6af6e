/- xmllex: the scanner: tagName, instruction, skip. -/
import Derived.Test.YtgkoknckaajgmaaGreatDoorHp
namespace Go.Proofs.YtgkoknckaajgmaaGreatDoor
open Go.RowKit
set_option linter.unusedVariables false

set_option maxRecDepth 100000 in
set_option maxHeartbeats 1000000 in
/-- The end of tagName: the text from a to a + n. -/
theorem tagName_c {w : World} {pb : Nat} {xs : List UInt8} {a f : Nat} (h : SC w pb xs a f) : Calls Tryz.prog 136 #[.pointer (some ⟨pb, 0, none⟩)] w
    (Aft w pb xs a f VS (tgP (xs.drop a))) := by
  have HN := Lib.hid (sname_c h)
  have hle := h.le
  obtain ⟨p0, cc0, hb0, _⟩ := h.box
  obtain ⟨c0, c1, c2, _⟩ := cells3 hb0
  have hnl := nameAt_le (xs.drop a)
  have hdl : (xs.drop a).length = xs.length - a := List.length_drop ..
  clear h hb0 c0 c2
  by_cases h0 : nameAt (xs.drop a) = 0
  · have HT := Lib.hid (show tgP (xs.drop a) = .error 11 from by unfold tgP tagP; rw [if_pos h0])
    rw [if_pos h0] at HN
    rw [HT.out]
    clear h0 hnl hdl
    go_enter Tryz.func136, Tryz.ntmps136
    go_wp2_with (go_at_call 133; refine (HN.out).mono ?_; rintro e w1 ⟨he, hc⟩; unfold Boom at he; subst he; have HC := Lib.hid hc; clear hc)
    exact ⟨rfl, rfl, HC.out⟩
  · rw [if_neg h0] at HN
    obtain ⟨n, hn⟩ : ∃ n, n = nameAt (xs.drop a) := ⟨_, rfl⟩
    have hdd : (xs.drop a).drop n = xs.drop (a + n) := by rw [List.drop_drop]
    rw [← hn] at HN h0 hnl
    cases hp : Lib.hasPrefix (xs.drop (a + n)) [58] with
    | false =>
      have HT := Lib.hid (show tgP (xs.drop a) = .ok ((xs.drop a).take n, n) from by unfold tgP tagP; rw [← hn, if_neg h0, hdd, hp]; rfl)
      rw [HT.out]
      have HTK := Lib.hid (fun (wx : World) (hs : SC wx pb xs (a + n) f) => take_c hs ⟨#[58]⟩ (by decide) false hp)
      clear h0 hn hdd hp
      go_enter Tryz.func136, Tryz.ntmps136
      go_wp2_with fail
      refine HN.out.mono ?_
      rintro e w1 ⟨v, rfl, hv, hs, hc⟩
      have HK := Lib.hid (HTK.out w1 hs)
      have HC1 := Lib.hid hc
      subst hv
      clear hs hc
      go_wp2_with fail
      refine HK.out.mono ?_
      rintro e w2 ⟨rfl, hs, hc⟩
      have HS2 := Lib.hid (show SC w2 pb xs (a + n) f from hs)
      have HC2 := Lib.hid (HC1.out.trans hc)
      obtain ⟨p, c, hbox, hrd, _⟩ := HS2.out.box
      obtain ⟨d0, d1, d2, dz⟩ := cells3 hbox
      obtain ⟨p', m', c', hsl, hr'⟩ := slice_mid hrd a (a + n) (by omega) (by omega)
      rw [show a + n - a = n by omega] at hr'
      rw [show ((a + n : Nat) : Int) = (a : Int) + (n : Int) by omega] at d1 hsl
      have hcv := fun q => (hr'.below (below_drewN (Below.refl _ _) q)).conv (P := Tryz.prog) 22 5 9 Tryz.underlying22 Tryz.underlying5 Tryz.underlying9
      have hcv0 := hr'.conv (P := Tryz.prog) 22 5 9 Tryz.underlying22 Tryz.underlying5 Tryz.underlying9
      obtain ⟨L, hL⟩ : ∃ L, L = xs.length := ⟨_, rfl⟩
      rw [← hL] at d0 hsl
      obtain ⟨S, hS⟩ : ∃ S, S = (⟨((xs.drop a).take n).toArray⟩ : ByteArray) := ⟨_, rfl⟩
      rw [← hS] at hcv hcv0
      have HSS := Lib.hid hS
      clear hs hc hbox hrd hr' hL hS
      go_wp2_with fail
      go_quiet (fail)
      go_wp2
      go_ret
      exact ⟨_, rfl, by rw [VS, ← HSS.out]; rfl, HS2.out.below (below_drewN (Below.refl _ _) _), HC2.out.trans (Chg.of_below (below_drewN (Below.refl _ _) _))⟩
    | true =>
      have hpl := pre_len hp
      rw [List.length_singleton, List.length_drop] at hpl
      have HTK := Lib.hid (fun (wx : World) (hs : SC wx pb xs (a + n) f) => take_c hs ⟨#[58]⟩ (by decide) true hp)
      have hd1 : (xs.drop a).drop (n + 1) = xs.drop (a + n + 1) := by rw [List.drop_drop, Nat.add_assoc]
      have hnl2 := nameAt_le (xs.drop (a + n + 1))
      rw [List.length_drop] at hnl2
      by_cases h1 : nameAt (xs.drop (a + n + 1)) = 0
      · have HT := Lib.hid (show tgP (xs.drop a) = .error 11 from by unfold tgP tagP; rw [← hn, if_neg h0, hdd, hp, if_pos rfl, hd1, if_pos h1])
        rw [HT.out]
        have HN2 := Lib.hid (fun (wx : World) (hs : SC wx pb xs (a + n + 1) f) => sname_c hs)
        rw [if_pos h1] at HN2
        clear h0 hn hdd hp h1 hd1
        go_enter Tryz.func136, Tryz.ntmps136
        go_wp2_with fail
        refine HN.out.mono ?_
        rintro e w1 ⟨v, rfl, hv, hs, hc⟩
        have HK := Lib.hid (HTK.out w1 hs)
        have HC1 := Lib.hid hc
        subst hv
        clear hs hc
        go_wp2_with fail
        refine HK.out.mono ?_
        rintro e w2 ⟨rfl, hs, hc⟩
        have HM := Lib.hid (HN2.out w2 hs)
        have HC2 := Lib.hid (HC1.out.trans hc)
        clear hs hc
        go_wp2_with (go_at_call 133; refine (HM.out).mono ?_; rintro e w3 ⟨he, hc⟩; unfold Boom at he; subst he; have HC3 := Lib.hid (HC2.out.trans hc); clear hc)
        exact ⟨rfl, rfl, HC3.out⟩
      · obtain ⟨n2, hn2⟩ : ∃ n2, n2 = nameAt (xs.drop (a + n + 1)) := ⟨_, rfl⟩
        have HT := Lib.hid (show tgP (xs.drop a) = .ok ((xs.drop a).take (n + 1 + n2), n + 1 + n2) from by unfold tgP tagP; rw [← hn, if_neg h0, hdd, hp, if_pos rfl, hd1, if_neg h1, ← hn2])
        rw [HT.out]
        have HN2 := Lib.hid (fun (wx : World) (hs : SC wx pb xs (a + n + 1) f) => sname_c hs)
        rw [if_neg h1, ← hn2] at HN2
        rw [← hn2] at hnl2
        obtain ⟨M, hM⟩ : ∃ M, M = n + 1 + n2 := ⟨_, rfl⟩
        rw [← hM]
        have HMM := Lib.hid (show a + n + 1 + n2 = a + M by omega)
        have hMl : a + M ≤ xs.length := by omega
        clear h0 hn hdd hp h1 hd1 hn2 hM
        go_enter Tryz.func136, Tryz.ntmps136
        go_wp2_with fail
        refine HN.out.mono ?_
        rintro e w1 ⟨v, rfl, hv, hs, hc⟩
        have HK := Lib.hid (HTK.out w1 hs)
        have HC0 := Lib.hid hc
        subst hv
        clear hs hc
        go_wp2_with fail
        refine HK.out.mono ?_
        rintro e w3 ⟨rfl, hs, hc⟩
        have HM := Lib.hid (HN2.out w3 hs)
        have HC1 := Lib.hid (HC0.out.trans hc)
        clear hs hc
        go_wp2_with fail
        refine HM.out.mono ?_
        rintro e w2 ⟨v, rfl, hv, hs, hc⟩
        rw [HMM.out] at hs
        subst hv
        have HS2 := Lib.hid (show SC w2 pb xs (a + M) f from hs)
        have HC2 := Lib.hid (HC1.out.trans hc)
        obtain ⟨p, c, hbox, hrd, _⟩ := HS2.out.box
        obtain ⟨d0, d1, d2, dz⟩ := cells3 hbox
        obtain ⟨p', m', c', hsl, hr'⟩ := slice_mid hrd a (a + M) (by omega) (by omega)
        rw [show a + M - a = M by omega] at hr'
        rw [show ((a + M : Nat) : Int) = (a : Int) + (M : Int) by omega] at d1 hsl
        have hcv := fun q => (hr'.below (below_drewN (Below.refl _ _) q)).conv (P := Tryz.prog) 22 5 9 Tryz.underlying22 Tryz.underlying5 Tryz.underlying9
        have hcv0 := hr'.conv (P := Tryz.prog) 22 5 9 Tryz.underlying22 Tryz.underlying5 Tryz.underlying9
        obtain ⟨L, hL⟩ : ∃ L, L = xs.length := ⟨_, rfl⟩
        rw [← hL] at d0 hsl
        obtain ⟨S, hS⟩ : ∃ S, S = (⟨((xs.drop a).take M).toArray⟩ : ByteArray) := ⟨_, rfl⟩
        rw [← hS] at hcv hcv0
        have HSS := Lib.hid hS
        clear hs hc hbox hrd hr' hL hS
        go_wp2_with fail
        go_quiet (fail)
        go_wp2
        go_ret
        exact ⟨_, rfl, by rw [VS, ← HSS.out]; rfl, HS2.out.below (below_drewN (Below.refl _ _) _), HC2.out.trans (Chg.of_below (below_drewN (Below.refl _ _) _))⟩

/-- An instruction behind its mark. -/
def inP (r : List UInt8) : Except Nat (Unit × Nat) := match insP r with
  | none => .error 11
  | some n => .ok ((), n)
set_option maxRecDepth 100000 in
set_option maxHeartbeats 1000000 in
theorem instruction_c {w : World} {pb : Nat} {xs : List UInt8} {a f : Nat} (h : SC w pb xs a f) : Calls Tryz.prog 118 #[.pointer (some ⟨pb, 0, none⟩)] w
    (Aft w pb xs a f VU (inP (xs.drop a))) := by
  have HN := Lib.hid (sname_c h)
  have hle := h.le
  clear h
  by_cases h0 : nameAt (xs.drop a) = 0
  · have HT := Lib.hid (show inP (xs.drop a) = .error 11 from by unfold inP insP; rw [if_pos h0])
    rw [if_pos h0] at HN
    rw [HT.out]
    clear h0
    go_enter Tryz.func118, Tryz.ntmps118
    go_wp2_with (go_at_call 133; refine (HN.out).mono ?_; rintro e w1 ⟨he, hc⟩; unfold Boom at he; subst he; have HC := Lib.hid hc; clear hc)
    exact ⟨rfl, rfl, HC.out⟩
  · rw [if_neg h0] at HN
    obtain ⟨n, hn⟩ : ∃ n, n = nameAt (xs.drop a) := ⟨_, rfl⟩
    have hdd : (xs.drop a).drop n = xs.drop (a + n) := by rw [List.drop_drop]
    rw [← hn] at HN h0
    cases hp : Lib.hasPrefix (xs.drop (a + n)) [63, 62] with
    | true =>
      have HT := Lib.hid (show inP (xs.drop a) = .ok ((), n + 2) from by unfold inP insP; rw [← hn, if_neg h0, hdd, hp]; rfl)
      rw [HT.out]
      have HTK := Lib.hid (fun (wx : World) (hs : SC wx pb xs (a + n) f) => take_c hs ⟨#[63, 62]⟩ (by decide) true hp)
      clear h0 hn hdd hp
      go_enter Tryz.func118, Tryz.ntmps118
      go_wp2_with fail
      refine HN.out.mono ?_
      rintro e w1 ⟨v, rfl, hv, hs, hc⟩
      have HK := Lib.hid (HTK.out w1 hs)
      have HC1 := Lib.hid hc
      subst hv
      clear hs hc
      go_wp2_with fail
      refine HK.out.mono ?_
      rintro e w2 ⟨rfl, hs, hc⟩
      have HF := Lib.hid (And.intro hs (HC1.out.trans hc))
      clear hs hc
      go_wp2_with fail
      go_end0
      exact ⟨_, rfl, rfl, HF.out.1, HF.out.2⟩
    | false =>
      have HTK := Lib.hid (fun (wx : World) (hs : SC wx pb xs (a + n) f) => take_c hs ⟨#[63, 62]⟩ (by decide) false hp)
      have HBL := Lib.hid (fun (wx : World) (hs : SC wx pb xs (a + n) f) => blanks_c hs)
      obtain ⟨k, hk⟩ : ∃ k, k = blN (xs.drop (a + n)) := ⟨_, rfl⟩
      rw [← hk] at HBL
      by_cases hk0 : k = 0
      · have HT := Lib.hid (show inP (xs.drop a) = .error 11 from by unfold inP insP; rw [← hn, if_neg h0, hdd, hp, if_neg (by simp), ← hk, if_pos hk0])
        rw [HT.out]
        rw [show decide (0 < k) = false from by simp; omega] at HBL
        clear h0 hn hdd hp hk hk0
        go_enter Tryz.func118, Tryz.ntmps118
        go_wp2_with fail
        refine HN.out.mono ?_
        rintro e w1 ⟨v, rfl, hv, hs, hc⟩
        have HK := Lib.hid (HTK.out w1 hs)
        have HC1 := Lib.hid hc
        subst hv
        clear hs hc
        go_wp2_with fail
        refine HK.out.mono ?_
        rintro e w2 ⟨rfl, hs, hc⟩
        have HB := Lib.hid (HBL.out w2 hs)
        have HC2 := Lib.hid (HC1.out.trans hc)
        clear hs hc
        go_wp2_with fail
        refine HB.out.mono ?_
        rintro e w3 ⟨v, rfl, hv, hs, hc⟩
        have HF := Lib.hid (fail_c hs 11)
        have HC3 := Lib.hid (HC2.out.trans hc)
        unfold VBl at hv
        subst hv
        clear hs hc
        go_wp2_with (go_at_call 120; refine (HF.out).mono ?_; rintro e w4 ⟨he, rfl⟩; unfold Boom at he; subst he)
        exact ⟨rfl, rfl, HC3.out⟩
      · have hd2 : (xs.drop a).drop (n + k) = xs.drop (a + n + k) := by rw [List.drop_drop, Nat.add_assoc]
        have HTH := Lib.hid (fun (wx : World) (hs : SC wx pb xs (a + n + k) f) => through_c hs ⟨#[63, 62]⟩ (by decide))
        have e62 : (⟨#[63, 62]⟩ : ByteArray).data.toList = [63, 62] := rfl
        rw [e62] at HTH
        rw [show decide (0 < k) = true from by simp; omega] at HBL
        by_cases hi : Lib.index (xs.drop (a + n + k)) [63, 62] < 0
        · have HT := Lib.hid (show inP (xs.drop a) = .error 11 from by unfold inP insP; rw [← hn, if_neg h0, hdd, hp, if_neg (by simp), ← hk, if_neg hk0, hd2, if_pos hi])
          rw [HT.out]
          rw [show thr (xs.drop (a + n + k)) [63, 62] = .error 11 from by unfold thr; rw [if_pos hi]] at HTH
          clear h0 hn hdd hp hk hk0 hd2 hi e62
          go_enter Tryz.func118, Tryz.ntmps118
          go_wp2_with fail
          refine HN.out.mono ?_
          rintro e w1 ⟨v, rfl, hv, hs, hc⟩
          have HK := Lib.hid (HTK.out w1 hs)
          have HC1 := Lib.hid hc
          subst hv
          clear hs hc
          go_wp2_with fail
          refine HK.out.mono ?_
          rintro e w2 ⟨rfl, hs, hc⟩
          have HB := Lib.hid (HBL.out w2 hs)
          have HC2 := Lib.hid (HC1.out.trans hc)
          clear hs hc
          go_wp2_with fail
          refine HB.out.mono ?_
          rintro e w3 ⟨v, rfl, hv, hs, hc⟩
          have HF := Lib.hid (HTH.out w3 hs)
          have HC3 := Lib.hid (HC2.out.trans hc)
          unfold VBl at hv
          subst hv
          clear hs hc
          go_wp2_with (go_at_call 116; refine (HF.out).mono ?_; rintro e w4 ⟨he, hc⟩; unfold Boom at he; subst he; have HC4 := Lib.hid (HC3.out.trans hc); clear hc)
          exact ⟨rfl, rfl, HC4.out⟩
        · obtain ⟨i, hi'⟩ : ∃ i : Nat, Lib.index (xs.drop (a + n + k)) [63, 62] = i := ⟨(Lib.index (xs.drop (a + n + k)) [63, 62]).toNat, by omega⟩
          have HT := Lib.hid (show inP (xs.drop a) = .ok ((), n + k + i + 2) from by unfold inP insP; rw [← hn, if_neg h0, hdd, hp, if_neg (by simp), ← hk, if_neg hk0, hd2, if_neg hi, hi']; rfl)
          rw [HT.out]
          rw [show thr (xs.drop (a + n + k)) [63, 62] = .ok ((xs.drop (a + n + k)).take i, i + 2) from by unfold thr; rw [if_neg hi, hi']; rfl] at HTH
          have HAD := Lib.hid (show a + n + k + (i + 2) = a + (n + k + i + 2) by omega)
          clear h0 hn hdd hp hk hk0 hd2 hi e62 hi'
          go_enter Tryz.func118, Tryz.ntmps118
          go_wp2_with fail
          refine HN.out.mono ?_
          rintro e w1 ⟨v, rfl, hv, hs, hc⟩
          have HK := Lib.hid (HTK.out w1 hs)
          have HC1 := Lib.hid hc
          subst hv
          clear hs hc
          go_wp2_with fail
          refine HK.out.mono ?_
          rintro e w2 ⟨rfl, hs, hc⟩
          have HB := Lib.hid (HBL.out w2 hs)
          have HC2 := Lib.hid (HC1.out.trans hc)
          clear hs hc
          go_wp2_with fail
          refine HB.out.mono ?_
          rintro e w3 ⟨v, rfl, hv, hs, hc⟩
          have HF := Lib.hid (HTH.out w3 hs)
          have HC3 := Lib.hid (HC2.out.trans hc)
          unfold VBl at hv
          subst hv
          clear hs hc
          go_wp2_with fail
          refine HF.out.mono ?_
          rintro e w4 ⟨v4, rfl, hv4, hs, hc⟩
          have HE := Lib.hid (show SC w4 pb xs (a + (n + k + i + 2)) f from HAD.out ▸ hs)
          have HC4 := Lib.hid (HC3.out.trans hc)
          clear hs hc hv4
          go_wp2_with fail
          go_end0
          exact ⟨_, rfl, rfl, HE.out, HC4.out⟩
end Go.Proofs.YtgkoknckaajgmaaGreatDoor
