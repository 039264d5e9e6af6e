/- xmllex: the reference: Skip. -/
import Derived.Test.YtpcajjbdlfookaaGreatDoorMw39
import Derived.Test.YtpcajjbdlfookaaGreatDoorMw24
namespace Go.Proofs.YtpcajjbdlfookaaGreatDoor
open Go.RowKit
set_option linter.unusedVariables false

theorem pre_cons {q : UInt8} {r m : List UInt8} : Lib.hasPrefix (q :: r) (q :: m) = Lib.hasPrefix r m := by
  unfold Lib.hasPrefix
  simp [List.isPrefixOf]
/-- Behind the first -- stands a > or not. -/
theorem com_mark {t : List UInt8} {n : Nat} (h : Lib.index t [45, 45] = n) : Lib.hasPrefix (t.drop n) [45, 45, 62] = Lib.hasPrefix (t.drop (n + 2)) [62] := by
  have hp : Lib.hasPrefix (t.drop n) [45, 45] = true := by
    rcases Lib.index_spec t [45, 45] with h1 | ⟨i, h1, h2⟩
    · have := h1.1
      omega
    · obtain rfl : i = n := by omega
      exact h2.2.1
  obtain ⟨u, hu⟩ : ∃ u, t.drop n = 45 :: 45 :: u := by
    unfold Lib.hasPrefix at hp
    obtain ⟨u, hu⟩ := List.isPrefixOf_iff_prefix.1 hp
    exact ⟨u, by rw [← hu]; rfl⟩
  rw [← List.drop_drop, hu, pre_cons, pre_cons]
  rfl

theorem skp_go {g k n : Nat} {r : List UInt8} {ins : List UInt8 → Option Nat} (h1 : Lib.hasPrefix r [60, 33, 45, 45] = true) (h2 : comP (r.drop 4) = some n) : skpF ins (g + 1) r k = skpF ins g (r.drop (4 + n)) (k + 4 + n) := by rw [skp_com h1, h2]
theorem skp_no {g k : Nat} {r : List UInt8} {ins : List UInt8 → Option Nat} (h1 : Lib.hasPrefix r [60, 33, 45, 45] = true) (h2 : comP (r.drop 4) = none) : skpF ins (g + 1) r k = (k, false) := by rw [skp_com h1, h2]
theorem ski_go {g k n : Nat} {r : List UInt8} {ins : List UInt8 → Option Nat} (h0 : Lib.hasPrefix r [60, 33, 45, 45] = false) (h1 : Lib.hasPrefix r [60, 63] = true) (h2 : ins (r.drop 2) = some n) : skpF ins (g + 1) r k = skpF ins g (r.drop (2 + n)) (k + 2 + n) := by rw [skp_ins h0 h1, h2]
theorem ski_no {g k : Nat} {r : List UInt8} {ins : List UInt8 → Option Nat} (h0 : Lib.hasPrefix r [60, 33, 45, 45] = false) (h1 : Lib.hasPrefix r [60, 63] = true) (h2 : ins (r.drop 2) = none) : skpF ins (g + 1) r k = (k, false) := by rw [skp_ins h0 h1, h2]
def sEnd (R : Nat × Bool) : Nat × Nat := match R with
  | (k, false) => (k, 11)
  | (k, true) => (k, 0)
theorem skA_in {ins : List UInt8 → Option Nat} {xs : List UInt8} {a : Nat} (h : a ≤ xs.length) : skA ins xs (a : Int) = sEnd (skpF ins (xs.length + 1) (xs.drop a) a) := by
  unfold skA
  rw [if_neg (by omega)]
  rfl
def RskI (w : World) (xs : List UInt8) (R : Nat × Bool) (k : Nat) (wr : World) : Prop := ∃ g, xs.length - k < g ∧ skpF insR g (xs.drop k) k = R ∧ Below w.heap.size w wr
set_option maxRecDepth 100000 in
set_option maxHeartbeats 4000000 in
theorem rskip_c (w : World) (v : Value) (xs : List UInt8) (h : Rd w v xs) (hl : xs.length ≤ 16777216) (at_ : Int) : Calls Tryz.prog 36 #[v, .int .i64 at_] w (SkEnd w (skA insR xs at_)) := by
  obtain ⟨p, c, rfl⟩ := rd_form h
  obtain ⟨L, hL⟩ : ∃ L, L = xs.length := ⟨_, rfl⟩
  by_cases ho : at_ < 0 ∨ (xs.length : Int) < at_
  · rw [show skA insR xs at_ = (0, 1) from by unfold skA; rw [if_pos ho], ← hL]
    rw [← hL] at ho
    clear h hl hL
    by_cases h0 : at_ < 0
    · have t0 : decide (at_ < 0) = true := by simpa using h0
      clear ho
      go_enter Tryz.func36, Tryz.ntmps36
      go_wp2_with fail
      go_ret2
      exact ⟨rfl, Below.refl _ _⟩
    · have t0 : decide (at_ < 0) = false := by simpa using h0
      have t1 : decide ((L : Int) < at_) = true := by simp; omega
      clear ho
      go_enter Tryz.func36, Tryz.ntmps36
      go_wp2_with fail
      go_ret2
      exact ⟨rfl, Below.refl _ _⟩
  obtain ⟨a, rfl⟩ : ∃ a : Nat, at_ = (a : Int) := ⟨at_.toNat, by omega⟩
  rw [skA_in (by omega)]
  obtain ⟨R, hR⟩ : ∃ R, R = skpF insR (xs.length + 1) (xs.drop a) a := ⟨_, rfl⟩
  have HI := Lib.hid (show RskI w xs R a w from ⟨xs.length + 1, by omega, hR.symm, Below.refl _ _⟩)
  have haL : a ≤ L := by omega
  rw [← hR]
  rw [← hL] at h hl ⊢
  have HL := Lib.hid hL
  have HR := Lib.hid h
  have t0 : decide ((a : Int) < 0) = false := by simp
  have t1 : ¬ L < a := by omega
  have t2 : decide (L < a) = false := by simpa using t1
  clear h hL hR ho
  go_enter Tryz.func36, Tryz.ntmps36
  go_wp2_with fail
  go_loopw [1] (fun s1 wr => ∃ k : Nat, s1 = .int .i64 k ∧ k ≤ L ∧ RskI w xs R k wr) (fun s1 _ => L - (intOf s1).toNat)
  case atStart => exact ⟨a, rfl, haL, HI.out⟩
  case round =>
    obtain ⟨k, rfl, hk, g, hg, hsk, hb⟩ := hrel
    obtain ⟨g, rfl⟩ : ∃ q, g = q + 1 := ⟨g - 1, by omega⟩
    have HB := Lib.hid hb
    have HG := Lib.hid hg
    obtain ⟨p1, m1, c1, hs1, hr1⟩ := slice_from (HR.out.below hb) k hk
    have hm1 := hr1.len
    rw [List.length_drop, ← HL.out] at hm1
    have HBC := begins_c wr _ (xs.drop k) ⟨#[60, 33, 45, 45]⟩ hr1
    rw [show (⟨#[60, 33, 45, 45]⟩ : ByteArray).data.toList = [60, 33, 45, 45] from rfl] at HBC
    have HBI := begins_c wr _ (xs.drop k) ⟨#[60, 63]⟩ hr1
    rw [show (⟨#[60, 63]⟩ : ByteArray).data.toList = [60, 63] from rfl] at HBI
    cases h1 : Lib.hasPrefix (xs.drop k) [60, 33, 45, 45] with
    | true =>
      rw [h1] at HBC
      have HBC := Lib.hid HBC
      have hpl := pre_len h1
      rw [List.length_drop, ← HL.out] at hpl
      have hpl : k + 4 ≤ L := by simp at hpl; omega
      obtain ⟨p2, m2, c2, hs2, hr2⟩ := slice_from hr1 4 (by omega)
      rw [show ((4 : Nat) : Int) = 4 from rfl] at hs2
      rw [List.drop_drop] at hr2
      have HFD := find_c wr _ (xs.drop (k + 4)) ⟨#[45, 45]⟩ hr2 (by decide) (by rw [List.length_drop, ← HL.out]; omega)
      rw [show (⟨#[45, 45]⟩ : ByteArray).data.toList = [45, 45] from rfl] at HFD
      by_cases hi : Lib.index (xs.drop (k + 4)) [45, 45] < 0
      · have HE := Lib.hid (show (k, false) = R from by rw [← hsk, skp_no h1 (by rw [List.drop_drop]; unfold comP; rw [if_pos hi])])
        obtain ⟨j, hj⟩ : ∃ j, j = Lib.index (xs.drop (k + 4)) [45, 45] := ⟨_, rfl⟩
        rw [← hj] at HFD hi
        have HFD := Lib.hid HFD
        have tj : decide (j < 0) = true := by simpa using hi
        clear hb hg hsk hr1 hr2 h1 hj hm1 HBI
        go_wp2_with fail
        refine HBC.out.mono ?_
        rintro e w2 ⟨rfl, rfl⟩
        go_wp2_with fail
        refine HFD.out.mono ?_
        rintro e w3 ⟨rfl, rfl⟩
        go_wp2_with fail
        go_ret2
        rw [← HE.out]
        exact ⟨rfl, HB.out⟩
      · obtain ⟨i, hi'⟩ : ∃ i : Nat, Lib.index (xs.drop (k + 4)) [45, 45] = i := ⟨(Lib.index (xs.drop (k + 4)) [45, 45]).toNat, by omega⟩
        have hroom := Lib.index_room (xs.drop (k + 4)) [45, 45] (by omega)
        rw [hi', List.length_drop, ← HL.out] at hroom
        have hroom : k + 4 + i + 2 ≤ L := by simp at hroom; omega
        rw [hi'] at HFD
        have HFD := Lib.hid HFD
        obtain ⟨p3, m3, c3, hs3, hr3⟩ := slice_from hr1 (4 + i) (by omega)
        rw [show ((4 + i : Nat) : Int) = 4 + (i : Int) by omega] at hs3
        rw [List.drop_drop] at hr3
        have HMK := begins_c wr _ (xs.drop (k + (4 + i))) ⟨#[45, 45, 62]⟩ hr3
        rw [show (⟨#[45, 45, 62]⟩ : ByteArray).data.toList = [45, 45, 62] from rfl, show xs.drop (k + (4 + i)) = (xs.drop (k + 4)).drop i from by rw [List.drop_drop]; congr 1; omega, com_mark hi'] at HMK
        have ti : decide ((i : Int) < 0) = false := by simp
        cases h62 : Lib.hasPrefix ((xs.drop (k + 4)).drop (i + 2)) [62] with
        | false =>
          have HE := Lib.hid (show (k, false) = R from by rw [← hsk, skp_no h1 (by rw [List.drop_drop]; unfold comP; rw [if_neg hi, hi', Int.toNat_natCast, h62]; rfl)])
          rw [h62] at HMK
          have HMK := Lib.hid HMK
          clear hb hg hsk hr1 hr2 hr3 h1 hi hi' hm1 h62 HBI
          go_wp2_with fail
          refine HBC.out.mono ?_
          rintro e w2 ⟨rfl, rfl⟩
          go_wp2_with fail
          refine HFD.out.mono ?_
          rintro e w3 ⟨rfl, rfl⟩
          go_wp2_with fail
          refine HMK.out.mono ?_
          rintro e w4 ⟨rfl, rfl⟩
          go_wp2_with fail
          go_ret2
          rw [← HE.out]
          exact ⟨rfl, HB.out⟩
        | true =>
          have hpl2 := pre_len h62
          rw [List.length_drop, List.length_drop, ← HL.out] at hpl2
          have hpl2 : k + 4 + i + 3 ≤ L := by simp at hpl2; omega
          have HN := Lib.hid (show RskI w xs R (k + (i + 7)) wr from ⟨g, by have := HL.out; omega, by
            rw [← hsk, skp_go (n := i + 3) h1 (by rw [List.drop_drop]; unfold comP; rw [if_neg hi, hi', Int.toNat_natCast, h62]; rfl), List.drop_drop, show k + (4 + (i + 3)) = k + (i + 7) by omega, show k + 4 + (i + 3) = k + (i + 7) by omega], hb⟩)
          rw [h62] at HMK
          have HMK := Lib.hid HMK
          clear hb hg hsk hr1 hr2 hr3 h1 hi hi' hm1 h62 HBI
          go_wp2_with fail
          refine HBC.out.mono ?_
          rintro e w2 ⟨rfl, rfl⟩
          go_wp2_with fail
          refine HFD.out.mono ?_
          rintro e w3 ⟨rfl, rfl⟩
          go_wp2_with fail
          refine HMK.out.mono ?_
          rintro e w4 ⟨rfl, rfl⟩
          go_wp2_with fail
          go_roundw
          case rel => exact ⟨k + (i + 7), by go_num, by omega, HN.out⟩
          case measure => simp [intOf]; omega
    | false =>
      rw [h1] at HBC
      have HBC := Lib.hid HBC
      cases h2 : Lib.hasPrefix (xs.drop k) [60, 63] with
      | false =>
        rw [h2] at HBI
        have HBI := Lib.hid HBI
        have HE := Lib.hid (show (k, true) = R from by rw [← hsk, skp_end h1 h2])
        clear hb hg hsk hr1 h1 h2 hm1
        go_wp2_with fail
        refine HBC.out.mono ?_
        rintro e w2 ⟨rfl, rfl⟩
        go_wp2_with fail
        refine HBI.out.mono ?_
        rintro e w3 ⟨rfl, rfl⟩
        go_wp2_with fail
        go_ret2
        rw [← HE.out]
        exact ⟨rfl, HB.out⟩
      | true =>
        rw [h2] at HBI
        have HBI := Lib.hid HBI
        have hpl := pre_len h2
        rw [List.length_drop, ← HL.out] at hpl
        have hpl : k + 2 ≤ L := by simp at hpl; omega
        obtain ⟨p2, m2, c2, hs2, hr2⟩ := slice_from hr1 2 (by omega)
        rw [show ((2 : Nat) : Int) = 2 from rfl] at hs2
        rw [List.drop_drop] at hr2
        have HNA := nameAt_c wr _ (xs.drop (k + 2)) hr2 (by rw [List.length_drop, ← HL.out]; omega)
        have hnl := nameAt_le (xs.drop (k + 2))
        obtain ⟨n, hn⟩ : ∃ n, n = nameAt (xs.drop (k + 2)) := ⟨_, rfl⟩
        rw [← hn] at HNA hnl
        rw [List.length_drop, ← HL.out] at hnl
        have HNA := Lib.hid HNA
        have HR1 := Lib.hid hr1
        clear hb
        go_wp2_with fail
        refine HBC.out.mono ?_
        rintro e w2 ⟨rfl, rfl⟩
        go_wp2_with fail
        refine HBI.out.mono ?_
        rintro e w3 ⟨rfl, rfl⟩
        go_wp2_with fail
        refine HNA.out.mono ?_
        rintro e w1 ⟨rfl, hb1⟩
        have HB1 := Lib.hid (HB.out.trans (hb1.mono HB.out.size))
        by_cases h0 : n = 0
        · have HE := Lib.hid (show (k, false) = R from by rw [← hsk, ski_no h1 h2 (by rw [List.drop_drop]; unfold insR; rw [← hn, if_pos (.inl h0)])])
          have tn : ((n : Int) == 0) = true := by simpa using h0
          clear hg hsk hr1 hr2 h1 h2 hm1 hn h0 hb1
          go_wp2_with fail
          go_ret2
          rw [← HE.out]
          exact ⟨rfl, HB1.out⟩
        · have tn : ((n : Int) == 0) = false := by simpa using h0
          have hr1' := HR1.out.below hb1
          obtain ⟨p3, m3, c3, hs3, hr3⟩ := slice_from hr1' (2 + n) (by omega)
          rw [show ((2 + n : Nat) : Int) = 2 + (n : Int) by omega] at hs3
          rw [List.drop_drop] at hr3
          have hkn : k + 2 + n = k + (2 + n) := by omega
          have HQM := begins_c w1 _ (xs.drop (k + (2 + n))) ⟨#[63, 62]⟩ hr3
          rw [show (⟨#[63, 62]⟩ : ByteArray).data.toList = [63, 62] from rfl] at HQM
          have HBL := rblanks_c w1 _ (xs.drop (k + (2 + n))) hr3 (by rw [List.length_drop, ← HL.out]; omega)
          have HFD := find_c w1 _ (xs.drop (k + (2 + n))) ⟨#[63, 62]⟩ hr3 (by decide) (by rw [List.length_drop, ← HL.out]; omega)
          rw [show (⟨#[63, 62]⟩ : ByteArray).data.toList = [63, 62] from rfl] at HFD
          cases hb3 : Lib.hasPrefix (xs.drop (k + (2 + n))) [63, 62] with
          | true =>
            rw [hb3] at HQM
            have HQM := Lib.hid HQM
            by_cases hi : Lib.index (xs.drop (k + (2 + n))) [63, 62] < 0
            · have HE := Lib.hid (show (k, false) = R from by rw [← hsk, ski_no h1 h2 (by rw [List.drop_drop]; unfold insR; rw [← hn, List.drop_drop, hkn, if_neg (by rw [hb3]; simp [h0]), if_pos hi])])
              obtain ⟨j, hj⟩ : ∃ j, j = Lib.index (xs.drop (k + (2 + n))) [63, 62] := ⟨_, rfl⟩
              rw [← hj] at HFD hi
              have HFD := Lib.hid HFD
              have tj : decide (j < 0) = true := by simpa using hi
              clear hg hsk hr1 hr2 h1 h2 hj hm1 hr1' hr3 hkn hn h0 hb1 hb3 HBL
              go_wp2_with fail
              refine HQM.out.mono ?_
              rintro e w4 ⟨rfl, rfl⟩
              go_wp2_with fail
              refine HFD.out.mono ?_
              rintro e w6 ⟨rfl, rfl⟩
              go_wp2_with fail
              go_ret2
              rw [← HE.out]
              exact ⟨rfl, HB1.out⟩
            · obtain ⟨i, hi'⟩ : ∃ i : Nat, Lib.index (xs.drop (k + (2 + n))) [63, 62] = i := ⟨(Lib.index (xs.drop (k + (2 + n))) [63, 62]).toNat, by omega⟩
              have hroom := Lib.index_room (xs.drop (k + (2 + n))) [63, 62] (by omega)
              rw [hi', List.length_drop, ← HL.out] at hroom
              have hroom : k + 2 + n + i + 2 ≤ L := by simp at hroom; omega
              rw [hi'] at HFD
              have HFD := Lib.hid HFD
              have ti : decide ((i : Int) < 0) = false := by simp
              have HN := Lib.hid (show RskI w xs R (k + (i + (n + 4))) w1 from ⟨g, by have := HL.out; omega, by
                rw [← hsk, ski_go (n := i + n + 2) h1 h2 (by rw [List.drop_drop]; unfold insR; rw [← hn, List.drop_drop, hkn, if_neg (by rw [hb3]; simp [h0]), if_neg hi, hi']; rfl), List.drop_drop, show k + (2 + (i + n + 2)) = k + (i + (n + 4)) by omega, show k + 2 + (i + n + 2) = k + (i + (n + 4)) by omega], HB1.out⟩)
              clear hg hsk hr1 hr2 h1 h2 hi hi' hm1 hr1' hr3 hkn hn h0 hb1 hb3 HBL
              go_wp2_with fail
              refine HQM.out.mono ?_
              rintro e w4 ⟨rfl, rfl⟩
              go_wp2_with fail
              refine HFD.out.mono ?_
              rintro e w6 ⟨rfl, rfl⟩
              go_wp2_with fail
              go_roundw
              case rel => exact ⟨k + (i + (n + 4)), by go_num, by omega, HN.out⟩
              case measure => simp [intOf]; omega
          | false =>
            rw [hb3] at HQM
            have HQM := Lib.hid HQM
            obtain ⟨m, hm⟩ : ∃ m, m = blN (xs.drop (k + (2 + n))) := ⟨_, rfl⟩
            rw [← hm] at HBL
            have HBL := Lib.hid HBL
            by_cases hm0 : m = 0
            · have HE := Lib.hid (show (k, false) = R from by rw [← hsk, ski_no h1 h2 (by rw [List.drop_drop]; unfold insR; rw [← hn, List.drop_drop, hkn, if_pos (.inr ⟨hb3, by rw [← hm]; exact hm0⟩)])])
              have tm : ((m : Int) == 0) = true := by simpa using hm0
              clear hg hsk hr1 hr2 h1 h2 hm1 hn h0 hb1 hr1' hr3 hkn hb3 hm hm0 HFD
              go_wp2_with fail
              refine HQM.out.mono ?_
              rintro e w4 ⟨rfl, rfl⟩
              go_wp2_with fail
              refine HBL.out.mono ?_
              rintro e w5 ⟨rfl, rfl⟩
              go_wp2_with fail
              go_ret2
              rw [← HE.out]
              exact ⟨rfl, HB1.out⟩
            · have tm : ((m : Int) == 0) = false := by simpa using hm0
              by_cases hi : Lib.index (xs.drop (k + (2 + n))) [63, 62] < 0
              · have HE := Lib.hid (show (k, false) = R from by rw [← hsk, ski_no h1 h2 (by rw [List.drop_drop]; unfold insR; rw [← hn, List.drop_drop, hkn, if_neg (by rw [hb3, ← hm]; simp [h0, hm0]), if_pos hi])])
                obtain ⟨j, hj⟩ : ∃ j, j = Lib.index (xs.drop (k + (2 + n))) [63, 62] := ⟨_, rfl⟩
                rw [← hj] at HFD hi
                have HFD := Lib.hid HFD
                have tj : decide (j < 0) = true := by simpa using hi
                clear hg hsk hr1 hr2 h1 h2 hj hm1 hr1' hr3 hkn hn h0 hb1 hb3 hm hm0
                go_wp2_with fail
                refine HQM.out.mono ?_
                rintro e w4 ⟨rfl, rfl⟩
                go_wp2_with fail
                refine HBL.out.mono ?_
                rintro e w5 ⟨rfl, rfl⟩
                go_wp2_with fail
                refine HFD.out.mono ?_
                rintro e w6 ⟨rfl, rfl⟩
                go_wp2_with fail
                go_ret2
                rw [← HE.out]
                exact ⟨rfl, HB1.out⟩
              · obtain ⟨i, hi'⟩ : ∃ i : Nat, Lib.index (xs.drop (k + (2 + n))) [63, 62] = i := ⟨(Lib.index (xs.drop (k + (2 + n))) [63, 62]).toNat, by omega⟩
                have hroom := Lib.index_room (xs.drop (k + (2 + n))) [63, 62] (by omega)
                rw [hi', List.length_drop, ← HL.out] at hroom
                have hroom : k + 2 + n + i + 2 ≤ L := by simp at hroom; omega
                rw [hi'] at HFD
                have HFD := Lib.hid HFD
                have ti : decide ((i : Int) < 0) = false := by simp
                have HN := Lib.hid (show RskI w xs R (k + (i + (n + 4))) w1 from ⟨g, by have := HL.out; omega, by
                  rw [← hsk, ski_go (n := i + n + 2) h1 h2 (by rw [List.drop_drop]; unfold insR; rw [← hn, List.drop_drop, hkn, if_neg (by rw [hb3, ← hm]; simp [h0, hm0]), if_neg hi, hi']; rfl), List.drop_drop, show k + (2 + (i + n + 2)) = k + (i + (n + 4)) by omega, show k + 2 + (i + n + 2) = k + (i + (n + 4)) by omega], HB1.out⟩)
                clear hg hsk hr1 hr2 h1 h2 hi hi' hm1 hr1' hr3 hkn hn h0 hb1 hb3 hm hm0
                go_wp2_with fail
                refine HQM.out.mono ?_
                rintro e w4 ⟨rfl, rfl⟩
                go_wp2_with fail
                refine HBL.out.mono ?_
                rintro e w5 ⟨rfl, rfl⟩
                go_wp2_with fail
                refine HFD.out.mono ?_
                rintro e w6 ⟨rfl, rfl⟩
                go_wp2_with fail
                go_roundw
                case rel => exact ⟨k + (i + (n + 4)), by go_num, by omega, HN.out⟩
                case measure => simp [intOf]; omega
end Go.Proofs.YtpcajjbdlfookaaGreatDoor
