/- xmllex: the reference: a reference's body. -/
import Derived.Test.YtpcajjbdlfookaaGreatDoorMp13
import Derived.Test.YtpcajjbdlfookaaGreatDoorMp02
import Derived.Test.YtpcajjbdlfookaaGreatDoorMp08
import Derived.Test.YtpcajjbdlfookaaGreatDoorMp03
namespace Go.Proofs.YtpcajjbdlfookaaGreatDoor
open Go.RowKit
set_option linter.unusedVariables false

theorem refB_rest {s : List UInt8} (hne : ∀ l, l ∈ [[108, 116], [103, 116], [97, 109, 112], [97, 112, 111, 115], [113, 117, 111, 116]] → s ≠ l) : refB s = if Lib.hasPrefix s [35, 120] then chNum 16 (s.drop 2) else if Lib.hasPrefix s [35] then chNum 10 (s.drop 1) else none := by
  unfold refB
  rw [if_neg (hne _ (by simp)), if_neg (hne _ (by simp)), if_neg (hne _ (by simp)), if_neg (hne _ (by simp)), if_neg (hne _ (by simp))]
set_option maxRecDepth 100000 in
set_option maxHeartbeats 2000000 in
theorem rreference_c (w : World) (v : Value) (xs : List UInt8) (h : Rd w v xs) (hl : xs.length ≤ 16777216) : Calls Tryz.prog 119 #[v] w (NumEnd w (refB xs)) := by
  obtain ⟨p, c, rfl⟩ := rd_form h
  obtain ⟨L, hL⟩ : ∃ L, L = xs.length := ⟨_, rfl⟩
  have hcv := h.conv (P := Tryz.prog) 22 5 9 Tryz.underlying22 Tryz.underlying5 Tryz.underlying9
  by_cases hn : isNm xs
  · rw [← hL] at hcv ⊢
    clear h hl hL
    rcases hn with rfl | rfl | rfl | rfl | rfl
    all_goals
      go_enter Tryz.func119, Tryz.ntmps119
      go_wp2_with fail
      go_ret2
      exact ⟨rfl, Below.refl _ _⟩
  · have hne : ∀ l, l ∈ [[108, 116], [103, 116], [97, 109, 112], [97, 112, 111, 115], [113, 117, 111, 116]] → xs ≠ l := fun l hl e => hn (by subst e; unfold isNm; simpa using hl)
    obtain ⟨s, hs'⟩ : ∃ s, s = (⟨xs.toArray⟩ : ByteArray) := ⟨_, rfl⟩
    have hsl : ∀ l : List UInt8, xs ≠ l → (s.toList == l) = false := fun l hl => beq_eq_false_iff_ne.2 (by rw [ByteArray.toList_eq, hs']; exact hl)
    have t1 := hsl [108, 116] (hne _ (by simp))
    have t2 := hsl [103, 116] (hne _ (by simp))
    have t3 := hsl [97, 109, 112] (hne _ (by simp))
    have t4 := hsl [97, 112, 111, 115] (hne _ (by simp))
    have t5 := hsl [113, 117, 111, 116] (hne _ (by simp))
    rw [← hs'] at hcv
    have HRB := Lib.hid (refB_rest hne)
    rw [← hL] at h hl hcv ⊢
    have HB2 := begins_c w _ xs ⟨#[35, 120]⟩ h
    have HB1 := begins_c w _ xs ⟨#[35]⟩ h
    rw [show (⟨#[35, 120]⟩ : ByteArray).data.toList = [35, 120] from rfl] at HB2
    rw [show (⟨#[35]⟩ : ByteArray).data.toList = [35] from rfl] at HB1
    rw [HRB.out]
    cases h2 : Lib.hasPrefix xs [35, 120] with
    | true =>
      have hp2 := pre_len h2
      have hp2' : 2 ≤ L := by rw [hL]; simpa using hp2
      obtain ⟨p1, m1, c1, hs1, hr1⟩ := slice_from h 2 hp2'
      rw [show ((2 : Nat) : Int) = 2 from rfl] at hs1
      have HNM := Lib.hid (rnumbered_c w _ (xs.drop 2) hr1 (by rw [List.length_drop]; omega) 16 (.inr rfl))
      rw [if_pos rfl]
      rw [h2] at HB2
      obtain ⟨R, hR⟩ : ∃ R, R = chNum 16 (xs.drop 2) := ⟨_, rfl⟩
      rw [← hR] at HNM ⊢
      have HB2 := Lib.hid HB2
      clear h hne hsl hs' hn HB1 h2 hp2 hp2' hr1 hR hL hl
      go_enter Tryz.func119, Tryz.ntmps119
      go_wp2_with fail
      refine HB2.out.mono ?_
      rintro e w2 ⟨rfl, rfl⟩
      go_wp2_with fail
      refine HNM.out.mono ?_
      rintro e w3 ⟨he, hb⟩
      have HB := Lib.hid hb
      clear hb
      cases R with
      | none =>
        obtain ⟨u, rfl⟩ := he
        go_wp2_with fail
        go_ret2
        exact ⟨⟨u, rfl⟩, HB.out⟩
      | some n =>
        dsimp only at he
        subst he
        go_wp2_with fail
        go_ret2
        exact ⟨rfl, HB.out⟩
    | false =>
      rw [if_neg (by simp)]
      rw [h2] at HB2
      have HB2 := Lib.hid HB2
      cases h1 : Lib.hasPrefix xs [35] with
      | true =>
        have hp2 := pre_len h1
        have hp2' : 1 ≤ L := by rw [hL]; simpa using hp2
        obtain ⟨p1, m1, c1, hs1, hr1⟩ := slice_from h 1 hp2'
        rw [show ((1 : Nat) : Int) = 1 from rfl] at hs1
        have HNM := Lib.hid (rnumbered_c w _ (xs.drop 1) hr1 (by rw [List.length_drop]; omega) 10 (.inl rfl))
        rw [if_pos rfl]
        rw [h1] at HB1
        obtain ⟨R, hR⟩ : ∃ R, R = chNum 10 (xs.drop 1) := ⟨_, rfl⟩
        rw [← hR] at HNM ⊢
        have HB1 := Lib.hid HB1
        clear h hne hsl hs' hn h1 h2 hp2 hp2' hr1 hR hL hl
        go_enter Tryz.func119, Tryz.ntmps119
        go_wp2_with fail
        refine HB2.out.mono ?_
        rintro e w2 ⟨rfl, rfl⟩
        go_wp2_with fail
        refine HB1.out.mono ?_
        rintro e w4 ⟨rfl, rfl⟩
        go_wp2_with fail
        refine HNM.out.mono ?_
        rintro e w3 ⟨he, hb⟩
        have HB := Lib.hid hb
        clear hb
        cases R with
        | none =>
          obtain ⟨u, rfl⟩ := he
          go_wp2_with fail
          go_ret2
          exact ⟨⟨u, rfl⟩, HB.out⟩
        | some n =>
          dsimp only at he
          subst he
          go_wp2_with fail
          go_ret2
          exact ⟨rfl, HB.out⟩
      | false =>
        rw [if_neg (by simp)]
        rw [h1] at HB1
        have HB1 := Lib.hid HB1
        clear h hne hsl hs' hn h1 h2 hL hl
        go_enter Tryz.func119, Tryz.ntmps119
        go_wp2_with fail
        refine HB2.out.mono ?_
        rintro e w2 ⟨rfl, rfl⟩
        go_wp2_with fail
        refine HB1.out.mono ?_
        rintro e w4 ⟨rfl, rfl⟩
        go_wp2_with fail
        go_ret2
        exact ⟨⟨_, rfl⟩, Below.refl _ _⟩
end Go.Proofs.YtpcajjbdlfookaaGreatDoor

/- xmllex: the reference: Skip. -/
namespace Go.Proofs.YtpcajjbdlfookaaGreatDoor
open Go.RowKit
set_option linter.unusedVariables false

theorem pre_cons {q : UInt8} {r m : List UInt8} : Lib.hasPrefix (q :: r) (q :: m) = Lib.hasPrefix r m := by
  unfold Lib.hasPrefix
  simp [List.isPrefixOf]
/-- Behind the first -- stands a > or not. -/
theorem com_mark {t : List UInt8} {n : Nat} (h : Lib.index t [45, 45] = n) : Lib.hasPrefix (t.drop n) [45, 45, 62] = Lib.hasPrefix (t.drop (n + 2)) [62] := by
  have hp : Lib.hasPrefix (t.drop n) [45, 45] = true := by
    rcases Lib.index_spec t [45, 45] with h1 | ⟨i, h1, h2⟩
    · have := h1.1
      omega
    · obtain rfl : i = n := by omega
      exact h2.2.1
  obtain ⟨u, hu⟩ : ∃ u, t.drop n = 45 :: 45 :: u := by
    unfold Lib.hasPrefix at hp
    obtain ⟨u, hu⟩ := List.isPrefixOf_iff_prefix.1 hp
    exact ⟨u, by rw [← hu]; rfl⟩
  rw [← List.drop_drop, hu, pre_cons, pre_cons]
  rfl

theorem skp_go {g k n : Nat} {r : List UInt8} {ins : List UInt8 → Option Nat} (h1 : Lib.hasPrefix r [60, 33, 45, 45] = true) (h2 : comP (r.drop 4) = some n) : skpF ins (g + 1) r k = skpF ins g (r.drop (4 + n)) (k + 4 + n) := by rw [skp_com h1, h2]
theorem skp_no {g k : Nat} {r : List UInt8} {ins : List UInt8 → Option Nat} (h1 : Lib.hasPrefix r [60, 33, 45, 45] = true) (h2 : comP (r.drop 4) = none) : skpF ins (g + 1) r k = (k, false) := by rw [skp_com h1, h2]
theorem ski_go {g k n : Nat} {r : List UInt8} {ins : List UInt8 → Option Nat} (h0 : Lib.hasPrefix r [60, 33, 45, 45] = false) (h1 : Lib.hasPrefix r [60, 63] = true) (h2 : ins (r.drop 2) = some n) : skpF ins (g + 1) r k = skpF ins g (r.drop (2 + n)) (k + 2 + n) := by rw [skp_ins h0 h1, h2]
theorem ski_no {g k : Nat} {r : List UInt8} {ins : List UInt8 → Option Nat} (h0 : Lib.hasPrefix r [60, 33, 45, 45] = false) (h1 : Lib.hasPrefix r [60, 63] = true) (h2 : ins (r.drop 2) = none) : skpF ins (g + 1) r k = (k, false) := by rw [skp_ins h0 h1, h2]
def sEnd (R : Nat × Bool) : Nat × Nat := match R with
  | (k, false) => (k, 11)
  | (k, true) => (k, 0)
theorem skA_in {ins : List UInt8 → Option Nat} {xs : List UInt8} {a : Nat} (h : a ≤ xs.length) : skA ins xs (a : Int) = sEnd (skpF ins (xs.length + 1) (xs.drop a) a) := by
  unfold skA
  rw [if_neg (by omega)]
  rfl
def RskI (w : World) (xs : List UInt8) (R : Nat × Bool) (k : Nat) (wr : World) : Prop := ∃ g, xs.length - k < g ∧ skpF insR g (xs.drop k) k = R ∧ Below w.heap.size w wr
set_option maxRecDepth 100000 in
set_option maxHeartbeats 4000000 in
theorem rskip_c (w : World) (v : Value) (xs : List UInt8) (h : Rd w v xs) (hl : xs.length ≤ 16777216) (at_ : Int) : Calls Tryz.prog 36 #[v, .int .i64 at_] w (SkEnd w (skA insR xs at_)) := by
  obtain ⟨p, c, rfl⟩ := rd_form h
  obtain ⟨L, hL⟩ : ∃ L, L = xs.length := ⟨_, rfl⟩
  by_cases ho : at_ < 0 ∨ (xs.length : Int) < at_
  · rw [show skA insR xs at_ = (0, 1) from by unfold skA; rw [if_pos ho], ← hL]
    rw [← hL] at ho
    clear h hl hL
    by_cases h0 : at_ < 0
    · have t0 : decide (at_ < 0) = true := by simpa using h0
      clear ho
      go_enter Tryz.func36, Tryz.ntmps36
      go_wp2_with fail
      go_ret2
      exact ⟨rfl, Below.refl _ _⟩
    · have t0 : decide (at_ < 0) = false := by simpa using h0
      have t1 : decide ((L : Int) < at_) = true := by simp; omega
      clear ho
      go_enter Tryz.func36, Tryz.ntmps36
      go_wp2_with fail
      go_ret2
      exact ⟨rfl, Below.refl _ _⟩
  obtain ⟨a, rfl⟩ : ∃ a : Nat, at_ = (a : Int) := ⟨at_.toNat, by omega⟩
  rw [skA_in (by omega)]
  obtain ⟨R, hR⟩ : ∃ R, R = skpF insR (xs.length + 1) (xs.drop a) a := ⟨_, rfl⟩
  have HI := Lib.hid (show RskI w xs R a w from ⟨xs.length + 1, by omega, hR.symm, Below.refl _ _⟩)
  have haL : a ≤ L := by omega
  rw [← hR]
  rw [← hL] at h hl ⊢
  have HL := Lib.hid hL
  have HR := Lib.hid h
  have t0 : decide ((a : Int) < 0) = false := by simp
  have t1 : ¬ L < a := by omega
  have t2 : decide (L < a) = false := by simpa using t1
  clear h hL hR ho
  go_enter Tryz.func36, Tryz.ntmps36
  go_wp2_with fail
  go_loopw [1] (fun s1 wr => ∃ k : Nat, s1 = .int .i64 k ∧ k ≤ L ∧ RskI w xs R k wr) (fun s1 _ => L - (intOf s1).toNat)
  case atStart => exact ⟨a, rfl, haL, HI.out⟩
  case round =>
    obtain ⟨k, rfl, hk, g, hg, hsk, hb⟩ := hrel
    obtain ⟨g, rfl⟩ : ∃ q, g = q + 1 := ⟨g - 1, by omega⟩
    have HB := Lib.hid hb
    have HG := Lib.hid hg
    obtain ⟨p1, m1, c1, hs1, hr1⟩ := slice_from (HR.out.below hb) k hk
    have hm1 := hr1.len
    rw [List.length_drop, ← HL.out] at hm1
    have HBC := begins_c wr _ (xs.drop k) ⟨#[60, 33, 45, 45]⟩ hr1
    rw [show (⟨#[60, 33, 45, 45]⟩ : ByteArray).data.toList = [60, 33, 45, 45] from rfl] at HBC
    have HBI := begins_c wr _ (xs.drop k) ⟨#[60, 63]⟩ hr1
    rw [show (⟨#[60, 63]⟩ : ByteArray).data.toList = [60, 63] from rfl] at HBI
    cases h1 : Lib.hasPrefix (xs.drop k) [60, 33, 45, 45] with
    | true =>
      rw [h1] at HBC
      have HBC := Lib.hid HBC
      have hpl := pre_len h1
      rw [List.length_drop, ← HL.out] at hpl
      have hpl : k + 4 ≤ L := by simp at hpl; omega
      obtain ⟨p2, m2, c2, hs2, hr2⟩ := slice_from hr1 4 (by omega)
      rw [show ((4 : Nat) : Int) = 4 from rfl] at hs2
      rw [List.drop_drop] at hr2
      have HFD := find_c wr _ (xs.drop (k + 4)) ⟨#[45, 45]⟩ hr2 (by decide) (by rw [List.length_drop, ← HL.out]; omega)
      rw [show (⟨#[45, 45]⟩ : ByteArray).data.toList = [45, 45] from rfl] at HFD
      by_cases hi : Lib.index (xs.drop (k + 4)) [45, 45] < 0
      · have HE := Lib.hid (show (k, false) = R from by rw [← hsk, skp_no h1 (by rw [List.drop_drop]; unfold comP; rw [if_pos hi])])
        obtain ⟨j, hj⟩ : ∃ j, j = Lib.index (xs.drop (k + 4)) [45, 45] := ⟨_, rfl⟩
        rw [← hj] at HFD hi
        have HFD := Lib.hid HFD
        have tj : decide (j < 0) = true := by simpa using hi
        clear hb hg hsk hr1 hr2 h1 hj hm1 HBI
        go_wp2_with fail
        refine HBC.out.mono ?_
        rintro e w2 ⟨rfl, rfl⟩
        go_wp2_with fail
        refine HFD.out.mono ?_
        rintro e w3 ⟨rfl, rfl⟩
        go_wp2_with fail
        go_ret2
        rw [← HE.out]
        exact ⟨rfl, HB.out⟩
      · obtain ⟨i, hi'⟩ : ∃ i : Nat, Lib.index (xs.drop (k + 4)) [45, 45] = i := ⟨(Lib.index (xs.drop (k + 4)) [45, 45]).toNat, by omega⟩
        have hroom := Lib.index_room (xs.drop (k + 4)) [45, 45] (by omega)
        rw [hi', List.length_drop, ← HL.out] at hroom
        have hroom : k + 4 + i + 2 ≤ L := by simp at hroom; omega
        rw [hi'] at HFD
        have HFD := Lib.hid HFD
        obtain ⟨p3, m3, c3, hs3, hr3⟩ := slice_from hr1 (4 + i) (by omega)
        rw [show ((4 + i : Nat) : Int) = 4 + (i : Int) by omega] at hs3
        rw [List.drop_drop] at hr3
        have HMK := begins_c wr _ (xs.drop (k + (4 + i))) ⟨#[45, 45, 62]⟩ hr3
        rw [show (⟨#[45, 45, 62]⟩ : ByteArray).data.toList = [45, 45, 62] from rfl, show xs.drop (k + (4 + i)) = (xs.drop (k + 4)).drop i from by rw [List.drop_drop]; congr 1; omega, com_mark hi'] at HMK
        have ti : decide ((i : Int) < 0) = false := by simp
        cases h62 : Lib.hasPrefix ((xs.drop (k + 4)).drop (i + 2)) [62] with
        | false =>
          have HE := Lib.hid (show (k, false) = R from by rw [← hsk, skp_no h1 (by rw [List.drop_drop]; unfold comP; rw [if_neg hi, hi', Int.toNat_natCast, h62]; rfl)])
          rw [h62] at HMK
          have HMK := Lib.hid HMK
          clear hb hg hsk hr1 hr2 hr3 h1 hi hi' hm1 h62 HBI
          go_wp2_with fail
          refine HBC.out.mono ?_
          rintro e w2 ⟨rfl, rfl⟩
          go_wp2_with fail
          refine HFD.out.mono ?_
          rintro e w3 ⟨rfl, rfl⟩
          go_wp2_with fail
          refine HMK.out.mono ?_
          rintro e w4 ⟨rfl, rfl⟩
          go_wp2_with fail
          go_ret2
          rw [← HE.out]
          exact ⟨rfl, HB.out⟩
        | true =>
          have hpl2 := pre_len h62
          rw [List.length_drop, List.length_drop, ← HL.out] at hpl2
          have hpl2 : k + 4 + i + 3 ≤ L := by simp at hpl2; omega
          have HN := Lib.hid (show RskI w xs R (k + (i + 7)) wr from ⟨g, by have := HL.out; omega, by
            rw [← hsk, skp_go (n := i + 3) h1 (by rw [List.drop_drop]; unfold comP; rw [if_neg hi, hi', Int.toNat_natCast, h62]; rfl), List.drop_drop, show k + (4 + (i + 3)) = k + (i + 7) by omega, show k + 4 + (i + 3) = k + (i + 7) by omega], hb⟩)
          rw [h62] at HMK
          have HMK := Lib.hid HMK
          clear hb hg hsk hr1 hr2 hr3 h1 hi hi' hm1 h62 HBI
          go_wp2_with fail
          refine HBC.out.mono ?_
          rintro e w2 ⟨rfl, rfl⟩
          go_wp2_with fail
          refine HFD.out.mono ?_
          rintro e w3 ⟨rfl, rfl⟩
          go_wp2_with fail
          refine HMK.out.mono ?_
          rintro e w4 ⟨rfl, rfl⟩
          go_wp2_with fail
          go_roundw
          case rel => exact ⟨k + (i + 7), by go_num, by omega, HN.out⟩
          case measure => simp [intOf]; omega
    | false =>
      rw [h1] at HBC
      have HBC := Lib.hid HBC
      cases h2 : Lib.hasPrefix (xs.drop k) [60, 63] with
      | false =>
        rw [h2] at HBI
        have HBI := Lib.hid HBI
        have HE := Lib.hid (show (k, true) = R from by rw [← hsk, skp_end h1 h2])
        clear hb hg hsk hr1 h1 h2 hm1
        go_wp2_with fail
        refine HBC.out.mono ?_
        rintro e w2 ⟨rfl, rfl⟩
        go_wp2_with fail
        refine HBI.out.mono ?_
        rintro e w3 ⟨rfl, rfl⟩
        go_wp2_with fail
        go_ret2
        rw [← HE.out]
        exact ⟨rfl, HB.out⟩
      | true =>
        rw [h2] at HBI
        have HBI := Lib.hid HBI
        have hpl := pre_len h2
        rw [List.length_drop, ← HL.out] at hpl
        have hpl : k + 2 ≤ L := by simp at hpl; omega
        obtain ⟨p2, m2, c2, hs2, hr2⟩ := slice_from hr1 2 (by omega)
        rw [show ((2 : Nat) : Int) = 2 from rfl] at hs2
        rw [List.drop_drop] at hr2
        have HNA := nameAt_c wr _ (xs.drop (k + 2)) hr2 (by rw [List.length_drop, ← HL.out]; omega)
        have hnl := nameAt_le (xs.drop (k + 2))
        obtain ⟨n, hn⟩ : ∃ n, n = nameAt (xs.drop (k + 2)) := ⟨_, rfl⟩
        rw [← hn] at HNA hnl
        rw [List.length_drop, ← HL.out] at hnl
        have HNA := Lib.hid HNA
        have HR1 := Lib.hid hr1
        clear hb
        go_wp2_with fail
        refine HBC.out.mono ?_
        rintro e w2 ⟨rfl, rfl⟩
        go_wp2_with fail
        refine HBI.out.mono ?_
        rintro e w3 ⟨rfl, rfl⟩
        go_wp2_with fail
        refine HNA.out.mono ?_
        rintro e w1 ⟨rfl, hb1⟩
        have HB1 := Lib.hid (HB.out.trans (hb1.mono HB.out.size))
        by_cases h0 : n = 0
        · have HE := Lib.hid (show (k, false) = R from by rw [← hsk, ski_no h1 h2 (by rw [List.drop_drop]; unfold insR; rw [← hn, if_pos (.inl h0)])])
          have tn : ((n : Int) == 0) = true := by simpa using h0
          clear hg hsk hr1 hr2 h1 h2 hm1 hn h0 hb1
          go_wp2_with fail
          go_ret2
          rw [← HE.out]
          exact ⟨rfl, HB1.out⟩
        · have tn : ((n : Int) == 0) = false := by simpa using h0
          have hr1' := HR1.out.below hb1
          obtain ⟨p3, m3, c3, hs3, hr3⟩ := slice_from hr1' (2 + n) (by omega)
          rw [show ((2 + n : Nat) : Int) = 2 + (n : Int) by omega] at hs3
          rw [List.drop_drop] at hr3
          have hkn : k + 2 + n = k + (2 + n) := by omega
          have HQM := begins_c w1 _ (xs.drop (k + (2 + n))) ⟨#[63, 62]⟩ hr3
          rw [show (⟨#[63, 62]⟩ : ByteArray).data.toList = [63, 62] from rfl] at HQM
          have HBL := rblanks_c w1 _ (xs.drop (k + (2 + n))) hr3 (by rw [List.length_drop, ← HL.out]; omega)
          have HFD := find_c w1 _ (xs.drop (k + (2 + n))) ⟨#[63, 62]⟩ hr3 (by decide) (by rw [List.length_drop, ← HL.out]; omega)
          rw [show (⟨#[63, 62]⟩ : ByteArray).data.toList = [63, 62] from rfl] at HFD
          cases hb3 : Lib.hasPrefix (xs.drop (k + (2 + n))) [63, 62] with
          | true =>
            rw [hb3] at HQM
            have HQM := Lib.hid HQM
            by_cases hi : Lib.index (xs.drop (k + (2 + n))) [63, 62] < 0
            · have HE := Lib.hid (show (k, false) = R from by rw [← hsk, ski_no h1 h2 (by rw [List.drop_drop]; unfold insR; rw [← hn, List.drop_drop, hkn, if_neg (by rw [hb3]; simp [h0]), if_pos hi])])
              obtain ⟨j, hj⟩ : ∃ j, j = Lib.index (xs.drop (k + (2 + n))) [63, 62] := ⟨_, rfl⟩
              rw [← hj] at HFD hi
              have HFD := Lib.hid HFD
              have tj : decide (j < 0) = true := by simpa using hi
              clear hg hsk hr1 hr2 h1 h2 hj hm1 hr1' hr3 hkn hn h0 hb1 hb3 HBL
              go_wp2_with fail
              refine HQM.out.mono ?_
              rintro e w4 ⟨rfl, rfl⟩
              go_wp2_with fail
              refine HFD.out.mono ?_
              rintro e w6 ⟨rfl, rfl⟩
              go_wp2_with fail
              go_ret2
              rw [← HE.out]
              exact ⟨rfl, HB1.out⟩
            · obtain ⟨i, hi'⟩ : ∃ i : Nat, Lib.index (xs.drop (k + (2 + n))) [63, 62] = i := ⟨(Lib.index (xs.drop (k + (2 + n))) [63, 62]).toNat, by omega⟩
              have hroom := Lib.index_room (xs.drop (k + (2 + n))) [63, 62] (by omega)
              rw [hi', List.length_drop, ← HL.out] at hroom
              have hroom : k + 2 + n + i + 2 ≤ L := by simp at hroom; omega
              rw [hi'] at HFD
              have HFD := Lib.hid HFD
              have ti : decide ((i : Int) < 0) = false := by simp
              have HN := Lib.hid (show RskI w xs R (k + (i + (n + 4))) w1 from ⟨g, by have := HL.out; omega, by
                rw [← hsk, ski_go (n := i + n + 2) h1 h2 (by rw [List.drop_drop]; unfold insR; rw [← hn, List.drop_drop, hkn, if_neg (by rw [hb3]; simp [h0]), if_neg hi, hi']; rfl), List.drop_drop, show k + (2 + (i + n + 2)) = k + (i + (n + 4)) by omega, show k + 2 + (i + n + 2) = k + (i + (n + 4)) by omega], HB1.out⟩)
              clear hg hsk hr1 hr2 h1 h2 hi hi' hm1 hr1' hr3 hkn hn h0 hb1 hb3 HBL
              go_wp2_with fail
              refine HQM.out.mono ?_
              rintro e w4 ⟨rfl, rfl⟩
              go_wp2_with fail
              refine HFD.out.mono ?_
              rintro e w6 ⟨rfl, rfl⟩
              go_wp2_with fail
              go_roundw
              case rel => exact ⟨k + (i + (n + 4)), by go_num, by omega, HN.out⟩
              case measure => simp [intOf]; omega
          | false =>
            rw [hb3] at HQM
            have HQM := Lib.hid HQM
            obtain ⟨m, hm⟩ : ∃ m, m = blN (xs.drop (k + (2 + n))) := ⟨_, rfl⟩
            rw [← hm] at HBL
            have HBL := Lib.hid HBL
            by_cases hm0 : m = 0
            · have HE := Lib.hid (show (k, false) = R from by rw [← hsk, ski_no h1 h2 (by rw [List.drop_drop]; unfold insR; rw [← hn, List.drop_drop, hkn, if_pos (.inr ⟨hb3, by rw [← hm]; exact hm0⟩)])])
              have tm : ((m : Int) == 0) = true := by simpa using hm0
              clear hg hsk hr1 hr2 h1 h2 hm1 hn h0 hb1 hr1' hr3 hkn hb3 hm hm0 HFD
              go_wp2_with fail
              refine HQM.out.mono ?_
              rintro e w4 ⟨rfl, rfl⟩
              go_wp2_with fail
              refine HBL.out.mono ?_
              rintro e w5 ⟨rfl, rfl⟩
              go_wp2_with fail
              go_ret2
              rw [← HE.out]
              exact ⟨rfl, HB1.out⟩
            · have tm : ((m : Int) == 0) = false := by simpa using hm0
              by_cases hi : Lib.index (xs.drop (k + (2 + n))) [63, 62] < 0
              · have HE := Lib.hid (show (k, false) = R from by rw [← hsk, ski_no h1 h2 (by rw [List.drop_drop]; unfold insR; rw [← hn, List.drop_drop, hkn, if_neg (by rw [hb3, ← hm]; simp [h0, hm0]), if_pos hi])])
                obtain ⟨j, hj⟩ : ∃ j, j = Lib.index (xs.drop (k + (2 + n))) [63, 62] := ⟨_, rfl⟩
                rw [← hj] at HFD hi
                have HFD := Lib.hid HFD
                have tj : decide (j < 0) = true := by simpa using hi
                clear hg hsk hr1 hr2 h1 h2 hj hm1 hr1' hr3 hkn hn h0 hb1 hb3 hm hm0
                go_wp2_with fail
                refine HQM.out.mono ?_
                rintro e w4 ⟨rfl, rfl⟩
                go_wp2_with fail
                refine HBL.out.mono ?_
                rintro e w5 ⟨rfl, rfl⟩
                go_wp2_with fail
                refine HFD.out.mono ?_
                rintro e w6 ⟨rfl, rfl⟩
                go_wp2_with fail
                go_ret2
                rw [← HE.out]
                exact ⟨rfl, HB1.out⟩
              · obtain ⟨i, hi'⟩ : ∃ i : Nat, Lib.index (xs.drop (k + (2 + n))) [63, 62] = i := ⟨(Lib.index (xs.drop (k + (2 + n))) [63, 62]).toNat, by omega⟩
                have hroom := Lib.index_room (xs.drop (k + (2 + n))) [63, 62] (by omega)
                rw [hi', List.length_drop, ← HL.out] at hroom
                have hroom : k + 2 + n + i + 2 ≤ L := by simp at hroom; omega
                rw [hi'] at HFD
                have HFD := Lib.hid HFD
                have ti : decide ((i : Int) < 0) = false := by simp
                have HN := Lib.hid (show RskI w xs R (k + (i + (n + 4))) w1 from ⟨g, by have := HL.out; omega, by
                  rw [← hsk, ski_go (n := i + n + 2) h1 h2 (by rw [List.drop_drop]; unfold insR; rw [← hn, List.drop_drop, hkn, if_neg (by rw [hb3, ← hm]; simp [h0, hm0]), if_neg hi, hi']; rfl), List.drop_drop, show k + (2 + (i + n + 2)) = k + (i + (n + 4)) by omega, show k + 2 + (i + n + 2) = k + (i + (n + 4)) by omega], HB1.out⟩)
                clear hg hsk hr1 hr2 h1 h2 hi hi' hm1 hr1' hr3 hkn hn h0 hb1 hb3 hm hm0
                go_wp2_with fail
                refine HQM.out.mono ?_
                rintro e w4 ⟨rfl, rfl⟩
                go_wp2_with fail
                refine HBL.out.mono ?_
                rintro e w5 ⟨rfl, rfl⟩
                go_wp2_with fail
                refine HFD.out.mono ?_
                rintro e w6 ⟨rfl, rfl⟩
                go_wp2_with fail
                go_roundw
                case rel => exact ⟨k + (i + (n + 4)), by go_num, by omega, HN.out⟩
                case measure => simp [intOf]; omega
end Go.Proofs.YtpcajjbdlfookaaGreatDoor

/- xmllex: the reference: resolve, Unescape. -/
namespace Go.Proofs.YtpcajjbdlfookaaGreatDoor
open Go.RowKit
set_option linter.unusedVariables false

theorem rs_end {f : Nat} {v : Bool} {a : Nat} {out : List UInt8} : rsF f v [] a out = .ok out := by cases f <;> simp [rsF]
theorem rs_text {f : Nat} {v : Bool} {r : List UInt8} {a : Nat} {out : List UInt8} (hr : r ≠ []) (h : r.head? ≠ some 38) : rsF (f + 1) v r a out = rsF f v (r.drop (upto r)) (a + upto r) (out ++ pl v (r.take (upto r))) := by
  rw [rsF, if_neg hr, if_neg h]
theorem rs_no {f : Nat} {v : Bool} {r : List UInt8} {a : Nat} {out : List UInt8} (h : r.head? = some 38) (hA : refA r = none) : rsF (f + 1) v r a out = .error a := by
  rw [rsF, if_neg (by intro e; rw [e] at h; simp at h), if_pos h, hA]
theorem rs_yes {f : Nat} {v : Bool} {r : List UInt8} {a c n : Nat} {out : List UInt8} (h : r.head? = some 38) (hA : refA r = some (c, n)) : rsF (f + 1) v r a out = rsF f v (r.drop n) (a + n) (out ++ E c) := by
  rw [rsF, if_neg (by intro e; rw [e] at h; simp at h), if_pos h, hA]
theorem upto_le (r : List UInt8) : upto r ≤ r.length := by
  unfold upto
  split
  · omega
  · have := idx1_lt r 38
    omega
theorem pl_len (v : Bool) (xs : List UInt8) : (pl v xs).length ≤ xs.length := by
  cases v
  · exact lns_len xs
  · exact fl_len xs
theorem refB_xml {s : List UInt8} {c : Nat} (h : refB s = some c) : c ≤ 1114111 := by
  have key : ∀ base r, chNum base r = some c → c ≤ 1114111 := by
    intro base r hc
    unfold chNum at hc
    split at hc
    · simp at hc
    · cases hn : numB base 4294967295 0 r with
      | none => rw [hn] at hc; simp at hc
      | some n =>
        rw [hn] at hc
        dsimp only at hc
        by_cases hx : xmlB n = true
        · rw [if_pos hx] at hc
          simp only [Option.some.injEq] at hc
          subst hc
          unfold xmlB at hx
          have h1 : ∀ m : Nat, spaceB (m : Int) = true → m ≤ 32 := by
            intro m hm
            have : ((m : Int) == 9 || (m : Int) == 10 || (m : Int) == 13 || (m : Int) == 32) = true := hm
            simp at this
            omega
          by_cases hs : spaceB (n : Int) = true
          · have := h1 n hs
            omega
          · simp [btw, hs] at hx
            omega
        · rw [if_neg hx] at hc
          simp at hc
  unfold refB at h
  repeat' split at h
  all_goals first | (simp only [Option.some.injEq] at h; omega) | exact key _ _ h | simp at h

/-- As far as the text is resolved. -/
def RsI (w : World) (vb : Bool) (xs : List UInt8) (R : Except Nat (List UInt8)) (a : Nat) (out : List UInt8) (v : Value) (wr : World) : Prop :=
  a ≤ xs.length ∧ out.length ≤ a ∧ (∃ f, xs.length - a < f ∧ rsF f vb (xs.drop a) a out = R) ∧ wr.ownsRow w.heap.size 5 1 v out.length (bcells out) ∧ Below w.heap.size w wr
set_option maxRecDepth 100000 in
set_option maxHeartbeats 4000000 in
theorem resolve_c (w : World) (v : Value) (xs : List UInt8) (h : Rd w v xs) (hl : xs.length ≤ 8388608) (vb : Bool) : Calls Tryz.prog 100 #[v, .bool vb] w (UnAft w (rsT vb xs)) := by
  obtain ⟨p, c, rfl⟩ := rd_form h
  obtain ⟨i0, hin, hz0, hz1, hz2⟩ := info_parts info8
  have HI0 := Lib.hid (show RsI w vb xs (rsT vb xs) 0 [] (.slice none 0 0) w from ⟨by omega, by simp, ⟨xs.length + 1, by omega, rfl⟩, World.ownsRow_nil _ _ _ _, Below.refl _ _⟩)
  obtain ⟨R, hR⟩ : ∃ R, R = rsT vb xs := ⟨_, rfl⟩
  rw [← hR] at HI0 ⊢
  obtain ⟨L, hL⟩ : ∃ L, L = xs.length := ⟨_, rfl⟩
  rw [← hL] at h hl ⊢
  have HL := Lib.hid hL
  have HR := Lib.hid h
  clear h hL hR
  go_enter Tryz.func100, Tryz.ntmps100
  go_wp2_with fail
  go_loopw [8, 7] (fun s8 s7 wr => ∃ (a : Nat) (out : List UInt8), s8 = .int .i64 a ∧ RsI w vb xs R a out s7 wr) (fun s8 _ _ => L - (intOf s8).toNat)
  case atStart => exact ⟨0, [], rfl, HI0.out⟩
  case round =>
    obtain ⟨a, out, rfl, hI⟩ := hrel
    obtain ⟨ha, ho, ⟨f, hf, hrs⟩, hown, hb⟩ := hI
    have haL : a ≤ L := by rw [HL.out]; exact ha
    have hol : out.length ≤ 8388608 := by omega
    have HSZ := Lib.hid hb.size
    have HB := Lib.hid hb
    have HOW := Lib.hid hown
    have hrr := HR.out.below hb
    by_cases hlt : a < L
    · have hax : a < xs.length := by rw [← HL.out]; exact hlt
      obtain ⟨p', c', hv, h1, h2, h3, h4⟩ := id hrr
      have hpc : p = p' := by cases hv; rfl
      subst hpc
      obtain ⟨b, o, hp, hx⟩ := h4 (by omega)
      subst hp
      have hx1 := hx a hax
      obtain ⟨x, hxe⟩ : ∃ x, x = xs[a]'hax := ⟨_, rfl⟩
      rw [← hxe] at hx1
      have hx256 := x.toNat_lt
      have haI : (a : Int) < (L : Int) := by omega
      have hd : xs.drop a = x :: xs.drop (a + 1) := by rw [hxe]; exact List.drop_eq_getElem_cons _
      obtain ⟨f, rfl⟩ : ∃ q, f = q + 1 := ⟨f - 1, by omega⟩
      obtain ⟨p1, m1, c1, hs1, hr1⟩ := slice_from hrr a haL
      have hrl : (xs.drop a).length = L - a := by rw [List.length_drop, ← HL.out]
      by_cases h38 : x = 38
      · have t38 : ((x.toNat : Int) != 38) = false := by rw [h38]; rfl
        have hhd : (xs.drop a).head? = some 38 := by rw [hd, h38]; rfl
        have HFD := find_c wr _ (xs.drop a) ⟨#[59]⟩ hr1 (by decide) (by omega)
        rw [show (⟨#[59]⟩ : ByteArray).data.toList = [59] from rfl] at HFD
        by_cases hi : Lib.index (xs.drop a) [59] < 0
        · have HE := Lib.hid (show .error a = R from by rw [← hrs, rs_no hhd (by unfold refA; rw [if_pos hi])])
          obtain ⟨j, hj⟩ : ∃ j, j = Lib.index (xs.drop a) [59] := ⟨_, rfl⟩
          rw [← hj] at HFD hi
          have HFD := Lib.hid HFD
          have tj : decide (j < 0) = true := by simpa using hi
          clear hv h1 h2 h3 h4 hx hxe hd hr1 hrl hhd hj hrs hrr hown hb ho hf
          go_wp2_with fail
          refine HFD.out.mono ?_
          rintro e w3 ⟨rfl, rfl⟩
          go_wp2_with fail
          go_ret3
          rw [← HE.out]
          exact ⟨rfl, HB.out⟩
        · obtain ⟨j, hj⟩ : ∃ j : Nat, Lib.index (xs.drop a) [59] = j := ⟨(Lib.index (xs.drop a) [59]).toNat, by omega⟩
          obtain ⟨e1, e2, e3⟩ := idx1_split (xs.drop a) 59 j hj
          have hj1 : 1 ≤ j := by
            rcases Nat.eq_zero_or_pos j with h0 | h0
            · exfalso
              subst h0
              rw [hd, h38, idx1_cons, if_neg (by decide)] at hj
              have := Lib.index_ge (xs.drop (a + 1)) [59]
              split at hj <;> omega
            · exact h0
          rw [hj] at HFD
          have HFD := Lib.hid HFD
          have tj : decide ((j : Int) < 0) = false := by simp
          have hajL : a + j < L := by omega
          obtain ⟨p2, m2, c2, hs2, hr2⟩ := slice_mid hrr (a + 1) (a + j) (by omega) (by omega)
          rw [show ((a + 1 : Nat) : Int) = (a : Int) + 1 by omega, show ((a + j : Nat) : Int) = (a : Int) + (j : Int) by omega] at hs2
          have hbod : (xs.drop (a + 1)).take (a + j - (a + 1)) = ((xs.drop a).drop 1).take (j - 1) := by
            rw [List.drop_drop, show a + j - (a + 1) = j - 1 by omega]
          rw [hbod] at hr2
          have HRF := rreference_c wr _ _ hr2 (by rw [List.length_take, List.length_drop]; omega)
          have hrA : refA (xs.drop a) = (refB (((xs.drop a).drop 1).take (j - 1))).map fun c => (c, j + 1) := by
            unfold refA
            rw [if_neg hi, hj]
            rfl
          obtain ⟨B, hB⟩ : ∃ B, B = refB (((xs.drop a).drop 1).take (j - 1)) := ⟨_, rfl⟩
          rw [← hB] at HRF hrA
          cases B with
          | none =>
            have HE := Lib.hid (show .error a = R from by rw [← hrs, rs_no hhd hrA])
            have HRF := Lib.hid HRF
            clear hv h1 h2 h3 h4 hx hxe hd hr1 hrl hhd hj hrs hrr hown hb ho hf hrA hB hbod hr2 e1 e2 e3 hi
            go_wp2_with fail
            refine HFD.out.mono ?_
            rintro e w3 ⟨rfl, rfl⟩
            go_wp2_with fail
            refine HRF.out.mono ?_
            rintro e w4 ⟨⟨u, rfl⟩, hb4⟩
            have HB4 := Lib.hid (HB.out.trans (hb4.mono HB.out.size))
            clear hb4
            go_wp2_with fail
            go_ret3
            rw [← HE.out]
            exact ⟨rfl, HB4.out⟩
          | some ch =>
            have hxml := refB_xml hB.symm
            have hEl := refA_E hrA
            have hE4 := E_len4 (ch : Int)
            have hen := refA_len hrA
            obtain ⟨EC, hEC⟩ : ∃ EC, EC = E (ch : Int) := ⟨_, rfl⟩
            have HNX := Lib.hid (fun (v2 : Value) (wx : World) (hown2 : wx.ownsRow w.heap.size 5 1 v2 (out ++ EC).length (bcells (out ++ EC))) (hbx : Below w.heap.size w wx) => show RsI w vb xs R (a + (j + 1)) (out ++ EC) v2 wx from
              ⟨by have := HL.out; omega, by rw [List.length_append, hEC]; omega, ⟨f, by have := HL.out; omega, by rw [← hrs, rs_yes hhd hrA, List.drop_drop, hEC]⟩, hown2, hbx⟩)
            have HEN := Lib.hid (fun (wx : World) => rencode_c wx (ch : Int) (by omega) (by omega))
            rw [← hEC] at HEN hE4
            have HRF := Lib.hid HRF
            clear hv h1 h2 h3 h4 hx hxe hd hr1 hhd hj hrs hrr hown hb ho hf hrA hB hbod hr2 e1 e2 hi hEl hEC
            go_wp2_with fail
            refine HFD.out.mono ?_
            rintro e w3 ⟨rfl, rfl⟩
            go_wp2_with fail
            refine HRF.out.mono ?_
            rintro e w4 ⟨he4, hb4⟩
            dsimp only at he4
            subst he4
            have HB4 := Lib.hid (HB.out.trans (hb4.mono HB.out.size))
            have HO4 := Lib.hid (own_below (B' := 0) HOW.out hb4)
            clear hb4
            go_wp2_with fail
            refine (HEN.out _).mono ?_
            rintro e w5 ⟨v5, rfl, hr5, hb5⟩
            have HB5 := Lib.hid (HB4.out.trans (hb5.mono HB4.out.size))
            have HO5 := Lib.hid (own_below (B' := 0) HO4.out hb5)
            have HS5 := Lib.hid (hr5.src Tryz.underlying22)
            clear hb5 hr5
            go_wp2_with (at_builtin; refine wpList_append_src rfl _ _ 22 22 rfl w.heap.size 5 i0 (.int .u8 0) 1 Tryz.underlying22 hin hz0 hz1 hz2 rfl _ out.length (bcells out) rfl HO5.out _ EC.length (bcells EC) rfl HS5.out ?c1 ?c2 ?c3 ?_)
            case c1 => unfold maxLen; omega
            case c2 => omega
            case c3 => exact HB5.out.size
            intro v6 w6 hown6 hgrow6
            have HN := Lib.hid (HNX.out v6 w6 (own_bytes hown6 (by simp [bcells])) (HB5.out.trans ((below_own hgrow6 HO5.out HB5.out.size))))
            clear hown6 hgrow6
            go_wp2_with fail
            go_roundw
            case rel => exact ⟨a + (j + 1), out ++ EC, by go_num, HN.out⟩
            case measure => simp [intOf]; omega
      · have t38 : ((x.toNat : Int) != 38) = true := by
          rw [bne_iff_ne]
          intro e
          exact h38 (UInt8.toNat_inj.1 (by simp; omega))
        have hhd : (xs.drop a).head? ≠ some 38 := by rw [hd]; simpa using h38
        have hne : xs.drop a ≠ [] := by rw [hd]; simp
        have HFD := find_c wr _ (xs.drop a) ⟨#[38]⟩ hr1 (by decide) (by omega)
        rw [show (⟨#[38]⟩ : ByteArray).data.toList = [38] from rfl] at HFD
        obtain ⟨n, hn⟩ : ∃ n, n = upto (xs.drop a) := ⟨_, rfl⟩
        have hnl := upto_le (xs.drop a)
        have hup := upto_split (xs.drop a) hne hhd
        rw [← hn] at hnl hup
        have hn1 : 1 ≤ n := hup.2.2.2.2.1
        have hanL : a + n ≤ L := by omega
        obtain ⟨p2, m2, c2, hs2, hr2⟩ := slice_mid hrr a (a + n) (by omega) (by omega)
        rw [show ((a + n : Nat) : Int) = (a : Int) + (n : Int) by omega] at hs2
        rw [show a + n - a = n by omega] at hr2
        have HPL := Lib.hid (rplain_c wr _ _ hr2 (by rw [List.length_take]; omega) vb)
        have hpl := pl_len vb ((xs.drop a).take n)
        rw [List.length_take] at hpl
        obtain ⟨PL, hPL⟩ : ∃ PL, PL = pl vb ((xs.drop a).take n) := ⟨_, rfl⟩
        rw [← hPL] at HPL hpl
        have HNX := Lib.hid (fun (v2 : Value) (wx : World) (hown2 : wx.ownsRow w.heap.size 5 1 v2 (out ++ PL).length (bcells (out ++ PL))) (hbx : Below w.heap.size w wx) => show RsI w vb xs R (a + n) (out ++ PL) v2 wx from
          ⟨by have := HL.out; omega, by rw [List.length_append]; omega, ⟨f, by have := HL.out; omega, by rw [← hrs, rs_text hne hhd, ← hn, List.drop_drop, hPL]⟩, hown2, hbx⟩)
        by_cases hi : Lib.index (xs.drop a) [38] < 0
        · have hnL : (n : Int) = (L : Int) - (a : Int) := by
            rw [hn]; unfold upto; rw [if_pos hi]; omega
          obtain ⟨j, hj⟩ : ∃ j, j = Lib.index (xs.drop a) [38] := ⟨_, rfl⟩
          rw [← hj] at HFD hi
          have HFD := Lib.hid HFD
          have tj : decide (j < 0) = true := by simpa using hi
          rw [hnL] at hs2
          have HNL := Lib.hid hnL
          clear hv h1 h2 h3 h4 hx hxe hd hr1 hrl hhd hne hj hrs hrr hown hb ho hf hn hup hr2 hPL hnL
          go_wp2_with fail
          refine HFD.out.mono ?_
          rintro e w3 ⟨rfl, rfl⟩
          go_wp2_with fail
          refine HPL.out.mono ?_
          rintro e w5 ⟨v5, rfl, hr5, hb5⟩
          have HB5 := Lib.hid (HB.out.trans (hb5.mono HB.out.size))
          have HO5 := Lib.hid (own_below (B' := 0) HOW.out hb5)
          have HS5 := Lib.hid (hr5.src Tryz.underlying22)
          clear hb5 hr5
          go_wp2_with (at_builtin; refine wpList_append_src rfl _ _ 22 22 rfl w.heap.size 5 i0 (.int .u8 0) 1 Tryz.underlying22 hin hz0 hz1 hz2 rfl _ out.length (bcells out) rfl HO5.out _ PL.length (bcells PL) rfl HS5.out ?c1 ?c2 ?c3 ?_)
          case c1 => unfold maxLen; omega
          case c2 => omega
          case c3 => exact HB5.out.size
          intro v6 w6 hown6 hgrow6
          have HN := Lib.hid (HNX.out v6 w6 (own_bytes hown6 (by simp [bcells])) (HB5.out.trans (below_own hgrow6 HO5.out HB5.out.size)))
          clear hown6 hgrow6
          go_wp2_with fail
          go_roundw
          case rel => exact ⟨a + n, out ++ PL, by first | go_num | (congr 1; have := HNL.out; omega), HN.out⟩
          case measure => simp [intOf]; omega
        · have hj : Lib.index (xs.drop a) [38] = n := by
            rw [hn]; unfold upto; rw [if_neg hi]; omega
          rw [hj] at HFD
          have HFD := Lib.hid HFD
          have tj : decide ((n : Int) < 0) = false := by simp
          clear hv h1 h2 h3 h4 hx hxe hd hr1 hrl hhd hne hj hrs hrr hown hb ho hf hn hup hr2 hPL hi
          go_wp2_with fail
          refine HFD.out.mono ?_
          rintro e w3 ⟨rfl, rfl⟩
          go_wp2_with fail
          refine HPL.out.mono ?_
          rintro e w5 ⟨v5, rfl, hr5, hb5⟩
          have HB5 := Lib.hid (HB.out.trans (hb5.mono HB.out.size))
          have HO5 := Lib.hid (own_below (B' := 0) HOW.out hb5)
          have HS5 := Lib.hid (hr5.src Tryz.underlying22)
          clear hb5 hr5
          go_wp2_with (at_builtin; refine wpList_append_src rfl _ _ 22 22 rfl w.heap.size 5 i0 (.int .u8 0) 1 Tryz.underlying22 hin hz0 hz1 hz2 rfl _ out.length (bcells out) rfl HO5.out _ PL.length (bcells PL) rfl HS5.out ?c1 ?c2 ?c3 ?_)
          case c1 => unfold maxLen; omega
          case c2 => omega
          case c3 => exact HB5.out.size
          intro v6 w6 hown6 hgrow6
          have HN := Lib.hid (HNX.out v6 w6 (own_bytes hown6 (by simp [bcells])) (HB5.out.trans (below_own hgrow6 HO5.out HB5.out.size)))
          clear hown6 hgrow6
          go_wp2_with fail
          go_roundw
          case rel => exact ⟨a + n, out ++ PL, by go_num, HN.out⟩
          case measure => simp [intOf]; omega
    · have haE : a = L := by omega
      have HE := Lib.hid (show .ok out = R from by rw [← hrs, List.drop_eq_nil_of_le (by rw [← HL.out]; omega), rs_end])
      obtain ⟨po, co, rfl⟩ := rd_form (Rd.of_own hown)
      have hcv := (Rd.of_own hown).conv (P := Tryz.prog) 22 5 9 Tryz.underlying22 Tryz.underlying5 Tryz.underlying9
      clear hrs hrr hown hb ho hf
      go_wp2_with fail
      go_ret3
      rw [← HE.out]
      exact ⟨rfl, HB.out⟩
end Go.Proofs.YtpcajjbdlfookaaGreatDoor
