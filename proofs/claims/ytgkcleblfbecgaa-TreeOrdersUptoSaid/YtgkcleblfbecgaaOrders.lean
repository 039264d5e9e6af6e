/- tree: THE LAW TreeOrders: the order of any two paths is the reference's, of two the other way round its opposite, 0 for equal texts alone, and of three it goes one way. Conditions: the three texts together are of bulk at most 1048576 (the second form). -/
import Derived.Test.YtgkcleblfbecgaaVq
import Derived.Test.YtgkcleblfbecgaaBulk
import Derived.ProofKit
import Derived.SizedLaws
import Derived.ShutString
import Derived.ChangeOld
namespace Go.Proofs.Ytgkcleblfbecgaa.treeOrders
open Go.ChangeShapes Go.WideShapes Go.ChangeAt Go.RowKit
open Go.ChangeMaps (open_string shut_string)
set_option linter.unusedVariables false
set_option linter.unusedSimpArgs false

theorem txt2 : (⟨(txt 2).toArray⟩ : ByteArray) = ⟨#[50]⟩ := by decide +kernel

set_option maxRecDepth 100000 in
theorem path_c (w : World) : Calls Try.prog 12 #[.string ⟨#[112, 46, 49]⟩, .string ⟨#[116]⟩, .int .i64 2] w fun e w' => e = .returned (.string ⟨#[112, 46, 49, 47, 116, 46, 50]⟩) ∧ Below w.heap.size w w' := by
  have HT := Lib.hid (fun w => text_c w 2 (by omega) (by omega))
  rw [txt2] at HT
  go_enter Try.func12, Try.ntmps12
  go_wp2_with (go_at_call 21; refine (HT.out _).mono ?_; rintro e w' ⟨rfl, hb⟩; have HB := Lib.hid hb; clear hb)
  go_ret
  refine ⟨?_, HB.out⟩
  show Ending.returned (.string ((⟨#[112, 46, 49]⟩ : ByteArray) ++ ⟨#[47]⟩ ++ ((⟨#[116]⟩ : ByteArray) ++ ⟨#[46]⟩ ++ ⟨#[50]⟩))) = _
  rw [show ((⟨#[112, 46, 49]⟩ : ByteArray) ++ ⟨#[47]⟩ ++ ((⟨#[116]⟩ : ByteArray) ++ ⟨#[46]⟩ ++ ⟨#[50]⟩)) = ⟨#[112, 46, 49, 47, 116, 46, 50]⟩ from by decide +kernel]

theorem li : Lib.lastIndex [112, 46, 49, 47, 116, 46, 50] [47] = 3 := by decide +kernel
theorem ex3 : (⟨#[112, 46, 49, 47, 116, 46, 50]⟩ : ByteArray).extract 0 3 = ⟨#[112, 46, 49]⟩ := by decide +kernel
set_option maxRecDepth 100000 in
theorem up_c (w : World) : Calls Try.prog 13 #[.string ⟨#[112, 46, 49, 47, 116, 46, 50]⟩] w fun e w' => e = .returned (.string ⟨#[112, 46, 49]⟩) ∧ Below w.heap.size w w' := by
  have HL := fun w => Try.strings_LastIndex ⟨#[112, 46, 49, 47, 116, 46, 50]⟩ ⟨#[47]⟩ (by decide) w
  rw [show (⟨#[47]⟩ : ByteArray).data.toList = [47] from rfl, show (⟨#[112, 46, 49, 47, 116, 46, 50]⟩ : ByteArray).data.toList = [112, 46, 49, 47, 116, 46, 50] from rfl, li] at HL
  have HL' := Lib.hid HL
  have HX := Lib.hid ex3
  obtain ⟨X, hX⟩ : ∃ X : ByteArray, X = ⟨#[112, 46, 49, 47, 116, 46, 50]⟩ := ⟨_, rfl⟩
  have hs : 3 ≤ X.size := by rw [hX]; decide
  rw [← hX] at HL' HX ⊢
  have hm : max (0 : Int) 3 = 3 := by decide
  clear hX HL
  go_enter Try.func13, Try.ntmps13
  go_wp2_with (go_at_call 22; refine (HL'.out _).mono ?_; rintro e w' ⟨rfl, rfl⟩)
  go_ret
  exact ⟨by rw [← HX.out]; rfl, Below.refl _ _⟩

theorem awake_c (w : World) : Calls Try.prog 6 #[] w fun e w' => e = .returned (.bool true) ∧ Below w.heap.size w w' := by
  have HP := Lib.hid path_c
  have HU := Lib.hid up_c
  have q1 : ((⟨#[112, 46, 49, 47, 116, 46, 50]⟩ : ByteArray).toList == [112, 46, 49, 47, 116, 46, 50]) = true := by decide +kernel
  have q2 : ((⟨#[112, 46, 49]⟩ : ByteArray).toList == [112, 46, 49]) = true := by decide +kernel
  go_enter Try.func6, Try.ntmps6
  go_wp2_with (first
    | (go_at_call 13; refine (HU.out _).mono ?_; rintro e w' ⟨rfl, hb⟩; have HB2 := Lib.hid (bel_tr HB1.out hb); clear hb)
    | (go_at_call 12; refine (HP.out _).mono ?_; rintro e w' ⟨rfl, hb⟩; have HB1 := Lib.hid hb; clear hb))
  go_ret
  exact ⟨rfl, HB2.out⟩

set_option maxRecDepth 100000 in
set_option maxHeartbeats 4000000 in
theorem walk (a b c : ByteArray) (w : World) (sa : a.size ≤ 1048576) (sb : b.size ≤ 1048576) (sc : c.size ≤ 1048576) :
    Calls Try.prog 3 #[.string a, .string b, .string c] w fun e w' => e = .returned (.bool true) ∧ Below w.heap.size w w' := by
  have H1 := Lib.hid (fun w => order_c w a b (by omega) (by omega))
  have H2 := Lib.hid (fun w => order_c w b a (by omega) (by omega))
  have H3 := Lib.hid (fun w => order_c w b c (by omega) (by omega))
  have H4 := Lib.hid (fun w => order_c w a c (by omega) (by omega))
  have HR := Lib.hid (fun w => rorder_c w a b (by omega) (by omega))
  have HA := Lib.hid awake_c
  have h3 := ordF_three a.data.toList b.data.toList
  have hr3 := ordF_three b.data.toList c.data.toList
  have hr4 := ordF_three a.data.toList c.data.toList
  have ht := ordF_trans a.data.toList b.data.toList c.data.toList
  have hq : (a.toList == b.toList) = decide (a.data.toList = b.data.toList) := by
    rw [toList_data, toList_data]
    by_cases h : a.data.toList = b.data.toList
    · rw [h]; simp
    · rw [decide_eq_false h]; exact beq_eq_false_iff_ne.2 h
  have HB := Lib.hid (Below.refl w.heap.size w)
  have hr3' : ordF b.data.toList c.data.toList = -1 ∨ ordF b.data.toList c.data.toList = 0 ∨ ordF b.data.toList c.data.toList = 1 := by
    rcases hr3 with h | h | h
    · exact .inl h.1
    · exact .inr (.inl h.1)
    · exact .inr (.inr h.1)
  have hr4' : ordF a.data.toList c.data.toList = -1 ∨ ordF a.data.toList c.data.toList = 0 ∨ ordF a.data.toList c.data.toList = 1 := by
    rcases hr4 with h | h | h
    · exact .inl h.1
    · exact .inr (.inl h.1)
    · exact .inr (.inr h.1)
  have h12 : (ordF a.data.toList b.data.toList = -1 ∧ ordF b.data.toList a.data.toList = 1 ∧ decide (a.data.toList = b.data.toList) = false) ∨ (ordF a.data.toList b.data.toList = 0 ∧ ordF b.data.toList a.data.toList = 0 ∧ decide (a.data.toList = b.data.toList) = true) ∨ (ordF a.data.toList b.data.toList = 1 ∧ ordF b.data.toList a.data.toList = -1 ∧ decide (a.data.toList = b.data.toList) = false) := by
    have hne : ∀ z : Int, z ≠ 0 → ordF a.data.toList b.data.toList = z → decide (a.data.toList = b.data.toList) = false := by
      intro z hz he
      refine decide_eq_false fun e => ?_
      rw [← e] at he
      have hs := ordF_three a.data.toList a.data.toList
      rcases hs with h | h | h
      · rw [h.1] at h; simp at h
      · exact hz (he.symm.trans h.1)
      · rw [h.1] at h; simp at h
    rcases h3 with h | h | h
    · exact .inl ⟨h.1, h.2, hne _ (by decide) h.1⟩
    · exact .inr (.inl ⟨h.1, h.2.1, decide_eq_true h.2.2⟩)
    · exact .inr (.inr ⟨h.1, h.2, hne _ (by decide) h.1⟩)
  generalize ordF a.data.toList b.data.toList = r1 at *
  generalize ordF b.data.toList a.data.toList = r2 at *
  generalize ordF b.data.toList c.data.toList = r3 at *
  generalize ordF a.data.toList c.data.toList = r4 at *
  generalize decide (a.data.toList = b.data.toList) = q at *
  clear sa sb sc h3 hr3 hr4
  rcases h12 with ⟨rfl, rfl, rfl⟩ | ⟨rfl, rfl, rfl⟩ | ⟨rfl, rfl, rfl⟩
  · rcases hr3' with rfl | rfl | rfl
    · have h4 := ht (by decide) (by decide)
      rcases hr4' with rfl | rfl | rfl
      · clear ht h4
        go_enter Try.func3, Try.ntmps3
        go_wp2_with (first
          | (go_at_call 6; with_reducible refine (HA.out _).mono ?_; rintro e w' ⟨rfl, hb⟩; have HB := Lib.hid (bel_tr HB.out hb); clear hb)
          | (go_at_call 4; with_reducible refine (H4.out _).mono ?_; rintro e w' ⟨rfl, hb⟩; have HB := Lib.hid (bel_tr HB.out hb); clear hb)
          | (go_at_call 4; with_reducible refine (H3.out _).mono ?_; rintro e w' ⟨rfl, hb⟩; have HB := Lib.hid (bel_tr HB.out hb); clear hb)
          | (go_at_call 4; with_reducible refine (H2.out _).mono ?_; rintro e w' ⟨rfl, hb⟩; have HB := Lib.hid (bel_tr HB.out hb); clear hb)
          | (go_at_call 5; with_reducible refine (HR.out _).mono ?_; rintro e w' ⟨rfl, hb⟩; have HB := Lib.hid (bel_tr HB.out hb); clear hb)
          | (go_at_call 4; with_reducible refine (H1.out _).mono ?_; rintro e w' ⟨rfl, hb⟩; have HB := Lib.hid (bel_tr HB.out hb); clear hb))
        go_ret
        exact ⟨rfl, HB.out⟩
      · clear ht h4
        go_enter Try.func3, Try.ntmps3
        go_wp2_with (first
          | (go_at_call 6; with_reducible refine (HA.out _).mono ?_; rintro e w' ⟨rfl, hb⟩; have HB := Lib.hid (bel_tr HB.out hb); clear hb)
          | (go_at_call 4; with_reducible refine (H4.out _).mono ?_; rintro e w' ⟨rfl, hb⟩; have HB := Lib.hid (bel_tr HB.out hb); clear hb)
          | (go_at_call 4; with_reducible refine (H3.out _).mono ?_; rintro e w' ⟨rfl, hb⟩; have HB := Lib.hid (bel_tr HB.out hb); clear hb)
          | (go_at_call 4; with_reducible refine (H2.out _).mono ?_; rintro e w' ⟨rfl, hb⟩; have HB := Lib.hid (bel_tr HB.out hb); clear hb)
          | (go_at_call 5; with_reducible refine (HR.out _).mono ?_; rintro e w' ⟨rfl, hb⟩; have HB := Lib.hid (bel_tr HB.out hb); clear hb)
          | (go_at_call 4; with_reducible refine (H1.out _).mono ?_; rintro e w' ⟨rfl, hb⟩; have HB := Lib.hid (bel_tr HB.out hb); clear hb))
        go_ret
        exact ⟨rfl, HB.out⟩
      · exact absurd h4 (by decide)
    · have h4 := ht (by decide) (by decide)
      rcases hr4' with rfl | rfl | rfl
      · clear ht h4
        go_enter Try.func3, Try.ntmps3
        go_wp2_with (first
          | (go_at_call 6; with_reducible refine (HA.out _).mono ?_; rintro e w' ⟨rfl, hb⟩; have HB := Lib.hid (bel_tr HB.out hb); clear hb)
          | (go_at_call 4; with_reducible refine (H4.out _).mono ?_; rintro e w' ⟨rfl, hb⟩; have HB := Lib.hid (bel_tr HB.out hb); clear hb)
          | (go_at_call 4; with_reducible refine (H3.out _).mono ?_; rintro e w' ⟨rfl, hb⟩; have HB := Lib.hid (bel_tr HB.out hb); clear hb)
          | (go_at_call 4; with_reducible refine (H2.out _).mono ?_; rintro e w' ⟨rfl, hb⟩; have HB := Lib.hid (bel_tr HB.out hb); clear hb)
          | (go_at_call 5; with_reducible refine (HR.out _).mono ?_; rintro e w' ⟨rfl, hb⟩; have HB := Lib.hid (bel_tr HB.out hb); clear hb)
          | (go_at_call 4; with_reducible refine (H1.out _).mono ?_; rintro e w' ⟨rfl, hb⟩; have HB := Lib.hid (bel_tr HB.out hb); clear hb))
        go_ret
        exact ⟨rfl, HB.out⟩
      · clear ht h4
        go_enter Try.func3, Try.ntmps3
        go_wp2_with (first
          | (go_at_call 6; with_reducible refine (HA.out _).mono ?_; rintro e w' ⟨rfl, hb⟩; have HB := Lib.hid (bel_tr HB.out hb); clear hb)
          | (go_at_call 4; with_reducible refine (H4.out _).mono ?_; rintro e w' ⟨rfl, hb⟩; have HB := Lib.hid (bel_tr HB.out hb); clear hb)
          | (go_at_call 4; with_reducible refine (H3.out _).mono ?_; rintro e w' ⟨rfl, hb⟩; have HB := Lib.hid (bel_tr HB.out hb); clear hb)
          | (go_at_call 4; with_reducible refine (H2.out _).mono ?_; rintro e w' ⟨rfl, hb⟩; have HB := Lib.hid (bel_tr HB.out hb); clear hb)
          | (go_at_call 5; with_reducible refine (HR.out _).mono ?_; rintro e w' ⟨rfl, hb⟩; have HB := Lib.hid (bel_tr HB.out hb); clear hb)
          | (go_at_call 4; with_reducible refine (H1.out _).mono ?_; rintro e w' ⟨rfl, hb⟩; have HB := Lib.hid (bel_tr HB.out hb); clear hb))
        go_ret
        exact ⟨rfl, HB.out⟩
      · exact absurd h4 (by decide)
    · clear ht hr4'
      go_enter Try.func3, Try.ntmps3
      go_wp2_with (first
        | (go_at_call 6; with_reducible refine (HA.out _).mono ?_; rintro e w' ⟨rfl, hb⟩; have HB := Lib.hid (bel_tr HB.out hb); clear hb)
        | (go_at_call 4; with_reducible refine (H4.out _).mono ?_; rintro e w' ⟨rfl, hb⟩; have HB := Lib.hid (bel_tr HB.out hb); clear hb)
        | (go_at_call 4; with_reducible refine (H3.out _).mono ?_; rintro e w' ⟨rfl, hb⟩; have HB := Lib.hid (bel_tr HB.out hb); clear hb)
        | (go_at_call 4; with_reducible refine (H2.out _).mono ?_; rintro e w' ⟨rfl, hb⟩; have HB := Lib.hid (bel_tr HB.out hb); clear hb)
        | (go_at_call 5; with_reducible refine (HR.out _).mono ?_; rintro e w' ⟨rfl, hb⟩; have HB := Lib.hid (bel_tr HB.out hb); clear hb)
        | (go_at_call 4; with_reducible refine (H1.out _).mono ?_; rintro e w' ⟨rfl, hb⟩; have HB := Lib.hid (bel_tr HB.out hb); clear hb))
      go_ret
      exact ⟨rfl, HB.out⟩
  · rcases hr3' with rfl | rfl | rfl
    · have h4 := ht (by decide) (by decide)
      rcases hr4' with rfl | rfl | rfl
      · clear ht h4
        go_enter Try.func3, Try.ntmps3
        go_wp2_with (first
          | (go_at_call 6; with_reducible refine (HA.out _).mono ?_; rintro e w' ⟨rfl, hb⟩; have HB := Lib.hid (bel_tr HB.out hb); clear hb)
          | (go_at_call 4; with_reducible refine (H4.out _).mono ?_; rintro e w' ⟨rfl, hb⟩; have HB := Lib.hid (bel_tr HB.out hb); clear hb)
          | (go_at_call 4; with_reducible refine (H3.out _).mono ?_; rintro e w' ⟨rfl, hb⟩; have HB := Lib.hid (bel_tr HB.out hb); clear hb)
          | (go_at_call 4; with_reducible refine (H2.out _).mono ?_; rintro e w' ⟨rfl, hb⟩; have HB := Lib.hid (bel_tr HB.out hb); clear hb)
          | (go_at_call 5; with_reducible refine (HR.out _).mono ?_; rintro e w' ⟨rfl, hb⟩; have HB := Lib.hid (bel_tr HB.out hb); clear hb)
          | (go_at_call 4; with_reducible refine (H1.out _).mono ?_; rintro e w' ⟨rfl, hb⟩; have HB := Lib.hid (bel_tr HB.out hb); clear hb))
        go_ret
        exact ⟨rfl, HB.out⟩
      · clear ht h4
        go_enter Try.func3, Try.ntmps3
        go_wp2_with (first
          | (go_at_call 6; with_reducible refine (HA.out _).mono ?_; rintro e w' ⟨rfl, hb⟩; have HB := Lib.hid (bel_tr HB.out hb); clear hb)
          | (go_at_call 4; with_reducible refine (H4.out _).mono ?_; rintro e w' ⟨rfl, hb⟩; have HB := Lib.hid (bel_tr HB.out hb); clear hb)
          | (go_at_call 4; with_reducible refine (H3.out _).mono ?_; rintro e w' ⟨rfl, hb⟩; have HB := Lib.hid (bel_tr HB.out hb); clear hb)
          | (go_at_call 4; with_reducible refine (H2.out _).mono ?_; rintro e w' ⟨rfl, hb⟩; have HB := Lib.hid (bel_tr HB.out hb); clear hb)
          | (go_at_call 5; with_reducible refine (HR.out _).mono ?_; rintro e w' ⟨rfl, hb⟩; have HB := Lib.hid (bel_tr HB.out hb); clear hb)
          | (go_at_call 4; with_reducible refine (H1.out _).mono ?_; rintro e w' ⟨rfl, hb⟩; have HB := Lib.hid (bel_tr HB.out hb); clear hb))
        go_ret
        exact ⟨rfl, HB.out⟩
      · exact absurd h4 (by decide)
    · have h4 := ht (by decide) (by decide)
      rcases hr4' with rfl | rfl | rfl
      · clear ht h4
        go_enter Try.func3, Try.ntmps3
        go_wp2_with (first
          | (go_at_call 6; with_reducible refine (HA.out _).mono ?_; rintro e w' ⟨rfl, hb⟩; have HB := Lib.hid (bel_tr HB.out hb); clear hb)
          | (go_at_call 4; with_reducible refine (H4.out _).mono ?_; rintro e w' ⟨rfl, hb⟩; have HB := Lib.hid (bel_tr HB.out hb); clear hb)
          | (go_at_call 4; with_reducible refine (H3.out _).mono ?_; rintro e w' ⟨rfl, hb⟩; have HB := Lib.hid (bel_tr HB.out hb); clear hb)
          | (go_at_call 4; with_reducible refine (H2.out _).mono ?_; rintro e w' ⟨rfl, hb⟩; have HB := Lib.hid (bel_tr HB.out hb); clear hb)
          | (go_at_call 5; with_reducible refine (HR.out _).mono ?_; rintro e w' ⟨rfl, hb⟩; have HB := Lib.hid (bel_tr HB.out hb); clear hb)
          | (go_at_call 4; with_reducible refine (H1.out _).mono ?_; rintro e w' ⟨rfl, hb⟩; have HB := Lib.hid (bel_tr HB.out hb); clear hb))
        go_ret
        exact ⟨rfl, HB.out⟩
      · clear ht h4
        go_enter Try.func3, Try.ntmps3
        go_wp2_with (first
          | (go_at_call 6; with_reducible refine (HA.out _).mono ?_; rintro e w' ⟨rfl, hb⟩; have HB := Lib.hid (bel_tr HB.out hb); clear hb)
          | (go_at_call 4; with_reducible refine (H4.out _).mono ?_; rintro e w' ⟨rfl, hb⟩; have HB := Lib.hid (bel_tr HB.out hb); clear hb)
          | (go_at_call 4; with_reducible refine (H3.out _).mono ?_; rintro e w' ⟨rfl, hb⟩; have HB := Lib.hid (bel_tr HB.out hb); clear hb)
          | (go_at_call 4; with_reducible refine (H2.out _).mono ?_; rintro e w' ⟨rfl, hb⟩; have HB := Lib.hid (bel_tr HB.out hb); clear hb)
          | (go_at_call 5; with_reducible refine (HR.out _).mono ?_; rintro e w' ⟨rfl, hb⟩; have HB := Lib.hid (bel_tr HB.out hb); clear hb)
          | (go_at_call 4; with_reducible refine (H1.out _).mono ?_; rintro e w' ⟨rfl, hb⟩; have HB := Lib.hid (bel_tr HB.out hb); clear hb))
        go_ret
        exact ⟨rfl, HB.out⟩
      · exact absurd h4 (by decide)
    · clear ht hr4'
      go_enter Try.func3, Try.ntmps3
      go_wp2_with (first
        | (go_at_call 6; with_reducible refine (HA.out _).mono ?_; rintro e w' ⟨rfl, hb⟩; have HB := Lib.hid (bel_tr HB.out hb); clear hb)
        | (go_at_call 4; with_reducible refine (H4.out _).mono ?_; rintro e w' ⟨rfl, hb⟩; have HB := Lib.hid (bel_tr HB.out hb); clear hb)
        | (go_at_call 4; with_reducible refine (H3.out _).mono ?_; rintro e w' ⟨rfl, hb⟩; have HB := Lib.hid (bel_tr HB.out hb); clear hb)
        | (go_at_call 4; with_reducible refine (H2.out _).mono ?_; rintro e w' ⟨rfl, hb⟩; have HB := Lib.hid (bel_tr HB.out hb); clear hb)
        | (go_at_call 5; with_reducible refine (HR.out _).mono ?_; rintro e w' ⟨rfl, hb⟩; have HB := Lib.hid (bel_tr HB.out hb); clear hb)
        | (go_at_call 4; with_reducible refine (H1.out _).mono ?_; rintro e w' ⟨rfl, hb⟩; have HB := Lib.hid (bel_tr HB.out hb); clear hb))
      go_ret
      exact ⟨rfl, HB.out⟩
  · clear ht hr3' hr4'
    go_enter Try.func3, Try.ntmps3
    go_wp2_with (first
      | (go_at_call 6; with_reducible refine (HA.out _).mono ?_; rintro e w' ⟨rfl, hb⟩; have HB := Lib.hid (bel_tr HB.out hb); clear hb)
      | (go_at_call 4; with_reducible refine (H4.out _).mono ?_; rintro e w' ⟨rfl, hb⟩; have HB := Lib.hid (bel_tr HB.out hb); clear hb)
      | (go_at_call 4; with_reducible refine (H3.out _).mono ?_; rintro e w' ⟨rfl, hb⟩; have HB := Lib.hid (bel_tr HB.out hb); clear hb)
      | (go_at_call 4; with_reducible refine (H2.out _).mono ?_; rintro e w' ⟨rfl, hb⟩; have HB := Lib.hid (bel_tr HB.out hb); clear hb)
      | (go_at_call 5; with_reducible refine (HR.out _).mono ?_; rintro e w' ⟨rfl, hb⟩; have HB := Lib.hid (bel_tr HB.out hb); clear hb)
      | (go_at_call 4; with_reducible refine (H1.out _).mono ?_; rintro e w' ⟨rfl, hb⟩; have HB := Lib.hid (bel_tr HB.out hb); clear hb))
    go_ret
    exact ⟨rfl, HB.out⟩

-- FRAME
theorem own : ownKnob Try.prog.godebug = none := by kernel_rfl
theorem laidOut : laidOutB Try.prog = true := by kernel_rfl

set_option maxRecDepth 100000 in
theorem lifted (os : Os) (started : os.Started) (H : Type) (enc : TypeId × Value → H) (F : Stop.Interp) :
    ReturnsInHanded {} Try.checked os 3 .any ((Rows.OpenSpec.upto Rows.treeOrdersSpec).pre6 enc Try.prog Try.f3 Rows.treeOrdersUptoRow.domain false) (((Rows.OpenSpec.upto Rows.treeOrdersSpec).at F).post enc Try.prog Try.f3 false true false false) := by
  refine returnsInHanded_of_cond (C := Try.checked) (s := Rows.OpenSpec.upto Rows.treeOrdersSpec) (k := Rows.uptoSmall) rfl own started (by kernel_rfl) Try.func3
    (OpenSpec.witness (enc := enc) (C := Try.checked) (s := Rows.OpenSpec.upto Rows.treeOrdersSpec) (k := Rows.uptoSmall) rfl false ⟨#[], #[.string ByteArray.empty, .string ByteArray.empty, .string ByteArray.empty], []⟩ 8 (by kernel_rfl) (by kernel_rfl) (by kernel_rfl)
      (x := ([.lit (.string []), .lit (.string []), .lit (.string [])], [], [])) (by kernel_rfl) rfl (by kernel_rfl)) ?_
  intro W base args ds gs before hval0 hW _ hk0 _
  have hval : ∀ (j : Nat) t v, Try.f3.params[j]? = some t → args[j]? = some v → Value.okWide Try.prog W .any base t v := hval0
  have hW' := hW
  obtain ⟨p, q, hA0, hV, rfl, hfz, hnd⟩ := hW
  have hA : DataW.TrodAll enc Try.prog W 0 (fun _ => true) true Try.f3.params.toList args.toList ds p := hA0
  rw [Try.params3] at hA hval
  obtain ⟨v0, vs0, d0, ds0, p0, q0, hargs, rfl, rfl, h0, r0⟩ := trodAll_cons hA
  obtain ⟨v1, vs1, d1, ds1, p1, q1, rfl, rfl, rfl, h1, r1⟩ := trodAll_cons r0
  obtain ⟨v2, vs2, d2, ds2, p2, q2, rfl, rfl, rfl, h2, r2⟩ := trodAll_cons r1
  obtain ⟨rfl, rfl, rfl⟩ := trodAll_nil r2
  obtain rfl : args = #[v0, v1, v2] := by cases args; simp_all
  obtain ⟨rfl, rfl⟩ := trodVars_none hV
  have hk := bulk_bound hk0
  simp only [List.append_nil] at hk
  obtain ⟨a0, rfl, rfl, rfl, w0⟩ := open_string Try.underlying9 (hval 0 9 v0 rfl rfl) h0
  have s0 : a0.size ≤ 1048576 := by have := bulk_string _ _ hk (by simp : DataW.lit (.string a0.data.toList) ∈ _); simpa using this
  obtain ⟨a1, rfl, rfl, rfl, w1⟩ := open_string Try.underlying9 (hval 1 9 v1 rfl rfl) h1
  have s1 : a1.size ≤ 1048576 := by have := bulk_string _ _ hk (by simp : DataW.lit (.string a1.data.toList) ∈ _); simpa using this
  obtain ⟨a2, rfl, rfl, rfl, w2⟩ := open_string Try.underlying9 (hval 2 9 v2 rfl rfl) h2
  have s2 : a2.size ≤ 1048576 := by have := bulk_string _ _ hk (by simp : DataW.lit (.string a2.data.toList) ∈ _); simpa using this
  clear hA0 hval0
  refine (walk a0 a1 a2 W s0 s1 s2).mono fun e W' ⟨he, bel⟩ => ?_
  subst he
  exact ⟨_, rfl, _, _, _, [], _, [], hW', trodAll_mk1 (shut_bool Try.underlying4 _), (trodAll_cons_mk (shut_string Try.underlying9 w0) (trodAll_cons_mk (shut_string Try.underlying9 w1) (trodAll_cons_mk (shut_string Try.underlying9 w2) trodAll_mk0))), rfl, bel.frame _, fun h => by cases h⟩

/-- The statement. -/
theorem proved : Rows.TreeOrdersUptoSaid :=
  OpenClaim.holds_of_cond 3 Try.f3 rfl rfl rfl rfl rfl rfl rfl ⟨rfl, rfl, rfl, rfl, rfl⟩ rfl rfl rfl rfl rfl (by kernel_rfl) Try.func3 (by kernel_rfl)
    (of_decide_eq_true (by kernel_rfl)) (by unfold Func.isWrapper; first | (rw [if_pos (by decide +kernel)]; kernel_rfl) | (rw [if_neg (by decide +kernel)]; exact ⟨rfl, rfl⟩))
    (fun os started H enc _ F => lifted os started H enc F)
end Go.Proofs.Ytgkcleblfbecgaa.treeOrders
