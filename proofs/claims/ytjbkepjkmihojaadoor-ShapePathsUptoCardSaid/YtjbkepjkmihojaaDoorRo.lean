/- shape: the reference's Order. -/
import Derived.Test.YtjbkepjkmihojaaDoorRn
namespace Go.Proofs.YtjbkepjkmihojaaDoor
open Go Go.RowKit
set_option linter.unusedVariables false

theorem compareBytes_eq : ∀ (x y : List UInt8), Lib.compareBytes x y = if Op.bytesLess x y = true then -1 else if (!(Op.bytesLess x y || x == y)) = true then 1 else 0
  | [], [] => rfl
  | [], _ :: _ => by simp [Lib.compareBytes, Op.bytesLess]
  | _ :: _, [] => by simp [Lib.compareBytes, Op.bytesLess]
  | a :: x, b :: y => by
    have ih := compareBytes_eq x y
    unfold Lib.compareBytes Op.bytesLess
    by_cases h1 : a < b
    · simp [h1]
    · rw [if_neg h1]
      by_cases h2 : b < a
      · have hne : a ≠ b := by rintro rfl; exact h1 h2
        rw [if_pos h2]
        simp [h1, hne]
      · have he : a = b := by
          have e1 : ¬ a.toNat < b.toNat := h1
          have e2 : ¬ b.toNat < a.toNat := h2
          exact UInt8.toNat_inj.1 (by omega)
        subst he
        rw [if_neg h2, ih]
        simp

set_option maxRecDepth 100000 in
theorem rtexts_c (w : World) (a b : ByteArray) : Calls Tryd.prog 30 #[.string a, .string b] w fun e w' => e = .returned (.int .i64 (Lib.compareBytes a.data.toList b.data.toList)) ∧ w = w' := by
  have HE := Lib.hid (compareBytes_eq a.data.toList b.data.toList)
  rw [← toList_data, ← toList_data] at HE
  rw [← toList_data, ← toList_data]
  obtain ⟨x, hx⟩ : ∃ x, Op.bytesLess a.toList b.toList = x := ⟨_, rfl⟩
  obtain ⟨y, hy⟩ : ∃ y, (a.toList == b.toList) = y := ⟨_, rfl⟩
  rw [hx, hy] at HE
  generalize Lib.compareBytes a.toList b.toList = c at *
  cases x <;> cases y
  all_goals
    go_enter Tryd.func30, Tryd.ntmps30
    go_wp2_with fail
    go_ret
    exact ⟨by rw [HE.out]; rfl, rfl⟩

theorem allF_get (ls : List (List UInt8)) (ps : List PT) (h : allF ls = some ps) (k : Nat) (hk : k < ls.length) (hk' : k < ps.length) : partF ls[k] = some ps[k] := by
  induction ls generalizing ps k with
  | nil => simp at hk
  | cons x r ih =>
    rw [allF] at h
    cases hp : partF x with
    | none => simp [hp] at h
    | some p =>
      cases hr : allF r with
      | none => simp [hp, hr] at h
      | some t =>
        simp [hp, hr] at h
        subst h
        cases k with
        | zero => simpa using hp
        | succ k => simpa using ih t hr k (by simpa using hk) (by simpa using hk')

/-- The reference's Parts and part at a path. -/
theorem rpiece_c (a : ByteArray) (ha : a.size ≤ 2097152) (x : List PT) (hx : readF a.data.toList = some x) (k : Nat) (hk : k < x.length) (hk' : k < (splitD a.data.toList).length) (w : World) :
    Calls Tryd.prog 20 #[.string ⟨((splitD a.data.toList)[k]).toArray⟩] w fun e w' => e = .returned (.tuple #[.string ⟨x[k].1.toArray⟩, .int .i64 x[k].2, .bool true]) ∧ Below w.heap.size w w' := by
  have hs : (⟨((splitD a.data.toList)[k]).toArray⟩ : ByteArray).size ≤ 140737488355328 := by
    have h1 := (splitD_mem a.data.toList _ (List.getElem_mem hk')).1
    rw [size_list] at h1
    show ((splitD a.data.toList)[k]).toArray.size ≤ _
    rw [List.size_toArray]; omega
  refine (rpart_c w _ hs).mono ?_
  rintro e w' ⟨s, n, ok, rfl, h1, h2, h3⟩
  have hp : partF (⟨((splitD a.data.toList)[k]).toArray⟩ : ByteArray).data.toList = some x[k] := allF_get _ _ hx k hk' hk
  rw [hp] at h1 h2
  obtain ⟨rfl, rfl⟩ := h2 _ rfl
  exact ⟨by rw [h1]; rfl, h3⟩
theorem baseV_some (l : List UInt8) (x : List PT) (h : readF l = some x) : baseV l = .tuple #[.string ⟨(joinD (names x)).toArray⟩, .bool true] := by unfold baseV; rw [h]
theorem baseV_none (l : List UInt8) (h : readF l = none) : baseV l = .tuple #[.string ⟨#[]⟩, .bool false] := by unfold baseV; rw [h]
theorem compare_ne (a b : List UInt8) (h : a ≠ b) : Lib.compareBytes a b ≠ 0 := by
  rcases compareBytes_three a b with g | g | g
  · rw [g.1]; decide
  · exact absurd g.2.2 h
  · rw [g.1]; decide

set_option maxRecDepth 100000 in
set_option maxHeartbeats 4000000 in
theorem rorder_no (w : World) (a b : ByteArray) (ha : a.size ≤ 2097152) (hb : b.size ≤ 2097152) (h : readF a.data.toList = none ∨ readF b.data.toList = none) :
    Calls Tryd.prog 16 #[.string a, .string b] w fun e w' => e = .returned (.int .i64 (orderF a.data.toList b.data.toList)) ∧ Below w.heap.size w w' := by
  have HA := fun w => rbase_c w a ha
  have HB := fun w => rbase_c w b hb
  have HT := Lib.hid (fun w => rtexts_c w a b)
  have HO := Lib.hid (show orderF a.data.toList b.data.toList = Lib.compareBytes a.data.toList b.data.toList from by
    unfold orderF
    rcases h with h | h
    · rw [h]
    · rw [h]; cases readF a.data.toList <;> rfl)
  generalize Lib.compareBytes a.data.toList b.data.toList = c at *
  have hA : ∃ s ok, baseV a.data.toList = .tuple #[.string s, .bool ok] ∧ ok = (readF a.data.toList).isSome := by
    unfold baseV; cases readF a.data.toList <;> exact ⟨_, _, rfl, rfl⟩
  have hB : ∃ s ok, baseV b.data.toList = .tuple #[.string s, .bool ok] ∧ ok = (readF b.data.toList).isSome := by
    unfold baseV; cases readF b.data.toList <;> exact ⟨_, _, rfl, rfl⟩
  obtain ⟨sa, oa, ea, eoa⟩ := hA
  obtain ⟨sb, ob, eb, eob⟩ := hB
  rw [ea] at HA
  rw [eb] at HB
  have hoo : oa = false ∨ ob = false := by
    rcases h with h | h
    · left; rw [eoa, h]; rfl
    · right; rw [eob, h]; rfl
  have HAA := Lib.hid HA
  have HBB := Lib.hid HB
  clear HA HB ea eb eoa eob h
  rcases hoo with rfl | rfl
  · go_enter Tryd.func16, Tryd.ntmps16
    go_wp2_with (go_at_call 7; with_reducible refine (HAA.out _).mono ?_; rintro e w1 ⟨rfl, hb1⟩; have H1 := Lib.hid hb1; clear hb1 HAA)
    go_wp2_with (first
      | (go_at_call 7; refine (HBB.out _).mono ?_; rintro e w2 ⟨rfl, hb2⟩; have H2 := Lib.hid (H1.out.trans (hb2.mono H1.out.size)); clear hb2)
      | (go_at_call 30; refine (HT.out _).mono ?_; rintro e w3 ⟨rfl, rfl⟩))
    go_ret
    exact ⟨by rw [HO.out]; rfl, H2.out⟩
  · cases oa
    all_goals
      go_enter Tryd.func16, Tryd.ntmps16
      go_wp2_with (go_at_call 7; with_reducible refine (HAA.out _).mono ?_; rintro e w1 ⟨rfl, hb1⟩; have H1 := Lib.hid hb1; clear hb1 HAA)
      go_wp2_with (first
        | (go_at_call 7; refine (HBB.out _).mono ?_; rintro e w2 ⟨rfl, hb2⟩; have H2 := Lib.hid (H1.out.trans (hb2.mono H1.out.size)); clear hb2)
        | (go_at_call 30; refine (HT.out _).mono ?_; rintro e w3 ⟨rfl, rfl⟩))
      go_ret
      exact ⟨by rw [HO.out]; rfl, H2.out⟩
end Go.Proofs.YtjbkepjkmihojaaDoor
