/- shape: Order, Join, Up, Last, Base. -/
import Derived.Test.YtjbkepjkmihojaaDoorQc
import Derived.Test.YtjbkepjkmihojaaDoorNu
import Derived.Test.YtjbkepjkmihojaaDoorShelj
namespace Go.Proofs.YtjbkepjkmihojaaDoor
open Go Go.RowKit Go.Shelf
set_option linter.unusedVariables false

/-- read, where the text is a path. -/
theorem read_some (a : ByteArray) (ha : a.size ≤ 2097152) (x : List PT) (hx : readF a.data.toList = some x) (w : World) :
    Calls Tryd.prog 17 #[.string a] w fun e w' => ∃ v, e = .returned (.tuple #[v, .bool true]) ∧ OwnS w' w.heap.size 38 2 v x.length (pcells x) ∧ Below w.heap.size w w' := by
  refine (read_c a ha w).mono ?_
  rintro e w' ⟨v, rfl, h1, h2⟩
  exact ⟨v, by rw [hx]; rfl, OwnS.ofRow (h1 x hx), h2⟩
theorem read_none (a : ByteArray) (ha : a.size ≤ 2097152) (hx : readF a.data.toList = none) (w : World) :
    Calls Tryd.prog 17 #[.string a] w fun e w' => ∃ v, e = .returned (.tuple #[v, .bool false]) ∧ Below w.heap.size w w' := by
  refine (read_c a ha w).mono ?_
  rintro e w' ⟨v, rfl, h1, h2⟩
  exact ⟨v, by rw [hx]; rfl, h2⟩
theorem read_len (a : ByteArray) (ha : a.size ≤ 2097152) (x : List PT) (hx : readF a.data.toList = some x) : x.length ≤ 2097153 := by
  have h1 := allF_length _ _ hx
  have h2 := splitD_length a.data.toList
  have h3 : a.data.toList.length = a.size := Array.length_toList
  omega

set_option maxRecDepth 100000 in
set_option maxHeartbeats 4000000 in
theorem order_c (w : World) (a b : ByteArray) (ha : a.size ≤ 2097152) (hb : b.size ≤ 2097152) : Calls Tryd.prog 15 #[.string a, .string b] w fun e w' => e = .returned (.int .i64 (orderF a.data.toList b.data.toList)) ∧ Below w.heap.size w w' := by
  have HS := Lib.hid (fun w => Tryd.strings_Compare a b w)
  cases hx : readF a.data.toList with
  | none =>
    have HR := Lib.hid (fun w => read_none a ha hx w)
    have HO := Lib.hid (show orderF a.data.toList b.data.toList = Lib.compareBytes a.data.toList b.data.toList from by unfold orderF; rw [hx])
    have HT : Hid (∀ w, Calls Tryd.prog 17 #[.string b] w fun e w' => ∃ v ok, e = .returned (.tuple #[v, .bool ok]) ∧ Below w.heap.size w w') :=
      Lib.hid (fun w => (read_c b hb w).mono fun e w' ⟨v, h1, _, h2⟩ => ⟨v, _, h1, h2⟩)
    generalize Lib.compareBytes a.data.toList b.data.toList = c at *
    clear hx
    go_enter Tryd.func15, Tryd.ntmps15
    go_wp2_with (go_at_call 17; refine (HR.out _).mono ?_; rintro e w1 ⟨v1, rfl, hb1⟩; have HB1 := Lib.hid hb1; clear hb1 HR)
    go_wp2_with (first
      | (go_at_call 17; refine (HT.out _).mono ?_; rintro e w2 ⟨v2, ok, rfl, hb2⟩; have HB2 := Lib.hid (HB1.out.trans (hb2.mono HB1.out.size)); clear hb2)
      | (go_at_call 25; refine (HS.out _).mono ?_; rintro e w3 ⟨rfl, rfl⟩))
    go_ret
    exact ⟨by rw [HO.out]; rfl, HB2.out⟩
  | some x =>
    have HR := Lib.hid (fun w => read_some a ha x hx w)
    cases hy : readF b.data.toList with
    | none =>
      have HT := Lib.hid (fun w => read_none b hb hy w)
      have HO := Lib.hid (show orderF a.data.toList b.data.toList = Lib.compareBytes a.data.toList b.data.toList from by unfold orderF; rw [hx, hy])
      generalize Lib.compareBytes a.data.toList b.data.toList = c at *
      clear hx hy
      go_enter Tryd.func15, Tryd.ntmps15
      go_wp2_with (go_at_call 17; refine (HR.out _).mono ?_; rintro e w1 ⟨v1, rfl, _, hb1⟩; have HB1 := Lib.hid hb1; clear hb1 HR)
      go_wp2_with (first
        | (go_at_call 17; refine (HT.out _).mono ?_; rintro e w2 ⟨v2, rfl, hb2⟩; have HB2 := Lib.hid (HB1.out.trans (hb2.mono HB1.out.size)); clear hb2)
        | (go_at_call 25; refine (HS.out _).mono ?_; rintro e w3 ⟨rfl, rfl⟩))
      go_ret
      exact ⟨by rw [HO.out]; rfl, HB2.out⟩
    | some y =>
      have HT := Lib.hid (fun w => read_some b hb y hy w)
      have HO := Lib.hid (show orderF a.data.toList b.data.toList = cmpQ x y from by unfold orderF; rw [hx, hy])
      have lx := read_len a ha x hx
      have ly := read_len b hb y hy
      have HC := Lib.hid (fun (w : World) (b1 b2 : Nat) (v1 v2 : Value) (h1 : OwnS w b1 38 2 v1 x.length (pcells x)) (h2 : OwnS w b2 38 2 v2 y.length (pcells y)) => compare_c w b1 b2 v1 v2 x y h1 h2 (by omega) (by omega))
      generalize cmpQ x y = c at *
      clear hx hy lx ly
      go_enter Tryd.func15, Tryd.ntmps15
      go_wp2_with (go_at_call 17; refine (HR.out _).mono ?_; rintro e w1 ⟨v1, rfl, ho1, hb1⟩; have HB1 := Lib.hid hb1; have HO1 := Lib.hid ho1; clear ho1 hb1 HR)
      go_wp2_with (first
        | (go_at_call 17; refine (HT.out _).mono ?_; rintro e w2 ⟨v2, rfl, ho2, hb2⟩; have HO2 := Lib.hid ho2; have HO1' := Lib.hid (HO1.out.below hb2); have HB2 := Lib.hid (HB1.out.trans (hb2.mono HB1.out.size)); clear hb2 ho2)
        | (go_at_call 26; refine (HC.out _ _ _ _ _ HO1'.out HO2.out).mono ?_; rintro e w3 ⟨rfl, hb3⟩; have HB3 := Lib.hid (HB2.out.trans (hb3.mono HB2.out.size)); clear hb3))
      go_ret
      exact ⟨by rw [HO.out]; rfl, HB3.out⟩

/-! ### Join -/
theorem catB (a b : ByteArray) : (a ++ b).data.toList = a.data.toList ++ b.data.toList := by simp [ByteArray.data_append]
theorem joinB (up name t : ByteArray) (n : Int) (ht : t = ⟨(txt n).toArray⟩) :
    (up.size = 0 → joinF up.data.toList name.data.toList n = (name ++ ⟨#[35]⟩ ++ t).data.toList) ∧ (0 < up.size → joinF up.data.toList name.data.toList n = (up ++ ⟨#[46]⟩ ++ (name ++ ⟨#[35]⟩ ++ t)).data.toList) := by
  have htt : t.data.toList = txt n := by rw [ht]
  constructor
  · intro h
    have : up.data.toList = [] := List.eq_nil_of_length_eq_zero (by rw [size_list]; exact h)
    unfold joinF
    rw [if_pos this, catB, catB, htt]
    simp
  · intro h
    have : up.data.toList ≠ [] := fun e => by have := size_list up; rw [e] at this; simp at this; omega
    unfold joinF
    rw [if_neg this, catB, catB, catB, catB, htt]
    simp
theorem list_of (s : ByteArray) (l : List UInt8) (h : l = s.data.toList) : (⟨l.toArray⟩ : ByteArray) = s := by rw [h]

set_option maxRecDepth 100000 in
theorem join_c (w : World) (up name : ByteArray) (n : Int) (hu : up.size ≤ 140737488351232) (hn : name.size ≤ 140737488351232) (h1 : -9223372036854775808 ≤ n) (h2 : n ≤ 9223372036854775807) :
    Calls Tryd.prog 12 #[.string up, .string name, .int .i64 n] w fun e w' => e = .returned (.string ⟨(joinF up.data.toList name.data.toList n).toArray⟩) ∧ Below w.heap.size w w' := by
  have ht := txt_size 0 n h1 h2
  have HT := fun w => text_c w n h1 h2
  obtain ⟨t, htt⟩ : ∃ t : ByteArray, t = ⟨(txt n).toArray⟩ := ⟨_, rfl⟩
  rw [← htt] at HT
  have hts : t.size ≤ 25 := by rw [htt]; show (txt n).toArray.size ≤ 25; rw [List.size_toArray]; exact ht
  have HJ := Lib.hid (joinB up name t n htt)
  have HT' := Lib.hid HT
  clear HT htt ht
  by_cases h0 : up.size = 0
  · have hl0 : up.data.toList = [] := List.eq_nil_of_length_eq_zero (by rw [size_list]; exact h0)
    have he : up.toList.isEmpty = true := by rw [toList_data, hl0]; rfl
    have he' : up.toList = [] := by rw [toList_data, hl0]
    clear hl0
    have HL := Lib.hid (list_of _ _ (HJ.out.1 h0))
    go_enter Tryd.func12, Tryd.ntmps12
    go_wp2_with (go_at_call 23; refine (HT'.out _).mono ?_; rintro e w1 ⟨rfl, hb⟩; have HB := Lib.hid hb; clear hb)
    go_ret
    exact ⟨by rw [HL.out]; rfl, HB.out⟩
  · have he : up.toList.isEmpty = false := by
      rw [toList_data]
      have h := drop_next up 0 (by omega)
      simp only [List.drop_zero] at h
      rw [h]; rfl
    have HL := Lib.hid (list_of _ _ (HJ.out.2 (by omega)))
    go_enter Tryd.func12, Tryd.ntmps12
    go_wp2_with (go_at_call 23; refine (HT'.out _).mono ?_; rintro e w1 ⟨rfl, hb⟩; have HB := Lib.hid hb; clear hb)
    go_ret
    exact ⟨by rw [HL.out]; rfl, HB.out⟩
end Go.Proofs.YtjbkepjkmihojaaDoor
