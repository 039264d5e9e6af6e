/- Cases: what is above a path, both sides. Written by tools/genyj.py. -/
import Derived.Test.YtncloiimbclklaaYi
import Derived.Test.YtncloiimbclklaaVr
namespace Go.Proofs.Ytncloiimbclklaa
open Go Go.RowKit
set_option linter.unusedVariables false
set_option linter.unusedSimpArgs false

/-- What is above a path. -/
def upB (s : ByteArray) : ByteArray := s.extract 0 (max 0 (Lib.lastIndex s.data.toList [47])).toNat
theorem upB_no (s : ByteArray) (h : Lib.lastIndex s.data.toList [47] = -1) : upB s = ByteArray.empty := by unfold upB; rw [h]; show s.extract 0 0 = _; simp
theorem upB_at (s : ByteArray) (k : Nat) (h : Lib.lastIndex s.data.toList [47] = (k : Int)) : upB s = s.extract 0 k := by unfold upB; rw [h, show (max (0 : Int) (k : Int)).toNat = k from by omega]
theorem last47 (s : ByteArray) : Lib.lastIndex s.data.toList [47] = -1 ∨ ∃ k : Nat, Lib.lastIndex s.data.toList [47] = (k : Int) ∧ k ≤ s.size := by
  rcases lastIs_lib s.data.toList 47 with ⟨h, _⟩ | ⟨k, h, hk, _⟩
  · exact .inl h
  · exact .inr ⟨k, h, by rw [size_list] at hk; omega⟩

set_option maxRecDepth 100000 in
theorem upT_c (w : World) (s : ByteArray) (hs : s.size ≤ 140737488355328) : Calls Try.prog 28 #[.string s] w fun e w' => e = .returned (.string (upB s)) ∧ w = w' := by
  have HL := Lib.hid (fun w => Try.strings_LastIndex s ⟨#[47]⟩ (by omega) w)
  rw [show (⟨#[47]⟩ : ByteArray).data.toList = [47] from rfl] at HL
  have HU0 := Lib.hid (upB_no s)
  have HU1 := Lib.hid (upB_at s)
  have hlc := last47 s
  obtain ⟨z, hz⟩ : ∃ z, Lib.lastIndex s.data.toList [47] = z := ⟨_, rfl⟩
  rw [hz] at HU0 HU1 HL hlc
  clear hz
  rcases hlc with rfl | ⟨k, rfl, hk⟩
  · have HX := Lib.hid (HU0.out rfl)
    have hm : max (0 : Int) (-1) = 0 := by decide
    go_enter Try.func28, Try.ntmps28
    go_wp2_with (go_at_call 53; refine (HL.out _).mono ?_; rintro e w' ⟨rfl, rfl⟩)
    go_ret
    exact ⟨by rw [HX.out]; rfl, rfl⟩
  · have HX := Lib.hid (HU1.out k rfl)
    have hm : max (0 : Int) (k : Int) = (k : Int) := by omega
    go_enter Try.func28, Try.ntmps28
    go_wp2_with (go_at_call 53; refine (HL.out _).mono ?_; rintro e w' ⟨rfl, rfl⟩)
    go_ret
    exact ⟨by rw [HX.out]; rfl, rfl⟩

set_option maxRecDepth 100000 in
theorem rupT_c (w : World) (s : ByteArray) (hs : s.size ≤ 140737488355328) : Calls Try.prog 35 #[.string s] w fun e w' => e = .returned (.string (upB s)) ∧ w = w' := by
  have HL := Lib.hid (fun w => rlast_c w s hs 47 _ (lastIs_lib s.data.toList 47))
  have HU0 := Lib.hid (upB_no s)
  have HU1 := Lib.hid (upB_at s)
  have hlc := last47 s
  obtain ⟨z, hz⟩ : ∃ z, Lib.lastIndex s.data.toList [47] = z := ⟨_, rfl⟩
  rw [hz] at HU0 HU1 HL hlc
  clear hz
  rcases hlc with rfl | ⟨k, rfl, hk⟩
  · have HX := Lib.hid (HU0.out rfl)
    have hm : max (0 : Int) (-1) = 0 := by decide
    go_enter Try.func35, Try.ntmps35
    go_wp2_with (go_at_call 55; refine (HL.out _).mono ?_; rintro e w' ⟨rfl, rfl⟩)
    go_ret
    exact ⟨by rw [HX.out]; rfl, rfl⟩
  · have HX := Lib.hid (HU1.out k rfl)
    have hm : max (0 : Int) (k : Int) = (k : Int) := by omega
    go_enter Try.func35, Try.ntmps35
    go_wp2_with (go_at_call 55; refine (HL.out _).mono ?_; rintro e w' ⟨rfl, rfl⟩)
    go_ret
    exact ⟨by rw [HX.out]; rfl, rfl⟩

theorem one_cut47 (s : ByteArray) (h : 0 < s.size) : s.extract 0 1 = ⟨#[s[0]]⟩ := by
  rw [cutTo]
  have := drop_next s 0 h
  rw [List.drop_zero] at this
  rw [this]
  rfl
def slB : List UInt8 → Bool
  | c :: _ => decide (c.toNat = 47)
  | [] => false
set_option maxRecDepth 100000 in
theorem hasSl_c (w : World) (s : ByteArray) (hs : s.size ≤ 9223372036854775807) : Calls Try.prog 57 #[.string s, .string ⟨#[47]⟩] w fun e w' => e = .returned (.bool (slB s.data.toList)) ∧ w = w' := by
  by_cases h0 : s.size < 1
  · have HE := Lib.hid (show slB s.data.toList = false from by rw [show s.data.toList = [] from List.eq_nil_of_length_eq_zero (by rw [size_list]; omega)]; rfl)
    rw [HE.out]
    go_enter Try.func57, Try.ntmps57
    go_wp2
    go_ret
    exact ⟨rfl, rfl⟩
  · have hp : 0 < s.size := by omega
    have h1 : 1 ≤ s.size := by omega
    have hd := drop_next s 0 hp
    simp only [List.drop_zero] at hd
    have HE := Lib.hid (show slB s.data.toList = decide (s[0].toNat = 47) from by rw [hd]; rfl)
    have hl : (s.extract 0 1).toList = [s[0]] := by rw [one_cut47 s hp, ByteArray.toList_eq]
    have hv : ((s.extract 0 1).toList == [47]) = decide (s[0].toNat = 47) := by
      rw [hl]
      by_cases h : s[0].toNat = 47
      · rw [show s[0] = 47 from UInt8.toNat_inj.1 h]; rfl
      · simp [h]; intro h'; apply h; rw [h']; rfl
    rw [HE.out]
    obtain ⟨x, hx⟩ : ∃ x, x = decide (s[0].toNat = 47) := ⟨_, rfl⟩
    rw [← hx] at hv ⊢
    clear h0 hd hl hx HE
    go_enter Try.func57, Try.ntmps57
    go_wp2
    all_goals go_ret
    all_goals trivial

/-- Whether a path is below one. -/
def underB (x up : ByteArray) : Bool := decide (up.size < x.size) && ((x.extract 0 (up.size + 1)).toList == (up ++ ⟨#[47]⟩).toList)
theorem cut_list (s : ByteArray) (k : Nat) : (s.extract 0 k).toList = s.data.toList.take k := by rw [ByteArray.toList_eq, cutTo]
theorem cat_list (u : ByteArray) : (u ++ ⟨#[47]⟩ : ByteArray).toList = u.data.toList ++ [47] := by rw [ByteArray.toList_eq, ByteArray.data_append]; simp
theorem under_no (x u : ByteArray) (h : Lib.hasPrefix x.data.toList u.data.toList = false) : underB x u = false := by
  unfold underB
  rw [cut_list, cat_list, Bool.and_eq_false_iff]
  refine .inr ?_
  rw [beq_eq_false_iff_ne]
  intro e
  have : u.data.toList <+: x.data.toList := by
    refine List.IsPrefix.trans ⟨[47], e.symm ▸ rfl⟩ (List.take_prefix (u.size + 1) x.data.toList)
  unfold Lib.hasPrefix at h
  rw [List.isPrefixOf_iff_prefix.2 this] at h
  cases h
theorem under_yes (x u : ByteArray) (h : Lib.hasPrefix x.data.toList u.data.toList = true) : underB x u = slB (Lib.trimPrefix x.data.toList u.data.toList) := by
  unfold Lib.trimPrefix
  rw [if_pos h]
  unfold Lib.hasPrefix at h
  obtain ⟨t, ht⟩ := List.isPrefixOf_iff_prefix.1 h
  unfold underB
  rw [cut_list, cat_list, ← size_list x, ← size_list u, ← ht, List.drop_left]
  cases t with
  | nil => simp [slB]
  | cons c t =>
    have h1 : (u.data.toList ++ c :: t).take (u.data.toList.length + 1) = u.data.toList ++ [c] := by
      rw [show u.data.toList ++ c :: t = (u.data.toList ++ [c]) ++ t from by simp]
      rw [List.take_left' (by simp)]
    rw [h1, decide_eq_true (by simp), Bool.true_and]
    show _ = decide (c.toNat = 47)
    by_cases hc : c.toNat = 47
    · rw [decide_eq_true hc, show c = 47 from UInt8.toNat_inj.1 hc]; simp
    · rw [decide_eq_false hc, beq_eq_false_iff_ne]
      intro e
      have := List.append_cancel_left e
      simp only [List.cons.injEq, and_true] at this
      exact hc (by rw [this]; rfl)

set_option maxRecDepth 100000 in
theorem runder_c (w : World) (x u : ByteArray) (hx : x.size ≤ 140737488355328) (hu : u.size ≤ 140737488355328) : Calls Try.prog 38 #[.string x, .string u] w fun e w' => e = .returned (.bool (underB x u)) ∧ w = w' := by
  obtain ⟨R, hR⟩ : ∃ R, R = underB x u := ⟨_, rfl⟩
  have HR := Lib.hid hR
  rw [← hR]
  clear hR
  unfold underB at HR
  by_cases h : u.size < x.size
  · have hd : decide (u.size < x.size) = true := decide_eq_true h
    have hd2 : decide ((u.size : Int) < (x.size : Int)) = true := decide_eq_true (by omega)
    have h1 : u.size + 1 ≤ x.size := by omega
    rw [hd, Bool.true_and] at HR
    go_enter Try.func38, Try.ntmps38
    go_wp2_with fail
    go_ret
    exact ⟨by rw [HR.out]; rfl, rfl⟩
  · have hd : decide (u.size < x.size) = false := decide_eq_false h
    have hd2 : decide ((u.size : Int) < (x.size : Int)) = false := decide_eq_false (by omega)
    rw [hd, Bool.false_and] at HR
    go_enter Try.func38, Try.ntmps38
    go_wp2_with fail
    go_ret
    exact ⟨by rw [HR.out]; rfl, rfl⟩
set_option maxRecDepth 100000 in
theorem under_c (w : World) (x u : ByteArray) (hx : x.size ≤ 140737488355328) (hu : u.size ≤ 140737488355328) : Calls Try.prog 37 #[.string x, .string u] w fun e w' => e = .returned (.bool (underB x u)) ∧ w = w' := by
  have HC := Lib.hid (fun w => Try.strings_CutPrefix x u w)
  have HL : (Lib.trimPrefix x.data.toList u.data.toList).length ≤ x.size := by
    unfold Lib.trimPrefix
    rw [← size_list]
    split
    · rw [List.length_drop]; omega
    · exact Nat.le_refl _
  have HS := Lib.hid (fun w => hasSl_c w ⟨(Lib.trimPrefix x.data.toList u.data.toList).toArray⟩ (by show (Lib.trimPrefix x.data.toList u.data.toList).toArray.size ≤ _; rw [List.size_toArray]; omega))
  have HN := Lib.hid (under_no x u)
  have HY := Lib.hid (under_yes x u)
  rw [show (⟨(Lib.trimPrefix x.data.toList u.data.toList).toArray⟩ : ByteArray).data.toList = Lib.trimPrefix x.data.toList u.data.toList from by simp] at HS
  obtain ⟨q, hq⟩ : ∃ q, Lib.hasPrefix x.data.toList u.data.toList = q := ⟨_, rfl⟩
  rw [hq] at HC HN HY
  clear hq HL
  generalize slB (Lib.trimPrefix x.data.toList u.data.toList) = r at *
  generalize (⟨(Lib.trimPrefix x.data.toList u.data.toList).toArray⟩ : ByteArray) = t at *
  cases q
  · have HX := Lib.hid (HN.out rfl)
    go_enter Try.func37, Try.ntmps37
    go_wp2_with (go_at_call 56; refine (HC.out _).mono ?_; rintro e w' ⟨rfl, rfl⟩)
    go_ret
    exact ⟨by rw [HX.out]; rfl, rfl⟩
  · have HX := Lib.hid (HY.out rfl)
    go_enter Try.func37, Try.ntmps37
    go_wp2_with (first
      | (go_at_call 56; refine (HC.out _).mono ?_; rintro e w' ⟨rfl, rfl⟩)
      | (go_at_call 57; refine (HS.out _).mono ?_; rintro e w' ⟨rfl, rfl⟩))
    go_ret
    exact ⟨by rw [HX.out]; rfl, rfl⟩
end Go.Proofs.Ytncloiimbclklaa
