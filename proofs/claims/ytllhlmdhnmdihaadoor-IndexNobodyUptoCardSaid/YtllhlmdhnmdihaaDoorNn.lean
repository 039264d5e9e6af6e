/- chars.numeral and Number. -/
import Derived.Test.YtllhlmdhnmdihaaDoorNt
namespace Go.Proofs.YtllhlmdhnmdihaaDoor
open Go.RowKit
set_option linter.unusedVariables false

/-- The bytes of a text. -/
def tb (s : ByteArray) : List UInt8 := s.data.toList
theorem tb_length (s : ByteArray) : (tb s).length = s.size := by simp [tb]
theorem tb_get (s : ByteArray) (k : Nat) (h : k < s.size) : s[k] = (tb s)[k]'(by rw [tb_length]; exact h) := rfl
theorem tb_drop (s : ByteArray) (k : Nat) (h : k < s.size) : (tb s).drop k = s[k] :: (tb s).drop (k + 1) := by
  rw [tb_get s k h]
  exact List.drop_eq_getElem_cons _

theorem all_drop {l : List UInt8} {k : Nat} {x : UInt8} {r : List UInt8} (hk : (l.take k).all isDig = true) (hd : l.drop k = x :: r) : (l.take (k + 1)).all isDig = isDig x ∧ l.all isDig = (isDig x && r.all isDig) := by
  have hlt : k < l.length := by
    rcases Nat.lt_or_ge k l.length with h | h
    · exact h
    · simp [List.drop_of_length_le h] at hd
  have e : l.take (k + 1) = l.take k ++ [x] := by
    rw [List.take_succ_eq_append_getElem hlt]
    have h2 := List.drop_eq_getElem_cons hlt
    rw [hd] at h2
    rw [(List.cons.inj h2).1]
  have e2 : l = l.take k ++ (x :: r) := by rw [← hd, List.take_append_drop]
  constructor
  · rw [e]; simp [hk]
  · rw [e2]; simp only [List.all_append, List.all_cons, hk, Bool.true_and]

set_option maxRecDepth 100000 in
set_option maxHeartbeats 2000000 in
theorem numeral_c (w : World) (s : ByteArray) (hs : s.size ≤ 9223372036854775807) : Calls Tryd.prog 58 #[.string s] w fun e w' => e = .returned (.bool (numeral (tb s))) ∧ w = w' := by
  have htl : s.toList = tb s := Go.ByteArray.toList_eq s
  have HTL := Lib.hid htl
  by_cases h0 : s.size = 0
  · have he : tb s = [] := List.eq_nil_of_length_eq_zero (by rw [tb_length]; exact h0)
    have tE : s.toList.isEmpty = true := by rw [htl, he]; rfl
    have HE := Lib.hid (show numeral (tb s) = false from by rw [he]; rfl)
    have hsz : s.size ≤ 0 := by omega
    clear h0 he htl
    go_enter Tryd.func58, Tryd.ntmps58
    go_wp2_with fail
    all_goals go_ret
    all_goals exact ⟨by rw [HE.out]; rfl, rfl⟩
  · have hp : 0 < s.size := by omega
    have hcons := tb_drop s 0 hp
    simp only [List.drop_zero] at hcons
    have tE : s.toList.isEmpty = false := by rw [htl, hcons]; rfl
    have HTB := Lib.hid hcons
    have hlen := tb_length s
    have HLEN := Lib.hid hlen
    clear h0 htl hcons hlen
    by_cases hz : s[0].toNat = 48 ∧ ¬ tb s = [48]
    · have h48 : ((s[0].toNat : Int) == 48) = true := by simp; omega
      have tz : (s.toList == [48]) = false := by rw [HTL.out]; simpa using hz.2
      have HE := Lib.hid (show numeral (tb s) = false from by
        unfold numeral
        have e0 : s[0] = 48 := UInt8.toNat_inj.1 hz.1
        rw [show (tb s == [48]) = false from by simpa using hz.2, HTB.out, e0]
        simp)
      clear hz
      go_enter Tryd.func58, Tryd.ntmps58
      go_wp2_with fail
      all_goals go_ret
      all_goals exact ⟨by rw [HE.out]; rfl, rfl⟩
    · have HE := Lib.hid (show numeral (tb s) = (tb s).all isDig from by
        unfold numeral
        by_cases h : tb s = [48]
        · rw [h]; rfl
        · have h48 : s[0].toNat ≠ 48 := fun e => hz ⟨e, h⟩
          have hne : s[0] ≠ 48 := fun e => h48 (by rw [e]; rfl)
          rw [show (tb s == [48]) = false from by simpa using h, HTB.out]
          simp [hne])
      have hcase : s[0].toNat ≠ 48 ∨ (s[0].toNat = 48 ∧ tb s = [48]) := by
        by_cases h : s[0].toNat = 48
        · exact .inr ⟨h, Classical.not_not.1 fun h' => hz ⟨h, h'⟩⟩
        · exact .inl h
      clear hz
      rcases hcase with hc | ⟨hc, hc2⟩
      · have h48 : ((s[0].toNat : Int) == 48) = false := by simp; omega
        clear hc
        go_enter Tryd.func58, Tryd.ntmps58
        go_wp2_with fail
        go_loop [17] (fun i => ∃ k : Nat, k ≤ s.size ∧ i = .int .i64 k ∧ ((tb s).take k).all isDig = true) (fun i => s.size - (intOf i).toNat)
        case atStart => exact ⟨0, by omega, rfl, rfl⟩
        case round =>
          obtain ⟨k, hk, rfl, ha⟩ := hrel
          have HA := Lib.hid ha
          clear ha
          by_cases hlt : k < s.size
          · have HD := Lib.hid (all_drop HA.out (tb_drop s k hlt))
            have hb := (s[k]).toNat_lt
            by_cases hd : isDig s[k] = true
            · have hd' : 48 ≤ s[k].toNat ∧ s[k].toNat ≤ 57 := by simpa [isDig] using hd
              obtain ⟨d1, d2⟩ := hd'
              have HN := Lib.hid (show ((tb s).take (k + 1)).all isDig = true from by rw [HD.out.1]; exact hd)
              clear hd
              go_wp2_with fail
              exact ⟨⟨k + 1, by omega, by go_num, HN.out⟩, by simp [intOf]; omega⟩
            · have hd' : s[k].toNat < 48 ∨ 57 < s[k].toNat := by simp [isDig] at hd; omega
              have HN := Lib.hid (show (tb s).all isDig = false from by rw [HD.out.2]; simp [hd])
              clear hd
              rcases hd' with hd' | hd'
              all_goals
                go_wp2_with fail
                all_goals go_ret
                all_goals exact ⟨by rw [HE.out, HN.out]; rfl, rfl⟩
          · have HN := Lib.hid (show (tb s).all isDig = true from by rw [← HA.out, List.take_of_length_le (by rw [tb_length]; omega)])
            go_wp2_with fail
            all_goals go_ret
            all_goals exact ⟨by rw [HE.out, HN.out]; rfl, rfl⟩
      · have h48 : ((s[0].toNat : Int) == 48) = true := by simp; omega
        have tz : (s.toList == [48]) = true := by rw [HTL.out]; simpa using hc2
        clear hc hc2
        go_enter Tryd.func58, Tryd.ntmps58
        go_wp2_with fail
        go_loop [17] (fun i => ∃ k : Nat, k ≤ s.size ∧ i = .int .i64 k ∧ ((tb s).take k).all isDig = true) (fun i => s.size - (intOf i).toNat)
        case atStart => exact ⟨0, by omega, rfl, rfl⟩
        case round =>
          obtain ⟨k, hk, rfl, ha⟩ := hrel
          have HA := Lib.hid ha
          clear ha
          by_cases hlt : k < s.size
          · have HD := Lib.hid (all_drop HA.out (tb_drop s k hlt))
            have hb := (s[k]).toNat_lt
            by_cases hd : isDig s[k] = true
            · have hd' : 48 ≤ s[k].toNat ∧ s[k].toNat ≤ 57 := by simpa [isDig] using hd
              obtain ⟨d1, d2⟩ := hd'
              have HN := Lib.hid (show ((tb s).take (k + 1)).all isDig = true from by rw [HD.out.1]; exact hd)
              clear hd
              go_wp2_with fail
              exact ⟨⟨k + 1, by omega, by go_num, HN.out⟩, by simp [intOf]; omega⟩
            · have hd' : s[k].toNat < 48 ∨ 57 < s[k].toNat := by simp [isDig] at hd; omega
              have HN := Lib.hid (show (tb s).all isDig = false from by rw [HD.out.2]; simp [hd])
              clear hd
              rcases hd' with hd' | hd'
              all_goals
                go_wp2_with fail
                all_goals go_ret
                all_goals exact ⟨by rw [HE.out, HN.out]; rfl, rfl⟩
          · have HN := Lib.hid (show (tb s).all isDig = true from by rw [← HA.out, List.take_of_length_le (by rw [tb_length]; omega)])
            go_wp2_with fail
            all_goals go_ret
            all_goals exact ⟨by rw [HE.out, HN.out]; rfl, rfl⟩
end Go.Proofs.YtllhlmdhnmdihaaDoor
