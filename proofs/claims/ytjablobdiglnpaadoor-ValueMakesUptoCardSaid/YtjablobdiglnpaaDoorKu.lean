/- The reference's Quote; Print on both sides. -/
import Derived.Test.YtjablobdiglnpaaDoorKt
namespace Go.Proofs.YtjablobdiglnpaaDoor
open Go.RowKit
set_option linter.unusedVariables false

theorem one_cut (s : ByteArray) (k : Nat) (h : k < s.size) : s.extract k (k + 1) = ⟨[s[k]].toArray⟩ := by
  apply ByteArray.ext
  rw [ByteArray.data_extract]
  apply Array.toList_inj.1
  have hl : k < s.data.toList.length := by rw [Array.length_toList]; exact h
  rw [Array.toList_extract, List.extract_eq_take_drop]
  have := List.drop_eq_getElem_cons hl
  rw [this]
  have e : k + 1 - k = 1 := by omega
  simp [e]
  rfl

set_option maxRecDepth 100000 in
set_option maxHeartbeats 2000000 in
theorem rquote_c (w : World) (s : ByteArray) (hs : s.size ≤ 1048576) : Calls Tryd.prog 37 #[.string s] w fun e w' => e = .returned (.string ⟨(quoteL s.data.toList).toArray⟩) ∧ w = w' := by
  go_enter Tryd.func37, Tryd.ntmps37
  go_wp2_with fail
  go_loop [3, 7] (fun o i => ∃ k : Nat, k ≤ s.size ∧ i = .int .i64 k ∧ o = .string ⟨(34 :: qs (s.data.toList.take k)).toArray⟩) (fun _ i => s.size - (intOf i).toNat)
  case atStart => exact ⟨0, by omega, rfl, rfl⟩
  case round =>
    obtain ⟨k, hk, rfl, rfl⟩ := hrel
    have hL : (34 :: qs (s.data.toList.take k)).length ≤ 2097200 := by
      have := qs_len (s.data.toList.take k)
      rw [List.length_take] at this
      simp only [List.length_cons]
      omega
    by_cases hlt : k < s.size
    · have HN := Lib.hid (qs_next s k hlt)
      have HC := Lib.hid (one_cut s k hlt)
      obtain ⟨l, hl⟩ : ∃ l, l = 34 :: qs (s.data.toList.take k) := ⟨_, rfl⟩
      have HLL := Lib.hid hl
      rw [← hl] at hL ⊢
      have hsz : (⟨l.toArray⟩ : ByteArray).size = l.length := by simp [ByteArray.size]
      have hsz2 : (⟨l.toArray⟩ : ByteArray).size ≤ 2097200 := by omega
      have hc8 := (s[k]).toNat_lt
      clear hl hsz
      by_cases hq : s[k] = 34 ∨ s[k] = 92
      · have HQ := Lib.hid (show qc s[k] = [92] ++ [s[k]] from by unfold qc; rw [if_pos hq]; rfl)
        have hv : s[k].toNat = 34 ∨ (s[k].toNat = 92 ∧ ((s[k].toNat : Int) == 34) = false) := by
          rcases hq with h | h
          · left; rw [h]; rfl
          · right; rw [h]; exact ⟨rfl, rfl⟩
        clear hq
        rcases hv with hv | ⟨hv, hv2⟩
        · have t1 : ((s[k].toNat : Int) == 34) = true := by rw [hv]; rfl
          clear hv
          go_wp2_with fail
          exact ⟨⟨k + 1, by omega, by go_num, by rw [HC.out, HN.out, HQ.out, show (34 :: (qs (List.take k s.data.toList) ++ ([92] ++ [s[k]]))) = (l ++ [92]) ++ [s[k]] from by rw [HLL.out]; simp, ← cat, ← cat]⟩, by simp [intOf]; omega⟩
        · have t1 : ((s[k].toNat : Int) == 92) = true := by rw [hv]; rfl
          clear hv
          go_wp2_with fail
          exact ⟨⟨k + 1, by omega, by go_num, by rw [HC.out, HN.out, HQ.out, show (34 :: (qs (List.take k s.data.toList) ++ ([92] ++ [s[k]]))) = (l ++ [92]) ++ [s[k]] from by rw [HLL.out]; simp, ← cat, ← cat]⟩, by simp [intOf]; omega⟩
      · have HQ := Lib.hid (show qc s[k] = [s[k]] from by unfold qc; rw [if_neg hq])
        have t1 : ((s[k].toNat : Int) == 34) = false := by
          simp only [beq_eq_false_iff_ne, ne_eq]; intro h; apply hq; left; exact UInt8.toNat_inj.1 (show s[k].toNat = 34 by omega)
        have t2 : ((s[k].toNat : Int) == 92) = false := by
          simp only [beq_eq_false_iff_ne, ne_eq]; intro h; apply hq; right; exact UInt8.toNat_inj.1 (show s[k].toNat = 92 by omega)
        clear hq
        go_wp2_with fail
        exact ⟨⟨k + 1, by omega, by go_num, by rw [HC.out, HN.out, HQ.out, show (34 :: (qs (List.take k s.data.toList) ++ [s[k]])) = l ++ [s[k]] from by rw [HLL.out]; simp, ← cat]⟩, by simp [intOf]; omega⟩
    · obtain rfl : k = s.size := by omega
      rw [take_all] at hL ⊢
      obtain ⟨l, hl⟩ : ∃ l, l = 34 :: qs s.data.toList := ⟨_, rfl⟩
      have HLL := Lib.hid hl
      rw [← hl] at hL ⊢
      have hsz : (⟨l.toArray⟩ : ByteArray).size = l.length := by simp [ByteArray.size]
      have hsz2 : (⟨l.toArray⟩ : ByteArray).size ≤ 2097200 := by omega
      clear hl hsz
      go_wp2_with fail
      go_ret
      exact ⟨by unfold quoteL; rw [show (34 :: (qs s.data.toList ++ [34])) = l ++ [34] from by rw [HLL.out]; simp, ← cat]; rfl, rfl⟩

/-! ### Print -/
/-- A value as an expression has it. -/
def printL (v : Vl) : List UInt8 :=
  if v.k = 1 then txt v.n
  else if v.k = 2 then (if v.y = true then [116, 114, 117, 101] else [102, 97, 108, 115, 101])
  else if v.k = 3 then quoteL v.s.data.toList
  else []
theorem pow20 (n : Int) (h : -9223372036854775808 ≤ n ∧ n ≤ 9223372036854775807) : n.natAbs < 10 ^ (19 + 1) := by
  have : (10 : Nat) ^ (19 + 1) = 100000000000000000000 := rfl
  rw [this]
  omega
section
variable (w : World) (k n : Int) (y : Bool) (s : ByteArray) (hn : -9223372036854775808 ≤ n ∧ n ≤ 9223372036854775807) (hs : s.size ≤ 1048576)
include hn hs
set_option maxRecDepth 100000 in
theorem print_c : Calls Tryd.prog 19 #[.agg #[.int .i64 k, .int .i64 n, .bool y, .string s]] w fun e w' => e = .returned (.string ⟨(printL ⟨k, n, y, s⟩).toArray⟩) ∧ Below w.heap.size w w' := by
  have HB := Lib.hid (fun (o : Obj) => box_below w o)
  rcases (by omega : k = 1 ∨ k = 2 ∨ k = 3 ∨ (k ≠ 1 ∧ k ≠ 2 ∧ k ≠ 3)) with rfl | rfl | rfl | h
  · have HP := Lib.hid (show printL ⟨1, n, y, s⟩ = txt n from rfl)
    rw [HP.out]
    have HC := Lib.hid (fun w => text_c w n hn.1 hn.2)
    clear hn hs
    go_enter Tryd.func19, Tryd.ntmps19
    go_wp2_with fail
    refine (HC.out _).mono ?_
    rintro e w2 ⟨rfl, hb⟩
    have HX := Lib.hid ((HB.out _).trans (hb.mono (by simp)))
    clear hb
    go_wp2_with fail
    go_ret
    exact ⟨rfl, HX.out⟩
  · have HP := Lib.hid (show printL ⟨2, n, y, s⟩ = if y = true then [116, 114, 117, 101] else [102, 97, 108, 115, 101] from rfl)
    rw [HP.out]
    clear hn hs HP
    cases y
    all_goals
      go_enter Tryd.func19, Tryd.ntmps19
      go_wp2_with fail
      go_ret
      exact ⟨rfl, HB.out _⟩
  · have HP := Lib.hid (show printL ⟨3, n, y, s⟩ = quoteL s.data.toList from rfl)
    rw [HP.out]
    have HC := Lib.hid (fun w => quoted_c w s hs)
    clear hn hs
    go_enter Tryd.func19, Tryd.ntmps19
    go_wp2_with fail
    refine (HC.out _).mono ?_
    rintro e w2 ⟨rfl, hb⟩
    have HX := Lib.hid ((HB.out _).trans (hb.mono (by simp)))
    clear hb
    go_wp2_with fail
    go_ret
    exact ⟨rfl, HX.out⟩
  · have HP := Lib.hid (show printL ⟨k, n, y, s⟩ = [] from by unfold printL; rw [if_neg h.1, if_neg h.2.1, if_neg h.2.2])
    rw [HP.out]
    have t1 : (k == 1) = false := by simp; omega
    have t2 : (k == 2) = false := by simp; omega
    have t3 : (k == 3) = false := by simp; omega
    clear hn hs h
    go_enter Tryd.func19, Tryd.ntmps19
    go_wp2_with fail
    go_ret
    exact ⟨rfl, HB.out _⟩

set_option maxRecDepth 100000 in
theorem rprint_c : Calls Tryd.prog 20 #[.agg #[.int .i64 k, .int .i64 n, .bool y, .string s]] w fun e w' => e = .returned (.string ⟨(printL ⟨k, n, y, s⟩).toArray⟩) ∧ Below w.heap.size w w' := by
  have HB := Lib.hid (fun (o : Obj) => box_below w o)
  rcases (by omega : k = 1 ∨ k = 2 ∨ k = 3 ∨ (k ≠ 1 ∧ k ≠ 2 ∧ k ≠ 3)) with rfl | rfl | rfl | h
  · have HP := Lib.hid (show printL ⟨1, n, y, s⟩ = txt n from rfl)
    rw [HP.out]
    have HC := Lib.hid (fun w => rtext_c 19 n w (pow20 n hn) hn.1 hn.2)
    clear hn hs
    go_enter Tryd.func20, Tryd.ntmps20
    go_wp2_with fail
    refine (HC.out _).mono ?_
    rintro e w2 ⟨rfl, rfl⟩
    go_wp2_with fail
    go_ret
    exact ⟨rfl, HB.out _⟩
  · have HP := Lib.hid (show printL ⟨2, n, y, s⟩ = if y = true then [116, 114, 117, 101] else [102, 97, 108, 115, 101] from rfl)
    rw [HP.out]
    clear hn hs HP
    cases y
    all_goals
      go_enter Tryd.func20, Tryd.ntmps20
      go_wp2_with fail
      go_ret
      exact ⟨rfl, HB.out _⟩
  · have HP := Lib.hid (show printL ⟨3, n, y, s⟩ = quoteL s.data.toList from rfl)
    rw [HP.out]
    have HC := Lib.hid (fun w => rquote_c w s hs)
    clear hn hs
    go_enter Tryd.func20, Tryd.ntmps20
    go_wp2_with fail
    refine (HC.out _).mono ?_
    rintro e w2 ⟨rfl, rfl⟩
    go_wp2_with fail
    go_ret
    exact ⟨rfl, HB.out _⟩
  · have HP := Lib.hid (show printL ⟨k, n, y, s⟩ = [] from by unfold printL; rw [if_neg h.1, if_neg h.2.1, if_neg h.2.2])
    rw [HP.out]
    have t1 : (k == 1) = false := by simp; omega
    have t2 : (k == 2) = false := by simp; omega
    have t3 : (k == 3) = false := by simp; omega
    clear hn hs h
    go_enter Tryd.func20, Tryd.ntmps20
    go_wp2_with fail
    go_ret
    exact ⟨rfl, HB.out _⟩

end
end Go.Proofs.YtjablobdiglnpaaDoor
