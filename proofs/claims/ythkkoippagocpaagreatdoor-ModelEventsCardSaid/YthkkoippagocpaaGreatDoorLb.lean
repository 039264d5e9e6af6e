/- lexer: number, sign. -/
import Derived.Test.YthkkoippagocpaaGreatDoorLa
namespace Go.Proofs.YthkkoippagocpaaGreatDoor
open Go.RowKit
set_option linter.unusedVariables false

def Wd.val (x : Wd) : Value := .agg #[.int .i64 x.k, .string ⟨x.t.toArray⟩, .int .i64 x.n]
/-- A word and its length, as they are handed back. -/
def pairV (p : Wd × Nat) : Value := .tuple #[p.1.val, .int .i64 p.2]
theorem box_below (w : World) (o : Obj) : Below w.heap.size w (w.alloc o) := (Below.refl _ _).alloc (Nat.le_refl _) _
theorem size_list (s : ByteArray) : s.data.toList.length = s.size := Array.length_toList

def numF (l : List UInt8) : Wd × Nat := if (num l).2 = 0 then (⟨2, [], (num l).1⟩, l.length) else (noW, 0)
set_option maxRecDepth 100000 in
theorem number_w (w : World) (s : ByteArray) (hs : s.size ≤ 9223372036854775807) : Calls Tryz.prog 86 #[.string s] w fun e w' => e = .returned (pairV (numF s.data.toList)) ∧ Below w.heap.size w w' := by
  have HC := fun w => number_c w s hs
  unfold tb at HC
  obtain ⟨⟨n, e⟩, hq⟩ : ∃ q, q = num s.data.toList := ⟨_, rfl⟩
  rw [← hq] at HC
  simp only at HC
  have HC' := Lib.hid HC
  have HS := Lib.hid (size_list s)
  have HB := Lib.hid (fun o => box_below w o)
  clear HC
  by_cases he : e = 0
  · subst he
    have HF := Lib.hid (show numF s.data.toList = (⟨2, [], n⟩, s.size) from by unfold numF; rw [← hq, if_pos rfl, size_list])
    rw [HF.out]
    clear hq
    go_enter Tryz.func86, Tryz.ntmps86
    go_wp2_with (go_at_call 96; refine (HC'.out _).mono ?_; rintro e w' ⟨rfl, rfl⟩)
    refine bodyPost_ret (v := pairV (⟨2, [], n⟩, s.size)) (by simp [results, Tryz.results86, go_sem, pairV, Wd.val]) rfl ⟨rfl, HB.out _⟩
  · have HF := Lib.hid (show numF s.data.toList = (noW, 0) from by unfold numF; rw [← hq, if_neg he])
    rw [HF.out]
    have t1 : (e != 0) = true := by simpa using he
    have t2 : (e == 0) = false := by simpa using he
    clear hq he
    go_enter Tryz.func86, Tryz.ntmps86
    go_wp2_with (go_at_call 96; refine (HC'.out _).mono ?_; rintro e w' ⟨rfl, rfl⟩)
    refine bodyPost_ret (v := pairV (noW, 0)) (by simp [results, Tryz.results86, go_sem, pairV, noW, Wd.val]) rfl ⟨rfl, HB.out _⟩

theorem one_cut (s : ByteArray) (k : Nat) (h : k < s.size) : s.extract k (k + 1) = ⟨[s[k]].toArray⟩ := by
  apply ByteArray.ext
  rw [ByteArray.data_extract]
  apply Array.toList_inj.1
  have hl : k < s.data.toList.length := by rw [Array.length_toList]; exact h
  rw [Array.toList_extract, List.extract_eq_take_drop]
  have := List.drop_eq_getElem_cons hl
  rw [this]
  have e : k + 1 - k = 1 := by omega
  simp [e]
  rfl
theorem toList_data (s : ByteArray) : s.toList = s.data.toList := ByteArray.toList_eq s
set_option maxRecDepth 100000 in
theorem hasEq_c (w : World) (s : ByteArray) (hs : s.size ≤ 9223372036854775807) : Calls Tryz.prog 97 #[.string s, .string ⟨#[61]⟩] w fun e w' => e = .returned (.bool (eqB s.data.toList)) ∧ w = w' := by
  by_cases h0 : s.size < 1
  · have HE := Lib.hid (show eqB s.data.toList = false from by rw [show s.data.toList = [] from List.eq_nil_of_length_eq_zero (by rw [size_list]; omega)]; rfl)
    rw [HE.out]
    go_enter Tryz.func97, Tryz.ntmps97
    go_wp2
    go_ret
    exact ⟨rfl, rfl⟩
  · have hp : 0 < s.size := by omega
    have h1 : 1 ≤ s.size := by omega
    have hd := drop_next s 0 hp
    simp only [List.drop_zero] at hd
    have HE := Lib.hid (show eqB s.data.toList = decide (s[0].toNat = 61) from by rw [hd]; rfl)
    have hc : s.extract 0 1 = ⟨[s[0]].toArray⟩ := one_cut s 0 hp
    have hl : (s.extract 0 1).toList = [s[0]] := by rw [hc, toList_data]
    have hv : ((s.extract 0 1).toList == [61]) = decide (s[0].toNat = 61) := by
      rw [hl]
      by_cases h : s[0].toNat = 61
      · rw [show s[0] = 61 from UInt8.toNat_inj.1 h]; rfl
      · simp [h]; intro h'; apply h; rw [h']; rfl
    have HV := Lib.hid hv
    rw [HE.out]
    obtain ⟨x, hx⟩ : ∃ x, x = decide (s[0].toNat = 61) := ⟨_, rfl⟩
    rw [← hx] at hv ⊢
    clear h0 hd hc hl hx HV HE
    go_enter Tryz.func97, Tryz.ntmps97
    go_wp2
    all_goals go_ret
    all_goals exact ⟨by first | rfl | simp [*], rfl⟩

set_option maxRecDepth 100000 in
set_option maxHeartbeats 4000000 in
theorem sign_c (w : World) (s : ByteArray) (hs : s.size ≤ 9223372036854775807) (hp : 0 < s.size) : Calls Tryz.prog 88 #[.string s] w fun e w' => e = .returned (.int .i64 (signN s.data.toList)) ∧ w = w' := by
  have hd := drop_next s 0 hp
  simp only [List.drop_zero] at hd
  have hr : (s.extract 1 s.size).data.toList = s.data.toList.drop 1 := by
    rw [ByteArray.data_extract, Array.toList_extract, List.extract_eq_take_drop, List.take_of_length_le]
    rw [List.length_drop, size_list]
    exact Nat.le_refl _
  have hrs : (s.extract 1 s.size).size ≤ 9223372036854775807 := by rw [ByteArray.size_extract]; omega
  have HC := fun w => hasEq_c w (s.extract 1 s.size) hrs
  rw [hr] at HC
  obtain ⟨q, hq⟩ : ∃ q, q = eqB (s.data.toList.drop 1) := ⟨_, rfl⟩
  have HS := Lib.hid (show signN s.data.toList = (if s[0].toNat = 33 then (if q = true then 2 else 0) else if s[0].toNat = 60 ∨ s[0].toNat = 62 then (if q = true then 2 else 1) else if oneB s[0] = true then 1 else 0) from by rw [hq, hd]; rfl)
  rw [← hq] at HC
  have HC' := Lib.hid HC
  have h8 := (s[0]).toNat_lt
  have h1 : 1 ≤ s.size := by omega
  obtain ⟨c, hc⟩ : ∃ c : Nat, c = s[0].toNat := ⟨_, rfl⟩
  have HO := Lib.hid (show oneB s[0] = decide (c ∈ [40, 41, 46, 44, 43, 45, 42, 47, 37, 61]) from by rw [hc]; rfl)
  rw [← hc] at HS
  clear HC hq hd hr hrs
  rcases (by omega : c = 33 ∨ c = 60 ∨ c = 62 ∨ c = 40 ∨ c = 41 ∨ c = 46 ∨ c = 44 ∨ c = 43 ∨ c = 45 ∨ c = 42 ∨ c = 47 ∨ c = 37 ∨ c = 61 ∨ (c ≠ 33 ∧ c ≠ 60 ∧ c ≠ 62 ∧ c ≠ 40 ∧ c ≠ 41 ∧ c ≠ 46 ∧ c ≠ 44 ∧ c ≠ 43 ∧ c ≠ 45 ∧ c ≠ 42 ∧ c ≠ 47 ∧ c ≠ 37 ∧ c ≠ 61)) with h | h | h | h | h | h | h | h | h | h | h | h | h | h
  · have t33 : ((s[0].toNat : Int) == 33) = true := by rw [← hc, h]; rfl
    have t60 : ((s[0].toNat : Int) == 60) = false := by rw [← hc, h]; rfl
    have t62 : ((s[0].toNat : Int) == 62) = false := by rw [← hc, h]; rfl
    have t40 : ((s[0].toNat : Int) == 40) = false := by rw [← hc, h]; rfl
    have t41 : ((s[0].toNat : Int) == 41) = false := by rw [← hc, h]; rfl
    have t46 : ((s[0].toNat : Int) == 46) = false := by rw [← hc, h]; rfl
    have t44 : ((s[0].toNat : Int) == 44) = false := by rw [← hc, h]; rfl
    have t43 : ((s[0].toNat : Int) == 43) = false := by rw [← hc, h]; rfl
    have t45 : ((s[0].toNat : Int) == 45) = false := by rw [← hc, h]; rfl
    have t42 : ((s[0].toNat : Int) == 42) = false := by rw [← hc, h]; rfl
    have t47 : ((s[0].toNat : Int) == 47) = false := by rw [← hc, h]; rfl
    have t37 : ((s[0].toNat : Int) == 37) = false := by rw [← hc, h]; rfl
    have t61 : ((s[0].toNat : Int) == 61) = false := by rw [← hc, h]; rfl
    subst h
    clear hc
    cases q
    · have HR := Lib.hid (show signN s.data.toList = 0 from by rw [HS.out]; first | decide | simp)
      rw [HR.out]
      go_enter Tryz.func88, Tryz.ntmps88
      go_wp2_with (first | (go_at_call 97; refine (HC'.out _).mono ?_; rintro e w' ⟨rfl, rfl⟩) | fail)
      go_ret
      exact ⟨rfl, rfl⟩
    · have HR := Lib.hid (show signN s.data.toList = 2 from by rw [HS.out]; first | decide | simp)
      rw [HR.out]
      go_enter Tryz.func88, Tryz.ntmps88
      go_wp2_with (first | (go_at_call 97; refine (HC'.out _).mono ?_; rintro e w' ⟨rfl, rfl⟩) | fail)
      go_ret
      exact ⟨rfl, rfl⟩
  · have t33 : ((s[0].toNat : Int) == 33) = false := by rw [← hc, h]; rfl
    have t60 : ((s[0].toNat : Int) == 60) = true := by rw [← hc, h]; rfl
    have t62 : ((s[0].toNat : Int) == 62) = false := by rw [← hc, h]; rfl
    have t40 : ((s[0].toNat : Int) == 40) = false := by rw [← hc, h]; rfl
    have t41 : ((s[0].toNat : Int) == 41) = false := by rw [← hc, h]; rfl
    have t46 : ((s[0].toNat : Int) == 46) = false := by rw [← hc, h]; rfl
    have t44 : ((s[0].toNat : Int) == 44) = false := by rw [← hc, h]; rfl
    have t43 : ((s[0].toNat : Int) == 43) = false := by rw [← hc, h]; rfl
    have t45 : ((s[0].toNat : Int) == 45) = false := by rw [← hc, h]; rfl
    have t42 : ((s[0].toNat : Int) == 42) = false := by rw [← hc, h]; rfl
    have t47 : ((s[0].toNat : Int) == 47) = false := by rw [← hc, h]; rfl
    have t37 : ((s[0].toNat : Int) == 37) = false := by rw [← hc, h]; rfl
    have t61 : ((s[0].toNat : Int) == 61) = false := by rw [← hc, h]; rfl
    subst h
    clear hc
    cases q
    · have HR := Lib.hid (show signN s.data.toList = 1 from by rw [HS.out]; first | decide | simp)
      rw [HR.out]
      go_enter Tryz.func88, Tryz.ntmps88
      go_wp2_with (first | (go_at_call 97; refine (HC'.out _).mono ?_; rintro e w' ⟨rfl, rfl⟩) | fail)
      go_ret
      exact ⟨rfl, rfl⟩
    · have HR := Lib.hid (show signN s.data.toList = 2 from by rw [HS.out]; first | decide | simp)
      rw [HR.out]
      go_enter Tryz.func88, Tryz.ntmps88
      go_wp2_with (first | (go_at_call 97; refine (HC'.out _).mono ?_; rintro e w' ⟨rfl, rfl⟩) | fail)
      go_ret
      exact ⟨rfl, rfl⟩
  · have t33 : ((s[0].toNat : Int) == 33) = false := by rw [← hc, h]; rfl
    have t60 : ((s[0].toNat : Int) == 60) = false := by rw [← hc, h]; rfl
    have t62 : ((s[0].toNat : Int) == 62) = true := by rw [← hc, h]; rfl
    have t40 : ((s[0].toNat : Int) == 40) = false := by rw [← hc, h]; rfl
    have t41 : ((s[0].toNat : Int) == 41) = false := by rw [← hc, h]; rfl
    have t46 : ((s[0].toNat : Int) == 46) = false := by rw [← hc, h]; rfl
    have t44 : ((s[0].toNat : Int) == 44) = false := by rw [← hc, h]; rfl
    have t43 : ((s[0].toNat : Int) == 43) = false := by rw [← hc, h]; rfl
    have t45 : ((s[0].toNat : Int) == 45) = false := by rw [← hc, h]; rfl
    have t42 : ((s[0].toNat : Int) == 42) = false := by rw [← hc, h]; rfl
    have t47 : ((s[0].toNat : Int) == 47) = false := by rw [← hc, h]; rfl
    have t37 : ((s[0].toNat : Int) == 37) = false := by rw [← hc, h]; rfl
    have t61 : ((s[0].toNat : Int) == 61) = false := by rw [← hc, h]; rfl
    subst h
    clear hc
    cases q
    · have HR := Lib.hid (show signN s.data.toList = 1 from by rw [HS.out]; first | decide | simp)
      rw [HR.out]
      go_enter Tryz.func88, Tryz.ntmps88
      go_wp2_with (first | (go_at_call 97; refine (HC'.out _).mono ?_; rintro e w' ⟨rfl, rfl⟩) | fail)
      go_ret
      exact ⟨rfl, rfl⟩
    · have HR := Lib.hid (show signN s.data.toList = 2 from by rw [HS.out]; first | decide | simp)
      rw [HR.out]
      go_enter Tryz.func88, Tryz.ntmps88
      go_wp2_with (first | (go_at_call 97; refine (HC'.out _).mono ?_; rintro e w' ⟨rfl, rfl⟩) | fail)
      go_ret
      exact ⟨rfl, rfl⟩
  · have t33 : ((s[0].toNat : Int) == 33) = false := by rw [← hc, h]; rfl
    have t60 : ((s[0].toNat : Int) == 60) = false := by rw [← hc, h]; rfl
    have t62 : ((s[0].toNat : Int) == 62) = false := by rw [← hc, h]; rfl
    have t40 : ((s[0].toNat : Int) == 40) = true := by rw [← hc, h]; rfl
    have t41 : ((s[0].toNat : Int) == 41) = false := by rw [← hc, h]; rfl
    have t46 : ((s[0].toNat : Int) == 46) = false := by rw [← hc, h]; rfl
    have t44 : ((s[0].toNat : Int) == 44) = false := by rw [← hc, h]; rfl
    have t43 : ((s[0].toNat : Int) == 43) = false := by rw [← hc, h]; rfl
    have t45 : ((s[0].toNat : Int) == 45) = false := by rw [← hc, h]; rfl
    have t42 : ((s[0].toNat : Int) == 42) = false := by rw [← hc, h]; rfl
    have t47 : ((s[0].toNat : Int) == 47) = false := by rw [← hc, h]; rfl
    have t37 : ((s[0].toNat : Int) == 37) = false := by rw [← hc, h]; rfl
    have t61 : ((s[0].toNat : Int) == 61) = false := by rw [← hc, h]; rfl
    subst h
    clear hc
    cases q
    · have HR := Lib.hid (show signN s.data.toList = 1 from by rw [HS.out, HO.out]; first | decide | simp)
      rw [HR.out]
      go_enter Tryz.func88, Tryz.ntmps88
      go_wp2_with (first | (go_at_call 97; refine (HC'.out _).mono ?_; rintro e w' ⟨rfl, rfl⟩) | fail)
      go_ret
      exact ⟨rfl, rfl⟩
    · have HR := Lib.hid (show signN s.data.toList = 1 from by rw [HS.out, HO.out]; first | decide | simp)
      rw [HR.out]
      go_enter Tryz.func88, Tryz.ntmps88
      go_wp2_with (first | (go_at_call 97; refine (HC'.out _).mono ?_; rintro e w' ⟨rfl, rfl⟩) | fail)
      go_ret
      exact ⟨rfl, rfl⟩
  · have t33 : ((s[0].toNat : Int) == 33) = false := by rw [← hc, h]; rfl
    have t60 : ((s[0].toNat : Int) == 60) = false := by rw [← hc, h]; rfl
    have t62 : ((s[0].toNat : Int) == 62) = false := by rw [← hc, h]; rfl
    have t40 : ((s[0].toNat : Int) == 40) = false := by rw [← hc, h]; rfl
    have t41 : ((s[0].toNat : Int) == 41) = true := by rw [← hc, h]; rfl
    have t46 : ((s[0].toNat : Int) == 46) = false := by rw [← hc, h]; rfl
    have t44 : ((s[0].toNat : Int) == 44) = false := by rw [← hc, h]; rfl
    have t43 : ((s[0].toNat : Int) == 43) = false := by rw [← hc, h]; rfl
    have t45 : ((s[0].toNat : Int) == 45) = false := by rw [← hc, h]; rfl
    have t42 : ((s[0].toNat : Int) == 42) = false := by rw [← hc, h]; rfl
    have t47 : ((s[0].toNat : Int) == 47) = false := by rw [← hc, h]; rfl
    have t37 : ((s[0].toNat : Int) == 37) = false := by rw [← hc, h]; rfl
    have t61 : ((s[0].toNat : Int) == 61) = false := by rw [← hc, h]; rfl
    subst h
    clear hc
    cases q
    · have HR := Lib.hid (show signN s.data.toList = 1 from by rw [HS.out, HO.out]; first | decide | simp)
      rw [HR.out]
      go_enter Tryz.func88, Tryz.ntmps88
      go_wp2_with (first | (go_at_call 97; refine (HC'.out _).mono ?_; rintro e w' ⟨rfl, rfl⟩) | fail)
      go_ret
      exact ⟨rfl, rfl⟩
    · have HR := Lib.hid (show signN s.data.toList = 1 from by rw [HS.out, HO.out]; first | decide | simp)
      rw [HR.out]
      go_enter Tryz.func88, Tryz.ntmps88
      go_wp2_with (first | (go_at_call 97; refine (HC'.out _).mono ?_; rintro e w' ⟨rfl, rfl⟩) | fail)
      go_ret
      exact ⟨rfl, rfl⟩
  · have t33 : ((s[0].toNat : Int) == 33) = false := by rw [← hc, h]; rfl
    have t60 : ((s[0].toNat : Int) == 60) = false := by rw [← hc, h]; rfl
    have t62 : ((s[0].toNat : Int) == 62) = false := by rw [← hc, h]; rfl
    have t40 : ((s[0].toNat : Int) == 40) = false := by rw [← hc, h]; rfl
    have t41 : ((s[0].toNat : Int) == 41) = false := by rw [← hc, h]; rfl
    have t46 : ((s[0].toNat : Int) == 46) = true := by rw [← hc, h]; rfl
    have t44 : ((s[0].toNat : Int) == 44) = false := by rw [← hc, h]; rfl
    have t43 : ((s[0].toNat : Int) == 43) = false := by rw [← hc, h]; rfl
    have t45 : ((s[0].toNat : Int) == 45) = false := by rw [← hc, h]; rfl
    have t42 : ((s[0].toNat : Int) == 42) = false := by rw [← hc, h]; rfl
    have t47 : ((s[0].toNat : Int) == 47) = false := by rw [← hc, h]; rfl
    have t37 : ((s[0].toNat : Int) == 37) = false := by rw [← hc, h]; rfl
    have t61 : ((s[0].toNat : Int) == 61) = false := by rw [← hc, h]; rfl
    subst h
    clear hc
    cases q
    · have HR := Lib.hid (show signN s.data.toList = 1 from by rw [HS.out, HO.out]; first | decide | simp)
      rw [HR.out]
      go_enter Tryz.func88, Tryz.ntmps88
      go_wp2_with (first | (go_at_call 97; refine (HC'.out _).mono ?_; rintro e w' ⟨rfl, rfl⟩) | fail)
      go_ret
      exact ⟨rfl, rfl⟩
    · have HR := Lib.hid (show signN s.data.toList = 1 from by rw [HS.out, HO.out]; first | decide | simp)
      rw [HR.out]
      go_enter Tryz.func88, Tryz.ntmps88
      go_wp2_with (first | (go_at_call 97; refine (HC'.out _).mono ?_; rintro e w' ⟨rfl, rfl⟩) | fail)
      go_ret
      exact ⟨rfl, rfl⟩
  · have t33 : ((s[0].toNat : Int) == 33) = false := by rw [← hc, h]; rfl
    have t60 : ((s[0].toNat : Int) == 60) = false := by rw [← hc, h]; rfl
    have t62 : ((s[0].toNat : Int) == 62) = false := by rw [← hc, h]; rfl
    have t40 : ((s[0].toNat : Int) == 40) = false := by rw [← hc, h]; rfl
    have t41 : ((s[0].toNat : Int) == 41) = false := by rw [← hc, h]; rfl
    have t46 : ((s[0].toNat : Int) == 46) = false := by rw [← hc, h]; rfl
    have t44 : ((s[0].toNat : Int) == 44) = true := by rw [← hc, h]; rfl
    have t43 : ((s[0].toNat : Int) == 43) = false := by rw [← hc, h]; rfl
    have t45 : ((s[0].toNat : Int) == 45) = false := by rw [← hc, h]; rfl
    have t42 : ((s[0].toNat : Int) == 42) = false := by rw [← hc, h]; rfl
    have t47 : ((s[0].toNat : Int) == 47) = false := by rw [← hc, h]; rfl
    have t37 : ((s[0].toNat : Int) == 37) = false := by rw [← hc, h]; rfl
    have t61 : ((s[0].toNat : Int) == 61) = false := by rw [← hc, h]; rfl
    subst h
    clear hc
    cases q
    · have HR := Lib.hid (show signN s.data.toList = 1 from by rw [HS.out, HO.out]; first | decide | simp)
      rw [HR.out]
      go_enter Tryz.func88, Tryz.ntmps88
      go_wp2_with (first | (go_at_call 97; refine (HC'.out _).mono ?_; rintro e w' ⟨rfl, rfl⟩) | fail)
      go_ret
      exact ⟨rfl, rfl⟩
    · have HR := Lib.hid (show signN s.data.toList = 1 from by rw [HS.out, HO.out]; first | decide | simp)
      rw [HR.out]
      go_enter Tryz.func88, Tryz.ntmps88
      go_wp2_with (first | (go_at_call 97; refine (HC'.out _).mono ?_; rintro e w' ⟨rfl, rfl⟩) | fail)
      go_ret
      exact ⟨rfl, rfl⟩
  · have t33 : ((s[0].toNat : Int) == 33) = false := by rw [← hc, h]; rfl
    have t60 : ((s[0].toNat : Int) == 60) = false := by rw [← hc, h]; rfl
    have t62 : ((s[0].toNat : Int) == 62) = false := by rw [← hc, h]; rfl
    have t40 : ((s[0].toNat : Int) == 40) = false := by rw [← hc, h]; rfl
    have t41 : ((s[0].toNat : Int) == 41) = false := by rw [← hc, h]; rfl
    have t46 : ((s[0].toNat : Int) == 46) = false := by rw [← hc, h]; rfl
    have t44 : ((s[0].toNat : Int) == 44) = false := by rw [← hc, h]; rfl
    have t43 : ((s[0].toNat : Int) == 43) = true := by rw [← hc, h]; rfl
    have t45 : ((s[0].toNat : Int) == 45) = false := by rw [← hc, h]; rfl
    have t42 : ((s[0].toNat : Int) == 42) = false := by rw [← hc, h]; rfl
    have t47 : ((s[0].toNat : Int) == 47) = false := by rw [← hc, h]; rfl
    have t37 : ((s[0].toNat : Int) == 37) = false := by rw [← hc, h]; rfl
    have t61 : ((s[0].toNat : Int) == 61) = false := by rw [← hc, h]; rfl
    subst h
    clear hc
    cases q
    · have HR := Lib.hid (show signN s.data.toList = 1 from by rw [HS.out, HO.out]; first | decide | simp)
      rw [HR.out]
      go_enter Tryz.func88, Tryz.ntmps88
      go_wp2_with (first | (go_at_call 97; refine (HC'.out _).mono ?_; rintro e w' ⟨rfl, rfl⟩) | fail)
      go_ret
      exact ⟨rfl, rfl⟩
    · have HR := Lib.hid (show signN s.data.toList = 1 from by rw [HS.out, HO.out]; first | decide | simp)
      rw [HR.out]
      go_enter Tryz.func88, Tryz.ntmps88
      go_wp2_with (first | (go_at_call 97; refine (HC'.out _).mono ?_; rintro e w' ⟨rfl, rfl⟩) | fail)
      go_ret
      exact ⟨rfl, rfl⟩
  · have t33 : ((s[0].toNat : Int) == 33) = false := by rw [← hc, h]; rfl
    have t60 : ((s[0].toNat : Int) == 60) = false := by rw [← hc, h]; rfl
    have t62 : ((s[0].toNat : Int) == 62) = false := by rw [← hc, h]; rfl
    have t40 : ((s[0].toNat : Int) == 40) = false := by rw [← hc, h]; rfl
    have t41 : ((s[0].toNat : Int) == 41) = false := by rw [← hc, h]; rfl
    have t46 : ((s[0].toNat : Int) == 46) = false := by rw [← hc, h]; rfl
    have t44 : ((s[0].toNat : Int) == 44) = false := by rw [← hc, h]; rfl
    have t43 : ((s[0].toNat : Int) == 43) = false := by rw [← hc, h]; rfl
    have t45 : ((s[0].toNat : Int) == 45) = true := by rw [← hc, h]; rfl
    have t42 : ((s[0].toNat : Int) == 42) = false := by rw [← hc, h]; rfl
    have t47 : ((s[0].toNat : Int) == 47) = false := by rw [← hc, h]; rfl
    have t37 : ((s[0].toNat : Int) == 37) = false := by rw [← hc, h]; rfl
    have t61 : ((s[0].toNat : Int) == 61) = false := by rw [← hc, h]; rfl
    subst h
    clear hc
    cases q
    · have HR := Lib.hid (show signN s.data.toList = 1 from by rw [HS.out, HO.out]; first | decide | simp)
      rw [HR.out]
      go_enter Tryz.func88, Tryz.ntmps88
      go_wp2_with (first | (go_at_call 97; refine (HC'.out _).mono ?_; rintro e w' ⟨rfl, rfl⟩) | fail)
      go_ret
      exact ⟨rfl, rfl⟩
    · have HR := Lib.hid (show signN s.data.toList = 1 from by rw [HS.out, HO.out]; first | decide | simp)
      rw [HR.out]
      go_enter Tryz.func88, Tryz.ntmps88
      go_wp2_with (first | (go_at_call 97; refine (HC'.out _).mono ?_; rintro e w' ⟨rfl, rfl⟩) | fail)
      go_ret
      exact ⟨rfl, rfl⟩
  · have t33 : ((s[0].toNat : Int) == 33) = false := by rw [← hc, h]; rfl
    have t60 : ((s[0].toNat : Int) == 60) = false := by rw [← hc, h]; rfl
    have t62 : ((s[0].toNat : Int) == 62) = false := by rw [← hc, h]; rfl
    have t40 : ((s[0].toNat : Int) == 40) = false := by rw [← hc, h]; rfl
    have t41 : ((s[0].toNat : Int) == 41) = false := by rw [← hc, h]; rfl
    have t46 : ((s[0].toNat : Int) == 46) = false := by rw [← hc, h]; rfl
    have t44 : ((s[0].toNat : Int) == 44) = false := by rw [← hc, h]; rfl
    have t43 : ((s[0].toNat : Int) == 43) = false := by rw [← hc, h]; rfl
    have t45 : ((s[0].toNat : Int) == 45) = false := by rw [← hc, h]; rfl
    have t42 : ((s[0].toNat : Int) == 42) = true := by rw [← hc, h]; rfl
    have t47 : ((s[0].toNat : Int) == 47) = false := by rw [← hc, h]; rfl
    have t37 : ((s[0].toNat : Int) == 37) = false := by rw [← hc, h]; rfl
    have t61 : ((s[0].toNat : Int) == 61) = false := by rw [← hc, h]; rfl
    subst h
    clear hc
    cases q
    · have HR := Lib.hid (show signN s.data.toList = 1 from by rw [HS.out, HO.out]; first | decide | simp)
      rw [HR.out]
      go_enter Tryz.func88, Tryz.ntmps88
      go_wp2_with (first | (go_at_call 97; refine (HC'.out _).mono ?_; rintro e w' ⟨rfl, rfl⟩) | fail)
      go_ret
      exact ⟨rfl, rfl⟩
    · have HR := Lib.hid (show signN s.data.toList = 1 from by rw [HS.out, HO.out]; first | decide | simp)
      rw [HR.out]
      go_enter Tryz.func88, Tryz.ntmps88
      go_wp2_with (first | (go_at_call 97; refine (HC'.out _).mono ?_; rintro e w' ⟨rfl, rfl⟩) | fail)
      go_ret
      exact ⟨rfl, rfl⟩
  · have t33 : ((s[0].toNat : Int) == 33) = false := by rw [← hc, h]; rfl
    have t60 : ((s[0].toNat : Int) == 60) = false := by rw [← hc, h]; rfl
    have t62 : ((s[0].toNat : Int) == 62) = false := by rw [← hc, h]; rfl
    have t40 : ((s[0].toNat : Int) == 40) = false := by rw [← hc, h]; rfl
    have t41 : ((s[0].toNat : Int) == 41) = false := by rw [← hc, h]; rfl
    have t46 : ((s[0].toNat : Int) == 46) = false := by rw [← hc, h]; rfl
    have t44 : ((s[0].toNat : Int) == 44) = false := by rw [← hc, h]; rfl
    have t43 : ((s[0].toNat : Int) == 43) = false := by rw [← hc, h]; rfl
    have t45 : ((s[0].toNat : Int) == 45) = false := by rw [← hc, h]; rfl
    have t42 : ((s[0].toNat : Int) == 42) = false := by rw [← hc, h]; rfl
    have t47 : ((s[0].toNat : Int) == 47) = true := by rw [← hc, h]; rfl
    have t37 : ((s[0].toNat : Int) == 37) = false := by rw [← hc, h]; rfl
    have t61 : ((s[0].toNat : Int) == 61) = false := by rw [← hc, h]; rfl
    subst h
    clear hc
    cases q
    · have HR := Lib.hid (show signN s.data.toList = 1 from by rw [HS.out, HO.out]; first | decide | simp)
      rw [HR.out]
      go_enter Tryz.func88, Tryz.ntmps88
      go_wp2_with (first | (go_at_call 97; refine (HC'.out _).mono ?_; rintro e w' ⟨rfl, rfl⟩) | fail)
      go_ret
      exact ⟨rfl, rfl⟩
    · have HR := Lib.hid (show signN s.data.toList = 1 from by rw [HS.out, HO.out]; first | decide | simp)
      rw [HR.out]
      go_enter Tryz.func88, Tryz.ntmps88
      go_wp2_with (first | (go_at_call 97; refine (HC'.out _).mono ?_; rintro e w' ⟨rfl, rfl⟩) | fail)
      go_ret
      exact ⟨rfl, rfl⟩
  · have t33 : ((s[0].toNat : Int) == 33) = false := by rw [← hc, h]; rfl
    have t60 : ((s[0].toNat : Int) == 60) = false := by rw [← hc, h]; rfl
    have t62 : ((s[0].toNat : Int) == 62) = false := by rw [← hc, h]; rfl
    have t40 : ((s[0].toNat : Int) == 40) = false := by rw [← hc, h]; rfl
    have t41 : ((s[0].toNat : Int) == 41) = false := by rw [← hc, h]; rfl
    have t46 : ((s[0].toNat : Int) == 46) = false := by rw [← hc, h]; rfl
    have t44 : ((s[0].toNat : Int) == 44) = false := by rw [← hc, h]; rfl
    have t43 : ((s[0].toNat : Int) == 43) = false := by rw [← hc, h]; rfl
    have t45 : ((s[0].toNat : Int) == 45) = false := by rw [← hc, h]; rfl
    have t42 : ((s[0].toNat : Int) == 42) = false := by rw [← hc, h]; rfl
    have t47 : ((s[0].toNat : Int) == 47) = false := by rw [← hc, h]; rfl
    have t37 : ((s[0].toNat : Int) == 37) = true := by rw [← hc, h]; rfl
    have t61 : ((s[0].toNat : Int) == 61) = false := by rw [← hc, h]; rfl
    subst h
    clear hc
    cases q
    · have HR := Lib.hid (show signN s.data.toList = 1 from by rw [HS.out, HO.out]; first | decide | simp)
      rw [HR.out]
      go_enter Tryz.func88, Tryz.ntmps88
      go_wp2_with (first | (go_at_call 97; refine (HC'.out _).mono ?_; rintro e w' ⟨rfl, rfl⟩) | fail)
      go_ret
      exact ⟨rfl, rfl⟩
    · have HR := Lib.hid (show signN s.data.toList = 1 from by rw [HS.out, HO.out]; first | decide | simp)
      rw [HR.out]
      go_enter Tryz.func88, Tryz.ntmps88
      go_wp2_with (first | (go_at_call 97; refine (HC'.out _).mono ?_; rintro e w' ⟨rfl, rfl⟩) | fail)
      go_ret
      exact ⟨rfl, rfl⟩
  · have t33 : ((s[0].toNat : Int) == 33) = false := by rw [← hc, h]; rfl
    have t60 : ((s[0].toNat : Int) == 60) = false := by rw [← hc, h]; rfl
    have t62 : ((s[0].toNat : Int) == 62) = false := by rw [← hc, h]; rfl
    have t40 : ((s[0].toNat : Int) == 40) = false := by rw [← hc, h]; rfl
    have t41 : ((s[0].toNat : Int) == 41) = false := by rw [← hc, h]; rfl
    have t46 : ((s[0].toNat : Int) == 46) = false := by rw [← hc, h]; rfl
    have t44 : ((s[0].toNat : Int) == 44) = false := by rw [← hc, h]; rfl
    have t43 : ((s[0].toNat : Int) == 43) = false := by rw [← hc, h]; rfl
    have t45 : ((s[0].toNat : Int) == 45) = false := by rw [← hc, h]; rfl
    have t42 : ((s[0].toNat : Int) == 42) = false := by rw [← hc, h]; rfl
    have t47 : ((s[0].toNat : Int) == 47) = false := by rw [← hc, h]; rfl
    have t37 : ((s[0].toNat : Int) == 37) = false := by rw [← hc, h]; rfl
    have t61 : ((s[0].toNat : Int) == 61) = true := by rw [← hc, h]; rfl
    subst h
    clear hc
    cases q
    · have HR := Lib.hid (show signN s.data.toList = 1 from by rw [HS.out, HO.out]; first | decide | simp)
      rw [HR.out]
      go_enter Tryz.func88, Tryz.ntmps88
      go_wp2_with (first | (go_at_call 97; refine (HC'.out _).mono ?_; rintro e w' ⟨rfl, rfl⟩) | fail)
      go_ret
      exact ⟨rfl, rfl⟩
    · have HR := Lib.hid (show signN s.data.toList = 1 from by rw [HS.out, HO.out]; first | decide | simp)
      rw [HR.out]
      go_enter Tryz.func88, Tryz.ntmps88
      go_wp2_with (first | (go_at_call 97; refine (HC'.out _).mono ?_; rintro e w' ⟨rfl, rfl⟩) | fail)
      go_ret
      exact ⟨rfl, rfl⟩
  · have t33 : ((s[0].toNat : Int) == 33) = false := by rw [← hc]; simp; omega
    have t60 : ((s[0].toNat : Int) == 60) = false := by rw [← hc]; simp; omega
    have t62 : ((s[0].toNat : Int) == 62) = false := by rw [← hc]; simp; omega
    have t40 : ((s[0].toNat : Int) == 40) = false := by rw [← hc]; simp; omega
    have t41 : ((s[0].toNat : Int) == 41) = false := by rw [← hc]; simp; omega
    have t46 : ((s[0].toNat : Int) == 46) = false := by rw [← hc]; simp; omega
    have t44 : ((s[0].toNat : Int) == 44) = false := by rw [← hc]; simp; omega
    have t43 : ((s[0].toNat : Int) == 43) = false := by rw [← hc]; simp; omega
    have t45 : ((s[0].toNat : Int) == 45) = false := by rw [← hc]; simp; omega
    have t42 : ((s[0].toNat : Int) == 42) = false := by rw [← hc]; simp; omega
    have t47 : ((s[0].toNat : Int) == 47) = false := by rw [← hc]; simp; omega
    have t37 : ((s[0].toNat : Int) == 37) = false := by rw [← hc]; simp; omega
    have t61 : ((s[0].toNat : Int) == 61) = false := by rw [← hc]; simp; omega
    have HR := Lib.hid (show signN s.data.toList = 0 from by rw [HS.out, if_neg h.1, if_neg (by omega), HO.out, if_neg (by simp; omega)])
    rw [HR.out]
    clear hc h
    go_enter Tryz.func88, Tryz.ntmps88
    go_wp2_with (first | (go_at_call 97; refine (HC'.out _).mono ?_; rintro e w' ⟨rfl, rfl⟩) | fail)
    go_ret
    exact ⟨rfl, rfl⟩
end Go.Proofs.YthkkoippagocpaaGreatDoor