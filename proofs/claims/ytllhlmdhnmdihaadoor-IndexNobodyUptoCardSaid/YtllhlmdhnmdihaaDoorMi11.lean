/- lexer: letter, digit, blank, run. -/
import Derived.Test.YtllhlmdhnmdihaaDoorMi09
import Derived.Test.YtllhlmdhnmdihaaDoorMi10
namespace Go.Proofs.YtllhlmdhnmdihaaDoor.P
open Go.RowKit
set_option linter.unusedVariables false

theorem letter_c (w : World) (c : UInt8) : Calls Tryd.prog 84 #[.int .u8 (c.toNat : Int)] w fun e w' => e = .returned (.bool (letB c)) ∧ w = w' := by
  have h := c.toNat_lt
  rcases (by omega : c.toNat < 65 ∨ (65 ≤ c.toNat ∧ c.toNat ≤ 90) ∨ (91 ≤ c.toNat ∧ c.toNat ≤ 94) ∨ c.toNat = 95 ∨ c.toNat = 96 ∨ (97 ≤ c.toNat ∧ c.toNat ≤ 122) ∨ 122 < c.toNat) with g | g | g | g | g | g | g
  · have HE := Lib.hid (show letB c = false from by unfold letB; simp; omega)
    have t95 : ((c.toNat : Int) == 95) = false := by simp; omega
    go_enter Tryd.func84, Tryd.ntmps84
    go_wp2
    go_ret
    exact ⟨by rw [HE.out]; first | rfl | (simp; omega), rfl⟩
  · have HE := Lib.hid (show letB c = true from by unfold letB; simp; omega)
    have t95 : ((c.toNat : Int) == 95) = false := by simp; omega
    obtain ⟨g1, g2⟩ := g
    go_enter Tryd.func84, Tryd.ntmps84
    go_wp2
    go_ret
    exact ⟨by rw [HE.out]; first | rfl | (simp; omega), rfl⟩
  · have HE := Lib.hid (show letB c = false from by unfold letB; simp; omega)
    have t95 : ((c.toNat : Int) == 95) = false := by simp; omega
    obtain ⟨g1, g2⟩ := g
    go_enter Tryd.func84, Tryd.ntmps84
    go_wp2
    go_ret
    exact ⟨by rw [HE.out]; first | rfl | (simp; omega), rfl⟩
  · have HE := Lib.hid (show letB c = true from by unfold letB; simp; omega)
    have t95 : ((c.toNat : Int) == 95) = true := by simp; omega
    go_enter Tryd.func84, Tryd.ntmps84
    go_wp2
    go_ret
    exact ⟨by rw [HE.out]; first | rfl | (simp; omega), rfl⟩
  · have HE := Lib.hid (show letB c = false from by unfold letB; simp; omega)
    have t95 : ((c.toNat : Int) == 95) = false := by simp; omega
    go_enter Tryd.func84, Tryd.ntmps84
    go_wp2
    go_ret
    exact ⟨by rw [HE.out]; first | rfl | (simp; omega), rfl⟩
  · have HE := Lib.hid (show letB c = true from by unfold letB; simp; omega)
    have t95 : ((c.toNat : Int) == 95) = false := by simp; omega
    obtain ⟨g1, g2⟩ := g
    go_enter Tryd.func84, Tryd.ntmps84
    go_wp2
    go_ret
    exact ⟨by rw [HE.out]; first | rfl | (simp; omega), rfl⟩
  · have HE := Lib.hid (show letB c = false from by unfold letB; simp; omega)
    have t95 : ((c.toNat : Int) == 95) = false := by simp; omega
    go_enter Tryd.func84, Tryd.ntmps84
    go_wp2
    go_ret
    exact ⟨by rw [HE.out]; first | rfl | (simp; omega), rfl⟩
theorem digit_c (w : World) (c : UInt8) : Calls Tryd.prog 91 #[.int .u8 (c.toNat : Int)] w fun e w' => e = .returned (.bool (isDig c)) ∧ w = w' := by
  have h := c.toNat_lt
  rcases (by omega : c.toNat < 48 ∨ (48 ≤ c.toNat ∧ c.toNat ≤ 57) ∨ 57 < c.toNat) with g | g | g
  · have HE := Lib.hid (show isDig c = false from by unfold isDig; simp; omega)
    go_enter Tryd.func91, Tryd.ntmps91
    go_wp2
    go_ret
    exact ⟨by rw [HE.out]; first | rfl | (simp; omega), rfl⟩
  · have HE := Lib.hid (show isDig c = true from by unfold isDig; simp; omega)
    obtain ⟨g1, g2⟩ := g
    go_enter Tryd.func91, Tryd.ntmps91
    go_wp2
    go_ret
    exact ⟨by rw [HE.out]; first | rfl | (simp; omega), rfl⟩
  · have HE := Lib.hid (show isDig c = false from by unfold isDig; simp; omega)
    go_enter Tryd.func91, Tryd.ntmps91
    go_wp2
    go_ret
    exact ⟨by rw [HE.out]; first | rfl | (simp; omega), rfl⟩
theorem name_c (w : World) (c : UInt8) : Calls Tryd.prog 86 #[.int .u8 (c.toNat : Int)] w fun e w' => e = .returned (.bool (nameB c)) ∧ w = w' := by
  have h := c.toNat_lt
  have HL := fun w => letter_c w c
  have HD := fun w => digit_c w c
  have HN := Lib.hid (show nameB c = (letB c || isDig c) from rfl)
  obtain ⟨x, hx⟩ : ∃ x, x = letB c := ⟨_, rfl⟩
  obtain ⟨y, hy⟩ : ∃ y, y = isDig c := ⟨_, rfl⟩
  rw [← hx, ← hy] at HN
  rw [← hx] at HL
  rw [← hy] at HD
  have HL' := Lib.hid HL
  have HD' := Lib.hid HD
  clear hx hy HL HD
  cases x
  all_goals
    go_enter Tryd.func86, Tryd.ntmps86
    go_wp2_with (first
      | (go_at_call 84; refine (HL'.out _).mono ?_; rintro e w' ⟨rfl, rfl⟩)
      | (go_at_call 91; refine (HD'.out _).mono ?_; rintro e w' ⟨rfl, rfl⟩))
    go_ret
    exact ⟨by rw [HN.out]; rfl, rfl⟩

theorem runN_yes {p : UInt8 → Bool} {c : UInt8} {r : List UInt8} (h : p c = true) : runN p (c :: r) = runN p r + 1 := by rw [runN, if_pos h]
theorem runN_no {p : UInt8 → Bool} {c : UInt8} {r : List UInt8} (h : ¬ p c = true) : runN p (c :: r) = 0 := by rw [runN, if_neg h]
theorem drop_next (s : ByteArray) (k : Nat) (h : k < s.size) : s.data.toList.drop k = s[k] :: s.data.toList.drop (k + 1) := by
  have hl : k < s.data.toList.length := by rw [Array.length_toList]; exact h
  exact List.drop_eq_getElem_cons hl
theorem drop_all (s : ByteArray) : s.data.toList.drop s.size = [] := by
  apply List.drop_eq_nil_of_le
  rw [Array.length_toList]
  exact Nat.le_refl _

set_option maxRecDepth 100000 in
theorem run_c (w : World) (s : ByteArray) (hs : s.size ≤ 9223372036854775807) (F : FuncId) (p : UInt8 → Bool) (hE : ∀ args w, (callFunc F args).run Tryd.prog w = .ok (.enter F args) w) (hF : ∀ (w : World) (c : UInt8), Calls Tryd.prog F #[.int .u8 (c.toNat : Int)] w fun e w' => e = .returned (.bool (p c)) ∧ w = w') :
    Calls Tryd.prog 85 #[.string s, .func (.func F) #[] #[]] w fun e w' => e = .returned (.int .i64 (runN p s.data.toList)) ∧ w = w' := by
  have HF := Lib.hid hF
  have hle : s.size ≤ 9223372036854775807 := hs
  clear hF
  go_enter Tryd.func85, Tryd.ntmps85
  go_wp2_with fail
  go_loop [5] (fun i => ∃ k : Nat, k ≤ s.size ∧ i = .int .i64 k ∧ runN p s.data.toList = k + runN p (s.data.toList.drop k)) (fun i => s.size - (intOf i).toNat)
  case atStart => exact ⟨0, by omega, rfl, by simp⟩
  case round =>
    obtain ⟨k, hk, rfl, hr⟩ := hrel
    have HR := Lib.hid hr
    clear hr
    by_cases hlt : k < s.size
    · have HD := Lib.hid (drop_next s k hlt)
      have hb := (s[k]).toNat_lt
      have HC := fun w => HF.out w s[k]
      by_cases hp : p s[k] = true
      · have HN := Lib.hid (show runN p s.data.toList = (k + 1) + runN p (s.data.toList.drop (k + 1)) from by rw [HR.out, HD.out, runN_yes hp]; omega)
        rw [hp] at HC
        have HC' := Lib.hid HC
        clear HC hp
        go_wp2_with fail
        refine (HC'.out _).mono ?_
        rintro e w' ⟨rfl, rfl⟩
        go_wp2_with fail
        exact ⟨⟨k + 1, by omega, by go_num, HN.out⟩, by simp [intOf]; omega⟩
      · have HN := Lib.hid (show runN p s.data.toList = k from by rw [HR.out, HD.out, runN_no hp]; rfl)
        rw [Bool.not_eq_true] at hp
        rw [hp] at HC
        have HC' := Lib.hid HC
        clear HC hp
        go_wp2_with fail
        refine (HC'.out _).mono ?_
        rintro e w' ⟨rfl, rfl⟩
        go_wp2_with fail
        go_ret
        exact ⟨by rw [HN.out]; rfl, rfl⟩
    · obtain rfl : k = s.size := by omega
      have HN := Lib.hid (show runN p s.data.toList = s.size from by rw [HR.out, drop_all]; rfl)
      go_wp2_with fail
      go_ret
      exact ⟨by rw [HN.out]; rfl, rfl⟩
section
variable (w : World) (s : ByteArray) (hs : s.size ≤ 9223372036854775807)
include hs
theorem run_name : Calls Tryd.prog 85 #[.string s, .func (.func 86) #[] #[]] w fun e w' => e = .returned (.int .i64 (runN nameB s.data.toList)) ∧ w = w' :=
  run_c w s hs 86 nameB (enters_of Tryd.func86 (by kernel_rfl) rfl) name_c
theorem run_digit : Calls Tryd.prog 85 #[.string s, .func (.func 91) #[] #[]] w fun e w' => e = .returned (.int .i64 (runN isDig s.data.toList)) ∧ w = w' :=
  run_c w s hs 91 isDig (enters_of Tryd.func91 (by kernel_rfl) rfl) digit_c
end
end Go.Proofs.YtllhlmdhnmdihaaDoor.P

/- lexer: number, sign. -/
namespace Go.Proofs.YtllhlmdhnmdihaaDoor.P
open Go.RowKit
set_option linter.unusedVariables false

def Wd.val (x : Wd) : Value := .agg #[.int .i64 x.k, .string ⟨x.t.toArray⟩, .int .i64 x.n]
/-- A word and its length, as they are handed back. -/
def pairV (p : Wd × Nat) : Value := .tuple #[p.1.val, .int .i64 p.2]
theorem box_below (w : World) (o : Obj) : Below w.heap.size w (w.alloc o) := (Below.refl _ _).alloc (Nat.le_refl _) _
theorem size_list (s : ByteArray) : s.data.toList.length = s.size := Array.length_toList

def numF (l : List UInt8) : Wd × Nat := if (num l).2 = 0 then (⟨2, [], (num l).1⟩, l.length) else (noW, 0)
theorem one_cut (s : ByteArray) (k : Nat) (h : k < s.size) : s.extract k (k + 1) = ⟨[s[k]].toArray⟩ := by
  apply ByteArray.ext
  rw [ByteArray.data_extract]
  apply Array.toList_inj.1
  have hl : k < s.data.toList.length := by rw [Array.length_toList]; exact h
  rw [Array.toList_extract, List.extract_eq_take_drop]
  have := List.drop_eq_getElem_cons hl
  rw [this]
  have e : k + 1 - k = 1 := by omega
  simp [e]
  rfl
theorem toList_data (s : ByteArray) : s.toList = s.data.toList := ByteArray.toList_eq s
end Go.Proofs.YtllhlmdhnmdihaaDoor.P

/- Names that are no keywords: lexer.Name, expr.Keyword, shape.Name, and the reference's. -/

namespace Go.Proofs.YtllhlmdhnmdihaaDoor.P
open Go.RowKit
set_option linter.unusedVariables false

theorem runN_all (p : UInt8 → Bool) (l : List UInt8) : (runN p l = l.length ↔ l.all p = true) := by
  induction l with
  | nil => simp [runN]
  | cons c r ih =>
    rw [List.all_cons]
    by_cases h : p c = true
    · rw [runN_yes h, h, Bool.true_and, ← ih]; simp
    · rw [runN_no h]; simp at h; rw [h]; simp
theorem eq_nat (a b : Nat) : ((a : Int) == (b : Int)) = decide (a = b) := by
  by_cases h : a = b
  · simp [h]
  · simp only [h, decide_false, beq_eq_false_iff_ne, ne_eq]; omega
theorem plainB_all (c : UInt8) (r : List UInt8) (h : letB c = true) : plainB (c :: r) = decide (runN nameB (c :: r) = (c :: r).length) := by
  have hn : nameB c = true := by unfold nameB; rw [h]; rfl
  have := runN_all nameB (c :: r)
  show (letB c && r.all nameB) = _
  rw [h, Bool.true_and, Bool.eq_iff_iff, decide_eq_true_iff, this, List.all_cons, hn, Bool.true_and]

set_option maxRecDepth 100000 in
theorem lname_c (w : World) (s : ByteArray) (hs : s.size ≤ 9223372036854775807) : Calls Tryd.prog 80 #[.string s] w fun e w' => e = .returned (.bool (plainB s.data.toList)) ∧ w = w' := by
  by_cases h0 : s.size = 0
  · have hl : s.data.toList = [] := List.eq_nil_of_length_eq_zero (by rw [size_list]; exact h0)
    have HE := Lib.hid (show plainB s.data.toList = false from by rw [hl]; rfl)
    have he : s.toList.isEmpty = true := by rw [toList_data, hl]; rfl
    have he' : s.toList = [] := by rw [toList_data, hl]
    clear hl h0
    go_enter Tryd.func80, Tryd.ntmps80
    go_wp2_with fail
    go_ret
    exact ⟨by rw [HE.out]; rfl, rfl⟩
  · have hp : 0 < s.size := by omega
    have hd := drop_next s 0 hp
    simp only [List.drop_zero] at hd
    have hne : s.toList.isEmpty = false := by rw [toList_data, hd]; rfl
    have HD := Lib.hid hd
    have HL := fun w => letter_c w s[0]
    have HR := Lib.hid (fun w => run_name w s hs)
    by_cases hb : letB s[0] = true
    · rw [hb] at HL
      have HLL := Lib.hid HL
      have HP := Lib.hid (show plainB s.data.toList = decide (runN nameB s.data.toList = s.size) from by
        rw [HD.out, plainB_all _ _ hb, ← HD.out, size_list])
      have hq := eq_nat (runN nameB s.data.toList) s.size
      clear hd HL hb h0
      by_cases hr : runN nameB s.data.toList = s.size
      all_goals
        rw [show decide (runN nameB s.data.toList = s.size) = _ from by first | exact decide_eq_true hr | exact decide_eq_false hr] at hq
        have HRR := Lib.hid hr
        clear hr
        go_enter Tryd.func80, Tryd.ntmps80
        go_wp2_with (first
          | (go_at_call 84; refine (HLL.out _).mono ?_; rintro e w' ⟨rfl, rfl⟩)
          | (go_at_call 85; refine (HR.out _).mono ?_; rintro e w' ⟨rfl, rfl⟩))
        go_ret
        exact ⟨by rw [HP.out]; simp [HRR.out], rfl⟩
    · rw [Bool.not_eq_true] at hb
      rw [hb] at HL
      have HLL := Lib.hid HL
      have HP := Lib.hid (show plainB s.data.toList = false from by rw [HD.out]; show (letB s[0] && _) = _; rw [hb]; rfl)
      clear hd HL hb h0
      go_enter Tryd.func80, Tryd.ntmps80
      go_wp2_with (first
          | (go_at_call 84; refine (HLL.out _).mono ?_; rintro e w' ⟨rfl, rfl⟩)
          | (go_at_call 85; refine (HR.out _).mono ?_; rintro e w' ⟨rfl, rfl⟩))
      go_ret
      exact ⟨by rw [HP.out]; rfl, rfl⟩

def kwL : List (List UInt8) := [[97, 110, 100], [111, 114], [110, 111, 116], [116, 114, 117, 101], [102, 97, 108, 115, 101], [99, 111, 117, 110, 116], [110, 117, 109, 98, 101, 114]]
theorem keyB_any (l : List UInt8) : keyB l = kwL.any (fun x => l == x) := by simp [keyB, kwL, Bool.or_assoc]
set_option maxRecDepth 100000 in
theorem key_c (w : World) (s : ByteArray) : Calls Tryd.prog 81 #[.string s] w fun e w' => e = .returned (.bool (keyB s.data.toList)) ∧ w = w' := by
  obtain ⟨b0, h0⟩ : ∃ b, (s.toList == [97, 110, 100]) = b := ⟨_, rfl⟩
  obtain ⟨b1, h1⟩ : ∃ b, (s.toList == [111, 114]) = b := ⟨_, rfl⟩
  obtain ⟨b2, h2⟩ : ∃ b, (s.toList == [110, 111, 116]) = b := ⟨_, rfl⟩
  obtain ⟨b3, h3⟩ : ∃ b, (s.toList == [116, 114, 117, 101]) = b := ⟨_, rfl⟩
  obtain ⟨b4, h4⟩ : ∃ b, (s.toList == [102, 97, 108, 115, 101]) = b := ⟨_, rfl⟩
  obtain ⟨b5, h5⟩ : ∃ b, (s.toList == [99, 111, 117, 110, 116]) = b := ⟨_, rfl⟩
  obtain ⟨b6, h6⟩ : ∃ b, (s.toList == [110, 117, 109, 98, 101, 114]) = b := ⟨_, rfl⟩
  have HK := Lib.hid (show keyB s.data.toList = (b0 || b1 || b2 || b3 || b4 || b5 || b6) from by rw [← toList_data, ← h0, ← h1, ← h2, ← h3, ← h4, ← h5, ← h6]; rfl)
  cases b0 with
  | true =>
    clear h1 h2 h3 h4 h5 h6
    go_enter Tryd.func81, Tryd.ntmps81
    go_wp2_with fail
    go_ret
    exact ⟨by rw [HK.out]; simp, rfl⟩
  | false =>
    cases b1 with
    | true =>
      clear h2 h3 h4 h5 h6
      go_enter Tryd.func81, Tryd.ntmps81
      go_wp2_with fail
      go_ret
      exact ⟨by rw [HK.out]; simp, rfl⟩
    | false =>
      cases b2 with
      | true =>
        clear h3 h4 h5 h6
        go_enter Tryd.func81, Tryd.ntmps81
        go_wp2_with fail
        go_ret
        exact ⟨by rw [HK.out]; simp, rfl⟩
      | false =>
        cases b3 with
        | true =>
          clear h4 h5 h6
          go_enter Tryd.func81, Tryd.ntmps81
          go_wp2_with fail
          go_ret
          exact ⟨by rw [HK.out]; simp, rfl⟩
        | false =>
          cases b4 with
          | true =>
            clear h5 h6
            go_enter Tryd.func81, Tryd.ntmps81
            go_wp2_with fail
            go_ret
            exact ⟨by rw [HK.out]; simp, rfl⟩
          | false =>
            cases b5 with
            | true =>
              clear h6
              go_enter Tryd.func81, Tryd.ntmps81
              go_wp2_with fail
              go_ret
              exact ⟨by rw [HK.out]; simp, rfl⟩
            | false =>
              cases b6 with
              | true =>
                go_enter Tryd.func81, Tryd.ntmps81
                go_wp2_with fail
                go_ret
                exact ⟨by rw [HK.out]; simp, rfl⟩
              | false =>
                go_enter Tryd.func81, Tryd.ntmps81
                go_wp2_with fail
                go_ret
                exact ⟨by rw [HK.out]; rfl, rfl⟩

set_option maxRecDepth 100000 in
theorem sname_c (w : World) (s : ByteArray) (hs : s.size ≤ 9223372036854775807) : Calls Tryd.prog 72 #[.string s] w fun e w' => e = .returned (.bool (nameOk s.data.toList)) ∧ w = w' := by
  have HN := fun w => lname_c w s hs
  have HK := fun w => key_c w s
  obtain ⟨p, hp⟩ : ∃ p, plainB s.data.toList = p := ⟨_, rfl⟩
  obtain ⟨q, hq⟩ : ∃ q, keyB s.data.toList = q := ⟨_, rfl⟩
  have HO := Lib.hid (show nameOk s.data.toList = (decide (s.size ≤ 64) && (p && !q)) from by unfold nameOk; rw [hp, hq, size_list])
  rw [hp] at HN
  rw [hq] at HK
  have HN' := Lib.hid HN
  have HK' := Lib.hid HK
  clear hp hq HN HK
  by_cases h : s.size ≤ 64
  · have hd : decide ((s.size : Int) ≤ 64) = true := by simp; omega
    cases p <;> cases q
    all_goals
      go_enter Tryd.func72, Tryd.ntmps72
      go_wp2_with (first
        | (go_at_call 80; refine (HN'.out _).mono ?_; rintro e w' ⟨rfl, rfl⟩)
        | (go_at_call 81; refine (HK'.out _).mono ?_; rintro e w' ⟨rfl, rfl⟩))
      go_ret
      exact ⟨by rw [HO.out]; simp; try omega, rfl⟩
  · have hd : decide ((s.size : Int) ≤ 64) = false := by simp; omega
    go_enter Tryd.func72, Tryd.ntmps72
    go_wp2_with (first
      | (go_at_call 80; refine (HN'.out _).mono ?_; rintro e w' ⟨rfl, rfl⟩)
      | (go_at_call 81; refine (HK'.out _).mono ?_; rintro e w' ⟨rfl, rfl⟩))
    go_ret
    exact ⟨by rw [HO.out]; simp; try omega, rfl⟩
end Go.Proofs.YtllhlmdhnmdihaaDoor.P
