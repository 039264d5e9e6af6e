/- chars.Number. -/
import Derived.Test.YtllhlmdhnmdihaaDoorNn
import Derived.Test.YtllhlmdhnmdihaaDoorNt
namespace Go.Proofs.YtllhlmdhnmdihaaDoor
open Go.RowKit
set_option linter.unusedVariables false

def isM (xs : List UInt8) : Bool := xs.head? == some 45
def stripM (xs : List UInt8) : List UInt8 := if isM xs then xs.tail else xs

theorem hasPrefix_m (xs : List UInt8) : Lib.hasPrefix xs [45] = isM xs := by
  cases xs with
  | nil => rfl
  | cons x r =>
    unfold Lib.hasPrefix isM
    simp only [List.isPrefixOf, List.head?_cons, Bool.and_true]
    rw [Bool.eq_iff_iff]
    simp
    exact eq_comm
theorem trimPrefix_m (xs : List UInt8) : Lib.trimPrefix xs [45] = stripM xs := by
  unfold Lib.trimPrefix stripM
  rw [hasPrefix_m]
  simp

/-- The number of a sign and digits, or the error. -/
def numD (m : Bool) (d : List UInt8) : Int × Int :=
  if (!numeral d || (m && d == [48])) = true then (0, 5)
  else if m = true then (if val 0 d ≤ 9223372036854775808 then (-((val 0 d : Nat) : Int), 0) else (0, 4))
  else (if val 0 d ≤ 9223372036854775807 then (((val 0 d : Nat) : Int), 0) else (0, 4))
/-- The number of a text, or the error. -/
def num (xs : List UInt8) : Int × Int := numD (isM xs) (stripM xs)

theorem val_more (xs ys : List UInt8) : val 0 xs ≤ val 0 (xs ++ ys) := by rw [val_append]; exact val_ge _ _

theorem take_more (xs : List UInt8) (k : Nat) : val 0 (xs.take k) ≤ val 0 xs := by
  have := val_more (xs.take k) (xs.drop k)
  rwa [List.take_append_drop] at this

theorem val_step (d : ByteArray) (k : Nat) (h : k < d.size) : val 0 ((tb d).take (k + 1)) = 10 * val 0 ((tb d).take k) + (d[k].toNat - 48) := by
  have hlt : k < (tb d).length := by rw [tb_length]; exact h
  rw [List.take_succ_eq_append_getElem hlt, val_append, ← tb_get d k h]
  rfl

theorem dig_of_all (d : ByteArray) (k : Nat) (h : k < d.size) (ha : (tb d).all isDig = true) : 48 ≤ d[k].toNat ∧ d[k].toNat ≤ 57 := by
  have := List.all_eq_true.1 ha d[k] (by rw [tb_get d k h]; exact List.getElem_mem _)
  simpa [isDig] using this

theorem numD_form (m : Bool) (d : List UInt8) (h : numeral d = false ∨ (m = true ∧ d = [48])) : numD m d = (0, 5) := by
  unfold numD
  rw [if_pos]
  rcases h with h | ⟨h1, h2⟩
  · rw [h]; rfl
  · rw [h1, h2]; rfl
/-- No minus ahead of a zero. -/
def NotZ (m : Bool) (d : List UInt8) : Prop := ¬ (m = true ∧ d = [48])
theorem numD_full (m : Bool) (d : List UInt8) (h : numeral d = true) (h0 : NotZ m d) (hv : 9223372036854775808 < val 0 d ∨ (m = false ∧ 9223372036854775807 < val 0 d)) : numD m d = (0, 4) := by
  unfold numD
  rw [if_neg (by rw [h]; simpa [NotZ] using h0)]
  cases m
  · rw [if_neg (by simp), if_neg (by omega)]
  · rw [if_pos rfl, if_neg (by simp at hv; omega)]
theorem numD_minus (d : List UInt8) (h : numeral d = true) (h0 : NotZ true d) (hv : val 0 d ≤ 9223372036854775808) : numD true d = (-((val 0 d : Nat) : Int), 0) := by
  unfold numD
  rw [if_neg (by rw [h]; simpa [NotZ] using h0), if_pos rfl, if_pos hv]
theorem numD_plus (d : List UInt8) (h : numeral d = true) (hv : val 0 d ≤ 9223372036854775807) : numD false d = (((val 0 d : Nat) : Int), 0) := by
  unfold numD
  rw [if_neg (by rw [h]; simp), if_neg (by simp), if_pos hv]

theorem ret_num {a b : Int} {p : Int × Int} (h : p = (a, b)) : Ending.returned (.tuple #[.int .i64 a, .int .i64 b]) = Ending.returned (.tuple #[.int .i64 p.1, .int .i64 p.2]) := by rw [h]

set_option maxRecDepth 100000 in
set_option maxHeartbeats 4000000 in
theorem number_c (w : World) (s : ByteArray) (hs : s.size ≤ 9223372036854775807) : Calls Tryd.prog 44 #[.string s] w fun e w' => e = .returned (.tuple #[.int .i64 (num (tb s)).1, .int .i64 (num (tb s)).2]) ∧ w = w' := by
  have hC := Tryd.strings_CutPrefix s ⟨#[45]⟩ w
  rw [show s.data.toList = tb s from rfl, show (⟨#[45]⟩ : ByteArray).data.toList = [45] from rfl, trimPrefix_m, hasPrefix_m] at hC
  have hdl : (stripM (tb s)).length ≤ s.size := by
    unfold stripM
    split
    · simp [tb_length]
    · simp [tb_length]
  obtain ⟨d, hd⟩ : ∃ d : ByteArray, d = ⟨(stripM (tb s)).toArray⟩ := ⟨_, rfl⟩
  have htd : tb d = stripM (tb s) := by subst hd; simp [tb]
  have hds : d.size ≤ 9223372036854775807 := by rw [← tb_length, htd]; omega
  rw [← hd] at hC
  have HC := Lib.hid hC
  have HNU := Lib.hid (show num (tb s) = numD (isM (tb s)) (tb d) from by rw [htd]; rfl)
  generalize num (tb s) = R at *
  generalize isM (tb s) = m at *
  clear hC hd htd hdl hs
  have HTL := Lib.hid (Go.ByteArray.toList_eq d)
  by_cases hn : numeral (tb d) = true
  · have HNm := Lib.hid hn
    have HA := Lib.hid (show (tb d).all isDig = true from by unfold numeral at hn; rw [Bool.and_eq_true] at hn; exact hn.1)
    by_cases h0 : m = true ∧ tb d = [48]
    · obtain ⟨rfl, h48⟩ := h0
      have HR := Lib.hid (HNU.out.trans (numD_form true (tb d) (.inr ⟨rfl, h48⟩)))
      have tz : (d.toList == [48]) = true := by rw [HTL.out]; exact beq_iff_eq.2 h48
      clear hn h48
      go_enter Tryd.func44, Tryd.ntmps44
      go_wp2_with (first
        | (go_at_call 57; refine HC.out.mono ?_; rintro e w' ⟨rfl, rfl⟩)
        | (go_at_call 58; refine (numeral_c _ _ hds).mono ?_; rintro e w' ⟨rfl, rfl⟩; rw [HNm.out]))
      go_ret2
      exact ⟨ret_num HR.out, rfl⟩
    · have H0 := Lib.hid (show NotZ m (tb d) from h0)
      have tz : m = true → (d.toList == [48]) = false := by intro h; rw [HTL.out]; exact beq_eq_false_iff_ne.2 fun h' => h0 ⟨h, h'⟩
      have TZ := Lib.hid tz
      clear hn h0 tz
      cases m
      all_goals
        try (have tz := TZ.out rfl)
        go_enter Tryd.func44, Tryd.ntmps44
        go_wp2_with (first
          | (go_at_call 57; refine HC.out.mono ?_; rintro e w' ⟨rfl, rfl⟩)
          | (go_at_call 58; refine (numeral_c _ _ hds).mono ?_; rintro e w' ⟨rfl, rfl⟩; rw [HNm.out]))
        go_loop [6, 26] (fun v i => ∃ k : Nat, k ≤ d.size ∧ i = .int .i64 k ∧ v = .int .i64 (-((val 0 ((tb d).take k) : Nat) : Int)) ∧ val 0 ((tb d).take k) ≤ 9223372036854775808) (fun v i => d.size - (intOf i).toNat)
        case atStart => exact ⟨0, by omega, rfl, by rw [List.take_zero]; rfl, by rw [List.take_zero]; exact Nat.zero_le _⟩
        case round =>
          obtain ⟨k, hk, rfl, rfl, hv⟩ := hrel
          by_cases hlt : k < d.size
          · have HS := Lib.hid (val_step d k hlt)
            have hb := dig_of_all d k hlt HA.out
            have HM := Lib.hid (take_more (tb d) (k + 1))
            generalize val 0 ((tb d).take k) = V at *
            obtain ⟨hb1, hb2⟩ := hb
            have HB2 := Lib.hid hb2
            have eq : (-9223372036854775808 + ((d[k].toNat : Int) - 48)).tdiv 10 = -((9223372036854775808 - ((d[k].toNat : Int) - 48)) / 10) := by
              rw [show (-9223372036854775808 + ((d[k].toNat : Int) - 48)) = -(9223372036854775808 - ((d[k].toNat : Int) - 48)) from by omega, Int.neg_tdiv, Int.tdiv_eq_ediv_of_nonneg (by omega)]
            by_cases hov : 9223372036854775808 < 10 * V + (d[k].toNat - 48)
            · have t9 : -(V : Int) < (-9223372036854775808 + ((d[k].toNat : Int) - 48)).tdiv 10 := by rw [eq]; omega
              have HR := Lib.hid (HNU.out.trans (numD_full _ (tb d) HNm.out H0.out (.inl (by have h1 := HM.out; have h2 := HS.out; omega))))
              clear eq hov
              go_wp2_with fail
              all_goals go_ret2
              all_goals exact ⟨ret_num HR.out, rfl⟩
            · have t9 : (-9223372036854775808 + ((d[k].toNat : Int) - 48)).tdiv 10 ≤ -(V : Int) := by rw [eq]; omega
              have hV : V ≤ 922337203685477580 := by omega
              have HO := Lib.hid hov
              have HE := Lib.hid (show 10 * -(V : Int) - ((d[k].toNat : Int) - 48) = -((val 0 ((tb d).take (k + 1)) : Nat) : Int) from by rw [HS.out]; omega)
              have hsum : 10 * (V : Int) + ((d[k].toNat : Int) - 48) ≤ 9223372036854775808 := by omega
              clear eq hov
              go_wp2_with fail
              all_goals exact ⟨⟨k + 1, by omega, by go_num, by rw [HE.out], by rw [HS.out]; have := HO.out; omega⟩, by simp [intOf]; omega⟩
          · have hk' : k = d.size := by omega
            have HV := Lib.hid (show val 0 ((tb d).take k) = val 0 (tb d) from by rw [List.take_of_length_le (by rw [tb_length]; omega)])
            rw [HV.out] at hv ⊢
            generalize hval : val 0 (tb d) = V at *
            have HVV := Lib.hid hval
            clear hval hk'
            first
              | (have HR := Lib.hid (HNU.out.trans (numD_minus (tb d) HNm.out H0.out (by rw [HVV.out]; exact hv)))
                 go_wp2_with fail
                 all_goals go_ret2
                 all_goals exact ⟨ret_num (by rw [HR.out, HVV.out]), rfl⟩)
              | (by_cases hmax : V = 9223372036854775808
                 · have HR := Lib.hid (HNU.out.trans (numD_full _ (tb d) HNm.out H0.out (.inr ⟨rfl, by rw [HVV.out]; omega⟩)))
                   have t8 : (-(V : Int) == -9223372036854775808) = true := by simp; omega
                   clear hmax
                   go_wp2_with fail
                   all_goals go_ret2
                   all_goals exact ⟨ret_num HR.out, rfl⟩
                 · have HR := Lib.hid (HNU.out.trans (numD_plus (tb d) HNm.out (by rw [HVV.out]; omega)))
                   have t8 : (-(V : Int) == -9223372036854775808) = false := by rw [beq_eq_false_iff_ne]; omega
                   have hv' : V ≤ 9223372036854775807 := by omega
                   clear hmax
                   go_wp2_with fail
                   all_goals go_ret2
                   all_goals exact ⟨(by have e := ret_num HR.out; rw [HVV.out] at e; simpa using e), rfl⟩)
  · have hn' : numeral (tb d) = false := by simpa using hn
    have HNm := Lib.hid hn'
    have HR := Lib.hid (HNU.out.trans (numD_form m (tb d) (.inl hn')))
    clear hn hn'
    go_enter Tryd.func44, Tryd.ntmps44
    go_wp2_with (first
      | (go_at_call 57; refine HC.out.mono ?_; rintro e w' ⟨rfl, rfl⟩)
      | (go_at_call 58; refine (numeral_c _ _ hds).mono ?_; rintro e w' ⟨rfl, rfl⟩; rw [HNm.out]))
    go_ret2
    exact ⟨ret_num HR.out, rfl⟩
end Go.Proofs.YtllhlmdhnmdihaaDoor

/- The reference's Text: it calls itself. -/
namespace Go.Proofs.YtllhlmdhnmdihaaDoor
open Go.RowKit
set_option linter.unusedVariables false

theorem txt_size (k : Nat) : ∀ (n : Int), -9223372036854775808 ≤ n → n ≤ 9223372036854775807 → (txt n).length ≤ 25 := by
  intro n h1 h2
  have hd : ∀ f u, (dg f u).length ≤ f + 1 := by
    intro f
    induction f with
    | zero => intro u; simp [dg]
    | succ f ih => intro u; unfold dg; split; · simp
                   · have := ih (u / 10); simp; omega
  unfold txt
  split
  · have := hd 20 (-n).toNat
    unfold ds
    simp only [List.length_cons]
    omega
  · have := hd 20 n.toNat
    unfold ds
    omega

theorem cat (a b : List UInt8) : ((⟨a.toArray⟩ : ByteArray) ++ ⟨b.toArray⟩) = ⟨(a ++ b).toArray⟩ := by
  apply ByteArray.ext
  simp [ByteArray.data_append]

theorem digit_cut : ∀ m : Fin 10, ((⟨#[48, 49, 50, 51, 52, 53, 54, 55, 56, 57]⟩ : ByteArray).extract m.val (m.val + 1)) = ⟨[UInt8.ofNat (48 + m.val)].toArray⟩ := by decide +kernel

end Go.Proofs.YtllhlmdhnmdihaaDoor

/- The reference's Number. -/
namespace Go.Proofs.YtllhlmdhnmdihaaDoor
open Go.RowKit
set_option linter.unusedVariables false

theorem numD_bad (m : Bool) (d : List UInt8) (h : d.all isDig = false) : numD m d = (0, 5) :=
  numD_form m d (.inl (by unfold numeral; rw [h]; rfl))
theorem numD_nil (m : Bool) : numD m [] = (0, 5) := numD_form m [] (.inl rfl)
theorem numD_zero (m : Bool) (r : List UInt8) (h : m = true ∨ r ≠ []) : numD m (48 :: r) = (0, 5) := by
  by_cases hr : r = []
  · subst hr
    exact numD_form m [48] (.inr ⟨by simpa using h, rfl⟩)
  · refine numD_form m _ (.inl ?_)
    unfold numeral
    rw [show ((48 :: r : List UInt8) == [48]) = false from by simpa using hr]
    simp
theorem numeral_of (d : List UInt8) (x : UInt8) (r : List UInt8) (hd : d = x :: r) (ha : d.all isDig = true) (h : x ≠ 48 ∨ r = []) : numeral d = true := by
  unfold numeral
  rw [ha]
  by_cases hx : x = 48
  · subst hx
    have : r = [] := by rcases h with h | h; exact absurd rfl h; exact h
    rw [hd, this]; rfl
  · rw [hd]; simp [hx]
theorem notZ_of (m : Bool) (d : List UInt8) (x : UInt8) (r : List UInt8) (hd : d = x :: r) (h : m = false ∨ x ≠ 48) : NotZ m d := by
  intro ⟨h1, h2⟩
  rw [hd] at h2
  rcases h with h | h
  · rw [h1] at h; cases h
  · exact h (List.cons.inj h2).1

theorem w64 (z : Int) : wrap64 z = (z + 9223372036854775808) % 18446744073709551616 - 9223372036854775808 := by unfold wrap64; omega
theorem w64_step (V D : Int) : wrap64 (wrap64 (10 * wrap64 (-V)) - D) = wrap64 (-(10 * V + D)) := by
  rw [w64, w64, w64, w64]; omega
theorem ds_ne (u : Nat) (h : u < 100000000000000000000) (r : List UInt8) : ds u ≠ 45 :: r := by
  intro e
  have := dg_all 20 u
  unfold ds at e
  rw [e] at this
  simp [isDig] at this
theorem val_19 (d : List UInt8) (h : d.all isDig = true) (hl : d.length ≤ 19) : val 0 d < 10000000000000000000 := by
  have := val_lt d h 0
  rw [Nat.zero_add, Nat.one_mul] at this
  have hp : 10 ^ d.length ≤ 10 ^ 19 := Nat.pow_le_pow_right (by omega) hl
  omega
theorem key20 (n : Nat) : ∀ (ys : List UInt8), ys.length = n → 20 ≤ n → ys.all isDig = true → ∀ x r, ys = x :: r → x ≠ 48 → 10000000000000000000 ≤ val 0 ys := by
  intro ys hy hn ha x r hd hx
  subst hd
  have hxd : isDig x = true := by simp only [List.all_cons, Bool.and_eq_true] at ha; exact ha.1
  have h1 : 48 ≤ x.toNat ∧ x.toNat ≤ 57 := by simpa [isDig] using hxd
  have h48 : x.toNat ≠ 48 := fun e => hx (UInt8.toNat_inj.1 e)
  have hr : ∀ (l : List UInt8) (a : Nat), a * 10 ^ l.length ≤ val a l := by
    intro l
    induction l with
    | nil => intro a; show a * 10 ^ 0 ≤ a; omega
    | cons y t ih =>
      intro a
      have := ih (10 * a + (y.toNat - 48))
      have e : a * 10 ^ (y :: t).length = (10 * a) * 10 ^ t.length := by rw [List.length_cons, Nat.pow_succ, Nat.mul_comm (10 ^ t.length) 10, ← Nat.mul_assoc, Nat.mul_comm a 10]
      rw [e]
      exact Nat.le_trans (Nat.mul_le_mul_right _ (by omega)) this
  have h2 := hr r (10 * 0 + (x.toNat - 48))
  have hp : 10 ^ 19 ≤ 10 ^ r.length := Nat.pow_le_pow_right (by omega) (by simp at hy; omega)
  have h3 : 1 * 10 ^ 19 ≤ (10 * 0 + (x.toNat - 48)) * 10 ^ r.length := Nat.mul_le_mul (by omega) hp
  exact Nat.le_trans (by omega) h2

theorem txt_of_plus (d : List UInt8) (h : numeral d = true) (hl : d.length ≤ 20) : txt ((val 0 d : Nat) : Int) = d := by
  unfold txt
  rw [if_neg (by omega)]
  simpa using numeral_ds d h hl
theorem val_pos_of (d : List UInt8) (h : numeral d = true) (h0 : NotZ true d) : 1 ≤ val 0 d := by
  unfold numeral at h
  rw [Bool.and_eq_true, Bool.or_eq_true] at h
  cases d with
  | nil => simp at h
  | cons x r =>
    have hx : x ≠ 48 := by
      intro e
      subst e
      rcases h.2 with h2 | h2
      · exact h0 ⟨rfl, by simpa using h2⟩
      · simp at h2
    exact val_pos x r (by have := h.1; simp only [List.all_cons, Bool.and_eq_true] at this; exact this.1) hx
theorem txt_of_minus (d : List UInt8) (h : numeral d = true) (h0 : NotZ true d) (hl : d.length ≤ 20) : txt (-((val 0 d : Nat) : Int)) = 45 :: d := by
  have hp := val_pos_of d h h0
  unfold txt
  rw [if_pos (by omega), show (- -((val 0 d : Nat) : Int)).toNat = val 0 d from by omega, numeral_ds d h hl]

end Go.Proofs.YtllhlmdhnmdihaaDoor

/- The reference's Number, whatever the text. -/
namespace Go.Proofs.YtllhlmdhnmdihaaDoor
open Go.RowKit
set_option linter.unusedVariables false


end Go.Proofs.YtllhlmdhnmdihaaDoor
