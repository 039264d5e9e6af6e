/- The reference's Number. -/
import Derived.Test.YtncloiimbclklaaNo
import Derived.Test.YtncloiimbclklaaNu
namespace Go.Proofs.Ytncloiimbclklaa
open Go.RowKit
set_option linter.unusedVariables false

theorem numD_bad (m : Bool) (d : List UInt8) (h : d.all isDig = false) : numD m d = (0, 5) :=
  numD_form m d (.inl (by unfold numeral; rw [h]; rfl))
theorem numD_nil (m : Bool) : numD m [] = (0, 5) := numD_form m [] (.inl rfl)
theorem numD_zero (m : Bool) (r : List UInt8) (h : m = true ∨ r ≠ []) : numD m (48 :: r) = (0, 5) := by
  by_cases hr : r = []
  · subst hr
    exact numD_form m [48] (.inr ⟨by simpa using h, rfl⟩)
  · refine numD_form m _ (.inl ?_)
    unfold numeral
    rw [show ((48 :: r : List UInt8) == [48]) = false from by simpa using hr]
    simp
theorem numeral_of (d : List UInt8) (x : UInt8) (r : List UInt8) (hd : d = x :: r) (ha : d.all isDig = true) (h : x ≠ 48 ∨ r = []) : numeral d = true := by
  unfold numeral
  rw [ha]
  by_cases hx : x = 48
  · subst hx
    have : r = [] := by rcases h with h | h; exact absurd rfl h; exact h
    rw [hd, this]; rfl
  · rw [hd]; simp [hx]
theorem notZ_of (m : Bool) (d : List UInt8) (x : UInt8) (r : List UInt8) (hd : d = x :: r) (h : m = false ∨ x ≠ 48) : NotZ m d := by
  intro ⟨h1, h2⟩
  rw [hd] at h2
  rcases h with h | h
  · rw [h1] at h; cases h
  · exact h (List.cons.inj h2).1

theorem w64 (z : Int) : wrap64 z = (z + 9223372036854775808) % 18446744073709551616 - 9223372036854775808 := by unfold wrap64; omega
theorem w64_step (V D : Int) : wrap64 (wrap64 (10 * wrap64 (-V)) - D) = wrap64 (-(10 * V + D)) := by
  rw [w64, w64, w64, w64]; omega
theorem ds_ne (u : Nat) (h : u < 100000000000000000000) (r : List UInt8) : ds u ≠ 45 :: r := by
  intro e
  have := dg_all 20 u
  unfold ds at e
  rw [e] at this
  simp [isDig] at this
theorem val_19 (d : List UInt8) (h : d.all isDig = true) (hl : d.length ≤ 19) : val 0 d < 10000000000000000000 := by
  have := val_lt d h 0
  rw [Nat.zero_add, Nat.one_mul] at this
  have hp : 10 ^ d.length ≤ 10 ^ 19 := Nat.pow_le_pow_right (by omega) hl
  omega
theorem key20 (n : Nat) : ∀ (ys : List UInt8), ys.length = n → 20 ≤ n → ys.all isDig = true → ∀ x r, ys = x :: r → x ≠ 48 → 10000000000000000000 ≤ val 0 ys := by
  intro ys hy hn ha x r hd hx
  subst hd
  have hxd : isDig x = true := by simp only [List.all_cons, Bool.and_eq_true] at ha; exact ha.1
  have h1 : 48 ≤ x.toNat ∧ x.toNat ≤ 57 := by simpa [isDig] using hxd
  have h48 : x.toNat ≠ 48 := fun e => hx (UInt8.toNat_inj.1 e)
  have hr : ∀ (l : List UInt8) (a : Nat), a * 10 ^ l.length ≤ val a l := by
    intro l
    induction l with
    | nil => intro a; show a * 10 ^ 0 ≤ a; omega
    | cons y t ih =>
      intro a
      have := ih (10 * a + (y.toNat - 48))
      have e : a * 10 ^ (y :: t).length = (10 * a) * 10 ^ t.length := by rw [List.length_cons, Nat.pow_succ, Nat.mul_comm (10 ^ t.length) 10, ← Nat.mul_assoc, Nat.mul_comm a 10]
      rw [e]
      exact Nat.le_trans (Nat.mul_le_mul_right _ (by omega)) this
  have h2 := hr r (10 * 0 + (x.toNat - 48))
  have hp : 10 ^ 19 ≤ 10 ^ r.length := Nat.pow_le_pow_right (by omega) (by simp at hy; omega)
  have h3 : 1 * 10 ^ 19 ≤ (10 * 0 + (x.toNat - 48)) * 10 ^ r.length := Nat.mul_le_mul (by omega) hp
  exact Nat.le_trans (by omega) h2

theorem txt_of_plus (d : List UInt8) (h : numeral d = true) (hl : d.length ≤ 20) : txt ((val 0 d : Nat) : Int) = d := by
  unfold txt
  rw [if_neg (by omega)]
  simpa using numeral_ds d h hl
theorem val_pos_of (d : List UInt8) (h : numeral d = true) (h0 : NotZ true d) : 1 ≤ val 0 d := by
  unfold numeral at h
  rw [Bool.and_eq_true, Bool.or_eq_true] at h
  cases d with
  | nil => simp at h
  | cons x r =>
    have hx : x ≠ 48 := by
      intro e
      subst e
      rcases h.2 with h2 | h2
      · exact h0 ⟨rfl, by simpa using h2⟩
      · simp at h2
    exact val_pos x r (by have := h.1; simp only [List.all_cons, Bool.and_eq_true] at this; exact this.1) hx
theorem txt_of_minus (d : List UInt8) (h : numeral d = true) (h0 : NotZ true d) (hl : d.length ≤ 20) : txt (-((val 0 d : Nat) : Int)) = 45 :: d := by
  have hp := val_pos_of d h h0
  unfold txt
  rw [if_pos (by omega), show (- -((val 0 d : Nat) : Int)).toNat = val 0 d from by omega, numeral_ds d h hl]

set_option maxRecDepth 100000 in
set_option maxHeartbeats 4000000 in
theorem rnumber_minus (w : World) (s : ByteArray) (hs : s.size ≤ 140737488355328) (hp : 0 < s.size) (h45 : ((s[0].toNat : Int) == 45) = true) (d : ByteArray) (hd : s.extract 1 s.size = d) (R : Int × Int) (hR : R = numD true (tb d)) (hts : tb s = 45 :: tb d) (hsz : s.size = d.size + 1) :
    Calls Try.prog 76 #[.string s] w fun e w' => e = .returned (.tuple #[.int .i64 R.1, .int .i64 R.2]) ∧ w = w' := by
  have HR0 := Lib.hid hR
  have HTS := Lib.hid hts
  have HDX := Lib.hid hd
  have HSZ := Lib.hid hsz
  have hdl : d.size ≤ 140737488355328 := by omega
  have hsz1 : d.size < s.size := by omega
  clear hd
  clear hR hts hsz
  have hdx := HDX.out
  by_cases hz0 : d.size = 0
  · have he : tb d = [] := List.eq_nil_of_length_eq_zero (by rw [tb_length]; exact hz0)
    have HR := Lib.hid (HR0.out.trans (show numD true (tb d) = (0, 5) from by rw [he]; exact numD_nil _))
    have t1 : ((d.size : Int) == 0) = true := by rw [beq_iff_eq]; omega
    clear he
    have HZ := Lib.hid hz0
    clear hz0
    go_enter Try.func76, Try.ntmps76
    go_wp2_with fail
    all_goals go_ret2
    all_goals exact ⟨ret_num HR.out, rfl⟩
  · have hpd : 0 < d.size := by omega
    have t1 : ((d.size : Int) == 0) = false := by rw [beq_eq_false_iff_ne]; omega
    have hcons := tb_drop d 0 hpd
    simp only [List.drop_zero] at hcons
    have HCO := Lib.hid hcons
    clear hz0 hcons
    by_cases hzz : d[0].toNat = 48 ∧ 1 < s.size
    · have hx : d[0] = 48 := UInt8.toNat_inj.1 hzz.1
      have HR := Lib.hid (HR0.out.trans (show numD true (tb d) = (0, 5) from by
        rw [HCO.out, hx]
        exact numD_zero _ _ (.inl rfl)))
      have h48 : ((d[0].toNat : Int) == 48) = true := by rw [beq_iff_eq]; omega
      have hs1 := hzz.2
      clear hzz hx
      go_enter Try.func76, Try.ntmps76
      go_wp2_with fail
      all_goals go_ret2
      all_goals exact ⟨ret_num HR.out, rfl⟩
    · have h48 : ((d[0].toNat : Int) == 48) = false := by rw [beq_eq_false_iff_ne]; omega
      have HZ := Lib.hid hzz
      clear hzz
      all_goals
        go_enter Try.func76, Try.ntmps76
        go_wp2_with fail
        all_goals skip
        go_loop [34] (fun i => ∃ k : Nat, k ≤ d.size ∧ i = .int .i64 k ∧ ((tb d).take k).all isDig = true) (fun i => d.size - (intOf i).toNat)
        case atStart => exact ⟨0, by omega, rfl, rfl⟩
        case round =>
          obtain ⟨k, hk, rfl, ha⟩ := hrel
          have HA := Lib.hid ha
          clear ha
          by_cases hlt : k < d.size
          · have HD := Lib.hid (all_drop HA.out (tb_drop d k hlt))
            by_cases hd : isDig d[k] = true
            · have hd' : 48 ≤ d[k].toNat ∧ d[k].toNat ≤ 57 := by simpa [isDig] using hd
              obtain ⟨d1, d2⟩ := hd'
              have HN := Lib.hid (show ((tb d).take (k + 1)).all isDig = true from by rw [HD.out.1]; exact hd)
              clear hd
              go_wp2_with fail
              exact ⟨⟨k + 1, by omega, by go_num, HN.out⟩, by simp [intOf]; omega⟩
            · have hd' : d[k].toNat < 48 ∨ 57 < d[k].toNat := by simp [isDig] at hd; omega
              have HR := Lib.hid (HR0.out.trans (numD_bad _ _ (show (tb d).all isDig = false from by rw [HD.out.2]; simp [hd])))
              clear hd
              rcases hd' with hd' | hd'
              all_goals
                go_wp2_with fail
                all_goals go_ret2
                all_goals exact ⟨ret_num HR.out, rfl⟩
          · have HAll := Lib.hid (show (tb d).all isDig = true from by rw [← HA.out, List.take_of_length_le (by rw [tb_length]; omega)])
            have HNm := Lib.hid (numeral_of _ _ _ HCO.out HAll.out (by
              by_cases h : d[0] = 48
              · right
                have h1 : d[0].toNat = 48 := by rw [h]; rfl
                have h2 := HZ.out
                have := congrArg List.length HCO.out
                rw [List.length_cons, tb_length] at this
                exact List.eq_nil_of_length_eq_zero (by omega)
              · exact .inl h))
            have HNZ := Lib.hid (notZ_of true _ _ _ HCO.out (.inr (fun h => HZ.out ⟨by rw [h]; rfl, by omega⟩)))
            by_cases h19 : 19 < d.size
            · have HR := Lib.hid (HR0.out.trans (numD_full _ _ HNm.out HNZ.out (.inl (by
                have := key20 (tb d).length (tb d) rfl (by rw [tb_length]; omega) HAll.out _ _ HCO.out (fun h => by
                  have h1 : d[0].toNat = 48 := by rw [h]; rfl
                  have h2 := HZ.out
                  omega)
                omega))))
              go_wp2_with fail
              all_goals go_ret2
              all_goals exact ⟨ret_num HR.out, rfl⟩
            · have h19' : d.size ≤ 19 := by omega
              clear h19
              go_wp2_with fail
              go_loop [6, 53] (fun v i => ∃ j : Nat, j ≤ d.size ∧ i = .int .i64 j ∧ v = .int .i64 (wrap64 (-((val 0 ((tb d).take j) : Nat) : Int)))) (fun v i => d.size - (intOf i).toNat)
              case atStart => exact ⟨0, by omega, rfl, by rw [List.take_zero, show val 0 [] = 0 from rfl, w64]; rfl⟩
              case round =>
                obtain ⟨j, hj, rfl, rfl⟩ := hrel
                by_cases hjl : j < d.size
                · have HS := Lib.hid (val_step d j hjl)
                  have hb := dig_of_all d j hjl HAll.out
                  generalize val 0 ((tb d).take j) = V at *
                  obtain ⟨hb1, hb2⟩ := hb
                  have HE := Lib.hid (show wrap64 (wrap64 (10 * wrap64 (-(V : Int))) - ((d[j].toNat : Int) - 48)) = wrap64 (-((val 0 ((tb d).take (j + 1)) : Nat) : Int)) from by
                    rw [w64_step, HS.out]
                    congr 2
                    omega)
                  go_wp2_with fail
                  exact ⟨⟨j + 1, by omega, by go_num, by rw [HE.out]⟩, by simp [intOf]; omega⟩
                · have HV := Lib.hid (show val 0 ((tb d).take j) = val 0 (tb d) from by rw [List.take_of_length_le (by rw [tb_length]; omega)])
                  rw [HV.out]
                  have HV19 := Lib.hid (val_19 _ HAll.out (by rw [tb_length]; exact h19'))
                  have tlen : ((d.size : Int) == (s.size : Int)) = false := by rw [beq_eq_false_iff_ne]; omega
                  by_cases hfit : val 0 (tb d) ≤ 9223372036854775808
                  · have HN := Lib.hid (show wrap64 (-((val 0 (tb d) : Nat) : Int)) = -((val 0 (tb d) : Nat) : Int) from by rw [w64]; omega)
                    have HR := Lib.hid (HR0.out.trans (numD_minus _ HNm.out HNZ.out hfit))
                    have tE : (txt (-((val 0 (tb d) : Nat) : Int)) == s.toList) = true := by
                      rw [beq_iff_eq, ByteArray.toList_eq]
                      show _ = tb s
                      rw [HTS.out]
                      exact txt_of_minus _ HNm.out HNZ.out (by rw [tb_length]; omega)
                    rw [HN.out]
                    generalize val 0 (tb d) = V at *
                    go_wp2_with fail
                    refine (rtext_c 18 _ _ (by have : (10 : Nat) ^ (18 + 1) = 10000000000000000000 := rfl; omega) (by omega) (by omega)).mono ?_
                    rintro e w' ⟨rfl, rfl⟩
                    go_wp2_with fail
                    all_goals go_ret2
                    all_goals exact ⟨ret_num HR.out, rfl⟩
                  · have HN := Lib.hid (show wrap64 (-((val 0 (tb d) : Nat) : Int)) = ((18446744073709551616 - val 0 (tb d) : Nat) : Int) from by have := HV19.out; rw [w64]; omega)
                    have HR := Lib.hid (HR0.out.trans (numD_full _ _ HNm.out HNZ.out (.inl (by omega))))
                    have hU : 18446744073709551616 - val 0 (tb d) ≤ 9223372036854775807 := by omega
                    have tE : (txt ((18446744073709551616 - val 0 (tb d) : Nat) : Int) == s.toList) = false := by
                      rw [beq_eq_false_iff_ne, ByteArray.toList_eq]
                      show ¬ _ = tb s
                      rw [HTS.out]
                      unfold txt
                      rw [if_neg (by omega)]
                      exact ds_ne _ (by omega) _
                    rw [HN.out]
                    generalize 18446744073709551616 - val 0 (tb d) = V at *
                    go_wp2_with fail
                    refine (rtext_c 18 _ _ (by have : (10 : Nat) ^ (18 + 1) = 10000000000000000000 := rfl; omega) (by omega) (by omega)).mono ?_
                    rintro e w' ⟨rfl, rfl⟩
                    go_wp2_with fail
                    all_goals go_ret2
                    all_goals exact ⟨ret_num HR.out, rfl⟩

set_option maxRecDepth 100000 in
set_option maxHeartbeats 4000000 in
theorem rnumber_plus (w : World) (s : ByteArray) (hs : s.size ≤ 140737488355328) (hp : 0 < s.size) (h45 : ((s[0].toNat : Int) == 45) = false) (R : Int × Int) (hR : R = numD false (tb s)) (hts : tb s = tb s) (hsz : True) :
    Calls Try.prog 76 #[.string s] w fun e w' => e = .returned (.tuple #[.int .i64 R.1, .int .i64 R.2]) ∧ w = w' := by
  have HR0 := Lib.hid hR
  have HTS := Lib.hid hts
  clear hR hts hsz
  by_cases hz0 : s.size = 0
  · omega
  · have hpd : 0 < s.size := by omega
    have t1 : ((s.size : Int) == 0) = false := by rw [beq_eq_false_iff_ne]; omega
    have hcons := tb_drop s 0 hpd
    simp only [List.drop_zero] at hcons
    have HCO := Lib.hid hcons
    clear hz0 hcons
    by_cases hzz : s[0].toNat = 48 ∧ 1 < s.size
    · have hx : s[0] = 48 := UInt8.toNat_inj.1 hzz.1
      have HR := Lib.hid (HR0.out.trans (show numD false (tb s) = (0, 5) from by
        rw [HCO.out, hx]
        exact numD_zero _ _ (.inr (fun e => by have := congrArg List.length HCO.out; rw [List.length_cons, e, tb_length] at this; simp at this; omega))))
      have h48 : ((s[0].toNat : Int) == 48) = true := by rw [beq_iff_eq]; omega
      have hs1 := hzz.2
      clear hzz hx
      go_enter Try.func76, Try.ntmps76
      go_wp2_with fail
      all_goals go_ret2
      all_goals exact ⟨ret_num HR.out, rfl⟩
    · have hcase : (s[0].toNat ≠ 48) ∨ (s[0].toNat = 48 ∧ s.size ≤ 1) := by omega
      have HZ := Lib.hid hzz
      clear hzz
      have hq : (((s[0].toNat : Int) == 48) = false) ∨ (((s[0].toNat : Int) == 48) = true ∧ s.size ≤ 1) := by
        rcases hcase with h | ⟨h, h'⟩
        · left; rw [beq_eq_false_iff_ne]; omega
        · right; exact ⟨by rw [beq_iff_eq]; omega, h'⟩
      clear hcase
      rcases hq with h48 | ⟨h48, hs1⟩
      all_goals
        go_enter Try.func76, Try.ntmps76
        go_wp2_with fail
        go_loop [34] (fun i => ∃ k : Nat, k ≤ s.size ∧ i = .int .i64 k ∧ ((tb s).take k).all isDig = true) (fun i => s.size - (intOf i).toNat)
        case atStart => exact ⟨0, by omega, rfl, rfl⟩
        case round =>
          obtain ⟨k, hk, rfl, ha⟩ := hrel
          have HA := Lib.hid ha
          clear ha
          by_cases hlt : k < s.size
          · have HD := Lib.hid (all_drop HA.out (tb_drop s k hlt))
            by_cases hd : isDig s[k] = true
            · have hd' : 48 ≤ s[k].toNat ∧ s[k].toNat ≤ 57 := by simpa [isDig] using hd
              obtain ⟨d1, d2⟩ := hd'
              have HN := Lib.hid (show ((tb s).take (k + 1)).all isDig = true from by rw [HD.out.1]; exact hd)
              clear hd
              go_wp2_with fail
              exact ⟨⟨k + 1, by omega, by go_num, HN.out⟩, by simp [intOf]; omega⟩
            · have hd' : s[k].toNat < 48 ∨ 57 < s[k].toNat := by simp [isDig] at hd; omega
              have HR := Lib.hid (HR0.out.trans (numD_bad _ _ (show (tb s).all isDig = false from by rw [HD.out.2]; simp [hd])))
              clear hd
              rcases hd' with hd' | hd'
              all_goals
                go_wp2_with fail
                all_goals go_ret2
                all_goals exact ⟨ret_num HR.out, rfl⟩
          · have HAll := Lib.hid (show (tb s).all isDig = true from by rw [← HA.out, List.take_of_length_le (by rw [tb_length]; omega)])
            have HNm := Lib.hid (numeral_of _ _ _ HCO.out HAll.out (by
              by_cases h : s[0] = 48
              · right
                have h1 : s[0].toNat = 48 := by rw [h]; rfl
                have h2 := HZ.out
                have := congrArg List.length HCO.out
                rw [List.length_cons, tb_length] at this
                exact List.eq_nil_of_length_eq_zero (by omega)
              · exact .inl h))
            have HNZ := Lib.hid (notZ_of false _ _ _ HCO.out (.inl rfl))
            by_cases h19 : 19 < s.size
            · have HR := Lib.hid (HR0.out.trans (numD_full _ _ HNm.out HNZ.out (.inl (by
                have := key20 (tb s).length (tb s) rfl (by rw [tb_length]; omega) HAll.out _ _ HCO.out (fun h => by
                  have h1 : s[0].toNat = 48 := by rw [h]; rfl
                  have h2 := HZ.out
                  omega)
                omega))))
              go_wp2_with fail
              all_goals go_ret2
              all_goals exact ⟨ret_num HR.out, rfl⟩
            · have h19' : s.size ≤ 19 := by omega
              clear h19
              go_wp2_with fail
              go_loop [6, 53] (fun v i => ∃ j : Nat, j ≤ s.size ∧ i = .int .i64 j ∧ v = .int .i64 (wrap64 (-((val 0 ((tb s).take j) : Nat) : Int)))) (fun v i => s.size - (intOf i).toNat)
              case atStart => exact ⟨0, by omega, rfl, by rw [List.take_zero, show val 0 [] = 0 from rfl, w64]; rfl⟩
              case round =>
                obtain ⟨j, hj, rfl, rfl⟩ := hrel
                by_cases hjl : j < s.size
                · have HS := Lib.hid (val_step s j hjl)
                  have hb := dig_of_all s j hjl HAll.out
                  generalize val 0 ((tb s).take j) = V at *
                  obtain ⟨hb1, hb2⟩ := hb
                  have HE := Lib.hid (show wrap64 (wrap64 (10 * wrap64 (-(V : Int))) - ((s[j].toNat : Int) - 48)) = wrap64 (-((val 0 ((tb s).take (j + 1)) : Nat) : Int)) from by
                    rw [w64_step, HS.out]
                    congr 2
                    omega)
                  go_wp2_with fail
                  exact ⟨⟨j + 1, by omega, by go_num, by rw [HE.out]⟩, by simp [intOf]; omega⟩
                · have HV := Lib.hid (show val 0 ((tb s).take j) = val 0 (tb s) from by rw [List.take_of_length_le (by rw [tb_length]; omega)])
                  rw [HV.out]
                  have HV19 := Lib.hid (val_19 _ HAll.out (by rw [tb_length]; exact h19'))
                  have tlen : ((s.size : Int) == (s.size : Int)) = true := by simp
                  by_cases hfit : val 0 (tb s) ≤ 9223372036854775807
                  · have HN := Lib.hid (show wrap64 (-((val 0 (tb s) : Nat) : Int)) = -((val 0 (tb s) : Nat) : Int) from by rw [w64]; omega)
                    have HR := Lib.hid (HR0.out.trans (numD_plus _ HNm.out hfit))
                    have tE : (txt ((val 0 (tb s) : Nat) : Int) == s.toList) = true := by
                      rw [beq_iff_eq, ByteArray.toList_eq]
                      exact txt_of_plus _ HNm.out (by rw [tb_length]; omega)
                    rw [HN.out]
                    generalize val 0 (tb s) = V at *
                    go_wp2_with fail
                    refine (rtext_c 18 _ _ (by have : (10 : Nat) ^ (18 + 1) = 10000000000000000000 := rfl; omega) (by omega) (by omega)).mono ?_
                    rintro e w' ⟨rfl, rfl⟩
                    go_wp2_with fail
                    all_goals go_ret2
                    all_goals exact ⟨ret_num HR.out, rfl⟩
                  · have HR := Lib.hid (HR0.out.trans (numD_full _ _ HNm.out HNZ.out (.inr ⟨rfl, by omega⟩)))
                    have tE : ∀ z : Int, z < 0 → (txt z == s.toList) = false := by
                      intro z h1
                      rw [beq_eq_false_iff_ne, ByteArray.toList_eq]
                      show ¬ _ = tb s
                      unfold txt
                      rw [if_pos (by omega)]
                      intro e
                      have := HAll.out
                      rw [← e] at this
                      simp [isDig] at this
                    have TE := Lib.hid tE
                    clear tE
                    by_cases hmin : val 0 (tb s) = 9223372036854775808
                    · have HN := Lib.hid (show wrap64 (-((val 0 (tb s) : Nat) : Int)) = -9223372036854775808 from by rw [w64]; omega)
                      rw [HN.out]
                      have tE := TE.out (-9223372036854775808) (by omega)
                      clear hmin hfit
                      go_wp2_with fail
                      rw [show wrap64 9223372036854775808 = -9223372036854775808 from by rw [w64]; rfl]
                      refine (rtext_c 18 _ _ (by have : (10 : Nat) ^ (18 + 1) = 10000000000000000000 := rfl; omega) (by omega) (by omega)).mono ?_
                      rintro e w' ⟨rfl, rfl⟩
                      go_wp2_with fail
                      all_goals go_ret2
                      all_goals exact ⟨ret_num HR.out, rfl⟩
                    · have HN := Lib.hid (show wrap64 (-((val 0 (tb s) : Nat) : Int)) = ((18446744073709551616 - val 0 (tb s) : Nat) : Int) from by have := HV19.out; rw [w64]; omega)
                      rw [HN.out]
                      have tE := TE.out (-((18446744073709551616 - val 0 (tb s) : Nat) : Int)) (by have := HV19.out; omega)
                      have hU : 18446744073709551616 - val 0 (tb s) ≤ 9223372036854775807 := by omega
                      clear hmin hfit
                      generalize 18446744073709551616 - val 0 (tb s) = V at *
                      go_wp2_with fail
                      refine (rtext_c 18 _ _ (by have : (10 : Nat) ^ (18 + 1) = 10000000000000000000 := rfl; omega) (by omega) (by omega)).mono ?_
                      rintro e w' ⟨rfl, rfl⟩
                      go_wp2_with fail
                      all_goals go_ret2
                      all_goals exact ⟨ret_num HR.out, rfl⟩
end Go.Proofs.Ytncloiimbclklaa
