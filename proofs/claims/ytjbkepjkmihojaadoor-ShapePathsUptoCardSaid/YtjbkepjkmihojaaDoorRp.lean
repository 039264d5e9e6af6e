/- shape: the reference's Order at two paths. -/
import Derived.Test.YtjbkepjkmihojaaDoorRo
namespace Go.Proofs.YtjbkepjkmihojaaDoor
open Go Go.RowKit
set_option linter.unusedVariables false

theorem cmpQ_step (x y : List PT) (k : Nat) (hx : k < x.length) (hy : k < y.length) (h : cmpQ x y = cmpQ (x.drop k) (y.drop k)) : cmpQ x y = if cmpP x[k] y[k] = 0 then cmpQ (x.drop (k + 1)) (y.drop (k + 1)) else cmpP x[k] y[k] := by
  rw [h, List.drop_eq_getElem_cons hx, List.drop_eq_getElem_cons hy]
  rfl

set_option maxRecDepth 100000 in
set_option maxHeartbeats 8000000 in
theorem rorder_yes (w : World) (a b : ByteArray) (ha : a.size ≤ 2097152) (hb : b.size ≤ 2097152) (x y : List PT) (hx : readF a.data.toList = some x) (hy : readF b.data.toList = some y) :
    Calls Tryd.prog 16 #[.string a, .string b] w fun e w' => e = .returned (.int .i64 (cmpQ x y)) ∧ Below w.heap.size w w' := by
  have HA := fun w => rbase_c w a ha
  have HB := fun w => rbase_c w b hb
  rw [baseV_some _ x hx] at HA
  rw [baseV_some _ y hy] at HB
  have HPA := Lib.hid (fun w => rparts_c w a (by omega))
  have HPB := Lib.hid (fun w => rparts_c w b (by omega))
  have HCA := Lib.hid (fun (k : Nat) hk hk' w => rpiece_c a ha x hx k hk hk' w)
  have HCB := Lib.hid (fun (k : Nat) hk hk' w => rpiece_c b hb y hy k hk hk' w)
  have HT := Lib.hid (fun w a b => rtexts_c w a b)
  have lx : x.length = (splitD a.data.toList).length := allF_length _ _ hx
  have ly : y.length = (splitD b.data.toList).length := allF_length _ _ hy
  have lx2 := read_len a ha x hx
  have ly2 := read_len b hb y hy
  have HAA := Lib.hid HA
  have HBB := Lib.hid HB
  generalize splitD a.data.toList = LA at *
  generalize splitD b.data.toList = LB at *
  have HLX := Lib.hid lx
  have HLY := Lib.hid ly
  clear HA HB hx hy lx ly
  go_enter Tryd.func16, Tryd.ntmps16
  go_wp2_with (go_at_call 7; with_reducible refine (HAA.out _).mono ?_; rintro e w1 ⟨rfl, hb1⟩; have H1 := Lib.hid hb1; clear hb1 HAA)
  go_wp2_with (go_at_call 7; with_reducible refine (HBB.out _).mono ?_; rintro e w2 ⟨rfl, hb2⟩; have H2 := Lib.hid (H1.out.trans (hb2.mono H1.out.size)); clear hb2 HBB)
  go_wp2_with (go_at_call 19; with_reducible refine (HPA.out _).mono ?_; rintro e w3 ⟨va, rfl, ho3, hb3⟩; obtain ⟨pa, ca, rfl, l1, m1, _⟩ := (OwnS.ofRow ho3).form; have H3 := Lib.hid (H2.out.trans (hb3.mono H2.out.size)); have HO3 := Lib.hid (OwnS.ofRow ho3); clear hb3 ho3 HPA m1)
  go_wp2_with (go_at_call 19; with_reducible refine (HPB.out _).mono ?_; rintro e w4 ⟨vb, rfl, ho4, hb4⟩; obtain ⟨pb, cb, rfl, l2, m2, _⟩ := (OwnS.ofRow ho4).form; have H4 := Lib.hid (H3.out.trans (hb4.mono H3.out.size)); have HO4 := Lib.hid (OwnS.ofRow ho4); have HO3' := Lib.hid (HO3.out.below hb4); clear hb4 ho4 HPB m2)
  have hla : LA.length ≤ 2097153 := by have := HLX.out; omega
  have hlb : LB.length ≤ 2097153 := by have := HLY.out; omega
  clear lx2 ly2
  go_loopw [11] (fun i wr => ∃ k : Nat, i = .int .i64 k ∧ k ≤ LA.length ∧ k ≤ LB.length ∧ Below w4.heap.size w4 wr ∧ cmpQ x y = cmpQ (x.drop k) (y.drop k)) (fun i _ => LA.length - (intOf i).toNat)
  case atStart => exact ⟨0, rfl, by omega, by omega, Below.refl _ _, by simp⟩
  case round =>
    obtain ⟨k, rfl, hka, hkb, hB, hC⟩ := hrel
    have HB := Lib.hid hB
    have HC := Lib.hid hC
    clear hB hC
    by_cases hlx : k < LA.length
    · by_cases hly : k < LB.length
      · have hkx : k < x.length := by rw [HLX.out]; exact hlx
        have hky : k < y.length := by rw [HLY.out]; exact hly
        obtain ⟨g, off, c', e1, gl1, n1⟩ := (HO3'.out.below HB.out).piece hlx
        simp only [Value.slice.injEq, true_and] at e1
        obtain ⟨rfl, rfl⟩ := e1
        obtain ⟨g', off', c'', e2, gl2, n2⟩ := (HO4.out.below HB.out).piece hly
        simp only [Value.slice.injEq, true_and] at e2
        obtain ⟨rfl, rfl⟩ := e2
        have HPX := Lib.hid (HCA.out k hkx hlx)
        have HPY := Lib.hid (HCB.out k hky hly)
        have HQ := Lib.hid (cmpQ_step x y k hkx hky HC.out)
        have HOn := Lib.hid (fun (w' : World) (hb : Below wr.heap.size wr w') => (show w'.cell? ⟨g', off' + k, none⟩ = some (.string ⟨LB[k].toArray⟩) from (hb.cell gl2).trans n2))
        generalize x[k] = p at *
        generalize y[k] = q at *
        generalize (⟨LA[k].toArray⟩ : ByteArray) = X at *
        generalize (⟨LB[k].toArray⟩ : ByteArray) = Y at *
        obtain ⟨P, hP⟩ : ∃ P : ByteArray, P = ⟨p.1.toArray⟩ := ⟨_, rfl⟩
        obtain ⟨R, hR⟩ : ∃ R : ByteArray, R = ⟨q.1.toArray⟩ := ⟨_, rfl⟩
        have hPl : p.1 = P.data.toList := by rw [hP]
        have hRl : q.1 = R.data.toList := by rw [hR]
        rw [← hP] at HPX
        rw [← hR] at HPY
        have heq : (P.toList == R.toList) = (p.1 == q.1) := by rw [toList_data, toList_data, hPl, hRl]
        obtain ⟨p1, p2⟩ := p
        obtain ⟨q1, q2⟩ := q
        simp only at hPl hRl heq HPX HPY
        clear hkx hky hP hR
        by_cases hn : p1 = q1
        · have tq : (P.toList == R.toList) = true := by rw [heq, hn]; simp
          have tq' : (P.toList != R.toList) = false := by simp [bne, tq]
          have hc0 : cmpP (p1, p2) (q1, q2) = cmpI p2 q2 := by
            unfold cmpP
            rw [if_pos (by rw [hn]; exact compareBytes_refl q1)]
          rw [hc0] at HQ
          have HQ' := Lib.hid HQ
          clear HQ hc0 hn heq hPl hRl
          rcases Int.lt_trichotomy p2 q2 with h | h | h
          · have HE := Lib.hid (show cmpQ x y = -1 from by
              have hci : cmpI p2 q2 = -1 := by unfold cmpI; rw [if_pos h]
              rw [HQ'.out.out, hci]; rfl)
            clear HQ'
            go_wp2_with (go_at_call 20; with_reducible refine (HPX.out _).mono ?_; rintro e w5 ⟨rfl, hb5⟩; have H5 := Lib.hid hb5; have n5 := HOn.out w5 hb5; clear hb5 HPX)
            go_wp2_with (go_at_call 20; with_reducible refine (HPY.out _).mono ?_; rintro e w6 ⟨rfl, hb6⟩; have H6 := Lib.hid (H5.out.trans (hb6.mono H5.out.size)); clear hb6 HPY n5)
            go_ret
            exact ⟨by rw [HE.out]; rfl, (H4.out.trans (HB.out.mono H4.out.size)).trans (H6.out.mono (H4.out.trans (HB.out.mono H4.out.size)).size)⟩
          · have HE := Lib.hid (show cmpQ x y = cmpQ (x.drop (k + 1)) (y.drop (k + 1)) from by
              rw [HQ'.out.out]
              have : cmpI p2 q2 = 0 := by unfold cmpI; rw [if_neg (by omega), if_neg (by omega)]
              rw [if_pos this])
            have h1 : ¬ p2 < q2 := by omega
            have h2 : ¬ q2 < p2 := by omega
            have d1 : decide (p2 < q2) = false := decide_eq_false h1
            have d2 : decide (q2 < p2) = false := decide_eq_false h2
            clear HQ' h
            go_wp2_with (go_at_call 20; with_reducible refine (HPX.out _).mono ?_; rintro e w5 ⟨rfl, hb5⟩; have H5 := Lib.hid hb5; have n5 := HOn.out w5 hb5; clear hb5 HPX)
            go_wp2_with (go_at_call 20; with_reducible refine (HPY.out _).mono ?_; rintro e w6 ⟨rfl, hb6⟩; have H6 := Lib.hid (H5.out.trans (hb6.mono H5.out.size)); clear hb6 HPY n5)
            go_roundw
            case rel => exact ⟨k + 1, by go_num, by omega, by omega, HB.out.trans (H6.out.mono HB.out.size), HE.out⟩
            case measure => simp [intOf]; omega
          · have HE := Lib.hid (show cmpQ x y = 1 from by
              have hci : cmpI p2 q2 = 1 := by unfold cmpI; rw [if_neg (by omega), if_pos h]
              rw [HQ'.out.out, hci]; rfl)
            have h1 : ¬ p2 < q2 := by omega
            clear HQ'
            go_wp2_with (go_at_call 20; with_reducible refine (HPX.out _).mono ?_; rintro e w5 ⟨rfl, hb5⟩; have H5 := Lib.hid hb5; have n5 := HOn.out w5 hb5; clear hb5 HPX)
            go_wp2_with (go_at_call 20; with_reducible refine (HPY.out _).mono ?_; rintro e w6 ⟨rfl, hb6⟩; have H6 := Lib.hid (H5.out.trans (hb6.mono H5.out.size)); clear hb6 HPY n5)
            go_ret
            exact ⟨by rw [HE.out]; rfl, (H4.out.trans (HB.out.mono H4.out.size)).trans (H6.out.mono (H4.out.trans (HB.out.mono H4.out.size)).size)⟩
        · have tq : (P.toList == R.toList) = false := by rw [heq]; simpa using hn
          have tq' : (P.toList != R.toList) = true := by simp [bne, tq]
          have HE := Lib.hid (show cmpQ x y = Lib.compareBytes P.data.toList R.data.toList from by
            have hne := compare_ne p1 q1 hn
            have hc0 : cmpP (p1, p2) (q1, q2) = Lib.compareBytes p1 q1 := by unfold cmpP; rw [if_neg hne]
            rw [HQ.out, hc0, if_neg hne, hPl, hRl])
          clear hn heq hPl hRl HQ
          go_wp2_with (go_at_call 20; with_reducible refine (HPX.out _).mono ?_; rintro e w5 ⟨rfl, hb5⟩; have H5 := Lib.hid hb5; have n5 := HOn.out w5 hb5; clear hb5 HPX)
          go_wp2_with (first
            | (go_at_call 20; with_reducible refine (HPY.out _).mono ?_; rintro e w6 ⟨rfl, hb6⟩; have H6 := Lib.hid (H5.out.trans (hb6.mono H5.out.size)); clear hb6)
            | (go_at_call 30; refine (HT.out _ _ _).mono ?_; rintro e w7 ⟨rfl, rfl⟩))
          go_ret
          exact ⟨by rw [HE.out]; rfl, (H4.out.trans (HB.out.mono H4.out.size)).trans (H6.out.mono (H4.out.trans (HB.out.mono H4.out.size)).size)⟩
      · have hke : k = LB.length := by omega
        have HE := Lib.hid (show cmpQ x y = 1 from by
          have h1 := HLX.out
          have h2 := HLY.out
          rw [HC.out, show y.drop k = [] from List.drop_eq_nil_of_le (by omega), List.drop_eq_getElem_cons (show k < x.length by omega)]
          rfl)
        go_wp2_with fail
        go_ret
        exact ⟨by rw [HE.out]; simp; try omega, H4.out.trans (HB.out.mono H4.out.size)⟩
    · have hke : k = LA.length := by omega
      by_cases hly : k < LB.length
      · have HE := Lib.hid (show cmpQ x y = -1 from by
          have h1 := HLX.out
          have h2 := HLY.out
          rw [HC.out, show x.drop k = [] from List.drop_eq_nil_of_le (by omega), List.drop_eq_getElem_cons (show k < y.length by omega)]
          rfl)
        go_wp2_with fail
        go_ret
        exact ⟨by rw [HE.out]; simp; try omega, H4.out.trans (HB.out.mono H4.out.size)⟩
      · have HE := Lib.hid (show cmpQ x y = 0 from by
          have h1 := HLX.out
          have h2 := HLY.out
          rw [HC.out, show x.drop k = [] from List.drop_eq_nil_of_le (by omega), show y.drop k = [] from List.drop_eq_nil_of_le (by omega)]
          rfl)
        go_wp2_with fail
        go_ret
        exact ⟨by rw [HE.out]; simp; try omega, H4.out.trans (HB.out.mono H4.out.size)⟩

theorem rorder_c (w : World) (a b : ByteArray) (ha : a.size ≤ 2097152) (hb : b.size ≤ 2097152) :
    Calls Tryd.prog 16 #[.string a, .string b] w fun e w' => e = .returned (.int .i64 (orderF a.data.toList b.data.toList)) ∧ Below w.heap.size w w' := by
  cases hx : readF a.data.toList with
  | none => exact rorder_no w a b ha hb (.inl hx)
  | some x =>
    cases hy : readF b.data.toList with
    | none => exact rorder_no w a b ha hb (.inr hy)
    | some y =>
      have := rorder_yes w a b ha hb x y hx hy
      rw [show orderF a.data.toList b.data.toList = cmpQ x y from by unfold orderF; rw [hx, hy]]
      exact this
end Go.Proofs.YtjbkepjkmihojaaDoor
