/- tree: the reference's Order. -/
import Derived.Test.YtncloiimbclklaaVp
namespace Go.Proofs.Ytncloiimbclklaa
open Go Go.RowKit
set_option linter.unusedVariables false

theorem OwnS.below {w w' : World} {base : Nat} {e : TypeId} {size : Nat} {v : Value} {n : Nat} {xs : List Value} (h : OwnS w base e size v n xs) (hb : Below w.heap.size w w') : OwnS w' base e size v n xs :=
  h.keep fun g hg => hb.block g (h.lt g hg)
theorem OwnS.piece {w : World} {base : Nat} {v : Value} {L : List (List UInt8)} (h : OwnS w base 9 1 v L.length (lcells L)) {k : Nat} (hk : k < L.length) : ∃ g off c, v = .slice (some ⟨g, off, none⟩) L.length c ∧ g < w.heap.size ∧
    w.cell? ⟨g, off + k, none⟩ = some (.string ⟨L[k].toArray⟩) := by
  rcases h.2 with ⟨rfl, h0⟩ | ⟨g, off, cap, cur, hv, _⟩
  · omega
  · exact ⟨g, off, cap, hv, h.lt g (by rw [hv]; rfl), h.cell hv k _ (by simp [lcells, hk])⟩
theorem cmpL_step (x y : List (List UInt8)) (z : Int) (k : Nat) (hx : k < x.length) (hy : k < y.length) (h : z = cmpL (x.drop k) (y.drop k)) : z = if cmpX x[k] y[k] = 0 then cmpL (x.drop (k + 1)) (y.drop (k + 1)) else cmpX x[k] y[k] := by
  rw [h, List.drop_eq_getElem_cons hx, List.drop_eq_getElem_cons hy]
  rfl

set_option maxRecDepth 100000 in
set_option maxHeartbeats 8000000 in
theorem rorder_c (w : World) (a b : ByteArray) (ha : a.size ≤ 2097152) (hb : b.size ≤ 2097152) :
    Calls Try.prog 49 #[.string a, .string b] w fun e w' => e = .returned (.int .i64 (ordF a.data.toList b.data.toList)) ∧ Below w.heap.size w w' := by
  obtain ⟨Z, hZ⟩ : ∃ Z, Z = ordF a.data.toList b.data.toList := ⟨_, rfl⟩
  rw [← hZ]
  have HPA := Lib.hid (fun w => rparts_c w a (by omega))
  have HPB := Lib.hid (fun w => rparts_c w b (by omega))
  have hsa : ∀ x ∈ splitS a.data.toList, x.length ≤ 140737488355328 := fun x hx => by have := (splitS_mem _ x hx).1; rw [size_list] at this; omega
  have hsb : ∀ x ∈ splitS b.data.toList, x.length ≤ 140737488355328 := fun x hx => by have := (splitS_mem _ x hx).1; rw [size_list] at this; omega
  have HT := Lib.hid (fun w a b => rtexts_c w a b)
  have lx2 := splitS_length a.data.toList
  have ly2 := splitS_length b.data.toList
  rw [size_list] at lx2 ly2
  unfold ordF at hZ
  generalize splitS a.data.toList = LA at *
  generalize splitS b.data.toList = LB at *
  have HPC := Lib.hid (fun w s hs => rpart_c w s hs)
  have HSA := Lib.hid hsa
  have HSB := Lib.hid hsb
  have HZ := Lib.hid hZ
  clear hsa hsb hZ
  go_enter Try.func49, Try.ntmps49
  go_wp2_with (go_at_call 65; with_reducible refine (HPA.out _).mono ?_; rintro e w3 ⟨va, rfl, ho3, hb3⟩; obtain ⟨pa, ca, rfl, l1, m1, _⟩ := (OwnS.ofRow ho3).form; have H3 := Lib.hid hb3; have HO3 := Lib.hid (OwnS.ofRow ho3); clear hb3 ho3 HPA m1)
  go_wp2_with (go_at_call 65; with_reducible refine (HPB.out _).mono ?_; rintro e w4 ⟨vb, rfl, ho4, hb4⟩; obtain ⟨pb, cb, rfl, l2, m2, _⟩ := (OwnS.ofRow ho4).form; have H4 := Lib.hid (H3.out.trans (hb4.mono H3.out.size)); have HO4 := Lib.hid (OwnS.ofRow ho4); have HO3' := Lib.hid (HO3.out.below hb4); clear hb4 ho4 HPB m2)
  have hla : LA.length ≤ 2097153 := by omega
  have hlb : LB.length ≤ 2097153 := by omega
  clear lx2 ly2
  go_loopw [7] (fun i wr => ∃ k : Nat, i = .int .i64 k ∧ k ≤ LA.length ∧ k ≤ LB.length ∧ Below w4.heap.size w4 wr ∧ Z = cmpL (LA.drop k) (LB.drop k)) (fun i _ => LA.length - (intOf i).toNat)
  case atStart => exact ⟨0, rfl, by omega, by omega, Below.refl _ _, by simpa using HZ.out⟩
  case round =>
    obtain ⟨k, rfl, hka, hkb, hB, hC⟩ := hrel
    have HB := Lib.hid hB
    have HC := Lib.hid hC
    have HBW := Lib.hid (fun (x : World) (h : Below wr.heap.size wr x) => bel_tr (bel_tr H4.out hB) h)
    clear hB hC
    by_cases hlx : k < LA.length
    · by_cases hly : k < LB.length
      · obtain ⟨g, off, c', e1, gl1, n1⟩ := (HO3'.out.below HB.out).piece hlx
        simp only [Value.slice.injEq, true_and] at e1
        obtain ⟨rfl, rfl⟩ := e1
        obtain ⟨g', off', c'', e2, gl2, n2⟩ := (HO4.out.below HB.out).piece hly
        simp only [Value.slice.injEq, true_and] at e2
        obtain ⟨rfl, rfl⟩ := e2
        have HQ := Lib.hid (cmpL_step LA LB Z k hlx hly HC.out)
        have HOx := Lib.hid (fun (w' : World) (hb : Below wr.heap.size wr w') => (show w'.cell? ⟨g, off + k, none⟩ = some (.string ⟨LA[k].toArray⟩) from (hb.cell gl1).trans n1))
        have HOy := Lib.hid (fun (w' : World) (hb : Below wr.heap.size wr w') => (show w'.cell? ⟨g', off' + k, none⟩ = some (.string ⟨LB[k].toArray⟩) from (hb.cell gl2).trans n2))
        have hsx := HSA.out _ (List.getElem_mem hlx)
        have hsy := HSB.out _ (List.getElem_mem hly)
        obtain ⟨X, hX⟩ : ∃ X : ByteArray, X = ⟨LA[k].toArray⟩ := ⟨_, rfl⟩
        obtain ⟨Y, hY⟩ : ∃ Y : ByteArray, Y = ⟨LB[k].toArray⟩ := ⟨_, rfl⟩
        have hXl : LA[k] = X.data.toList := by rw [hX]
        have hYl : LB[k] = Y.data.toList := by rw [hY]
        rw [hXl, size_list] at hsx
        rw [hYl, size_list] at hsy
        rw [← hX] at n1 HOx
        rw [← hY] at n2 HOy
        rw [hXl, hYl, ← cmpX_or] at HQ
        have HPX := Lib.hid (fun w => HPC.out w X hsx)
        have HPY := Lib.hid (fun w => HPC.out w Y hsy)
        unfold pairV at HPX HPY
        clear hX hY hXl hYl hsx hsy
        have HT2 := Lib.hid (fun w => HT.out w X Y)
        generalize Lib.compareBytes X.data.toList Y.data.toList = r3 at HQ HT2
        generalize lastP X.data.toList = p at HPX HQ
        generalize lastP Y.data.toList = q at HPY HQ
        obtain ⟨p1, p2⟩ := p
        obtain ⟨q1, q2⟩ := q
        obtain ⟨P, hP⟩ : ∃ P : ByteArray, P = ⟨p1.toArray⟩ := ⟨_, rfl⟩
        obtain ⟨R, hR⟩ : ∃ R : ByteArray, R = ⟨q1.toArray⟩ := ⟨_, rfl⟩
        have hPl : p1 = P.data.toList := by rw [hP]
        have hRl : q1 = R.data.toList := by rw [hR]
        dsimp only at HPX HPY HQ
        rw [← hP] at HPX
        rw [← hR] at HPY
        rw [hPl, hRl] at HQ
        have HT1 := Lib.hid (fun w => HT.out w P R)
        generalize Lib.compareBytes P.data.toList R.data.toList = r1 at HQ HT1
        clear hP hR hPl hRl
        rw [show Lib.compareInt p2 q2 = cmpI p2 q2 from rfl] at HQ
        by_cases h1 : r1 = 0
        · subst h1
          rcases Int.lt_trichotomy p2 q2 with h | h | h
          · have HE := Lib.hid (show Z = -1 from by
                have hci : cmpI p2 q2 = -1 := by unfold cmpI; rw [if_pos h]
                rw [HQ.out, hci]; rfl)
            have t1 : ((p2 : Int) != q2) = true := by simp; omega
            clear HQ
            go_wp2_with (go_at_call 59; with_reducible refine (HPX.out _).mono ?_; rintro e w5 ⟨rfl, hb5⟩; have H5 := Lib.hid hb5; have n5 := HOy.out w5 hb5; clear hb5 HPX)
            go_wp2_with (first | (go_at_call 59; with_reducible refine (HPY.out _).mono ?_; rintro e w6 ⟨rfl, hb6⟩; have H6 := Lib.hid (H5.out.trans (hb6.mono H5.out.size)); clear hb6; have n6 := HOx.out w6 H6.out; have n7 := HOy.out w6 H6.out) | (go_at_call 66; with_reducible refine (HT1.out _).mono ?_; rintro e w7 ⟨rfl, rfl⟩))
            go_ret
            exact ⟨by rw [HE.out]; rfl, HBW.out _ H6.out⟩
          · subst h
            have hci : cmpI p2 p2 = 0 := by unfold cmpI; rw [if_neg (by omega), if_neg (by omega)]
            rw [hci] at HQ
            have t1 : ((p2 : Int) != p2) = false := by simp
            clear hci
            by_cases h3 : r3 = 0
            · subst h3
              have HE := Lib.hid (show Z = cmpL (LA.drop (k + 1)) (LB.drop (k + 1)) from HQ.out)
              clear HQ
              go_wp2_with (go_at_call 59; with_reducible refine (HPX.out _).mono ?_; rintro e w5 ⟨rfl, hb5⟩; have H5 := Lib.hid hb5; have n5 := HOy.out w5 hb5; clear hb5 HPX)
              go_wp2_with (first | (go_at_call 59; with_reducible refine (HPY.out _).mono ?_; rintro e w6 ⟨rfl, hb6⟩; have H6 := Lib.hid (H5.out.trans (hb6.mono H5.out.size)); clear hb6; have n6 := HOx.out w6 H6.out; have n7 := HOy.out w6 H6.out) | (go_at_call 66; with_reducible refine (HT1.out _).mono ?_; rintro e w7 ⟨rfl, rfl⟩))
              go_region_held3 (fun w' => w'.cell? ⟨g, off + k, none⟩ = some (.string X) ∧ w'.cell? ⟨g', off' + k, none⟩ = some (.string Y)) (exact ⟨n6, n7⟩) (first | (go_at_call 66; with_reducible refine (HT2.out _).mono ?_; rintro e w7 ⟨rfl, rfl⟩) | fail "no arm")
              all_goals
                go_wp2_with fail
                go_roundw
                case rel => exact ⟨k + 1, by go_num, by omega, by omega, by first | exact HB.out.trans (H6.out.mono HB.out.size) | exact HB.out.trans (H6.out.drew.mono HB.out.size) | exact HB.out.trans ((below_drewN H6.out _).mono HB.out.size), HE.out⟩
                case measure => simp [intOf]; omega
            · have HE := Lib.hid (show Z = r3 from by
                  rw [HQ.out]; unfold orI; simp [h3])
              have t3 : ((r3 : Int) != 0) = true := by simpa using h3
              clear HQ h3
              go_wp2_with (go_at_call 59; with_reducible refine (HPX.out _).mono ?_; rintro e w5 ⟨rfl, hb5⟩; have H5 := Lib.hid hb5; have n5 := HOy.out w5 hb5; clear hb5 HPX)
              go_wp2_with (first | (go_at_call 59; with_reducible refine (HPY.out _).mono ?_; rintro e w6 ⟨rfl, hb6⟩; have H6 := Lib.hid (H5.out.trans (hb6.mono H5.out.size)); clear hb6; have n6 := HOx.out w6 H6.out; have n7 := HOy.out w6 H6.out) | (go_at_call 66; with_reducible refine (HT1.out _).mono ?_; rintro e w7 ⟨rfl, rfl⟩))
              go_region_held3 (fun w' => w'.cell? ⟨g, off + k, none⟩ = some (.string X) ∧ w'.cell? ⟨g', off' + k, none⟩ = some (.string Y)) (exact ⟨n6, n7⟩) (first | (go_at_call 66; with_reducible refine (HT2.out _).mono ?_; rintro e w7 ⟨rfl, rfl⟩) | fail "no arm")
              all_goals
                go_wp2_with fail
                go_ret
                exact ⟨by rw [HE.out]; rfl, by first | exact HBW.out _ H6.out | exact HBW.out _ H6.out.drew | exact HBW.out _ (below_drewN H6.out _)⟩
          · have HE := Lib.hid (show Z = 1 from by
                have hci : cmpI p2 q2 = 1 := by unfold cmpI; rw [if_neg (by omega), if_pos h]
                rw [HQ.out, hci]; rfl)
            have t1 : ((p2 : Int) != q2) = true := by simp; omega
            have t2 : ¬ p2 < q2 := by omega
            clear HQ
            go_wp2_with (go_at_call 59; with_reducible refine (HPX.out _).mono ?_; rintro e w5 ⟨rfl, hb5⟩; have H5 := Lib.hid hb5; have n5 := HOy.out w5 hb5; clear hb5 HPX)
            go_wp2_with (first | (go_at_call 59; with_reducible refine (HPY.out _).mono ?_; rintro e w6 ⟨rfl, hb6⟩; have H6 := Lib.hid (H5.out.trans (hb6.mono H5.out.size)); clear hb6; have n6 := HOx.out w6 H6.out; have n7 := HOy.out w6 H6.out) | (go_at_call 66; with_reducible refine (HT1.out _).mono ?_; rintro e w7 ⟨rfl, rfl⟩))
            go_ret
            exact ⟨by rw [HE.out]; rfl, HBW.out _ H6.out⟩
        · have HE := Lib.hid (show Z = r1 from by
              rw [HQ.out]; unfold orI; simp [h1])
          have t1 : ((r1 : Int) != 0) = true := by simpa using h1
          clear HQ h1
          go_wp2_with (go_at_call 59; with_reducible refine (HPX.out _).mono ?_; rintro e w5 ⟨rfl, hb5⟩; have H5 := Lib.hid hb5; have n5 := HOy.out w5 hb5; clear hb5 HPX)
          go_wp2_with (first | (go_at_call 59; with_reducible refine (HPY.out _).mono ?_; rintro e w6 ⟨rfl, hb6⟩; have H6 := Lib.hid (H5.out.trans (hb6.mono H5.out.size)); clear hb6; have n6 := HOx.out w6 H6.out; have n7 := HOy.out w6 H6.out) | (go_at_call 66; with_reducible refine (HT1.out _).mono ?_; rintro e w7 ⟨rfl, rfl⟩))
          go_ret
          exact ⟨by rw [HE.out]; rfl, HBW.out _ H6.out⟩
      · have hke : k = LB.length := by omega
        have HE := Lib.hid (show Z = 1 from by
          rw [HC.out, show LB.drop k = [] from List.drop_eq_nil_of_le (by omega), List.drop_eq_getElem_cons (show k < LA.length by omega)]
          rfl)
        go_wp2_with fail
        go_ret
        exact ⟨by rw [HE.out]; simp; try omega, HBW.out _ (Below.refl _ _)⟩
    · have hke : k = LA.length := by omega
      by_cases hly : k < LB.length
      · have HE := Lib.hid (show Z = -1 from by
          rw [HC.out, show LA.drop k = [] from List.drop_eq_nil_of_le (by omega), List.drop_eq_getElem_cons (show k < LB.length by omega)]
          rfl)
        go_wp2_with fail
        go_ret
        exact ⟨by rw [HE.out]; simp; try omega, HBW.out _ (Below.refl _ _)⟩
      · have HE := Lib.hid (show Z = 0 from by
          rw [HC.out, show LA.drop k = [] from List.drop_eq_nil_of_le (by omega), show LB.drop k = [] from List.drop_eq_nil_of_le (by omega)]
          rfl)
        go_wp2_with fail
        go_ret
        exact ⟨by rw [HE.out]; simp; try omega, HBW.out _ (Below.refl _ _)⟩
end Go.Proofs.Ytncloiimbclklaa
