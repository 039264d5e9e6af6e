/- xmllex: the reference: attribute. -/
import Derived.Test.YtpcajjbdlfookaaGreatDoorMp14
import Derived.Test.YtpcajjbdlfookaaGreatDoorMp05
import Derived.Deep.Cut
namespace Go.Proofs.YtpcajjbdlfookaaGreatDoor
open Go.RowKit
set_option linter.unusedVariables false

theorem tagR_le (r : List UInt8) : tagR r ≤ r.length := by
  have h1 := nameAt_le r
  unfold tagR
  split
  · exact h1
  · rename_i h
    split
    · exact h1
    · have h2 := nameAt_le (r.drop (nameAt r + 1))
      rw [List.length_drop] at h2
      have h3 : Lib.hasPrefix (r.drop (nameAt r)) [58] = true := by
        cases hb : Lib.hasPrefix (r.drop (nameAt r)) [58] with
        | true => rfl
        | false => exact absurd (.inr hb) h
      have := pre_len h3
      rw [List.length_drop] at this
      simp at this
      omega
theorem put2_below {w W : World} (h : Below w.heap.size w W) (c0 c1 : Value) : Below w.heap.size w (put2 W w.heap.size c0 c1) :=
  (h.setCell (p := ⟨w.heap.size, 0, none⟩) (Nat.le_refl _) _).setCell (p := ⟨w.heap.size, 1, none⟩) (Nat.le_refl _) _
theorem results_att (tm : Array Value) (V : World) (b : Nat) (c0 c1 k z : Value) (h2 : tm.getD 2 undef = .pointer (some ⟨b, 0, none⟩)) (h3 : tm.getD 3 undef = k) (h4 : tm.getD 4 undef = z) (h : V.heap[b]? = some (.cells #[c0, c1] 114 (0, 0))) :
    (results Tryz.f118 tm).run Tryz.prog V = .ok (.tuple #[.agg #[c0, c1], k, z]) V := by
  obtain ⟨e0, e1, _⟩ := cells2 h
  have h2' : tm[2]?.getD undef = .pointer (some ⟨b, 0, none⟩) := by simpa using h2
  have h3' : tm[3]?.getD undef = k := by simpa using h3
  have h4' : tm[4]?.getD undef = z := by simpa using h4
  simp [results, Tryz.results118, go_sem, h2', h3', h4', e0, e1]
/-- How attribute ends. -/
def AtEnd (w : World) (R : Except Nat ((List UInt8 × List UInt8) × Nat)) (e : Ending) (w' : World) : Prop := (match R with
  | .error z => ∃ s1 s2 n, e = .returned (.tuple #[.agg #[.string s1, .string s2], .int .i64 n, .int .i64 (z : Nat)])
  | .ok (x, m) => e = .returned (.tuple #[.agg #[.string ⟨x.1.toArray⟩, .string ⟨x.2.toArray⟩], .int .i64 (m : Nat), .int .i64 0])) ∧ Below w.heap.size w w'
theorem AtEnd.err {w w' : World} {e : Ending} {z : Nat} {s1 s2 : ByteArray} {n : Int} (h : e = .returned (.tuple #[.agg #[.string s1, .string s2], .int .i64 n, .int .i64 (z : Nat)])) (hb : Below w.heap.size w w') : AtEnd w (.error z) e w' := ⟨⟨s1, s2, n, h⟩, hb⟩

/-- What attrR says, step by step. -/
theorem attr_no {r : List UInt8} (h : tagR r = 0) : attrR r = .error 11 := by
  unfold attrR
  rw [if_pos (.inl h)]
theorem attr_eq1 {r : List UInt8} {n k : Nat} (hn : n = tagR r) (hk : k = blN (r.drop n)) (h : Lib.hasPrefix (r.drop (n + k)) [61] = false) : attrR r = .error 11 := by
  unfold attrR
  rw [← hn, ← hk, if_pos (.inr h)]
theorem attr_go {r : List UInt8} {n k k2 : Nat} (hn : n = tagR r) (hk : k = blN (r.drop n)) (h0 : n ≠ 0) (h : Lib.hasPrefix (r.drop (n + k)) [61] = true) (hk2 : k2 = blN (r.drop (n + k + 1))) :
    attrR r = if Lib.hasPrefix (r.drop (n + k + 1 + k2)) [39] = false ∧ Lib.hasPrefix (r.drop (n + k + 1 + k2)) [34] = false then .error 11 else
      match valR ((r.drop (n + k + 1 + k2)).headD 0) (r.drop (n + k + 1 + k2 + 1)) with
      | .error e => .error e
      | .ok (s, m) => .ok ((r.take n, s), n + k + 1 + k2 + m) := by
  unfold attrR
  rw [← hn, ← hk, if_neg (by rw [h]; simp [h0])]
  simp only [← hk2]
  rfl
def valV (nm : List UInt8) (at2 : Nat) (R : Except Nat (List UInt8 × Nat)) : Except Nat ((List UInt8 × List UInt8) × Nat) := match R with
  | .error e => .error e
  | .ok (s, m) => .ok ((nm, s), at2 + m)
theorem val_no {q : UInt8} {t : List UInt8} {i j : Int} (hi : i = Lib.index t [q]) (hj : j = Lib.index t [60]) (h : i < 0 ∨ (0 ≤ j ∧ j < i)) : valR q t = .error 11 := by
  unfold valR
  rw [← hi, ← hj, if_pos h]
def resV (i : Nat) (R : Except Nat (List UInt8)) : Except Nat (List UInt8 × Nat) := match R with
  | .error _ => .error 13
  | .ok s => .ok (s, i + 2)
theorem val_go {q : UInt8} {t : List UInt8} {i : Nat} {j : Int} (hi : (i : Int) = Lib.index t [q]) (hj : j = Lib.index t [60]) (h : ¬ (0 ≤ j ∧ j < (i : Int))) : valR q t = resV i (rsT true (t.take i)) := by
  unfold valR
  rw [← hi, ← hj, if_neg (by omega), Int.toNat_natCast]
  rfl
set_option maxRecDepth 100000 in
set_option maxHeartbeats 4000000 in
theorem rattribute_c (w : World) (v : Value) (xs : List UInt8) (h : Rd w v xs) (hl : xs.length ≤ 8388608) : Calls Tryz.prog 118 #[v] w (AtEnd w (attrR xs)) := by
  obtain ⟨p, c, rfl⟩ := rd_form h
  obtain ⟨L, hL⟩ : ∃ L, L = xs.length := ⟨_, rfl⟩
  rw [← hL] at h hl
  have h0 := h.below (bel_alloc w RESA)
  have HNM := Lib.hid (rname_c (w.alloc RESA) _ xs h0 (by omega))
  have hnl := tagR_le xs
  obtain ⟨n, hn⟩ : ∃ n, n = tagR xs := ⟨_, rfl⟩
  rw [← hn] at HNM hnl
  rw [← hL] at hnl ⊢
  have HR := Lib.hid h
  have HL := Lib.hid hL
  have HN := Lib.hid hn
  obtain ⟨RA, hRA⟩ : ∃ RA, RA = attrR xs := ⟨_, rfl⟩
  rw [← hRA]
  have HRA := Lib.hid hRA
  clear h h0 hL hn hRA
  go_enter Tryz.func118, Tryz.ntmps118
  go_wp2_with fail
  refine HNM.out.mono ?_
  rintro e w1 ⟨rfl, hb1⟩
  have hsz1 : w.heap.size < w1.heap.size := by have := hb1.size; simp at this; omega
  have hbx : w1.heap[w.heap.size]? = some RESA := (hb1.block _ (by simp)).trans (heap_alloc_new w _)
  have hbw : Below w.heap.size w w1 := (bel_alloc w RESA).trans (hb1.mono (by simp))
  have hr1 := HR.out.below hbw
  obtain ⟨pA, mA, cA, hsA, hrA⟩ := slice_to hr1 n hnl
  have hcA := hrA.conv (P := Tryz.prog) 22 5 9 Tryz.underlying22 Tryz.underlying5 Tryz.underlying9
  obtain ⟨S, hS⟩ : ∃ S, S = (⟨(xs.take n).toArray⟩ : ByteArray) := ⟨_, rfl⟩
  rw [← hS] at hcA
  have HSS := Lib.hid hS
  clear hS
  obtain ⟨W2, hW2⟩ : ∃ W2, W2 = w1.alloc (.cells #[.string S, .string ⟨#[]⟩] 114) := ⟨_, rfl⟩
  have hb2 : Below w1.heap.size w1 W2 := hW2 ▸ bel_alloc w1 _
  have hbx2 : W2.heap[w.heap.size]? = some RESA := (hb2.block _ hsz1).trans hbx
  have hby2 : W2.heap[w1.heap.size]? = some (.cells #[.string S, .string ⟨#[]⟩] 114 (0, 0)) := by rw [hW2]; exact heap_alloc_new w1 _
  have hbw2 : Below w.heap.size w W2 := hbw.trans (hb2.mono hbw.size)
  have hr2 := HR.out.below hbw2
  have HBW2 := Lib.hid hbw2
  have HBX2 := Lib.hid hbx2
  have HBY2 := Lib.hid hby2
  have HBY2s := Lib.hid hb2.size
  have HW3s := Lib.hid (show w1.heap.size < W2.heap.size from by rw [hW2]; simp)
  have HR2 := Lib.hid hr2
  have HRES := Lib.hid (put2_at (HBX2.out) (.string ⟨#[]⟩) (.string ⟨#[]⟩))
  have HRB := Lib.hid (put2_below HBW2.out (.string ⟨#[]⟩) (.string ⟨#[]⟩))
  obtain ⟨pB, mB, cB, hsB, hrB⟩ := slice_from hr2 n hnl
  have HBL := rblanks_c W2 _ (xs.drop n) hrB (by rw [List.length_drop, ← HL.out]; omega)
  have hkl := blN_le (xs.drop n)
  obtain ⟨k, hk⟩ : ∃ k, k = blN (xs.drop n) := ⟨_, rfl⟩
  rw [← hk] at HBL hkl
  rw [List.length_drop, ← HL.out] at hkl
  have HBL := Lib.hid HBL
  obtain ⟨z0, z1, zz⟩ := cells2 hbx2
  go_wp2_with fail
  rw [← hW2]
  clear hW2
  refine HBL.out.mono ?_
  rintro e w3 ⟨rfl, rfl⟩
  by_cases h0 : n = 0
  · have t0 : ((n : Int) == 0) = true := by simpa using h0
    have HQ := Lib.hid (HRA.out.trans (attr_no (by rw [← HN.out]; exact h0)))
    clear hr1 hrA hrB hb1 hbw hbx hb2 hbx2 hby2 hbw2 hr2 hk h0
    go_wp2_with fail
    refine bodyPost_ret (results_att _ _ w.heap.size _ _ _ _ rfl rfl rfl HRES.out) rfl ?_
    rw [HQ.out]
    exact ⟨⟨_, _, _, rfl⟩, HRB.out⟩
  have t0 : ((n : Int) == 0) = false := by simpa using h0
  obtain ⟨pC, mC, cC, hsC, hrC⟩ := slice_from hr2 (n + k) (by omega)
  rw [show ((n + k : Nat) : Int) = (n : Int) + (k : Int) by omega] at hsC
  have HB61 := begins_c w3 _ (xs.drop (n + k)) ⟨#[61]⟩ hrC
  rw [show (⟨#[61]⟩ : ByteArray).data.toList = [61] from rfl] at HB61
  cases hp61 : Lib.hasPrefix (xs.drop (n + k)) [61] with
  | false =>
    rw [hp61] at HB61
    have HB61 := Lib.hid HB61
    have HQ := Lib.hid (HRA.out.trans (attr_eq1 HN.out hk hp61))
    clear hr1 hrA hrB hrC hb1 hbw hbx hb2 hbx2 hby2 hbw2 hr2 hk h0 hp61
    go_wp2_with fail
    refine HB61.out.mono ?_
    rintro e w4 ⟨rfl, rfl⟩
    go_wp2_with fail
    refine bodyPost_ret (results_att _ _ w.heap.size _ _ _ _ rfl rfl rfl HRES.out) rfl ?_
    rw [HQ.out]
    exact ⟨⟨_, _, _, rfl⟩, HRB.out⟩
  | true =>
    have hpl := pre_len hp61
    rw [List.length_drop, ← HL.out] at hpl
    simp only [List.length_singleton] at hpl
    have hkL1 : n + k + 1 ≤ L := by omega
    rw [hp61] at HB61
    have HB61 := Lib.hid HB61
    obtain ⟨pD, mD, cD, hsD, hrD⟩ := slice_from hr2 (n + k + 1) hkL1
    rw [show ((n + k + 1 : Nat) : Int) = (n : Int) + (k : Int) + 1 by omega] at hsD
    have HBL2 := rblanks_c w3 _ (xs.drop (n + k + 1)) hrD (by rw [List.length_drop, ← HL.out]; omega)
    have hkl2 := blN_le (xs.drop (n + k + 1))
    obtain ⟨k2, hk2⟩ : ∃ k2, k2 = blN (xs.drop (n + k + 1)) := ⟨_, rfl⟩
    rw [← hk2] at HBL2 hkl2
    rw [List.length_drop, ← HL.out] at hkl2
    have HBL2 := Lib.hid HBL2
    have HGO := Lib.hid (attr_go HN.out hk h0 hp61 hk2)
    obtain ⟨a2, ha2⟩ : ∃ a2, a2 = n + k + 1 + k2 := ⟨_, rfl⟩
    rw [← ha2] at HGO
    have ha2L : a2 ≤ L := by omega
    have ha2I : (n : Int) + (k : Int) + 1 + (k2 : Int) = (a2 : Int) := by omega
    obtain ⟨pE, mE, cE, hsE, hrE⟩ := slice_from hr2 a2 ha2L
    have HB39 := begins_c w3 _ (xs.drop a2) ⟨#[39]⟩ hrE
    rw [show (⟨#[39]⟩ : ByteArray).data.toList = [39] from rfl] at HB39
    have HB34 := begins_c w3 _ (xs.drop a2) ⟨#[34]⟩ hrE
    rw [show (⟨#[34]⟩ : ByteArray).data.toList = [34] from rfl] at HB34
    have HA2 := Lib.hid ha2I
    clear hr1 hrA hrB hrC hrD hb1 hbw hbx hb2 hbx2 hby2 hbw2 hk hk2 h0 hp61 ha2
    go_wp2_with fail
    refine HB61.out.mono ?_
    rintro e w4 ⟨rfl, rfl⟩
    go_wp2_with fail
    refine HBL2.out.mono ?_
    rintro e w5 ⟨rfl, rfl⟩
    have hb2s := HBY2s.out
    have hW3s := HW3s.out
    cases h39 : Lib.hasPrefix (xs.drop a2) [39] with
    | true =>
      rw [h39] at HB39
      have HB39 := Lib.hid HB39
      clear HB34
      have hqd : xs.drop a2 = 39 :: xs.drop (a2 + 1) := by
        obtain ⟨u, hu⟩ := pre_head h39
        have h9 := congrArg (List.drop 1) hu
        rw [List.drop_drop] at h9
        rw [hu, h9]
        rfl
      have hplq := pre_len h39
      rw [List.length_drop, ← HL.out] at hplq
      simp only [List.length_singleton] at hplq
      have ha3 : a2 + 1 ≤ L := by omega
      have HG2 := Lib.hid (show attrR xs = valV (xs.take n) a2 (valR 39 (xs.drop (a2 + 1))) from by
        rw [HGO.out, if_neg (by rw [h39]; simp), hqd]
        rfl)
      obtain ⟨pF, mF, cF, hsF, hrF⟩ := slice_from hr2 (a2 + 1) ha3
      rw [show ((a2 + 1 : Nat) : Int) = (a2 : Int) + 1 by omega] at hsF
      obtain ⟨pG, mG, cG, hsG, hrG⟩ := slice_mid hr2 a2 (a2 + 1) (by omega) ha3
      rw [show ((a2 + 1 : Nat) : Int) = (a2 : Int) + 1 by omega] at hsG
      rw [show a2 + 1 - a2 = 1 by omega, hqd, List.take_succ_cons, List.take_zero] at hrG
      have hcG := fun d => (hrG.below (Go.below_drewN (Below.refl _ w5) d)).conv (P := Tryz.prog) 22 5 9 Tryz.underlying22 Tryz.underlying5 Tryz.underlying9
      have hcG0 := hrG.conv (P := Tryz.prog) 22 5 9 Tryz.underlying22 Tryz.underlying5 Tryz.underlying9
      have HFQ := fun d => find_c (w5.drewN d) _ (xs.drop (a2 + 1)) ⟨#[39]⟩ (hrF.below (Go.below_drewN (Below.refl _ w5) d)) (by decide) (by rw [List.length_drop, ← HL.out]; omega)
      rw [show (⟨#[39]⟩ : ByteArray).data.toList = [39] from rfl] at HFQ
      have HFL := fun d => find_c (w5.drewN d) _ (xs.drop (a2 + 1)) ⟨#[60]⟩ (hrF.below (Go.below_drewN (Below.refl _ w5) d)) (by decide) (by rw [List.length_drop, ← HL.out]; omega)
      rw [show (⟨#[60]⟩ : ByteArray).data.toList = [60] from rfl] at HFL
      obtain ⟨i, hi⟩ : ∃ i, i = Lib.index (xs.drop (a2 + 1)) [39] := ⟨_, rfl⟩
      obtain ⟨j, hj⟩ : ∃ j, j = Lib.index (xs.drop (a2 + 1)) [60] := ⟨_, rfl⟩
      rw [← hi] at HFQ
      rw [← hj] at HFL
      have HFQ := Lib.hid HFQ
      have HFL := Lib.hid HFL
      have HRESD := Lib.hid (fun d => put2_at ((((Go.below_drewN (Below.refl _ w5) d).block _ (Nat.lt_of_lt_of_le hsz1 hb2s)).trans HBX2.out)) (.string ⟨#[]⟩) (.string ⟨#[]⟩))
      have HRBD := Lib.hid (fun d => put2_below (HBW2.out.trans ((Go.below_drewN (Below.refl _ w5) d).mono HBW2.out.size)) (.string ⟨#[]⟩) (.string ⟨#[]⟩))
      have hzd := fun d => (cells2 (((Go.below_drewN (Below.refl _ w5) d).block _ (Nat.lt_of_lt_of_le hsz1 hb2s)).trans HBX2.out))
      have z0d := fun d => (hzd d).1
      have z1d := fun d => (hzd d).2.1
      by_cases h1 : i < 0 ∨ (0 ≤ j ∧ j < i)
      · have HQ := Lib.hid (show RA = .error 11 from by rw [HRA.out, HG2.out, val_no hi hj h1]; rfl)
        have HI1 := Lib.hid h1
        clear hr2 hrE hrF hrG hi hj hqd hplq h39 h1 hzd
        go_upto_region 10 with ((go_at_call 65; refine (HB39.out).mono ?_; rintro e w8 ⟨rfl, rfl⟩))
        go_quiet ((go_at_call 66; exact Calls.quiet_of_same (HFQ.out _)))
        go_wp2_with fail
        refine (HFL.out _).mono ?_
        rintro e w6 ⟨rfl, rfl⟩
        by_cases hi0 : i < 0
        · have ti : decide (i < 0) = true := by simpa using hi0
          clear hi0
          go_wp2_with fail
          refine bodyPost_ret (results_att _ _ w.heap.size _ _ _ _ rfl rfl rfl (HRESD.out _)) rfl ?_
          rw [HQ.out]
          exact ⟨⟨_, _, _, rfl⟩, HRBD.out _⟩
        · have hjj := HI1.out.resolve_left hi0
          have ti : decide (i < 0) = false := by simpa using hi0
          have tj : decide (0 ≤ j) = true := by simpa using hjj.1
          have tji : decide (j < i) = true := by simpa using hjj.2
          clear hi0 hjj
          go_wp2_with fail
          refine bodyPost_ret (results_att _ _ w.heap.size _ _ _ _ rfl rfl rfl (HRESD.out _)) rfl ?_
          rw [HQ.out]
          exact ⟨⟨_, _, _, rfl⟩, HRBD.out _⟩
      · obtain ⟨i, rfl⟩ : ∃ q : Nat, i = (q : Int) := ⟨i.toNat, by omega⟩
        have hlt := idx1_lt (xs.drop (a2 + 1)) 39
        rw [← hi, List.length_drop, ← HL.out] at hlt
        have hiL : a2 + 1 + i ≤ L := by rcases hlt with h9 | h9 <;> omega
        have h2 : ¬ (0 ≤ j ∧ j < (i : Int)) := fun h9 => h1 (.inr h9)
        obtain ⟨pH, mH, cH, hsH, hrH⟩ := slice_mid hr2 (a2 + 1) (a2 + 1 + i) (by omega) hiL
        rw [show ((a2 + 1 + i : Nat) : Int) = (a2 : Int) + 1 + (i : Int) by omega, show ((a2 + 1 : Nat) : Int) = (a2 : Int) + 1 by omega] at hsH
        rw [show a2 + 1 + i - (a2 + 1) = i by omega] at hrH
        have HRS := fun d => resolve_c (w5.drewN d) _ _ (hrH.below (Go.below_drewN (Below.refl _ w5) d)) (by rw [List.length_take, List.length_drop, ← HL.out]; omega) true
        have HVG := Lib.hid (val_go hi hj h2)
        obtain ⟨R, hR⟩ : ∃ R, R = rsT true ((xs.drop (a2 + 1)).take i) := ⟨_, rfl⟩
        rw [← hR] at HRS HVG
        have HRS := Lib.hid HRS
        have ti : decide ((i : Int) < 0) = false := by simp
        have HJ := Lib.hid h2
        have HQ := Lib.hid (show RA = valV (xs.take n) a2 (resV i R) from by rw [HRA.out, HG2.out, HVG.out])
        have HBD := Lib.hid (fun d => Go.below_drewN (Below.refl w5.heap.size w5) d)
        have hszd : w1.heap.size < w5.heap.size := hW3s
        have HZD := Lib.hid hszd
        clear hr2 hrE hrF hrG hi hj hqd hplq h39 h1 hrH hlt h2 hR hzd hszd
        go_upto_region 10 with ((go_at_call 65; refine (HB39.out).mono ?_; rintro e w8 ⟨rfl, rfl⟩))
        go_quiet ((go_at_call 66; exact Calls.quiet_of_same (HFQ.out _)))
        go_wp2_with fail
        refine (HFL.out _).mono ?_
        rintro e w6 ⟨rfl, rfl⟩
        by_cases hj0 : 0 ≤ j
        all_goals
          first | have tj : decide (0 ≤ j) = true := by simpa using hj0 | have tj : decide (0 ≤ j) = false := by simpa using hj0
          have tji : 0 ≤ j → decide (j < (i : Int)) = false := by have := HJ.out; intro q; simp; omega
          first | (have tji := tji hj0) | clear tji
          clear hj0
          go_wp2_with fail
          refine (HRS.out _).mono ?_
          rintro e w7 ⟨he, hb7⟩
          have hb37 := (HBD.out _).trans (hb7.mono (HBD.out _).size)
          have HB7 := Lib.hid (HBW2.out.trans (hb37.mono HBW2.out.size))
          have hbx7 := (hb37.block _ (Nat.lt_trans hsz1 HZD.out)).trans HBX2.out
          have hby7 := (hb37.block _ HZD.out).trans HBY2.out
          obtain ⟨x0, x1, xz⟩ := cells2 hbx7
          obtain ⟨y0, y1, yz⟩ := cells2 hby7
          cases R with
          | error z =>
            dsimp only at he
            subst he
            have hbz := (Below.heap_setCell w7 ⟨w1.heap.size, 1, none⟩ (.string ⟨#[]⟩) w.heap.size (by simp; omega)).trans hbx7
            have HRE := Lib.hid (put2_at hbz (.string S) (.string ⟨#[]⟩))
            have HBE := Lib.hid (put2_below (HB7.out.setCell (p := ⟨w1.heap.size, 1, none⟩) (Nat.le_of_lt hsz1) (.string ⟨#[]⟩)) (.string S) (.string ⟨#[]⟩))
            clear hb7 hb37 hbx7 hby7 hbz
            go_wp2_with fail
            refine bodyPost_ret (results_att _ _ w.heap.size _ _ _ _ rfl rfl rfl HRE.out) rfl ?_
            rw [HQ.out]
            exact ⟨⟨_, _, _, rfl⟩, HBE.out⟩
          | ok t =>
            dsimp only at he
            obtain ⟨S2, hS2⟩ : ∃ S2, S2 = (⟨t.toArray⟩ : ByteArray) := ⟨_, rfl⟩
            rw [← hS2] at he
            subst he
            have HS2 := Lib.hid hS2
            have hbz := (Below.heap_setCell w7 ⟨w1.heap.size, 1, none⟩ (.string S2) w.heap.size (by simp; omega)).trans hbx7
            have HRE := Lib.hid (put2_at hbz (.string S) (.string S2))
            have HBE := Lib.hid (put2_below (HB7.out.setCell (p := ⟨w1.heap.size, 1, none⟩) (Nat.le_of_lt hsz1) (.string S2)) (.string S) (.string S2))
            clear hb7 hb37 hbx7 hby7 hbz hS2
            go_wp2_with fail
            refine bodyPost_ret (results_att _ _ w.heap.size _ _ _ _ rfl rfl rfl HRE.out) rfl ?_
            rw [HQ.out]
            refine ⟨?_, HBE.out⟩
            show _ = _
            rw [HSS.out, HS2.out]
            first | rfl | (congr 4; omega) | (congr 5; omega)
    | false =>
      rw [h39] at HB39
      have HB39 := Lib.hid HB39
      cases h34 : Lib.hasPrefix (xs.drop a2) [34] with
      | true =>
        rw [h34] at HB34
        have HB34 := Lib.hid HB34
        have hqd : xs.drop a2 = 34 :: xs.drop (a2 + 1) := by
          obtain ⟨u, hu⟩ := pre_head h34
          have h9 := congrArg (List.drop 1) hu
          rw [List.drop_drop] at h9
          rw [hu, h9]
          rfl
        have hplq := pre_len h34
        rw [List.length_drop, ← HL.out] at hplq
        simp only [List.length_singleton] at hplq
        have ha3 : a2 + 1 ≤ L := by omega
        have HG2 := Lib.hid (show attrR xs = valV (xs.take n) a2 (valR 34 (xs.drop (a2 + 1))) from by
          rw [HGO.out, if_neg (by rw [h34]; simp), hqd]
          rfl)
        obtain ⟨pF, mF, cF, hsF, hrF⟩ := slice_from hr2 (a2 + 1) ha3
        rw [show ((a2 + 1 : Nat) : Int) = (a2 : Int) + 1 by omega] at hsF
        obtain ⟨pG, mG, cG, hsG, hrG⟩ := slice_mid hr2 a2 (a2 + 1) (by omega) ha3
        rw [show ((a2 + 1 : Nat) : Int) = (a2 : Int) + 1 by omega] at hsG
        rw [show a2 + 1 - a2 = 1 by omega, hqd, List.take_succ_cons, List.take_zero] at hrG
        have hcG := fun d => (hrG.below (Go.below_drewN (Below.refl _ w5) d)).conv (P := Tryz.prog) 22 5 9 Tryz.underlying22 Tryz.underlying5 Tryz.underlying9
        have hcG0 := hrG.conv (P := Tryz.prog) 22 5 9 Tryz.underlying22 Tryz.underlying5 Tryz.underlying9
        have HFQ := fun d => find_c (w5.drewN d) _ (xs.drop (a2 + 1)) ⟨#[34]⟩ (hrF.below (Go.below_drewN (Below.refl _ w5) d)) (by decide) (by rw [List.length_drop, ← HL.out]; omega)
        rw [show (⟨#[34]⟩ : ByteArray).data.toList = [34] from rfl] at HFQ
        have HFL := fun d => find_c (w5.drewN d) _ (xs.drop (a2 + 1)) ⟨#[60]⟩ (hrF.below (Go.below_drewN (Below.refl _ w5) d)) (by decide) (by rw [List.length_drop, ← HL.out]; omega)
        rw [show (⟨#[60]⟩ : ByteArray).data.toList = [60] from rfl] at HFL
        obtain ⟨i, hi⟩ : ∃ i, i = Lib.index (xs.drop (a2 + 1)) [34] := ⟨_, rfl⟩
        obtain ⟨j, hj⟩ : ∃ j, j = Lib.index (xs.drop (a2 + 1)) [60] := ⟨_, rfl⟩
        rw [← hi] at HFQ
        rw [← hj] at HFL
        have HFQ := Lib.hid HFQ
        have HFL := Lib.hid HFL
        have HRESD := Lib.hid (fun d => put2_at ((((Go.below_drewN (Below.refl _ w5) d).block _ (Nat.lt_of_lt_of_le hsz1 hb2s)).trans HBX2.out)) (.string ⟨#[]⟩) (.string ⟨#[]⟩))
        have HRBD := Lib.hid (fun d => put2_below (HBW2.out.trans ((Go.below_drewN (Below.refl _ w5) d).mono HBW2.out.size)) (.string ⟨#[]⟩) (.string ⟨#[]⟩))
        have hzd := fun d => (cells2 (((Go.below_drewN (Below.refl _ w5) d).block _ (Nat.lt_of_lt_of_le hsz1 hb2s)).trans HBX2.out))
        have z0d := fun d => (hzd d).1
        have z1d := fun d => (hzd d).2.1
        by_cases h1 : i < 0 ∨ (0 ≤ j ∧ j < i)
        · have HQ := Lib.hid (show RA = .error 11 from by rw [HRA.out, HG2.out, val_no hi hj h1]; rfl)
          have HI1 := Lib.hid h1
          clear hr2 hrE hrF hrG hi hj hqd hplq h34 h1 hzd
          go_upto_region 10 with (first | (go_at_call 65; with_reducible refine (HB34.out).mono ?_; rintro e w8 ⟨rfl, rfl⟩) | (go_at_call 65; with_reducible refine (HB39.out).mono ?_; rintro e w8 ⟨rfl, rfl⟩))
          go_quiet ((go_at_call 66; exact Calls.quiet_of_same (HFQ.out _)))
          go_wp2_with fail
          refine (HFL.out _).mono ?_
          rintro e w6 ⟨rfl, rfl⟩
          by_cases hi0 : i < 0
          · have ti : decide (i < 0) = true := by simpa using hi0
            clear hi0
            go_wp2_with fail
            refine bodyPost_ret (results_att _ _ w.heap.size _ _ _ _ rfl rfl rfl (HRESD.out _)) rfl ?_
            rw [HQ.out]
            exact ⟨⟨_, _, _, rfl⟩, HRBD.out _⟩
          · have hjj := HI1.out.resolve_left hi0
            have ti : decide (i < 0) = false := by simpa using hi0
            have tj : decide (0 ≤ j) = true := by simpa using hjj.1
            have tji : decide (j < i) = true := by simpa using hjj.2
            clear hi0 hjj
            go_wp2_with fail
            refine bodyPost_ret (results_att _ _ w.heap.size _ _ _ _ rfl rfl rfl (HRESD.out _)) rfl ?_
            rw [HQ.out]
            exact ⟨⟨_, _, _, rfl⟩, HRBD.out _⟩
        · obtain ⟨i, rfl⟩ : ∃ q : Nat, i = (q : Int) := ⟨i.toNat, by omega⟩
          have hlt := idx1_lt (xs.drop (a2 + 1)) 34
          rw [← hi, List.length_drop, ← HL.out] at hlt
          have hiL : a2 + 1 + i ≤ L := by rcases hlt with h9 | h9 <;> omega
          have h2 : ¬ (0 ≤ j ∧ j < (i : Int)) := fun h9 => h1 (.inr h9)
          obtain ⟨pH, mH, cH, hsH, hrH⟩ := slice_mid hr2 (a2 + 1) (a2 + 1 + i) (by omega) hiL
          rw [show ((a2 + 1 + i : Nat) : Int) = (a2 : Int) + 1 + (i : Int) by omega, show ((a2 + 1 : Nat) : Int) = (a2 : Int) + 1 by omega] at hsH
          rw [show a2 + 1 + i - (a2 + 1) = i by omega] at hrH
          have HRS := fun d => resolve_c (w5.drewN d) _ _ (hrH.below (Go.below_drewN (Below.refl _ w5) d)) (by rw [List.length_take, List.length_drop, ← HL.out]; omega) true
          have HVG := Lib.hid (val_go hi hj h2)
          obtain ⟨R, hR⟩ : ∃ R, R = rsT true ((xs.drop (a2 + 1)).take i) := ⟨_, rfl⟩
          rw [← hR] at HRS HVG
          have HRS := Lib.hid HRS
          have ti : decide ((i : Int) < 0) = false := by simp
          have HJ := Lib.hid h2
          have HQ := Lib.hid (show RA = valV (xs.take n) a2 (resV i R) from by rw [HRA.out, HG2.out, HVG.out])
          have HBD := Lib.hid (fun d => Go.below_drewN (Below.refl w5.heap.size w5) d)
          have hszd : w1.heap.size < w5.heap.size := hW3s
          have HZD := Lib.hid hszd
          clear hr2 hrE hrF hrG hi hj hqd hplq h34 h1 hrH hlt h2 hR hzd hszd
          go_upto_region 10 with (first | (go_at_call 65; with_reducible refine (HB34.out).mono ?_; rintro e w8 ⟨rfl, rfl⟩) | (go_at_call 65; with_reducible refine (HB39.out).mono ?_; rintro e w8 ⟨rfl, rfl⟩))
          go_quiet ((go_at_call 66; exact Calls.quiet_of_same (HFQ.out _)))
          go_wp2_with fail
          refine (HFL.out _).mono ?_
          rintro e w6 ⟨rfl, rfl⟩
          by_cases hj0 : 0 ≤ j
          all_goals
            first | have tj : decide (0 ≤ j) = true := by simpa using hj0 | have tj : decide (0 ≤ j) = false := by simpa using hj0
            have tji : 0 ≤ j → decide (j < (i : Int)) = false := by have := HJ.out; intro q; simp; omega
            first | (have tji := tji hj0) | clear tji
            clear hj0
            go_wp2_with fail
            refine (HRS.out _).mono ?_
            rintro e w7 ⟨he, hb7⟩
            have hb37 := (HBD.out _).trans (hb7.mono (HBD.out _).size)
            have HB7 := Lib.hid (HBW2.out.trans (hb37.mono HBW2.out.size))
            have hbx7 := (hb37.block _ (Nat.lt_trans hsz1 HZD.out)).trans HBX2.out
            have hby7 := (hb37.block _ HZD.out).trans HBY2.out
            obtain ⟨x0, x1, xz⟩ := cells2 hbx7
            obtain ⟨y0, y1, yz⟩ := cells2 hby7
            cases R with
            | error z =>
              dsimp only at he
              subst he
              have hbz := (Below.heap_setCell w7 ⟨w1.heap.size, 1, none⟩ (.string ⟨#[]⟩) w.heap.size (by simp; omega)).trans hbx7
              have HRE := Lib.hid (put2_at hbz (.string S) (.string ⟨#[]⟩))
              have HBE := Lib.hid (put2_below (HB7.out.setCell (p := ⟨w1.heap.size, 1, none⟩) (Nat.le_of_lt hsz1) (.string ⟨#[]⟩)) (.string S) (.string ⟨#[]⟩))
              clear hb7 hb37 hbx7 hby7 hbz
              go_wp2_with fail
              refine bodyPost_ret (results_att _ _ w.heap.size _ _ _ _ rfl rfl rfl HRE.out) rfl ?_
              rw [HQ.out]
              exact ⟨⟨_, _, _, rfl⟩, HBE.out⟩
            | ok t =>
              dsimp only at he
              obtain ⟨S2, hS2⟩ : ∃ S2, S2 = (⟨t.toArray⟩ : ByteArray) := ⟨_, rfl⟩
              rw [← hS2] at he
              subst he
              have HS2 := Lib.hid hS2
              have hbz := (Below.heap_setCell w7 ⟨w1.heap.size, 1, none⟩ (.string S2) w.heap.size (by simp; omega)).trans hbx7
              have HRE := Lib.hid (put2_at hbz (.string S) (.string S2))
              have HBE := Lib.hid (put2_below (HB7.out.setCell (p := ⟨w1.heap.size, 1, none⟩) (Nat.le_of_lt hsz1) (.string S2)) (.string S) (.string S2))
              clear hb7 hb37 hbx7 hby7 hbz hS2
              go_wp2_with fail
              refine bodyPost_ret (results_att _ _ w.heap.size _ _ _ _ rfl rfl rfl HRE.out) rfl ?_
              rw [HQ.out]
              refine ⟨?_, HBE.out⟩
              show _ = _
              rw [HSS.out, HS2.out]
              first | rfl | (congr 4; omega) | (congr 5; omega)
      | false =>
        rw [h34] at HB34
        have HB34 := Lib.hid HB34
        have HQ := Lib.hid (show RA = .error 11 from by rw [HRA.out, HGO.out, if_pos ⟨h39, h34⟩])
        clear h39 h34 hr2 hrE
        go_wp2_with (first | (go_at_call 65; with_reducible refine (HB34.out).mono ?_; rintro e w8 ⟨rfl, rfl⟩) | (go_at_call 65; with_reducible refine (HB39.out).mono ?_; rintro e w8 ⟨rfl, rfl⟩))
        refine bodyPost_ret (results_att _ _ w.heap.size _ _ _ _ rfl rfl rfl HRES.out) rfl ?_
        rw [HQ.out]
        exact ⟨⟨_, _, _, rfl⟩, HRB.out⟩
end Go.Proofs.YtpcajjbdlfookaaGreatDoor
