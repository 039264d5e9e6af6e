/- xmllex: the reference: token. -/
import Derived.Test.YtpcajjbdlfookaaGreatDoorMp16
import Derived.Test.YtpcajjbdlfookaaGreatDoorMp12
namespace Go.Proofs.YtpcajjbdlfookaaGreatDoor
open Go.RowKit
set_option linter.unusedVariables false

theorem results_tok (tm : Array Value) (V : World) (b : Nat) (c0 c1 c2 c3 c4 k z : Value) (h2 : tm.getD 2 undef = .pointer (some ⟨b, 0, none⟩)) (h3 : tm.getD 3 undef = k) (h4 : tm.getD 4 undef = z) (h : V.heap[b]? = some (.cells #[c0, c1, c2, c3, c4] 52 (0, 0))) :
    (results Tryz.f69 tm).run Tryz.prog V = .ok (.tuple #[.agg #[c0, c1, c2, c3, c4], k, z]) V := by
  obtain ⟨e0, e1, e2, e3, e4, _⟩ := cellsX5 h
  have h2' : tm[2]?.getD undef = .pointer (some ⟨b, 0, none⟩) := by simpa using h2
  have h3' : tm[3]?.getD undef = k := by simpa using h3
  have h4' : tm[4]?.getD undef = z := by simpa using h4
  simp [results, Tryz.results69, go_sem, h2', h3', h4', e0, e1, e2, e3, e4]
/-- A token without attributes is handed out. -/
theorem plain_give {w W : World} (hb : W.heap[w.heap.size]? = some REST) (h : Below w.heap.size w W) (k : Nat) (S1 S2 : ByteArray) {n1 n2 : List UInt8} (h1 : S1 = ⟨n1.toArray⟩) (h2 : S2 = ⟨n2.toArray⟩) :
    (put5 W w.heap.size (.int .i64 (k : Nat)) (.string S1) (.slice none 0 0) (.bool false) (.string S2)).heap[w.heap.size]? = some (.cells #[.int .i64 (k : Nat), .string S1, .slice none 0 0, .bool false, .string S2] 52 (0, 0)) ∧ Below w.heap.size w (put5 W w.heap.size (.int .i64 (k : Nat)) (.string S1) (.slice none 0 0) (.bool false) (.string S2)) ∧
    VT ⟨k, n1, [], false, n2⟩ (put5 W w.heap.size (.int .i64 (k : Nat)) (.string S1) (.slice none 0 0) (.bool false) (.string S2)) (.agg #[.int .i64 (k : Nat), .string S1, .slice none 0 0, .bool false, .string S2]) :=
  ⟨put5_at hb _ _ _ _ _, put5_below h _ _ _ _ _, ⟨_, by rw [h1, h2], AtsIs.nil _⟩⟩
theorem idx_ge0 {i : Int} (h : ¬ i < 0) : ∃ n : Nat, i = n := ⟨i.toNat, by omega⟩
def datV (n : Nat) (R : Except Nat (List UInt8)) : Except Nat (Tk × Nat) := match R with
  | .error _ => .error 13
  | .ok s => .ok (⟨3, [], [], false, s⟩, n)
theorem dat_no {r : List UInt8} {n : Nat} (hn : n = (if Lib.index r [60] < 0 then r.length else (Lib.index r [60]).toNat)) (h : 0 ≤ Lib.index (r.take n) [93, 93, 62]) : datP r = .error 11 := by
  subst hn
  unfold datP
  rw [if_pos h]
theorem dat_go {r : List UInt8} {n : Nat} (hn : n = (if Lib.index r [60] < 0 then r.length else (Lib.index r [60]).toNat)) (h : ¬ 0 ≤ Lib.index (r.take n) [93, 93, 62]) : datP r = datV n (rsT false (r.take n)) := by
  subst hn
  unfold datP
  rw [if_neg h]
  rfl
set_option maxRecDepth 100000 in
set_option maxHeartbeats 4000000 in
theorem rtoken_c (w : World) (v : Value) (xs : List UInt8) (h : Rd w v xs) (hl : xs.length ≤ 8388608) : Calls Tryz.prog 69 #[v] w (TkEnd w (tokG opnR cloR xs)) := by
  obtain ⟨p, c, rfl⟩ := rd_form h
  obtain ⟨L, hL⟩ : ∃ L, L = xs.length := ⟨_, rfl⟩
  rw [← hL] at h hl
  have h0 := h.below (bel_alloc w REST)
  have hbx : (w.alloc REST).heap[w.heap.size]? = some REST := heap_alloc_new w _
  have hbw := bel_alloc w REST
  have HZ := Lib.hid (And.intro hbx hbw)
  obtain ⟨z0, z1, z2, z3, z4, zz⟩ := cellsX5 hbx
  have HB1 := begins_c (w.alloc REST) _ xs ⟨#[60, 33, 91, 67, 68, 65, 84, 65, 91]⟩ h0
  rw [show (⟨#[60, 33, 91, 67, 68, 65, 84, 65, 91]⟩ : ByteArray).data.toList = [60, 33, 91, 67, 68, 65, 84, 65, 91] from rfl] at HB1
  have HB2 := begins_c (w.alloc REST) _ xs ⟨#[60, 33, 68, 79, 67, 84, 89, 80, 69]⟩ h0
  rw [show (⟨#[60, 33, 68, 79, 67, 84, 89, 80, 69]⟩ : ByteArray).data.toList = [60, 33, 68, 79, 67, 84, 89, 80, 69] from rfl] at HB2
  have HB3 := begins_c (w.alloc REST) _ xs ⟨#[60, 47]⟩ h0
  rw [show (⟨#[60, 47]⟩ : ByteArray).data.toList = [60, 47] from rfl] at HB3
  have HB4 := begins_c (w.alloc REST) _ xs ⟨#[60]⟩ h0
  rw [show (⟨#[60]⟩ : ByteArray).data.toList = [60] from rfl] at HB4
  have HR := Lib.hid h
  have HL := Lib.hid hL
  have HBW := Lib.hid hbw
  have HBX := Lib.hid hbx
  rw [← hL]
  cases h1 : Lib.hasPrefix xs [60, 33, 91, 67, 68, 65, 84, 65, 91] with
  | true =>
    rw [h1] at HB1
    have HB1 := Lib.hid HB1
    have hpl := pre_len h1
    rw [← HL.out] at hpl
    have hpl : 9 ≤ L := by simpa using hpl
    rw [tok_cd h1]
    obtain ⟨pA, mA, cA, hsA, hrA⟩ := slice_from h0 9 hpl
    rw [show ((9 : Nat) : Int) = 9 from rfl] at hsA
    have HFD := find_c (w.alloc REST) _ (xs.drop 9) ⟨#[93, 93, 62]⟩ hrA (by decide) (by rw [List.length_drop, ← HL.out]; omega)
    rw [show (⟨#[93, 93, 62]⟩ : ByteArray).data.toList = [93, 93, 62] from rfl] at HFD
    by_cases hi : Lib.index (xs.drop 9) [93, 93, 62] < 0
    · rw [if_pos hi]
      obtain ⟨j, hj⟩ : ∃ j, j = Lib.index (xs.drop 9) [93, 93, 62] := ⟨_, rfl⟩
      rw [← hj] at HFD hi
      have HFD := Lib.hid HFD
      have tj : decide (j < 0) = true := by simpa using hi
      clear h h0 hL hbx hbw h1 hrA hj hi HB2 HB3 HB4
      go_enter Tryz.func69, Tryz.ntmps69
      go_wp2_with fail
      refine HB1.out.mono ?_
      rintro e w1 ⟨rfl, rfl⟩
      go_wp2_with fail
      refine HFD.out.mono ?_
      rintro e w2 ⟨rfl, rfl⟩
      go_wp2_with fail
      refine bodyPost_ret (results_tok _ _ w.heap.size _ _ _ _ _ _ _ rfl rfl rfl HZ.out.1) rfl ?_
      exact ⟨rfl, HZ.out.2⟩
    · rw [if_neg hi]
      obtain ⟨i, hi'⟩ := idx_ge0 hi
      have hroom := Lib.index_room (xs.drop 9) [93, 93, 62] (by omega)
      rw [hi', List.length_drop, ← HL.out] at hroom
      have hroom : 9 + i + 3 ≤ L := by simp at hroom; omega
      rw [hi'] at HFD ⊢
      have HFD := Lib.hid HFD
      have ti : decide ((i : Int) < 0) = false := by simp
      obtain ⟨pB, mB, cB, hsB, hrB⟩ := slice_mid h0 9 (9 + i) (by omega) (by omega)
      rw [show ((9 + i : Nat) : Int) = 9 + (i : Int) by omega, show ((9 : Nat) : Int) = 9 from rfl] at hsB
      rw [show 9 + i - 9 = i by omega] at hrB
      have HPL := rplain_c (w.alloc REST) _ _ hrB (by rw [List.length_take, List.length_drop]; omega) false
      rw [show pl false ((xs.drop 9).take i) = lns ((xs.drop 9).take i) from rfl] at HPL
      rw [Int.toNat_natCast]
      obtain ⟨T, hT⟩ : ∃ T, T = lns ((xs.drop 9).take i) := ⟨_, rfl⟩
      rw [← hT] at HPL ⊢
      have HPL := Lib.hid HPL
      clear h h0 hL hbx hbw h1 hrA hrB hi' hi HB2 HB3 HB4 hT
      go_enter Tryz.func69, Tryz.ntmps69
      go_wp2_with fail
      refine HB1.out.mono ?_
      rintro e w1 ⟨rfl, rfl⟩
      go_wp2_with fail
      refine HFD.out.mono ?_
      rintro e w2 ⟨rfl, rfl⟩
      go_wp2_with fail
      refine HPL.out.mono ?_
      rintro e w3 ⟨v3, rfl, hr3, hb3⟩
      have hbx3 := (hb3.block _ (by simp)).trans HBX.out
      have hbw3 := HBW.out.trans (hb3.mono HBW.out.size)
      obtain ⟨y0, y1, y2, y3, y4, yz⟩ := cellsX5 hbx3
      have hcv := hr3.conv (P := Tryz.prog) 22 5 9 Tryz.underlying22 Tryz.underlying5 Tryz.underlying9
      obtain ⟨S, hS⟩ : ∃ S, S = (⟨T.toArray⟩ : ByteArray) := ⟨_, rfl⟩
      rw [← hS] at hcv
      have HGV := Lib.hid (plain_give hbx3 hbw3 3 ⟨#[]⟩ S (n1 := []) rfl hS)
      clear hr3 hb3 hbx3 hbw3 hS
      go_wp2_with fail
      refine bodyPost_ret (results_tok _ _ w.heap.size _ _ _ _ _ _ _ rfl rfl rfl HGV.out.1) rfl ?_
      exact ⟨⟨_, tup3 (by omega), HGV.out.2.2⟩, HGV.out.2.1⟩
  | false =>
    rw [h1] at HB1
    have HB1 := Lib.hid HB1
    cases h2 : Lib.hasPrefix xs [60, 33, 68, 79, 67, 84, 89, 80, 69] with
    | true =>
      rw [h2] at HB2
      have HB2 := Lib.hid HB2
      rw [tok_dt h1 h2]
      clear h h0 hL hbx hbw h1 h2 HB3 HB4
      go_enter Tryz.func69, Tryz.ntmps69
      go_wp2_with fail
      refine HB1.out.mono ?_
      rintro e w1 ⟨rfl, rfl⟩
      go_wp2_with fail
      refine HB2.out.mono ?_
      rintro e w2 ⟨rfl, rfl⟩
      go_wp2_with fail
      refine bodyPost_ret (results_tok _ _ w.heap.size _ _ _ _ _ _ _ rfl rfl rfl HZ.out.1) rfl ?_
      exact ⟨rfl, HZ.out.2⟩
    | false =>
      rw [h2] at HB2
      have HB2 := Lib.hid HB2
      cases h3 : Lib.hasPrefix xs [60, 47] with
      | true =>
        rw [h3] at HB3
        have HB3 := Lib.hid HB3
        rw [tok_cl h1 h2 h3]
        have hpl := pre_len h3
        rw [← HL.out] at hpl
        have hpl : 2 ≤ L := by simpa using hpl
        obtain ⟨pA, mA, cA, hsA, hrA⟩ := slice_from h0 2 hpl
        rw [show ((2 : Nat) : Int) = 2 from rfl] at hsA
        have HNM := rname_c (w.alloc REST) _ (xs.drop 2) hrA (by rw [List.length_drop]; omega)
        have hnl := tagR_le (xs.drop 2)
        rw [List.length_drop, ← HL.out] at hnl
        obtain ⟨t, ht⟩ : ∃ t, t = xs.drop 2 := ⟨_, rfl⟩
        obtain ⟨n, hn⟩ : ∃ n, n = tagR (xs.drop 2) := ⟨_, rfl⟩
        rw [← hn] at HNM hnl
        have HNM := Lib.hid HNM
        obtain ⟨k, hk⟩ : ∃ k, k = blN (xs.drop (2 + n)) := ⟨_, rfl⟩
        have hkl := blN_le (xs.drop (2 + n))
        rw [← hk, List.length_drop, ← HL.out] at hkl
        have hcl : cloR (xs.drop 2) = if n = 0 ∨ Lib.hasPrefix (xs.drop (2 + n + k)) [62] = false then .error 11 else .ok (⟨2, (xs.drop 2).take n, [], false, []⟩, n + k + 1) := by
          unfold cloR
          rw [← hn]
          simp only [List.drop_drop]
          rw [← hk, show 2 + (n + k) = 2 + n + k by omega]
        obtain ⟨RC, hRC⟩ : ∃ RC, RC = cloR (xs.drop 2) := ⟨_, rfl⟩
        rw [← hRC] at hcl ⊢
        obtain ⟨nm, hnm⟩ : ∃ nm, nm = (xs.drop 2).take n := ⟨_, rfl⟩
        rw [← hnm] at hcl
        have HCL := Lib.hid hcl
        have HNMX := Lib.hid hnm
        have h2n : 2 + n ≤ L := by omega
        have h2k : 2 + n + k ≤ L := by omega
        have HK := Lib.hid hk
        clear h h0 hL hbx hbw h1 h2 h3 hrA HB4 hn hcl ht hk hRC hnm
        go_enter Tryz.func69, Tryz.ntmps69
        go_wp2_with fail
        refine HB1.out.mono ?_
        rintro e w1 ⟨rfl, rfl⟩
        go_wp2_with fail
        refine HB2.out.mono ?_
        rintro e w2 ⟨rfl, rfl⟩
        go_wp2_with fail
        refine HB3.out.mono ?_
        rintro e w3 ⟨rfl, rfl⟩
        go_wp2_with fail
        refine HNM.out.mono ?_
        rintro e w4 ⟨rfl, hb4⟩
        have hbx4 := (hb4.block _ (by simp)).trans HBX.out
        have hbw4 := HBW.out.trans (hb4.mono HBW.out.size)
        obtain ⟨y0, y1, y2, y3, y4, yz⟩ := cellsX5 hbx4
        have hr4 := HR.out.below hbw4
        obtain ⟨pC, mC, cC, hsC, hrC⟩ := slice_from hr4 (2 + n) h2n
        rw [show ((2 + n : Nat) : Int) = 2 + (n : Int) by omega] at hsC
        have HBL := rblanks_c w4 _ (xs.drop (2 + n)) hrC (by rw [List.length_drop, ← HL.out]; omega)
        rw [← HK.out] at HBL
        have HBL := Lib.hid HBL
        obtain ⟨pD, mD, cD, hsD, hrD⟩ := slice_from hr4 (2 + n + k) h2k
        rw [show ((2 + n + k : Nat) : Int) = (n : Int) + 2 + (k : Int) by omega] at hsD
        have HGT := begins_c w4 _ (xs.drop (2 + n + k)) ⟨#[62]⟩ hrD
        rw [show (⟨#[62]⟩ : ByteArray).data.toList = [62] from rfl] at HGT
        have HZ4 := Lib.hid (zero_give hbx4 hbw4)
        by_cases hn0 : n = 0
        · have HQ := Lib.hid (HCL.out.trans (if_pos (.inl hn0)))
          have t0 : ((n : Int) == 0) = true := by simpa using hn0
          clear hb4 hbx4 hbw4 hr4 hrC hrD hn0 HGT
          go_wp2_with fail
          refine HBL.out.mono ?_
          rintro e w5 ⟨rfl, rfl⟩
          go_wp2_with fail
          refine bodyPost_ret (results_tok _ _ w.heap.size _ _ _ _ _ _ _ rfl rfl rfl HZ4.out.1) rfl ?_
          rw [HQ.out]
          exact ⟨rfl, HZ4.out.2⟩
        · have t0 : ((n : Int) == 0) = false := by simpa using hn0
          cases hp : Lib.hasPrefix (xs.drop (2 + n + k)) [62] with
          | false =>
            rw [hp] at HGT
            have HGT := Lib.hid HGT
            have HQ := Lib.hid (HCL.out.trans (if_pos (.inr hp)))
            clear hb4 hbx4 hbw4 hr4 hrC hrD hn0 hp
            go_wp2_with fail
            refine HBL.out.mono ?_
            rintro e w5 ⟨rfl, rfl⟩
            go_wp2_with fail
            refine HGT.out.mono ?_
            rintro e w6 ⟨rfl, rfl⟩
            go_wp2_with fail
            refine bodyPost_ret (results_tok _ _ w.heap.size _ _ _ _ _ _ _ rfl rfl rfl HZ4.out.1) rfl ?_
            rw [HQ.out]
            exact ⟨rfl, HZ4.out.2⟩
          | true =>
            rw [hp] at HGT
            have HGT := Lib.hid HGT
            have HQ := Lib.hid (HCL.out.trans (if_neg (by rw [hp]; simp [hn0])))
            obtain ⟨pE, mE, cE, hsE, hrE⟩ := slice_mid hr4 2 (2 + n) (by omega) h2n
            rw [show ((2 + n : Nat) : Int) = 2 + (n : Int) by omega, show ((2 : Nat) : Int) = 2 from rfl] at hsE
            rw [show 2 + n - 2 = n by omega] at hrE
            have hcv := hrE.conv (P := Tryz.prog) 22 5 9 Tryz.underlying22 Tryz.underlying5 Tryz.underlying9
            rw [← HNMX.out] at hcv
            obtain ⟨S, hS⟩ : ∃ S, S = (⟨nm.toArray⟩ : ByteArray) := ⟨_, rfl⟩
            rw [← hS] at hcv
            have HGV := Lib.hid (plain_give hbx4 hbw4 2 S ⟨#[]⟩ (n2 := []) hS rfl)
            clear hb4 hbx4 hbw4 hr4 hrC hrD hn0 hp hrE hS
            go_wp2_with fail
            refine HBL.out.mono ?_
            rintro e w5 ⟨rfl, rfl⟩
            go_wp2_with fail
            refine HGT.out.mono ?_
            rintro e w6 ⟨rfl, rfl⟩
            go_wp2_with fail
            refine bodyPost_ret (results_tok _ _ w.heap.size _ _ _ _ _ _ _ rfl rfl rfl HGV.out.1) rfl ?_
            rw [HQ.out]
            exact ⟨⟨_, tup3 (by omega), HGV.out.2.2⟩, HGV.out.2.1⟩
      | false =>
        rw [h3] at HB3
        have HB3 := Lib.hid HB3
        cases h4 : Lib.hasPrefix xs [60] with
        | true =>
          rw [h4] at HB4
          have HB4 := Lib.hid HB4
          rw [tok_op h1 h2 h3 h4]
          have hpl := pre_len h4
          rw [← HL.out] at hpl
          have hpl : 1 ≤ L := by simpa using hpl
          have HOP := Lib.hid (ropening_c (w.alloc REST) _ xs h0 (by rw [← HL.out]; exact hpl) (by rw [← HL.out]; exact hl))
          obtain ⟨R, hR⟩ : ∃ R, R = upT 1 (opnR (xs.drop 1)) := ⟨_, rfl⟩
          rw [← hR] at HOP
          rw [← hR]
          clear h h0 hL hbx hbw h1 h2 h3 h4 hR
          cases R with
          | error z =>
            go_enter Tryz.func69, Tryz.ntmps69
            go_wp2_with fail
            refine HB1.out.mono ?_
            rintro e w1 ⟨rfl, rfl⟩
            go_wp2_with fail
            refine HB2.out.mono ?_
            rintro e w2 ⟨rfl, rfl⟩
            go_wp2_with fail
            refine HB3.out.mono ?_
            rintro e w3 ⟨rfl, rfl⟩
            go_wp2_with fail
            refine HB4.out.mono ?_
            rintro e w4 ⟨rfl, rfl⟩
            go_wp2_with fail
            refine HOP.out.mono ?_
            rintro e w5 ⟨he, hb5⟩
            dsimp only at he
            subst he
            have hbx5 := (hb5.block _ (by simp)).trans HBX.out
            have hbw5 := HBW.out.trans (hb5.mono HBW.out.size)
            obtain ⟨y0, y1, y2, y3, y4, yz⟩ := cellsX5 hbx5
            have HZ5 := Lib.hid (zero_give hbx5 hbw5)
            clear hb5 hbx5 hbw5
            go_wp2_with fail
            refine bodyPost_ret (results_tok _ _ w.heap.size _ _ _ _ _ _ _ rfl rfl rfl HZ5.out.1) rfl ?_
            exact ⟨rfl, HZ5.out.2⟩
          | ok tm =>
            obtain ⟨t, m⟩ := tm
            go_enter Tryz.func69, Tryz.ntmps69
            go_wp2_with fail
            refine HB1.out.mono ?_
            rintro e w1 ⟨rfl, rfl⟩
            go_wp2_with fail
            refine HB2.out.mono ?_
            rintro e w2 ⟨rfl, rfl⟩
            go_wp2_with fail
            refine HB3.out.mono ?_
            rintro e w3 ⟨rfl, rfl⟩
            go_wp2_with fail
            refine HB4.out.mono ?_
            rintro e w4 ⟨rfl, rfl⟩
            go_wp2_with fail
            refine HOP.out.mono ?_
            rintro e w5 ⟨⟨v5, rfl, ⟨s5, rfl, hat⟩⟩, hb5⟩
            have hbx5 := (hb5.block _ (by simp)).trans HBX.out
            have hbw5 := HBW.out.trans (hb5.mono HBW.out.size)
            obtain ⟨y0, y1, y2, y3, y4, yz⟩ := cellsX5 hbx5
            obtain ⟨p7, c7, hsv, _⟩ := id hat
            obtain ⟨N7, hN7⟩ : ∃ N7, N7 = t.attrs.length := ⟨_, rfl⟩
            rw [← hN7] at hsv
            subst hsv
            obtain ⟨S1, hS1⟩ : ∃ S1, S1 = (⟨t.name.toArray⟩ : ByteArray) := ⟨_, rfl⟩
            obtain ⟨S2, hS2⟩ : ∃ S2, S2 = (⟨t.text.toArray⟩ : ByteArray) := ⟨_, rfl⟩
            obtain ⟨kd, hkd⟩ : ∃ kd, kd = t.kind := ⟨_, rfl⟩
            obtain ⟨em, hem⟩ : ∃ em, em = t.empty := ⟨_, rfl⟩
            rw [← hS1, ← hS2, ← hkd, ← hem]
            have HP := Lib.hid (put5_at hbx5 (.int .i64 (kd : Nat)) (.string S1) (.slice p7 N7 c7) (.bool em) (.string S2))
            have HBP := Lib.hid (put5_below hbw5 (.int .i64 (kd : Nat)) (.string S1) (.slice p7 N7 c7) (.bool em) (.string S2))
            have HAT := Lib.hid (hat.poke hbx5 (put5_chg w5 w.heap.size (.int .i64 (kd : Nat)) (.string S1) (.slice p7 N7 c7) (.bool em) (.string S2)))
            have HKD := Lib.hid (And.intro (And.intro hS1 hS2) (And.intro hkd hem))
            clear hb5 hbx5 hbw5 hat hN7 hS1 hS2 hkd hem
            go_wp2_with fail
            refine bodyPost_ret (results_tok _ _ w.heap.size _ _ _ _ _ _ _ rfl rfl rfl HP.out) rfl ?_
            exact ⟨⟨_, rfl, ⟨_, by rw [HKD.out.1.1, HKD.out.1.2, HKD.out.2.1, HKD.out.2.2], HAT.out⟩⟩, HBP.out⟩
        | false =>
          rw [h4] at HB4
          have HB4 := Lib.hid HB4
          rw [tok_da h1 h2 h3 h4]
          obtain ⟨n, hn⟩ : ∃ n, n = (if Lib.index xs [60] < 0 then xs.length else (Lib.index xs [60]).toNat) := ⟨_, rfl⟩
          have hil := idx1_lt xs 60
          have hnL : n ≤ L := by
            rw [hn]
            split
            · omega
            · have := HL.out; rcases hil with h9 | h9 <;> omega
          have HFL := find_c (w.alloc REST) _ xs ⟨#[60]⟩ h0 (by decide) (by rw [← HL.out]; omega)
          rw [show (⟨#[60]⟩ : ByteArray).data.toList = [60] from rfl] at HFL
          obtain ⟨pT, mT, cT, hsT, hrT⟩ := slice_to h0 n hnL
          have HFB := find_c (w.alloc REST) _ (xs.take n) ⟨#[93, 93, 62]⟩ hrT (by decide) (by rw [List.length_take]; omega)
          rw [show (⟨#[93, 93, 62]⟩ : ByteArray).data.toList = [93, 93, 62] from rfl] at HFB
          have HRS := Lib.hid (resolve_c (w.alloc REST) _ (xs.take n) hrT (by rw [List.length_take]; omega) false)
          obtain ⟨j, hj⟩ : ∃ j, j = Lib.index (xs.take n) [93, 93, 62] := ⟨_, rfl⟩
          rw [← hj] at HFB
          have HFB := Lib.hid HFB
          have hpref : ∃ D, datP xs = D ∧ ((0 ≤ j ∧ D = .error 11) ∨ (¬ 0 ≤ j ∧ D = datV n (rsT false (xs.take n)))) := by
            by_cases hj0 : 0 ≤ j
            · exact ⟨_, rfl, .inl ⟨hj0, dat_no hn (by rw [← hj]; exact hj0)⟩⟩
            · exact ⟨_, rfl, .inr ⟨hj0, dat_go hn (by rw [← hj]; exact hj0)⟩⟩
          obtain ⟨D, hD, hDD⟩ := hpref
          rw [hD]
          obtain ⟨R, hR⟩ : ∃ R, R = rsT false (xs.take n) := ⟨_, rfl⟩
          rw [← hR] at HRS hDD
          have HDD := Lib.hid hDD
          have hix : ∃ i, i = Lib.index xs [60] := ⟨_, rfl⟩
          obtain ⟨i, hi⟩ := hix
          rw [← hi] at HFL hn
          have HFL := Lib.hid HFL
          have hii : (i < 0 ∧ n = L) ∨ (¬ i < 0 ∧ i = (n : Int)) := by
            by_cases h9 : i < 0
            · rw [if_pos h9] at hn
              exact .inl ⟨h9, by rw [hn, HL.out]⟩
            · rw [if_neg h9] at hn
              exact .inr ⟨h9, by omega⟩
          have HII := Lib.hid hii
          clear h h0 hL hbx hbw h1 h2 h3 h4 hn hil hrT hj hD hDD hR hi hii
          go_enter Tryz.func69, Tryz.ntmps69
          go_wp2_with fail
          refine HB1.out.mono ?_
          rintro e w1 ⟨rfl, rfl⟩
          go_wp2_with fail
          refine HB2.out.mono ?_
          rintro e w2 ⟨rfl, rfl⟩
          go_wp2_with fail
          refine HB3.out.mono ?_
          rintro e w3 ⟨rfl, rfl⟩
          go_wp2_with fail
          refine HB4.out.mono ?_
          rintro e w4 ⟨rfl, rfl⟩
          go_wp2_with fail
          refine HFL.out.mono ?_
          rintro e w5 ⟨rfl, rfl⟩
          rcases HII.out with ⟨hi0, rfl⟩ | ⟨hi0, rfl⟩
          all_goals
            first | (have ti : decide (i < 0) = true := by simpa using hi0) | (have ti : decide ((n : Int) < 0) = false := by simp)
            clear hi0
            go_wp2_with fail
            refine HFB.out.mono ?_
            rintro e w6 ⟨rfl, rfl⟩
            rcases HDD.out with ⟨hj0, rfl⟩ | ⟨hj0, rfl⟩
            · have tj : decide (0 ≤ j) = true := by simpa using hj0
              clear hj0
              go_wp2_with fail
              refine bodyPost_ret (results_tok _ _ w.heap.size _ _ _ _ _ _ _ rfl rfl rfl HZ.out.1) rfl ?_
              exact ⟨rfl, HZ.out.2⟩
            · have tj : decide (0 ≤ j) = false := by simpa using hj0
              clear hj0
              go_wp2_with fail
              refine HRS.out.mono ?_
              rintro e w7 ⟨he, hb7⟩
              have hbx7 := (hb7.block _ (by simp)).trans HBX.out
              have hbw7 := HBW.out.trans (hb7.mono HBW.out.size)
              obtain ⟨y0, y1, y2, y3, y4, yz⟩ := cellsX5 hbx7
              cases R with
              | error z =>
                dsimp only at he
                subst he
                have HZ7 := Lib.hid (zero_give hbx7 hbw7)
                clear hb7 hbx7 hbw7
                go_wp2_with fail
                refine bodyPost_ret (results_tok _ _ w.heap.size _ _ _ _ _ _ _ rfl rfl rfl HZ7.out.1) rfl ?_
                exact ⟨rfl, HZ7.out.2⟩
              | ok T =>
                dsimp only at he
                obtain ⟨S, hS⟩ : ∃ S, S = (⟨T.toArray⟩ : ByteArray) := ⟨_, rfl⟩
                rw [← hS] at he
                subst he
                have HGV := Lib.hid (plain_give hbx7 hbw7 3 ⟨#[]⟩ S (n1 := []) rfl hS)
                clear hb7 hbx7 hbw7 hS
                go_wp2_with fail
                refine bodyPost_ret (results_tok _ _ w.heap.size _ _ _ _ _ _ _ rfl rfl rfl HGV.out.1) rfl ?_
                exact ⟨⟨_, rfl, HGV.out.2.2⟩, HGV.out.2.1⟩
end Go.Proofs.YtpcajjbdlfookaaGreatDoor

/- xmllex: the reference: Next. -/
namespace Go.Proofs.YtpcajjbdlfookaaGreatDoor
open Go.RowKit
set_option linter.unusedVariables false

theorem com_le {t : List UInt8} {n : Nat} (h : comP t = some n) : n ≤ t.length := by
  unfold comP at h
  split at h
  · simp at h
  · split at h
    · rename_i hp
      have := pre_len hp
      rw [List.length_drop] at this
      simp only [List.length_singleton, Option.some.injEq] at this h
      omega
    · simp at h
theorem insR_le {t : List UInt8} {n : Nat} (h : insR t = some n) : n ≤ t.length := by
  unfold insR at h
  split at h
  · simp at h
  · split at h
    · simp at h
    · rename_i hi
      have h1 := Lib.index_room (t.drop (nameAt t)) [63, 62] (by omega)
      have h2 := nameAt_le t
      rw [List.length_drop] at h1
      simp only [List.length_cons, List.length_nil, Option.some.injEq] at h1 h
      omega
theorem skp_ub : ∀ (g : Nat) (r : List UInt8) (a k : Nat) (b : Bool), skpF insR g r a = (k, b) → k ≤ a + r.length
  | 0, r, a, k, b, h => by
    rw [skpF] at h
    simp only [Prod.mk.injEq] at h
    omega
  | g + 1, r, a, k, b, h => by
    cases h1 : Lib.hasPrefix r [60, 33, 45, 45] with
    | true =>
      have hl := pre_len h1
      simp only [List.length_cons, List.length_nil] at hl
      cases hc : comP (r.drop 4) with
      | none =>
        rw [skp_no h1 hc] at h
        simp only [Prod.mk.injEq] at h
        omega
      | some n =>
        rw [skp_go h1 hc] at h
        have h2 := com_le hc
        have h3 := skp_ub g _ _ _ _ h
        rw [List.length_drop] at h2 h3
        omega
    | false =>
      cases h2 : Lib.hasPrefix r [60, 63] with
      | true =>
        have hl := pre_len h2
        simp only [List.length_cons, List.length_nil] at hl
        cases hc : insR (r.drop 2) with
        | none =>
          rw [ski_no h1 h2 hc] at h
          simp only [Prod.mk.injEq] at h
          omega
        | some n =>
          rw [ski_go h1 h2 hc] at h
          have h4 := insR_le hc
          have h3 := skp_ub g _ _ _ _ h
          rw [List.length_drop] at h4 h3
          omega
      | false =>
        rw [skp_end h1 h2] at h
        simp only [Prod.mk.injEq] at h
        omega
theorem skA_ub {xs : List UInt8} {at_ : Int} {k z : Nat} (h : skA insR xs at_ = (k, z)) : k ≤ xs.length := by
  unfold skA at h
  split at h
  · simp only [Prod.mk.injEq] at h
    omega
  · rename_i ho
    cases hs : skpF insR (xs.length + 1) (xs.drop at_.toNat) at_.toNat with
    | mk q b =>
      have hu := skp_ub _ _ _ _ _ hs
      rw [List.length_drop] at hu
      rw [hs] at h
      cases b
      all_goals
        simp only [Prod.mk.injEq] at h
        omega
/-- What is told where no more comments stand. -/
def tokV (k : Nat) (R : Except Nat (Tk × Nat)) : Tk × Nat × Nat := match R with
  | .error e => (noT, k, e)
  | .ok (t, n) => (t, k + n, 0)
theorem nxt_no {xs : List UInt8} {at_ : Int} {k z : Nat} (h : skA insR xs at_ = (k, z)) (hz : z ≠ 0) : nxt insR opnR cloR xs at_ = (noT, k, z) := by
  unfold skA at h
  unfold nxt
  split at h
  · rename_i ho
    simp only [Prod.mk.injEq] at h
    rw [if_pos ho, ← h.1, ← h.2]
  · rename_i ho
    rw [if_neg ho]
    cases hs : skpF insR (xs.length + 1) (xs.drop at_.toNat) at_.toNat with
    | mk q b =>
      rw [hs] at h
      cases b
      · simp only [Prod.mk.injEq] at h
        rw [← h.1, ← h.2]
      · simp only [Prod.mk.injEq] at h
        omega
theorem nxt_yes {xs : List UInt8} {at_ : Int} {k : Nat} (h : skA insR xs at_ = (k, 0)) : nxt insR opnR cloR xs at_ = if xs.drop k = [] then (noT, k, 0) else tokV k (tokG opnR cloR (xs.drop k)) := by
  unfold skA at h
  unfold nxt
  split at h
  · simp at h
  · rename_i ho
    rw [if_neg ho]
    cases hs : skpF insR (xs.length + 1) (xs.drop at_.toNat) at_.toNat with
    | mk q b =>
      rw [hs] at h
      cases b
      · simp at h
      · simp only [Prod.mk.injEq, and_true] at h
        subst h
        rfl
theorem nz_tokR (r : List UInt8) (hr : r ≠ []) : NZ (tokG opnR cloR r) := by
  have h := nz_tokA r
  unfold tokA at h
  rw [if_neg hr] at h
  rwa [show opnP = opnR from funext opn_eq, show cloP = cloR from funext clo_eq] at h
theorem opnF_len : ∀ (g : Nat) (r : List UInt8) (a : Nat) (l : List (List UInt8 × List UInt8)) (x : List (List UInt8 × List UInt8) × Bool) (m : Nat), opnF attrR g r a l = .ok (x, m) → m ≤ a + r.length
  | 0, r, a, l, x, m, h => by
    rw [opnF] at h
    simp at h
  | g + 1, r, a, l, x, m, h => by
    have hb := blN_le r
    cases h1 : Lib.hasPrefix (r.drop (blN r)) [62] with
    | true =>
      rw [opn_gt h1] at h
      have := pre_len h1
      rw [List.length_drop] at this
      simp only [List.length_singleton, Except.ok.injEq, Prod.mk.injEq] at this h
      omega
    | false =>
      cases h2 : Lib.hasPrefix (r.drop (blN r)) [47, 62] with
      | true =>
        rw [opn_em h1 h2] at h
        have := pre_len h2
        rw [List.length_drop] at this
        simp only [List.length_cons, List.length_nil, Except.ok.injEq, Prod.mk.injEq] at this h
        omega
      | false =>
        by_cases h3 : blN r = 0
        · rw [opn_ap h1 h2 h3] at h
          simp at h
        · rw [opn_go h1 h2 h3] at h
          cases hA : attrR (r.drop (blN r)) with
          | error z => rw [hA] at h; simp at h
          | ok xm =>
            obtain ⟨y, q⟩ := xm
            rw [hA] at h
            have h4 := opnF_len g _ _ _ _ _ h
            have h5 := attr_len hA
            rw [List.length_drop] at h4 h5
            omega
theorem opnR_len {t : List UInt8} {k : Tk} {m : Nat} (h : opnR t = .ok (k, m)) : m ≤ t.length := by
  unfold opnR at h
  split at h
  · simp at h
  · cases ho : opnF attrR (t.length + 1) (t.drop (tagR t)) (tagR t) [] with
    | error z => rw [ho] at h; simp at h
    | ok xm =>
      obtain ⟨⟨l, b⟩, q⟩ := xm
      rw [ho] at h
      simp only [Except.ok.injEq, Prod.mk.injEq] at h
      have h1 := opnF_len _ _ _ _ _ _ ho
      have h2 := tagR_le t
      rw [List.length_drop] at h1
      omega
theorem cloR_len {t : List UInt8} {k : Tk} {m : Nat} (h : cloR t = .ok (k, m)) : m ≤ t.length := by
  unfold cloR at h
  split at h
  · simp at h
  · rename_i hp
    have h1 : Lib.hasPrefix (t.drop (tagR t + blN (t.drop (tagR t)))) [62] = true := by
      cases hb : Lib.hasPrefix (t.drop (tagR t + blN (t.drop (tagR t)))) [62] with
      | true => rfl
      | false => exact absurd (.inr hb) hp
    have h2 := pre_len h1
    rw [List.length_drop] at h2
    simp only [List.length_singleton, Except.ok.injEq, Prod.mk.injEq] at h2 h
    omega
theorem upT_ok {n : Nat} {x : Except Nat (Tk × Nat)} {t : Tk} {m : Nat} (h : upT n x = .ok (t, m)) : ∃ q, x = .ok (t, q) ∧ m = n + q := by
  cases x with
  | error z => simp [upT] at h
  | ok tm =>
    obtain ⟨t', q⟩ := tm
    simp only [upT, Except.ok.injEq, Prod.mk.injEq] at h
    obtain ⟨rfl, rfl⟩ := h
    exact ⟨q, rfl, rfl⟩
theorem tok_len {r : List UInt8} {t : Tk} {m : Nat} (h : tokG opnR cloR r = .ok (t, m)) : m ≤ r.length := by
  cases h1 : Lib.hasPrefix r [60, 33, 91, 67, 68, 65, 84, 65, 91] with
  | true =>
    rw [tok_cd h1] at h
    split at h
    · simp at h
    · rename_i hi
      have hp := pre_len h1
      have hr := Lib.index_room (r.drop 9) [93, 93, 62] (by omega)
      rw [List.length_drop] at hr
      simp only [List.length_cons, List.length_nil, Except.ok.injEq, Prod.mk.injEq] at hp hr h
      omega
  | false =>
    cases h2 : Lib.hasPrefix r [60, 33, 68, 79, 67, 84, 89, 80, 69] with
    | true => rw [tok_dt h1 h2] at h; simp at h
    | false =>
      cases h3 : Lib.hasPrefix r [60, 47] with
      | true =>
        rw [tok_cl h1 h2 h3] at h
        obtain ⟨q, hq, rfl⟩ := upT_ok h
        have h4 := cloR_len hq
        have hp := pre_len h3
        rw [List.length_drop] at h4
        simp only [List.length_cons, List.length_nil] at hp
        omega
      | false =>
        cases h4 : Lib.hasPrefix r [60] with
        | true =>
          rw [tok_op h1 h2 h3 h4] at h
          obtain ⟨q, hq, rfl⟩ := upT_ok h
          have h5 := opnR_len hq
          have hp := pre_len h4
          rw [List.length_drop] at h5
          simp only [List.length_cons, List.length_nil] at hp
          omega
        | false =>
          rw [tok_da h1 h2 h3 h4] at h
          obtain ⟨n, hn, hd⟩ := dat_eq r
          rw [hd] at h
          have hil := idx1_lt r 60
          have hnl : n ≤ r.length := by
            rw [hn]
            split
            · omega
            · rcases hil with h9 | h9 <;> omega
          split at h
          · simp at h
          · cases hz : rsT false (r.take n) with
            | error z => rw [hz] at h; simp at h
            | ok u =>
              rw [hz] at h
              simp only [Except.ok.injEq, Prod.mk.injEq] at h
              omega
theorem AtsIs.below {w w' : World} {v : Value} {l : List (List UInt8 × List UInt8)} (h : AtsIs w v l) (hb : Below w.heap.size w w') : AtsIs w' v l := by
  obtain ⟨p, c, hv, h1, h2, h3, h4⟩ := h
  refine ⟨p, c, hv, h1, h2, h3, fun hp => ?_⟩
  obtain ⟨b, o, hbo, ⟨cs, z, hcs⟩, hx⟩ := h4 hp
  exact ⟨b, o, hbo, ⟨cs, z, (hb.block b (Array.getElem?_eq_some_iff.1 hcs).1).trans hcs⟩, fun j u hu => chg_cell (pb := b + 1) (Chg.of_below hb) (hx j u hu) (by omega)⟩
theorem VT.below {t : Tk} {w w' : World} {v : Value} (h : VT t w v) (hb : Below w.heap.size w w') : VT t w' v := by
  obtain ⟨s, hv, hat⟩ := h
  exact ⟨s, hv, hat.below hb⟩
theorem results_nxt (tm : Array Value) (V : World) (b : Nat) (c0 c1 c2 c3 c4 k z : Value) (h2 : tm.getD 4 undef = .pointer (some ⟨b, 0, none⟩)) (h3 : tm.getD 5 undef = k) (h4 : tm.getD 6 undef = z) (h : V.heap[b]? = some (.cells #[c0, c1, c2, c3, c4] 52 (0, 0))) :
    (results Tryz.f37 tm).run Tryz.prog V = .ok (.tuple #[.agg #[c0, c1, c2, c3, c4], k, z]) V := by
  obtain ⟨e0, e1, e2, e3, e4, _⟩ := cellsX5 h
  have h2' : tm[4]?.getD undef = .pointer (some ⟨b, 0, none⟩) := by simpa using h2
  have h3' : tm[5]?.getD undef = k := by simpa using h3
  have h4' : tm[6]?.getD undef = z := by simpa using h4
  simp [results, Tryz.results37, go_sem, h2', h3', h4', e0, e1, e2, e3, e4]
/-- How Next ends. -/
def NxEnd (w : World) (R : Tk × Nat × Nat) (e : Ending) (w' : World) : Prop :=
  ∃ v, e = .returned (.tuple #[v, .int .i64 (R.2.1 : Nat), .int .i64 (R.2.2 : Nat)]) ∧ VT R.1 w' v ∧ Below w.heap.size w w'
theorem vt_no (w : World) : VT noT w ZT := ⟨_, rfl, AtsIs.nil _⟩
set_option maxRecDepth 100000 in
set_option maxHeartbeats 4000000 in
theorem rnext_c (w : World) (v : Value) (xs : List UInt8) (h : Rd w v xs) (hl : xs.length ≤ 8388608) (at_ : Int) : Calls Tryz.prog 37 #[v, .int .i64 at_] w (NxEnd w (nxt insR opnR cloR xs at_)) := by
  obtain ⟨p, c, rfl⟩ := rd_form h
  obtain ⟨L, hL⟩ : ∃ L, L = xs.length := ⟨_, rfl⟩
  rw [← hL] at h hl
  have h0 := h.below (bel_alloc w REST)
  have HSK := Lib.hid (rskip_c (w.alloc REST) _ xs h0 (by omega) at_)
  obtain ⟨⟨k, z⟩, hS⟩ : ∃ S, S = skA insR xs at_ := ⟨_, rfl⟩
  rw [← hS] at HSK
  have hkL := skA_ub hS.symm
  rw [← hL] at hkL
  obtain ⟨R, hR⟩ : ∃ R, R = nxt insR opnR cloR xs at_ := ⟨_, rfl⟩
  rw [← hR, ← hL]
  have HR := Lib.hid h
  have HL := Lib.hid hL
  have HBX := Lib.hid (show (w.alloc REST).heap[w.heap.size]? = some REST from heap_alloc_new w _)
  have HBW := Lib.hid (bel_alloc w REST)
  by_cases hz : z = 0
  · subst hz
    have hY := hR.trans (nxt_yes hS.symm)
    by_cases hk : k = L
    · rw [if_pos (List.drop_eq_nil_of_le (by rw [← hL]; omega))] at hY
      have HQ := Lib.hid hY
      have tk : ((k : Int) == (L : Int)) = true := by simp; omega
      clear h h0 hL hS hR hY hk
      go_enter Tryz.func37, Tryz.ntmps37
      go_wp2_with fail
      refine HSK.out.mono ?_
      rintro e w1 ⟨rfl, hb1⟩
      have hbx1 := (hb1.block _ (by simp)).trans HBX.out
      have hbw1 := HBW.out.trans (hb1.mono HBW.out.size)
      obtain ⟨y0, y1, y2, y3, y4, yz⟩ := cellsX5 hbx1
      have HZ := Lib.hid (zero_give hbx1 hbw1)
      clear hb1 hbx1 hbw1
      go_wp2_with fail
      refine bodyPost_ret (results_nxt _ _ w.heap.size _ _ _ _ _ _ _ rfl rfl rfl HZ.out.1) rfl ?_
      rw [HQ.out]
      exact ⟨_, rfl, vt_no _, HZ.out.2⟩
    · have hne : xs.drop k ≠ [] := fun e => by have := congrArg List.length e; rw [List.length_drop] at this; simp at this; omega
      rw [if_neg hne] at hY
      have hnz := nz_tokR _ hne
      have tk : ((k : Int) == (L : Int)) = false := by simp; omega
      obtain ⟨T, hT⟩ : ∃ T, T = tokG opnR cloR (xs.drop k) := ⟨_, rfl⟩
      rw [← hT] at hY hnz
      have HQ := Lib.hid hY
      have HTK := Lib.hid (fun (wx : World) (v : Value) (h : Rd wx v (xs.drop k)) => rtoken_c wx v (xs.drop k) h (by rw [List.length_drop]; have := HL.out; omega))
      rw [← hT] at HTK
      have HT2 := Lib.hid hT
      clear h h0 hL hS hR hY hk hne hT
      cases T with
      | error z =>
        have tz : ((z : Int) != 0) = true := by simpa using hnz z rfl
        clear hnz
        go_enter Tryz.func37, Tryz.ntmps37
        go_wp2_with fail
        refine HSK.out.mono ?_
        rintro e w1 ⟨rfl, hb1⟩
        have hbx1 := (hb1.block _ (by simp)).trans HBX.out
        have hbw1 := HBW.out.trans (hb1.mono HBW.out.size)
        have HBX1 := Lib.hid hbx1
        have HBW1 := Lib.hid hbw1
        obtain ⟨pA, mA, cA, hsA, hrA⟩ := slice_from (HR.out.below hbw1) k hkL
        have HTK1 := Lib.hid (HTK.out _ _ hrA)
        clear hb1 hbx1 hbw1 hrA
        go_wp2_with fail
        refine HTK1.out.mono ?_
        rintro e w2 ⟨he, hb2⟩
        dsimp only at he
        subst he
        have hbx2 := (hb2.block _ (Array.getElem?_eq_some_iff.1 HBX1.out).1).trans HBX1.out
        have hbw2 := HBW1.out.trans (hb2.mono HBW1.out.size)
        obtain ⟨y0, y1, y2, y3, y4, yz⟩ := cellsX5 hbx2
        have hlt2 : w.heap.size < w2.heap.size := (Array.getElem?_eq_some_iff.1 hbx2).1
        have HZ := Lib.hid (zero_give_alloc hbx2 hbw2 REST)
        clear hb2 hbx2 hbw2
        go_wp2_with fail
        refine bodyPost_ret (results_nxt _ _ w.heap.size _ _ _ _ _ _ _ rfl rfl rfl HZ.out.1) rfl ?_
        rw [HQ.out]
        exact ⟨_, rfl, vt_no _, HZ.out.2⟩
      | ok tm =>
        obtain ⟨t, m⟩ := tm
        have hm := tok_len HT2.out.symm
        rw [List.length_drop, ← HL.out] at hm
        have hkm : k + m ≤ L := by omega
        clear hnz
        go_enter Tryz.func37, Tryz.ntmps37
        go_wp2_with fail
        refine HSK.out.mono ?_
        rintro e w1 ⟨rfl, hb1⟩
        have hbx1 := (hb1.block _ (by simp)).trans HBX.out
        have hbw1 := HBW.out.trans (hb1.mono HBW.out.size)
        have HBX1 := Lib.hid hbx1
        have HBW1 := Lib.hid hbw1
        obtain ⟨pA, mA, cA, hsA, hrA⟩ := slice_from (HR.out.below hbw1) k hkL
        have HTK1 := Lib.hid (HTK.out _ _ hrA)
        clear hb1 hbx1 hbw1 hrA
        go_wp2_with fail
        refine HTK1.out.mono ?_
        rintro e w2 ⟨⟨v2, rfl, ⟨s2, rfl, hat⟩⟩, hb2⟩
        have hbx2 := (hb2.block _ (Array.getElem?_eq_some_iff.1 HBX1.out).1).trans HBX1.out
        have hbw2 := HBW1.out.trans (hb2.mono HBW1.out.size)
        obtain ⟨y0, y1, y2, y3, y4, yz⟩ := cellsX5 hbx2
        have hlt2 : w.heap.size < w2.heap.size := (Array.getElem?_eq_some_iff.1 hbx2).1
        obtain ⟨p7, c7, hsv, _⟩ := id hat
        obtain ⟨N7, hN7⟩ : ∃ N7, N7 = t.attrs.length := ⟨_, rfl⟩
        rw [← hN7] at hsv
        subst hsv
        obtain ⟨S1, hS1⟩ : ∃ S1, S1 = (⟨t.name.toArray⟩ : ByteArray) := ⟨_, rfl⟩
        obtain ⟨S2, hS2⟩ : ∃ S2, S2 = (⟨t.text.toArray⟩ : ByteArray) := ⟨_, rfl⟩
        obtain ⟨kd, hkd⟩ : ∃ kd, kd = t.kind := ⟨_, rfl⟩
        obtain ⟨em, hem⟩ : ∃ em, em = t.empty := ⟨_, rfl⟩
        rw [← hS1, ← hS2, ← hkd, ← hem]
        have hp5 := put5_at hbx2 (.int .i64 (kd : Nat)) (.string S1) (.slice p7 N7 c7) (.bool em) (.string S2)
        have hbe := bel_alloc (put5 w2 w.heap.size (.int .i64 (kd : Nat)) (.string S1) (.slice p7 N7 c7) (.bool em) (.string S2)) (.cells #[.int .i64 (kd : Nat), .string S1, .slice p7 N7 c7, .bool em, .string S2] 52)
        have HP := Lib.hid ((hbe.block _ (Array.getElem?_eq_some_iff.1 hp5).1).trans hp5)
        have hbp := put5_below hbw2 (.int .i64 (kd : Nat)) (.string S1) (.slice p7 N7 c7) (.bool em) (.string S2)
        have HBP := Lib.hid (hbp.trans (hbe.mono hbp.size))
        have HAT := Lib.hid ((hat.poke hbx2 (put5_chg w2 w.heap.size (.int .i64 (kd : Nat)) (.string S1) (.slice p7 N7 c7) (.bool em) (.string S2))).below hbe)
        have HKD := Lib.hid (And.intro (And.intro hS1 hS2) (And.intro hkd hem))
        clear hb2 hbx2 hbw2 hat hN7 hS1 hS2 hkd hem hp5 hbe hbp
        go_wp2_with fail
        refine bodyPost_ret (results_nxt _ _ w.heap.size _ _ _ _ _ _ _ rfl rfl rfl HP.out) rfl ?_
        rw [HQ.out]
        exact ⟨_, tup3 (show ((k : Int) + (m : Int)) = ((k + m : Nat) : Int) by omega), ⟨_, by rw [HKD.out.1.1, HKD.out.1.2, HKD.out.2.1, HKD.out.2.2]; rfl, HAT.out⟩, HBP.out⟩
  · have HQ := Lib.hid (hR.trans (nxt_no hS.symm hz))
    have tz : ((z : Int) != 0) = true := by simpa using hz
    clear h h0 hL hS hR hz
    go_enter Tryz.func37, Tryz.ntmps37
    go_wp2_with fail
    refine HSK.out.mono ?_
    rintro e w1 ⟨rfl, hb1⟩
    have hbx1 := (hb1.block _ (by simp)).trans HBX.out
    have hbw1 := HBW.out.trans (hb1.mono HBW.out.size)
    obtain ⟨y0, y1, y2, y3, y4, yz⟩ := cellsX5 hbx1
    have HZ := Lib.hid (zero_give hbx1 hbw1)
    clear hb1 hbx1 hbw1
    go_wp2_with fail
    refine bodyPost_ret (results_nxt _ _ w.heap.size _ _ _ _ _ _ _ rfl rfl rfl HZ.out.1) rfl ?_
    rw [HQ.out]
    exact ⟨_, rfl, vt_no _, HZ.out.2⟩
end Go.Proofs.YtpcajjbdlfookaaGreatDoor

/- xmltree: the parser's model: its places grow. -/
namespace Go.Proofs.YtpcajjbdlfookaaGreatDoor
open Go Go.RowKit Go.Deep
set_option linter.unusedVariables false
set_option linter.unusedSimpArgs false

theorem nxt_le {xs : List UInt8} {a : Nat} {t : Tk} {k : Nat} (h : nxt insR opnR cloR xs a = (t, k, 0)) : k ≤ xs.length := by
  unfold nxt at h
  split at h
  · cases h
  rename_i ha
  split at h
  · cases h
  · rename_i a' hs
    rw [Int.toNat_natCast] at hs
    have hub := skp_ub _ _ _ _ _ hs
    rw [List.length_drop] at hub
    split at h
    · cases h
      omega
    · split at h
      · cases h
        omega
      · rename_i t' n hx
        cases h
        have := tok_len hx
        rw [List.length_drop] at this
        omega
theorem tokM_le {xs : List UInt8} {a q k : Nat} {t : Tk} (h : tokM xs a = .ok (t, q, k)) : k ≤ xs.length := by
  have h2 := (tokM_ok h).2
  rw [nxt_eq] at h2
  exact nxt_le h2
theorem cont_goes (xs : List UInt8) : ∀ (f : Nat) (L : BS) (o : Nat) (nm : List UInt8) (h : HT) (ks : List ET) (tx : List UInt8) (a : Nat) (x : ET) (k' : Nat), a ≤ xs.length → contM xs f L o nm h ks tx a = .ok (x, k') → a < k' ∧ k' ≤ xs.length
  | 0, L, o, nm, h, ks, tx, a, x, k', ha, he => by unfold contM at he; cases he
  | f + 1, L, o, nm, h, ks, tx, a, x, k', ha, he => by
    unfold contM at he
    split at he
    · cases he
    · rename_i t q k ht
      have hle := tokM_le ht
      split at he
      · rename_i hk
        have hg := tokM_goes ht ha (by omega)
        have := cont_goes xs f _ _ _ _ _ _ _ _ _ hle he
        omega
      split at he
      · rename_i hk
        have hg := tokM_goes ht ha (by omega)
        split at he
        · cases he
        split at he
        · cases he
        · rename_i x1 k1 hx1
          have h1 : k ≤ k1 ∧ k1 ≤ xs.length := by
            unfold elemW at hx1
            split at hx1
            · cases hx1
            split at hx1
            · cases hx1
            split at hx1
            · cases hx1
              exact ⟨Nat.le_refl _, hle⟩
            · have := cont_goes xs f _ _ _ _ _ _ _ _ _ hle hx1
              omega
          have := cont_goes xs f _ _ _ _ _ _ _ _ _ h1.2 he
          omega
      split at he
      · rename_i hk
        have hg := tokM_goes ht ha (by omega)
        cases he
        exact ⟨hg.2, hle⟩
      · cases he
theorem elem_goes {xs : List UInt8} {f : Nat} {L : BS} {o : Nat} {t : Tk} {q k : Nat} {x : ET} {k' : Nat} (hk : k ≤ xs.length) (h : elemM xs f L o t q k = .ok (x, k')) : k ≤ k' ∧ k' ≤ xs.length := by
  unfold elemM elemW at h
  split at h
  · cases h
  split at h
  · cases h
  split at h
  · cases h
    exact ⟨Nat.le_refl _, hk⟩
  · have := cont_goes xs f _ _ _ _ _ _ _ _ _ hk h
    omega
end Go.Proofs.YtpcajjbdlfookaaGreatDoor
