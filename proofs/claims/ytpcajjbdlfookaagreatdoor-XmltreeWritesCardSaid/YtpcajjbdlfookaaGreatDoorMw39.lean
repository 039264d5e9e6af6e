/- xmllex: the reference: digit. -/
import Derived.Test.YtpcajjbdlfookaaGreatDoorMw38
import Derived.Test.YtpcajjbdlfookaaGreatDoorMw11
namespace Go.Proofs.YtpcajjbdlfookaaGreatDoor
open Go.RowKit
set_option linter.unusedVariables false

def digI (B m : Nat) : Int := let n := if 48 ≤ m ∧ m ≤ 57 then m - 48 else if 97 ≤ m ∧ m ≤ 102 then m - 87 else if 65 ≤ m ∧ m ≤ 70 then m - 55 else 99
  if n < B then (n : Nat) else -1
theorem digI_dgt (B : Nat) (c : UInt8) : (digI B c.toNat = -1 ∧ dgt B c = none) ∨ ∃ k : Nat, digI B c.toNat = k ∧ dgt B c = some k := by
  unfold digI dgt
  dsimp only
  generalize (if 48 ≤ c.toNat ∧ c.toNat ≤ 57 then c.toNat - 48 else if 97 ≤ c.toNat ∧ c.toNat ≤ 102 then c.toNat - 87 else if 65 ≤ c.toNat ∧ c.toNat ≤ 70 then c.toNat - 55 else 99) = n
  by_cases h : n < B
  · rw [if_pos h, if_pos h]
    exact .inr ⟨n, rfl, rfl⟩
  · rw [if_neg h, if_neg h]
    exact .inl ⟨rfl, rfl⟩
set_option maxRecDepth 100000 in
set_option maxHeartbeats 2000000 in
theorem digit_c (w : World) (m : Nat) (hm : m < 256) (B : Nat) (hB : B = 10 ∨ B = 16) : Calls Tryz.prog 141 #[.int .u8 (m : Int), .int .i64 (B : Nat)] w fun e w' => e = .returned (.int .i64 (digI B m)) ∧ w' = w := by
  by_cases h1 : 48 ≤ m ∧ m ≤ 57
  · have hD := Lib.hid (show digI B m = ((m : Int) - 48) % 256 from by unfold digI; dsimp only; rw [if_pos h1, if_pos (by omega)]; omega)
    obtain ⟨h1, h2⟩ := h1
    have k48 : decide ((48 : Int) ≤ (m : Int)) = true := by simp; omega
    have k57 : decide ((m : Int) ≤ 57) = true := by simp; omega
    have k97 : decide ((97 : Int) ≤ (m : Int)) = false := by simp; omega
    have k65 : decide ((65 : Int) ≤ (m : Int)) = false := by simp; omega
    have kB : decide ((B : Int) ≤ ((m : Int) - 48) % 256) = false := by simp; omega
    rw [hD.out]
    clear hB h1 h2
    go_enter Tryz.func141, Tryz.ntmps141
    go_wp2_with fail
    go_ret
    exact ⟨rfl, rfl⟩
  by_cases h2 : 97 ≤ m ∧ m ≤ 102
  · obtain ⟨h3, h4⟩ := h2
    have k48 : decide ((48 : Int) ≤ (m : Int)) = true := by simp; omega
    have k57 : decide ((m : Int) ≤ 57) = false := by simp; omega
    have k97 : decide ((97 : Int) ≤ (m : Int)) = true := by simp; omega
    have k102 : decide ((m : Int) ≤ 102) = true := by simp; omega
    have k65 : decide ((65 : Int) ≤ (m : Int)) = true := by simp; omega
    have k70 : decide ((m : Int) ≤ 70) = false := by simp; omega
    by_cases hb : m - 87 < B
    · have hD := Lib.hid (show digI B m = ((m : Int) - 97) % 256 + 10 from by unfold digI; dsimp only; rw [if_neg h1, if_pos (show 97 ≤ m ∧ m ≤ 102 from ⟨h3, h4⟩), if_pos hb]; omega)
      have kB : decide ((B : Int) ≤ ((m : Int) - 97) % 256 + 10) = false := by simp; omega
      rw [hD.out]
      clear hB h1 h3 h4 hb
      go_enter Tryz.func141, Tryz.ntmps141
      go_wp2_with fail
      go_ret
      exact ⟨rfl, rfl⟩
    · have hD := Lib.hid (show digI B m = -1 from by unfold digI; dsimp only; rw [if_neg h1, if_pos (show 97 ≤ m ∧ m ≤ 102 from ⟨h3, h4⟩), if_neg hb])
      have kB : decide ((B : Int) ≤ ((m : Int) - 97) % 256 + 10) = true := by simp; omega
      rw [hD.out]
      clear hB h1 h3 h4 hb
      go_enter Tryz.func141, Tryz.ntmps141
      go_wp2_with fail
      go_ret
      exact ⟨rfl, rfl⟩
  by_cases h5 : 65 ≤ m ∧ m ≤ 70
  · obtain ⟨h3, h4⟩ := h5
    have k48 : decide ((48 : Int) ≤ (m : Int)) = true := by simp; omega
    have k57 : decide ((m : Int) ≤ 57) = false := by simp; omega
    have k97 : decide ((97 : Int) ≤ (m : Int)) = false := by simp; omega
    have k102 : decide ((m : Int) ≤ 102) = true := by simp; omega
    have k65 : decide ((65 : Int) ≤ (m : Int)) = true := by simp; omega
    have k70 : decide ((m : Int) ≤ 70) = true := by simp; omega
    by_cases hb : m - 55 < B
    · have hD := Lib.hid (show digI B m = ((m : Int) - 65) % 256 + 10 from by unfold digI; dsimp only; rw [if_neg h1, if_neg h2, if_pos (show 65 ≤ m ∧ m ≤ 70 from ⟨h3, h4⟩), if_pos hb]; omega)
      have kB : decide ((B : Int) ≤ ((m : Int) - 65) % 256 + 10) = false := by simp; omega
      rw [hD.out]
      clear hB h1 h2 h3 h4 hb
      go_enter Tryz.func141, Tryz.ntmps141
      go_wp2_with fail
      go_ret
      exact ⟨rfl, rfl⟩
    · have hD := Lib.hid (show digI B m = -1 from by unfold digI; dsimp only; rw [if_neg h1, if_neg h2, if_pos (show 65 ≤ m ∧ m ≤ 70 from ⟨h3, h4⟩), if_neg hb])
      have kB : decide ((B : Int) ≤ ((m : Int) - 65) % 256 + 10) = true := by simp; omega
      rw [hD.out]
      clear hB h1 h2 h3 h4 hb
      go_enter Tryz.func141, Tryz.ntmps141
      go_wp2_with fail
      go_ret
      exact ⟨rfl, rfl⟩
  have hD := Lib.hid (show digI B m = -1 from by unfold digI; dsimp only; rw [if_neg h1, if_neg h2, if_neg h5, if_neg (by omega)])
  have kB : decide ((B : Int) ≤ -1) = false := by simp; omega
  rw [hD.out]
  obtain ⟨q1, hq1⟩ : ∃ q, decide ((48 : Int) ≤ (m : Int)) = q := ⟨_, rfl⟩
  obtain ⟨q2, hq2⟩ : ∃ q, decide ((m : Int) ≤ 57) = q := ⟨_, rfl⟩
  obtain ⟨q3, hq3⟩ : ∃ q, decide ((97 : Int) ≤ (m : Int)) = q := ⟨_, rfl⟩
  obtain ⟨q4, hq4⟩ : ∃ q, decide ((m : Int) ≤ 102) = q := ⟨_, rfl⟩
  obtain ⟨q5, hq5⟩ : ∃ q, decide ((65 : Int) ≤ (m : Int)) = q := ⟨_, rfl⟩
  obtain ⟨q6, hq6⟩ : ∃ q, decide ((m : Int) ≤ 70) = q := ⟨_, rfl⟩
  have HQ := Lib.hid (show (q1 && q2) = false ∧ (q3 && q4) = false ∧ (q5 && q6) = false from by
    rw [← hq1, ← hq2, ← hq3, ← hq4, ← hq5, ← hq6]
    refine ⟨?_, ?_, ?_⟩ <;> (simp; omega))
  clear hB h1 h2 h5
  cases q1 <;> cases q2 <;> cases q3 <;> cases q4 <;> cases q5 <;> cases q6
  all_goals first
    | (exfalso; have := HQ.out; simp at this; done)
    | (go_enter Tryz.func141, Tryz.ntmps141
       go_wp2_with fail
       go_ret
       exact ⟨rfl, rfl⟩)
end Go.Proofs.YtpcajjbdlfookaaGreatDoor

/- xmllex: the reference: numbered. -/
namespace Go.Proofs.YtpcajjbdlfookaaGreatDoor
open Go.RowKit
set_option linter.unusedVariables false

/-- The number of digits, as the reference reads it. -/
def numR (B : Nat) : Nat → List UInt8 → Option Nat
  | n, [] => some n
  | n, c :: r => match dgt B c with
    | none => none
    | some k => if 1073741824 < n then none else numR B (n * B + k) r
def keepX (o : Option Nat) : Option Nat := o.bind fun n => if xmlB n then some n else none
theorem xml_top {n : Nat} (h : 4294967295 < n) : xmlB n = false := by
  have h1 : spaceB (n : Int) = false := by
    show ((n : Int) == 9 || (n : Int) == 10 || (n : Int) == 13 || (n : Int) == 32) = false
    simp
    omega
  unfold xmlB
  rw [h1]
  simp [btw]
  omega
theorem dgt_lt {B : Nat} {c : UInt8} {k : Nat} (h : dgt B c = some k) : k < B := by
  unfold dgt at h
  dsimp only at h
  generalize (if 48 ≤ c.toNat ∧ c.toNat ≤ 57 then c.toNat - 48 else if 97 ≤ c.toNat ∧ c.toNat ≤ 102 then c.toNat - 87 else if 65 ≤ c.toNat ∧ c.toNat ≤ 70 then c.toNat - 55 else 99) = n at h
  by_cases hlt : n < B
  · rw [if_pos hlt] at h
    cases h
    exact hlt
  · rw [if_neg hlt] at h
    cases h
theorem num_big {B : Nat} (hB : B = 10 ∨ B = 16) : ∀ (r : List UInt8) (n : Nat), 4294967295 < n → keepX (numR B n r) = none
  | [], n, h => by
    show (if xmlB n then some n else none) = none
    rw [xml_top h]
    rfl
  | c :: r, n, h => by
    rw [numR]
    cases dgt B c with
    | none => rfl
    | some k =>
      dsimp only
      rw [if_pos (by omega)]
      rfl
theorem num_eq {B : Nat} (hB : B = 10 ∨ B = 16) : ∀ (r : List UInt8) (n : Nat), keepX (numR B n r) = keepX (numB B 4294967295 n r)
  | [], n => rfl
  | c :: r, n => by
    rw [numR, numB]
    cases hd : dgt B c with
    | none => rfl
    | some k =>
      dsimp only
      by_cases h : 1073741824 < n
      · rw [if_pos h, if_pos (by rcases hB with rfl | rfl <;> omega)]
      · rw [if_neg h]
        by_cases h2 : 4294967295 < n * B + k
        · rw [if_pos h2, num_big hB _ _ h2]
          rfl
        · rw [if_neg h2]
          exact num_eq hB r _
theorem chNum_R {B : Nat} (hB : B = 10 ∨ B = 16) (r : List UInt8) : chNum B r = if r = [] then none else keepX (numR B 0 r) := by
  unfold chNum
  rw [num_eq hB]
  split
  · rfl
  · unfold keepX
    cases numB B 4294967295 0 r <;> rfl
def NumEnd (w : World) (R : Option Nat) (e : Ending) (w' : World) : Prop :=
  (match R with
  | some n => e = .returned (.tuple #[.int .i64 (n : Nat), .bool true])
  | none => ∃ v : Int, e = .returned (.tuple #[.int .i64 v, .bool false])) ∧ Below w.heap.size w w'
set_option maxRecDepth 100000 in
set_option maxHeartbeats 2000000 in
theorem rnumbered_c (w : World) (v : Value) (xs : List UInt8) (h : Rd w v xs) (hl : xs.length ≤ 16777216) (B : Nat) (hB : B = 10 ∨ B = 16) : Calls Tryz.prog 134 #[v, .int .i64 (B : Nat)] w (NumEnd w (chNum B xs)) := by
  obtain ⟨p, c, rfl⟩ := rd_form h
  obtain ⟨L, hL⟩ : ∃ L, L = xs.length := ⟨_, rfl⟩
  rw [← hL] at h hl ⊢
  have hC := chNum_R hB xs
  obtain ⟨R, hR⟩ : ∃ R, R = chNum B xs := ⟨_, rfl⟩
  rw [← hR] at hC ⊢
  have HC := Lib.hid hC
  have HL := Lib.hid hL
  have HBB := Lib.hid hB
  obtain ⟨p', c', hv, h1, h2, h3, h4⟩ := h
  have hpc : p = p' := by cases hv; rfl
  subst hpc
  have HX := Lib.hid h4
  have HD := Lib.hid (fun w (c : UInt8) => digit_c w c.toNat c.toNat_lt B hB)
  have hB16 : B ≤ 16 := by omega
  clear hC hR hL h4 hv h1 h2 h3
  rcases hB with rfl | rfl
  all_goals
    go_enter Tryz.func134, Tryz.ntmps134
    go_wp2_with fail
    go_loopw [6, 12] (fun s6 s12 wr => ∃ k acc : Nat, s6 = .int .i64 acc ∧ s12 = .int .i64 k ∧ k ≤ L ∧ acc ≤ 17179869200 ∧ wr = w ∧ Hid (numR _ 0 xs = numR _ acc (xs.drop k))) (fun _ s12 _ => L - (intOf s12).toNat)
    case atStart => exact ⟨0, 0, rfl, rfl, by omega, by omega, rfl, Lib.hid rfl⟩
    case round =>
      obtain ⟨k, acc, rfl, rfl, hk, hac, rfl, hi⟩ := hrel
      by_cases hkn : k < L
      · obtain ⟨b, o, hp, hx⟩ := HX.out (by have := HL.out; omega)
        subst hp
        have hx1 := hx k (by have := HL.out; omega)
        obtain ⟨x, hxe⟩ : ∃ x, x = xs[k]'(by have := HL.out; omega) := ⟨_, rfl⟩
        rw [← hxe] at hx1
        have hx256 := x.toNat_lt
        have hkI : (k : Int) < (L : Int) := by omega
        have hd : xs.drop k = x :: xs.drop (k + 1) := by rw [hxe]; exact List.drop_eq_getElem_cons _
        have hi' := hi.out
        rw [hd, numR] at hi'
        have hne : xs ≠ [] := by intro e; have := HL.out; rw [e] at this; simp at this; omega
        have HDX := HD.out wr x
        rcases digI_dgt _ x with ⟨g1, g2⟩ | ⟨d, g1, g2⟩
        · rw [g1] at HDX
          rw [g2] at hi'
          have HE := Lib.hid (show R = none from by rw [HC.out, if_neg hne, hi']; rfl)
          have HDX := Lib.hid HDX
          clear hi' hi hd hxe hx g1 g2 hne
          go_wp2_with fail
          refine HDX.out.mono ?_
          rintro e w2 ⟨rfl, rfl⟩
          go_wp2_with fail
          go_ret2
          rw [HE.out]
          exact ⟨⟨_, rfl⟩, Below.refl _ _⟩
        · rw [g1] at HDX
          rw [g2] at hi'
          have HDX := Lib.hid HDX
          have hdl := dgt_lt g2
          have td : decide ((d : Int) < 0) = false := by simp
          dsimp only at hi'
          by_cases hov : 1073741824 < acc
          · rw [if_pos hov] at hi'
            have HE := Lib.hid (show R = none from by rw [HC.out, if_neg hne, hi']; rfl)
            have ti : (1073741824 : Int) < (acc : Int) := by omega
            clear hi' hi hd hxe hx g1 g2 hne
            go_wp2_with fail
            refine HDX.out.mono ?_
            rintro e w2 ⟨rfl, rfl⟩
            go_wp2_with fail
            go_ret2
            rw [HE.out]
            exact ⟨⟨_, rfl⟩, Below.refl _ _⟩
          · rw [if_neg hov] at hi'
            have HE := Lib.hid hi'
            have ti : ¬ (1073741824 : Int) < (acc : Int) := by omega
            clear hi' hi hd hxe hx g1 g2 hne
            go_wp2_with fail
            refine HDX.out.mono ?_
            rintro e w2 ⟨rfl, rfl⟩
            go_wp2_with fail
            go_roundw
            case rel => exact ⟨k + 1, _, by go_num, by go_num, by omega, by omega, by first | rfl | trivial, HE⟩
            case measure => simp [intOf]; omega
      · have hi' := hi.out
        rw [List.drop_eq_nil_of_le (by have := HL.out; omega), numR] at hi'
        by_cases h0 : L = 0
        · have HE := Lib.hid (show R = none from by rw [HC.out, if_pos (List.eq_nil_of_length_eq_zero (by have := HL.out; omega))])
          clear hi hi'
          subst h0
          go_wp2_with fail
          go_ret2
          rw [HE.out]
          exact ⟨⟨_, rfl⟩, Below.refl _ _⟩
        · have hne : xs ≠ [] := by intro e; have := HL.out; rw [e] at this; simp at this; omega
          have HE := Lib.hid (show R = if xmlB acc then some acc else none from by rw [HC.out, if_neg hne, hi']; rfl)
          have hLp : 0 < L := by omega
          have HXM := ofXML_c wr (acc : Int)
          obtain ⟨q, hq⟩ : ∃ q, q = xmlB acc := ⟨_, rfl⟩
          rw [← hq] at HE HXM
          have HXM := Lib.hid HXM
          clear hi hi' hne hq
          go_wp2_with fail
          refine HXM.out.mono ?_
          rintro e w2 ⟨rfl, hb⟩
          have HB := Lib.hid hb
          clear hb
          go_wp2_with fail
          go_ret2
          rw [HE.out]
          cases q
          · exact ⟨⟨_, rfl⟩, HB.out⟩
          · exact ⟨rfl, HB.out⟩
end Go.Proofs.YtpcajjbdlfookaaGreatDoor

/- xmllex: the reference: a reference's body. -/
namespace Go.Proofs.YtpcajjbdlfookaaGreatDoor
open Go.RowKit
set_option linter.unusedVariables false

theorem refB_rest {s : List UInt8} (hne : ∀ l, l ∈ [[108, 116], [103, 116], [97, 109, 112], [97, 112, 111, 115], [113, 117, 111, 116]] → s ≠ l) : refB s = if Lib.hasPrefix s [35, 120] then chNum 16 (s.drop 2) else if Lib.hasPrefix s [35] then chNum 10 (s.drop 1) else none := by
  unfold refB
  rw [if_neg (hne _ (by simp)), if_neg (hne _ (by simp)), if_neg (hne _ (by simp)), if_neg (hne _ (by simp)), if_neg (hne _ (by simp))]
set_option maxRecDepth 100000 in
set_option maxHeartbeats 2000000 in
theorem rreference_c (w : World) (v : Value) (xs : List UInt8) (h : Rd w v xs) (hl : xs.length ≤ 16777216) : Calls Tryz.prog 119 #[v] w (NumEnd w (refB xs)) := by
  obtain ⟨p, c, rfl⟩ := rd_form h
  obtain ⟨L, hL⟩ : ∃ L, L = xs.length := ⟨_, rfl⟩
  have hcv := h.conv (P := Tryz.prog) 22 5 9 Tryz.underlying22 Tryz.underlying5 Tryz.underlying9
  by_cases hn : isNm xs
  · rw [← hL] at hcv ⊢
    clear h hl hL
    rcases hn with rfl | rfl | rfl | rfl | rfl
    all_goals
      go_enter Tryz.func119, Tryz.ntmps119
      go_wp2_with fail
      go_ret2
      exact ⟨rfl, Below.refl _ _⟩
  · have hne : ∀ l, l ∈ [[108, 116], [103, 116], [97, 109, 112], [97, 112, 111, 115], [113, 117, 111, 116]] → xs ≠ l := fun l hl e => hn (by subst e; unfold isNm; simpa using hl)
    obtain ⟨s, hs'⟩ : ∃ s, s = (⟨xs.toArray⟩ : ByteArray) := ⟨_, rfl⟩
    have hsl : ∀ l : List UInt8, xs ≠ l → (s.toList == l) = false := fun l hl => beq_eq_false_iff_ne.2 (by rw [ByteArray.toList_eq, hs']; exact hl)
    have t1 := hsl [108, 116] (hne _ (by simp))
    have t2 := hsl [103, 116] (hne _ (by simp))
    have t3 := hsl [97, 109, 112] (hne _ (by simp))
    have t4 := hsl [97, 112, 111, 115] (hne _ (by simp))
    have t5 := hsl [113, 117, 111, 116] (hne _ (by simp))
    rw [← hs'] at hcv
    have HRB := Lib.hid (refB_rest hne)
    rw [← hL] at h hl hcv ⊢
    have HB2 := begins_c w _ xs ⟨#[35, 120]⟩ h
    have HB1 := begins_c w _ xs ⟨#[35]⟩ h
    rw [show (⟨#[35, 120]⟩ : ByteArray).data.toList = [35, 120] from rfl] at HB2
    rw [show (⟨#[35]⟩ : ByteArray).data.toList = [35] from rfl] at HB1
    rw [HRB.out]
    cases h2 : Lib.hasPrefix xs [35, 120] with
    | true =>
      have hp2 := pre_len h2
      have hp2' : 2 ≤ L := by rw [hL]; simpa using hp2
      obtain ⟨p1, m1, c1, hs1, hr1⟩ := slice_from h 2 hp2'
      rw [show ((2 : Nat) : Int) = 2 from rfl] at hs1
      have HNM := Lib.hid (rnumbered_c w _ (xs.drop 2) hr1 (by rw [List.length_drop]; omega) 16 (.inr rfl))
      rw [if_pos rfl]
      rw [h2] at HB2
      obtain ⟨R, hR⟩ : ∃ R, R = chNum 16 (xs.drop 2) := ⟨_, rfl⟩
      rw [← hR] at HNM ⊢
      have HB2 := Lib.hid HB2
      clear h hne hsl hs' hn HB1 h2 hp2 hp2' hr1 hR hL hl
      go_enter Tryz.func119, Tryz.ntmps119
      go_wp2_with fail
      refine HB2.out.mono ?_
      rintro e w2 ⟨rfl, rfl⟩
      go_wp2_with fail
      refine HNM.out.mono ?_
      rintro e w3 ⟨he, hb⟩
      have HB := Lib.hid hb
      clear hb
      cases R with
      | none =>
        obtain ⟨u, rfl⟩ := he
        go_wp2_with fail
        go_ret2
        exact ⟨⟨u, rfl⟩, HB.out⟩
      | some n =>
        dsimp only at he
        subst he
        go_wp2_with fail
        go_ret2
        exact ⟨rfl, HB.out⟩
    | false =>
      rw [if_neg (by simp)]
      rw [h2] at HB2
      have HB2 := Lib.hid HB2
      cases h1 : Lib.hasPrefix xs [35] with
      | true =>
        have hp2 := pre_len h1
        have hp2' : 1 ≤ L := by rw [hL]; simpa using hp2
        obtain ⟨p1, m1, c1, hs1, hr1⟩ := slice_from h 1 hp2'
        rw [show ((1 : Nat) : Int) = 1 from rfl] at hs1
        have HNM := Lib.hid (rnumbered_c w _ (xs.drop 1) hr1 (by rw [List.length_drop]; omega) 10 (.inl rfl))
        rw [if_pos rfl]
        rw [h1] at HB1
        obtain ⟨R, hR⟩ : ∃ R, R = chNum 10 (xs.drop 1) := ⟨_, rfl⟩
        rw [← hR] at HNM ⊢
        have HB1 := Lib.hid HB1
        clear h hne hsl hs' hn h1 h2 hp2 hp2' hr1 hR hL hl
        go_enter Tryz.func119, Tryz.ntmps119
        go_wp2_with fail
        refine HB2.out.mono ?_
        rintro e w2 ⟨rfl, rfl⟩
        go_wp2_with fail
        refine HB1.out.mono ?_
        rintro e w4 ⟨rfl, rfl⟩
        go_wp2_with fail
        refine HNM.out.mono ?_
        rintro e w3 ⟨he, hb⟩
        have HB := Lib.hid hb
        clear hb
        cases R with
        | none =>
          obtain ⟨u, rfl⟩ := he
          go_wp2_with fail
          go_ret2
          exact ⟨⟨u, rfl⟩, HB.out⟩
        | some n =>
          dsimp only at he
          subst he
          go_wp2_with fail
          go_ret2
          exact ⟨rfl, HB.out⟩
      | false =>
        rw [if_neg (by simp)]
        rw [h1] at HB1
        have HB1 := Lib.hid HB1
        clear h hne hsl hs' hn h1 h2 hL hl
        go_enter Tryz.func119, Tryz.ntmps119
        go_wp2_with fail
        refine HB2.out.mono ?_
        rintro e w2 ⟨rfl, rfl⟩
        go_wp2_with fail
        refine HB1.out.mono ?_
        rintro e w4 ⟨rfl, rfl⟩
        go_wp2_with fail
        go_ret2
        exact ⟨⟨_, rfl⟩, Below.refl _ _⟩
end Go.Proofs.YtpcajjbdlfookaaGreatDoor
