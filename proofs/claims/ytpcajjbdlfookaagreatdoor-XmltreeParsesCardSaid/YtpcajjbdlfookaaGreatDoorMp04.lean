/- xmllex: the scanner: blanks, name, tagName. -/
import Derived.Test.YtpcajjbdlfookaaGreatDoorMp03
import Derived.Test.YtpcajjbdlfookaaGreatDoorCn
namespace Go.Proofs.YtpcajjbdlfookaaGreatDoor
open Go.RowKit
set_option linter.unusedVariables false

def atOf (w : World) (pb : Nat) : Nat := match w.cell? ⟨pb, 1, none⟩ with
  | some (.int _ n) => n.toNat
  | _ => 0
theorem SC.atOf {w : World} {pb : Nat} {xs : List UInt8} {a f : Nat} (h : SC w pb xs a f) : atOf w pb = a := by
  obtain ⟨p, c, hb, _⟩ := h.box
  unfold Go.Proofs.YtpcajjbdlfookaaGreatDoor.atOf
  rw [(cells3 hb).2.1]
  simp
theorem SC.byte {w : World} {pb : Nat} {xs : List UInt8} {a f : Nat} (h : SC w pb xs a f) (ha : a < xs.length) : ∃ b o c, w.heap[pb]? = some (.cells #[.slice (some ⟨b, o, none⟩) xs.length c, .int .i64 (a : Nat), .int .i64 (f : Nat)] 155 (0, 0)) ∧ w.cell? ⟨b, o + a, none⟩ = some (.int .u8 (xs[a].toNat : Int)) ∧ xs.length ≤ c ∧ b < w.heap.size := by
  obtain ⟨p, c, hb, ⟨p', c', hv, h1, h2, h3, h4⟩, _⟩ := h.box
  simp only [Value.slice.injEq, true_and] at hv
  obtain ⟨rfl, rfl⟩ := hv
  obtain ⟨b, o, rfl, hx⟩ := h4 (by omega)
  exact ⟨b, o, c, hb, hx a ha, h1, World.block_lt_of_cell? w _ (hx a ha)⟩
theorem blN_yes {xs : List UInt8} {a : Nat} (ha : a < xs.length) (h : spaceB (xs[a].toNat : Int) = true) : blN (xs.drop a) = blN (xs.drop (a + 1)) + 1 := by
  rw [List.drop_eq_getElem_cons ha, blN, if_pos h]
theorem blN_no {xs : List UInt8} {a : Nat} (ha : a < xs.length) (h : spaceB (xs[a].toNat : Int) = false) : blN (xs.drop a) = 0 := by
  rw [List.drop_eq_getElem_cons ha, blN, h]
  rfl
theorem blN_end {xs : List UInt8} {a : Nat} (ha : ¬ a < xs.length) : blN (xs.drop a) = 0 := by
  rw [List.drop_eq_nil_of_le (by omega)]
  rfl
theorem space_s (w : World) (r : Int) (b : Bool) (h : spaceB r = b) : Calls Tryz.prog 57 #[.int .i64 r] w fun e w' => e = .returned (.bool b) ∧ w' = w :=
  (space_c w r).mono fun e w' ⟨h1, h2⟩ => ⟨by rw [h1, h], h2.symm⟩

def VBl (b : Bool) : Unit → World → Value → Prop := fun _ _ v => v = .bool b
def BlI (w : World) (pb : Nat) (xs : List UInt8) (a f : Nat) (wr : World) : Prop := ∃ k, SC wr pb xs (a + k) f ∧ Chg [pb] w wr ∧ blN (xs.drop (a + k)) + k = blN (xs.drop a)
set_option maxRecDepth 100000 in
set_option maxHeartbeats 1000000 in
theorem blanks_c {w : World} {pb : Nat} {xs : List UInt8} {a f : Nat} (h : SC w pb xs a f) : Calls Tryz.prog 124 #[.pointer (some ⟨pb, 0, none⟩)] w
    (Aft w pb xs a f (VBl (decide (0 < blN (xs.drop a)))) (.ok ((), blN (xs.drop a)))) := by
  have HI := Lib.hid (show BlI w pb xs a f w from ⟨0, h, Chg.refl _ _, rfl⟩)
  obtain ⟨p0, cc0, hb0, _⟩ := h.box
  obtain ⟨c0, c1, c2, _⟩ := cells3 hb0
  have hle := h.le
  clear h hb0
  go_enter Tryz.func124, Tryz.ntmps124
  go_wp2_with fail
  clear c0 c1 c2
  go_loopw [] (fun wr => BlI w pb xs a f wr) (fun wr => xs.length - atOf wr pb)
  case atStart => exact HI.out
  case round =>
    obtain ⟨k, hs, hc, hk⟩ := hrel
    have HS := Lib.hid hs
    have HC := Lib.hid hc
    have hle2 := hs.le
    have HAT := Lib.hid hs.atOf
    by_cases hlt : a + k < xs.length
    · obtain ⟨b, o, c, hbox, hcell, hcc, hbl⟩ := hs.byte hlt
      obtain ⟨d0, d1, d2, dz⟩ := cells3 hbox
      have hx := (xs[a + k]).toNat_lt
      obtain ⟨x, hxe⟩ : ∃ x, x = xs[a + k] := ⟨_, rfl⟩
      rw [← hxe] at hcell hx
      obtain ⟨L, hL⟩ : ∃ L, L = xs.length := ⟨_, rfl⟩
      rw [← hL] at d0
      have hltL : a + k < L := by omega
      have hltI : (a : Int) + (k : Int) < (L : Int) := by omega
      rw [show ((a + k : Nat) : Int) = (a : Int) + (k : Int) by omega] at d1
      have hn0 : (0 : Int) ≤ (a : Int) + (k : Int) := by omega
      have htn : ((a : Int) + (k : Int)).toNat = a + k := by omega
      have hbp : pb < wr.heap.size := hs.lt
      cases hsp : spaceB (x.toNat : Int) with
      | true =>
        have HT := Lib.hid (fun w => space_s w (x.toNat : Int) true hsp)
        have HN := Lib.hid (blN_yes hlt (by rw [← hxe]; exact hsp))
        have HK := Lib.hid hk
        have hk1 : a + (k + 1) ≤ xs.length := by omega
        have HG := Lib.hid (fun q => hs.go (Go.below_drewN (Below.refl _ _) q) (a + (k + 1)) hk1)
        rw [show ((a + (k + 1) : Nat) : Int) = (a : Int) + (k : Int) + 1 by omega] at HG
        clear hs hc hk hbox hxe hsp hL
        go_wp2_with fail
        go_quiet ((go_at_call 57; exact Calls.quiet_of_same (HT.out _)))
        go_wp2_with fail
        go_roundw
        case rel => exact ⟨k + 1, (HG.out _).1, HC.out.trans (HG.out _).2, by have := HN.out; have := HK.out; rw [show a + (k + 1) = a + k + 1 by omega]; omega⟩
        case measure => rw [(HG.out _).1.atOf, HAT.out]; omega
      | false =>
        have HT := Lib.hid (fun w => space_s w (x.toNat : Int) false hsp)
        have hz := blN_no hlt (by rw [← hxe]; exact hsp)
        rw [hz] at hk
        obtain rfl : k = blN (xs.drop a) := by omega
        obtain ⟨n, hn⟩ : ∃ n, n = blN (xs.drop a) := ⟨_, rfl⟩
        rw [← hn] at HS HAT d1 hcell hltL hltI hn0 htn hle2 hlt ⊢
        have HNn := Lib.hid hn
        clear hs hc hk hbox hxe hsp hL hz hn
        by_cases h0 : 0 < n
        · have t0 : (a : Int) < (a : Int) + (n : Int) := by omega
          have HV := Lib.hid (show decide (0 < n) = true from by simpa using h0)
          clear h0
          go_wp2_with fail
          go_quiet ((go_at_call 57; exact Calls.quiet_of_same (HT.out _)))
          go_wp2_with fail
          go_ret
          rw [← HNn.out]
          exact ⟨_, rfl, by rw [VBl, HV.out]; rfl, HS.out.below (Go.below_drewN (Below.refl _ _) _), HC.out.trans (Chg.of_below (Go.below_drewN (Below.refl _ _) _))⟩
        · have t0 : decide ((a : Int) < (a : Int) + (n : Int)) = false := by simp; omega
          have HV := Lib.hid (show decide (0 < n) = false from by simpa using h0)
          clear h0
          go_wp2_with fail
          go_quiet ((go_at_call 57; exact Calls.quiet_of_same (HT.out _)))
          go_wp2_with fail
          go_ret
          rw [← HNn.out]
          exact ⟨_, rfl, by rw [VBl, HV.out]; rfl, HS.out.below (Go.below_drewN (Below.refl _ _) _), HC.out.trans (Chg.of_below (Go.below_drewN (Below.refl _ _) _))⟩
    · obtain ⟨p, c, hbox, _⟩ := hs.box
      obtain ⟨d0, d1, d2, dz⟩ := cells3 hbox
      rw [blN_end hlt] at hk
      obtain rfl : k = blN (xs.drop a) := by omega
      obtain ⟨n, hn⟩ : ∃ n, n = blN (xs.drop a) := ⟨_, rfl⟩
      rw [← hn] at HS HAT d1 hle2 hlt ⊢
      obtain ⟨L, hL⟩ : ∃ L, L = xs.length := ⟨_, rfl⟩
      rw [← hL] at d0
      have hltI : decide ((a : Int) + (n : Int) < (L : Int)) = false := by simp; omega
      rw [show ((a + n : Nat) : Int) = (a : Int) + (n : Int) by omega] at d1
      have HNn := Lib.hid hn
      clear hs hc hk hbox hL hn
      by_cases h0 : 0 < n
      · have t0 : (a : Int) < (a : Int) + (n : Int) := by omega
        have HV := Lib.hid (show decide (0 < n) = true from by simpa using h0)
        clear h0
        go_wp2_with fail
        go_quiet (fail)
        go_wp2_with fail
        go_ret
        rw [← HNn.out]
        exact ⟨_, rfl, by rw [VBl, HV.out]; rfl, HS.out.below (Go.below_drewN (Below.refl _ _) _), HC.out.trans (Chg.of_below (Go.below_drewN (Below.refl _ _) _))⟩
      · have t0 : decide ((a : Int) < (a : Int) + (n : Int)) = false := by simp; omega
        have HV := Lib.hid (show decide (0 < n) = false from by simpa using h0)
        clear h0
        go_wp2_with fail
        go_quiet (fail)
        go_wp2_with fail
        go_ret
        rw [← HNn.out]
        exact ⟨_, rfl, by rw [VBl, HV.out]; rfl, HS.out.below (Go.below_drewN (Below.refl _ _) _), HC.out.trans (Chg.of_below (Go.below_drewN (Below.refl _ _) _))⟩

theorem nameAt_no {r : List UInt8} (h : firstB (D r).1 = false) : nameAt r = 0 := by unfold nameAt; rw [if_pos (.inr h)]
theorem first_zero : firstB 0 = false := by decide
theorem later_zero : laterB 0 = false := by decide
theorem D_zero {r : List UInt8} (h : (D r).2 = 0) : (D r).1 = 0 := by
  by_cases hr : r.length = 0
  · rw [List.eq_nil_of_length_eq_zero hr]; rfl
  · unfold D at h ⊢
    split
    · rfl
    · rename_i hn
      rw [if_neg hn] at h
      exfalso
      unfold G at h
      rw [if_neg hr] at h
      have hw : ∀ n b0 b1 b2 b3, (Lib.decodeN n b0 b1 b2 b3).2 ≠ 0 := by
        intro n b0 b1 b2 b3
        unfold Lib.decodeN
        repeat' split
        all_goals simp
      exact hw _ _ _ _ _ h
/-- The loop of a name. -/
def NmI (w : World) (pb : Nat) (xs : List UInt8) (a f T : Nat) (r n : Nat) (wr : World) : Prop := ∃ k g, SC wr pb xs (a + k) f ∧ Chg [pb] w wr ∧ D ((xs.drop a).drop k) = (r, n) ∧ k ≤ (xs.drop a).length ∧ (xs.drop a).length - k < g ∧ later g (xs.drop a) k = T
set_option maxRecDepth 100000 in
set_option maxHeartbeats 1000000 in
theorem sname_c {w : World} {pb : Nat} {xs : List UInt8} {a f : Nat} (h : SC w pb xs a f) : Calls Tryz.prog 123 #[.pointer (some ⟨pb, 0, none⟩)] w
    (Aft w pb xs a f VU (if nameAt (xs.drop a) = 0 then .error 11 else .ok ((), nameAt (xs.drop a)))) := by
  have HRC := Lib.hid (rest_c h)
  have HS := Lib.hid h
  have hle := h.le
  obtain ⟨⟨r, n⟩, hD⟩ : ∃ q : Nat × Nat, q = D (xs.drop a) := ⟨_, rfl⟩
  have hDle := D_le (xs.drop a)
  rw [← hD] at hDle
  have HD := Lib.hid hD.symm
  clear h
  have hdl : (xs.drop a).length = xs.length - a := List.length_drop ..
  cases hf : firstB (r : Int) with
  | false =>
    have HN := Lib.hid (show nameAt (xs.drop a) = 0 from nameAt_no (by rw [← hD]; exact hf))
    rw [if_pos HN.out]
    have HFT := Lib.hid (fun w => (first_c w (r : Int)))
    rw [hf] at HFT
    clear hD hf hDle
    go_enter Tryz.func123, Tryz.ntmps123
    go_wp2_with fail
    refine HRC.out.mono ?_
    rintro e w1 ⟨p, m, c, rfl, hr, hb1⟩
    have HDC := decode_c w1 (HS.out.bw.below hb1).tab _ _ hr
    rw [HD.out] at HDC
    have HDC := Lib.hid HDC
    have HX := Lib.hid hb1
    clear hr hb1
    go_wp2_with fail
    refine HDC.out.mono ?_
    rintro e w2 ⟨rfl, hb2⟩
    have hx2 := HX.out.trans (hb2.mono HX.out.size)
    have HF := Lib.hid (fail_c (HS.out.below hx2) 11)
    have HC := Lib.hid (Chg.of_below (S := [pb]) hx2)
    clear hb2 hx2
    go_wp2_with (first
      | (go_at_call 110; refine (HF.out).mono ?_; rintro e w3 ⟨he, rfl⟩; unfold Boom at he; subst he)
      | (go_at_call 77; refine (HFT.out _).mono ?_; rintro e w' ⟨rfl, rfl⟩))
    exact ⟨rfl, rfl, HC.out⟩
  | true =>
    have hn0 : n ≠ 0 := by
      intro e
      have := D_zero (r := xs.drop a) (by rw [← hD]; exact e)
      rw [← hD] at this
      simp only at this
      rw [this] at hf
      simp [first_zero] at hf
    have hnm : nameAt (xs.drop a) = later ((xs.drop a).length + 1) (xs.drop a) n := by unfold nameAt; rw [← hD, if_neg (by simp [hf, hn0])]
    have hnz : nameAt (xs.drop a) ≠ 0 := by
      rw [hnm]
      have hge : ∀ f l k, k ≤ later f l k := by
        intro f
        induction f with
        | zero => intro l k; exact Nat.le_refl _
        | succ f ih =>
          intro l k
          rw [later]
          split
          · exact Nat.le_refl _
          · exact Nat.le_trans (Nat.le_add_right _ _) (ih _ _)
      have := hge ((xs.drop a).length + 1) (xs.drop a) n
      omega
    rw [if_neg hnz]
    have hl0 : later ((xs.drop a).length + 2) (xs.drop a) 0 = later ((xs.drop a).length + 1) (xs.drop a) n := by
      rw [later, List.drop_zero, ← hD, if_neg (by simp [hn0, first_later _ hf]), Nat.zero_add]
    obtain ⟨T, hT⟩ : ∃ T, T = nameAt (xs.drop a) := ⟨_, rfl⟩
    rw [← hT]
    rw [← hT] at hnm
    have HFT := Lib.hid (fun w => (first_c w (r : Int)))
    rw [hf] at HFT
    have HI := Lib.hid (fun (wx : World) (hs : SC wx pb xs a f) (hc : Chg [pb] w wx) => show NmI w pb xs a f T r n wx from ⟨0, (xs.drop a).length + 2, hs, hc, by rw [List.drop_zero]; exact hD.symm, by omega, by omega, by rw [hl0, hnm]⟩)
    have hr32 : (r : Int) ≤ 1114111 := by have := hDle.1; simp only at this; omega
    have hn4 : n ≤ 4 := hDle.2.1
    clear hD hf hDle hn0 hnm hnz hl0 hT
    go_enter Tryz.func123, Tryz.ntmps123
    go_wp2_with fail
    refine HRC.out.mono ?_
    rintro e w1 ⟨p, m, c, rfl, hr, hb1⟩
    have HDC := decode_c w1 (HS.out.bw.below hb1).tab _ _ hr
    rw [HD.out] at HDC
    have HDC := Lib.hid HDC
    have HX := Lib.hid hb1
    clear hr hb1
    go_wp2_with fail
    refine HDC.out.mono ?_
    rintro e w2 ⟨rfl, hb2⟩
    have hx2 := HX.out.trans (hb2.mono HX.out.size)
    have HI2 := Lib.hid (HI.out w2 (HS.out.below hx2) (Chg.of_below hx2))
    clear hb2 hx2 HD HRC HDC HI HX
    go_wp2_with (go_at_call 77; refine (HFT.out _).mono ?_; rintro e w' ⟨rfl, rfl⟩)
    go_loopw [2, 3] (fun s2 s3 wr => ∃ r n : Nat, s2 = .int .i64 r ∧ s3 = .int .i64 n ∧ r ≤ 1114111 ∧ n ≤ 4 ∧ NmI w pb xs a f T r n wr) (fun _ _ wr => xs.length - atOf wr pb)
    case atStart => exact ⟨r, n, rfl, rfl, by omega, hn4, HI2.out⟩
    case round =>
      clear HI2 HFT hr32 hn4
      obtain ⟨r, n, rfl, rfl, hr32, hn4, k, g, hs, hc, hD, hk, hg, hT⟩ := hrel
      have HS := Lib.hid hs
      have HC := Lib.hid hc
      have HAT := Lib.hid hs.atOf
      have HLT := Lib.hid (fun w => (later_c w (r : Int)))
      cases hlt : laterB (r : Int) with
      | false =>
        rw [hlt] at HLT
        have HK := Lib.hid (later_stop hg hD (.inr hlt) hT)
        clear hs hc hD hk hg hT hlt
        go_wp2_with (go_at_call 78; refine (HLT.out _).mono ?_; rintro e w' ⟨rfl, rfl⟩)
        go_end0
        exact ⟨_, rfl, rfl, by rw [HK.out]; exact HS.out, HC.out⟩
      | true =>
        rw [hlt] at HLT
        have hn0 : n ≠ 0 := by
          intro e
          have := D_zero (r := (xs.drop a).drop k) (by rw [hD]; exact e)
          rw [hD] at this
          simp only at this
          rw [this] at hlt
          simp [later_zero] at hlt
        obtain ⟨hkn, g', hg', hT'⟩ := later_step hk hg hD hn0 hlt hT
        rw [hdl] at hkn
        obtain ⟨p, c, hbox, _⟩ := hs.box
        obtain ⟨d0, d1, d2, dz⟩ := cells3 hbox
        have hgo := hs.go (Below.refl _ _) (a + k + n) (by omega)
        rw [show ((a + k + n : Nat) : Int) = ((a + k : Nat) : Int) + (n : Int) by omega, show ((a + k : Nat) : Int) = (a : Int) + (k : Int) by omega] at hgo
        rw [show ((a + k : Nat) : Int) = (a : Int) + (k : Int) by omega] at d1
        have HGO := Lib.hid hgo
        have HRS := Lib.hid (rest_c hgo.1)
        obtain ⟨⟨r', n'⟩, hD'⟩ : ∃ q : Nat × Nat, q = D ((xs.drop a).drop (k + n)) := ⟨_, rfl⟩
        have hDle := D_le ((xs.drop a).drop (k + n))
        rw [← hD'] at hDle
        have HDD := Lib.hid hD'.symm
        have hxd : xs.drop (a + k + n) = (xs.drop a).drop (k + n) := by rw [List.drop_drop, Nat.add_assoc]
        have HXD := Lib.hid hxd
        have HN := Lib.hid (fun (wx : World) (hb : SC wx pb xs (a + k + n) f) (hc : Chg [pb] w wx) => show NmI w pb xs a f T r' n' wx from ⟨k + n, g', by rw [← Nat.add_assoc]; exact hb, hc, hD'.symm, by omega, hg', hT'⟩)
        have hr' : r' ≤ 1114111 := hDle.1
        have hn' : n' ≤ 4 := hDle.2.1
        have hn1 : 1 ≤ n := by omega
        have HAK := Lib.hid (show a + k + n ≤ xs.length by omega)
        clear hs hc hD hk hg hT hlt hbox hgo hD' hDle hxd hg' hT' hn0 d0 d2
        go_wp2_with (first
          | (go_at_call 121; fail)
          | (go_at_call 78; refine (HLT.out _).mono ?_; rintro e w' ⟨rfl, rfl⟩))
        refine HRS.out.mono ?_
        rintro e w3 ⟨p3, m3, c3, rfl, hr3, hb3⟩
        rw [HXD.out] at hr3
        have hs3 := HGO.out.1.below hb3
        have HDC := decode_c w3 hs3.bw.tab _ _ hr3
        rw [HDD.out] at HDC
        have HDC := Lib.hid HDC
        have HS3 := Lib.hid hs3
        have HC3 := Lib.hid ((HC.out.trans HGO.out.2).trans (Chg.of_below hb3))
        clear hr3 hb3 hs3
        go_wp2_with fail
        refine HDC.out.mono ?_
        rintro e w4 ⟨rfl, hb4⟩
        have HS4 := Lib.hid (HS3.out.below hb4)
        have HC4 := Lib.hid (HC3.out.trans (Chg.of_below hb4))
        clear hb4
        go_wp2_with fail
        go_roundw
        case rel => exact ⟨r', n', rfl, rfl, hr', hn', HN.out _ HS4.out HC4.out⟩
        case measure => rw [HS4.out.atOf, HAT.out]; have := HAK.out; omega

/-- The name of a tag or an attribute. -/
def VS : List UInt8 → World → Value → Prop := fun l _ v => v = .string ⟨l.toArray⟩
def tgP (r : List UInt8) : Except Nat (List UInt8 × Nat) := match tagP r with
  | none => .error 11
  | some n => .ok (r.take n, n)
theorem nameAt_le (r : List UInt8) : nameAt r ≤ r.length := by
  unfold nameAt
  split
  · omega
  · have hge : ∀ f k, k ≤ r.length → later f r k ≤ r.length := by
      intro f
      induction f with
      | zero => intro k hk; exact hk
      | succ f ih =>
        intro k hk
        rw [later]
        split
        · exact hk
        · have := (D_le (r.drop k)).2.2
          rw [List.length_drop] at this
          exact ih _ (by omega)
    exact hge _ _ (D_le r).2.2
end Go.Proofs.YtpcajjbdlfookaaGreatDoor

/- xmllex: the scanner: tagName, instruction, skip. -/
namespace Go.Proofs.YtpcajjbdlfookaaGreatDoor
open Go.RowKit
set_option linter.unusedVariables false

set_option maxRecDepth 100000 in
set_option maxHeartbeats 1000000 in
/-- The end of tagName: the text from a to a + n. -/
theorem tagName_c {w : World} {pb : Nat} {xs : List UInt8} {a f : Nat} (h : SC w pb xs a f) : Calls Tryz.prog 126 #[.pointer (some ⟨pb, 0, none⟩)] w
    (Aft w pb xs a f VS (tgP (xs.drop a))) := by
  have HN := Lib.hid (sname_c h)
  have hle := h.le
  obtain ⟨p0, cc0, hb0, _⟩ := h.box
  obtain ⟨c0, c1, c2, _⟩ := cells3 hb0
  have hnl := nameAt_le (xs.drop a)
  have hdl : (xs.drop a).length = xs.length - a := List.length_drop ..
  clear h hb0 c0 c2
  by_cases h0 : nameAt (xs.drop a) = 0
  · have HT := Lib.hid (show tgP (xs.drop a) = .error 11 from by unfold tgP tagP; rw [if_pos h0])
    rw [if_pos h0] at HN
    rw [HT.out]
    clear h0 hnl hdl
    go_enter Tryz.func126, Tryz.ntmps126
    go_wp2_with (go_at_call 123; refine (HN.out).mono ?_; rintro e w1 ⟨he, hc⟩; unfold Boom at he; subst he; have HC := Lib.hid hc; clear hc)
    exact ⟨rfl, rfl, HC.out⟩
  · rw [if_neg h0] at HN
    obtain ⟨n, hn⟩ : ∃ n, n = nameAt (xs.drop a) := ⟨_, rfl⟩
    have hdd : (xs.drop a).drop n = xs.drop (a + n) := by rw [List.drop_drop]
    rw [← hn] at HN h0 hnl
    cases hp : Lib.hasPrefix (xs.drop (a + n)) [58] with
    | false =>
      have HT := Lib.hid (show tgP (xs.drop a) = .ok ((xs.drop a).take n, n) from by unfold tgP tagP; rw [← hn, if_neg h0, hdd, hp]; rfl)
      rw [HT.out]
      have HTK := Lib.hid (fun (wx : World) (hs : SC wx pb xs (a + n) f) => take_c hs ⟨#[58]⟩ (by decide) false hp)
      clear h0 hn hdd hp
      go_enter Tryz.func126, Tryz.ntmps126
      go_wp2_with fail
      refine HN.out.mono ?_
      rintro e w1 ⟨v, rfl, hv, hs, hc⟩
      have HK := Lib.hid (HTK.out w1 hs)
      have HC1 := Lib.hid hc
      subst hv
      clear hs hc
      go_wp2_with fail
      refine HK.out.mono ?_
      rintro e w2 ⟨rfl, hs, hc⟩
      have HS2 := Lib.hid (show SC w2 pb xs (a + n) f from hs)
      have HC2 := Lib.hid (HC1.out.trans hc)
      obtain ⟨p, c, hbox, hrd, _⟩ := HS2.out.box
      obtain ⟨d0, d1, d2, dz⟩ := cells3 hbox
      obtain ⟨p', m', c', hsl, hr'⟩ := slice_mid hrd a (a + n) (by omega) (by omega)
      rw [show a + n - a = n by omega] at hr'
      rw [show ((a + n : Nat) : Int) = (a : Int) + (n : Int) by omega] at d1 hsl
      have hcv := fun q => (hr'.below (Go.below_drewN (Below.refl _ _) q)).conv (P := Tryz.prog) 22 5 9 Tryz.underlying22 Tryz.underlying5 Tryz.underlying9
      have hcv0 := hr'.conv (P := Tryz.prog) 22 5 9 Tryz.underlying22 Tryz.underlying5 Tryz.underlying9
      obtain ⟨L, hL⟩ : ∃ L, L = xs.length := ⟨_, rfl⟩
      rw [← hL] at d0 hsl
      obtain ⟨S, hS⟩ : ∃ S, S = (⟨((xs.drop a).take n).toArray⟩ : ByteArray) := ⟨_, rfl⟩
      rw [← hS] at hcv hcv0
      have HSS := Lib.hid hS
      clear hs hc hbox hrd hr' hL hS
      go_wp2_with fail
      go_quiet (fail)
      go_wp2
      go_ret
      exact ⟨_, rfl, by rw [VS, ← HSS.out]; rfl, HS2.out.below (Go.below_drewN (Below.refl _ _) _), HC2.out.trans (Chg.of_below (Go.below_drewN (Below.refl _ _) _))⟩
    | true =>
      have hpl := pre_len hp
      rw [List.length_singleton, List.length_drop] at hpl
      have HTK := Lib.hid (fun (wx : World) (hs : SC wx pb xs (a + n) f) => take_c hs ⟨#[58]⟩ (by decide) true hp)
      have hd1 : (xs.drop a).drop (n + 1) = xs.drop (a + n + 1) := by rw [List.drop_drop, Nat.add_assoc]
      have hnl2 := nameAt_le (xs.drop (a + n + 1))
      rw [List.length_drop] at hnl2
      by_cases h1 : nameAt (xs.drop (a + n + 1)) = 0
      · have HT := Lib.hid (show tgP (xs.drop a) = .error 11 from by unfold tgP tagP; rw [← hn, if_neg h0, hdd, hp, if_pos rfl, hd1, if_pos h1])
        rw [HT.out]
        have HN2 := Lib.hid (fun (wx : World) (hs : SC wx pb xs (a + n + 1) f) => sname_c hs)
        rw [if_pos h1] at HN2
        clear h0 hn hdd hp h1 hd1
        go_enter Tryz.func126, Tryz.ntmps126
        go_wp2_with fail
        refine HN.out.mono ?_
        rintro e w1 ⟨v, rfl, hv, hs, hc⟩
        have HK := Lib.hid (HTK.out w1 hs)
        have HC1 := Lib.hid hc
        subst hv
        clear hs hc
        go_wp2_with fail
        refine HK.out.mono ?_
        rintro e w2 ⟨rfl, hs, hc⟩
        have HM := Lib.hid (HN2.out w2 hs)
        have HC2 := Lib.hid (HC1.out.trans hc)
        clear hs hc
        go_wp2_with (go_at_call 123; refine (HM.out).mono ?_; rintro e w3 ⟨he, hc⟩; unfold Boom at he; subst he; have HC3 := Lib.hid (HC2.out.trans hc); clear hc)
        exact ⟨rfl, rfl, HC3.out⟩
      · obtain ⟨n2, hn2⟩ : ∃ n2, n2 = nameAt (xs.drop (a + n + 1)) := ⟨_, rfl⟩
        have HT := Lib.hid (show tgP (xs.drop a) = .ok ((xs.drop a).take (n + 1 + n2), n + 1 + n2) from by unfold tgP tagP; rw [← hn, if_neg h0, hdd, hp, if_pos rfl, hd1, if_neg h1, ← hn2])
        rw [HT.out]
        have HN2 := Lib.hid (fun (wx : World) (hs : SC wx pb xs (a + n + 1) f) => sname_c hs)
        rw [if_neg h1, ← hn2] at HN2
        rw [← hn2] at hnl2
        obtain ⟨M, hM⟩ : ∃ M, M = n + 1 + n2 := ⟨_, rfl⟩
        rw [← hM]
        have HMM := Lib.hid (show a + n + 1 + n2 = a + M by omega)
        have hMl : a + M ≤ xs.length := by omega
        clear h0 hn hdd hp h1 hd1 hn2 hM
        go_enter Tryz.func126, Tryz.ntmps126
        go_wp2_with fail
        refine HN.out.mono ?_
        rintro e w1 ⟨v, rfl, hv, hs, hc⟩
        have HK := Lib.hid (HTK.out w1 hs)
        have HC0 := Lib.hid hc
        subst hv
        clear hs hc
        go_wp2_with fail
        refine HK.out.mono ?_
        rintro e w3 ⟨rfl, hs, hc⟩
        have HM := Lib.hid (HN2.out w3 hs)
        have HC1 := Lib.hid (HC0.out.trans hc)
        clear hs hc
        go_wp2_with fail
        refine HM.out.mono ?_
        rintro e w2 ⟨v, rfl, hv, hs, hc⟩
        rw [HMM.out] at hs
        subst hv
        have HS2 := Lib.hid (show SC w2 pb xs (a + M) f from hs)
        have HC2 := Lib.hid (HC1.out.trans hc)
        obtain ⟨p, c, hbox, hrd, _⟩ := HS2.out.box
        obtain ⟨d0, d1, d2, dz⟩ := cells3 hbox
        obtain ⟨p', m', c', hsl, hr'⟩ := slice_mid hrd a (a + M) (by omega) (by omega)
        rw [show a + M - a = M by omega] at hr'
        rw [show ((a + M : Nat) : Int) = (a : Int) + (M : Int) by omega] at d1 hsl
        have hcv := fun q => (hr'.below (Go.below_drewN (Below.refl _ _) q)).conv (P := Tryz.prog) 22 5 9 Tryz.underlying22 Tryz.underlying5 Tryz.underlying9
        have hcv0 := hr'.conv (P := Tryz.prog) 22 5 9 Tryz.underlying22 Tryz.underlying5 Tryz.underlying9
        obtain ⟨L, hL⟩ : ∃ L, L = xs.length := ⟨_, rfl⟩
        rw [← hL] at d0 hsl
        obtain ⟨S, hS⟩ : ∃ S, S = (⟨((xs.drop a).take M).toArray⟩ : ByteArray) := ⟨_, rfl⟩
        rw [← hS] at hcv hcv0
        have HSS := Lib.hid hS
        clear hs hc hbox hrd hr' hL hS
        go_wp2_with fail
        go_quiet (fail)
        go_wp2
        go_ret
        exact ⟨_, rfl, by rw [VS, ← HSS.out]; rfl, HS2.out.below (Go.below_drewN (Below.refl _ _) _), HC2.out.trans (Chg.of_below (Go.below_drewN (Below.refl _ _) _))⟩

/-- An instruction behind its mark. -/
def inP (r : List UInt8) : Except Nat (Unit × Nat) := match insP r with
  | none => .error 11
  | some n => .ok ((), n)
set_option maxRecDepth 100000 in
set_option maxHeartbeats 1000000 in
theorem instruction_c {w : World} {pb : Nat} {xs : List UInt8} {a f : Nat} (h : SC w pb xs a f) : Calls Tryz.prog 108 #[.pointer (some ⟨pb, 0, none⟩)] w
    (Aft w pb xs a f VU (inP (xs.drop a))) := by
  have HN := Lib.hid (sname_c h)
  have hle := h.le
  clear h
  by_cases h0 : nameAt (xs.drop a) = 0
  · have HT := Lib.hid (show inP (xs.drop a) = .error 11 from by unfold inP insP; rw [if_pos h0])
    rw [if_pos h0] at HN
    rw [HT.out]
    clear h0
    go_enter Tryz.func108, Tryz.ntmps108
    go_wp2_with (go_at_call 123; refine (HN.out).mono ?_; rintro e w1 ⟨he, hc⟩; unfold Boom at he; subst he; have HC := Lib.hid hc; clear hc)
    exact ⟨rfl, rfl, HC.out⟩
  · rw [if_neg h0] at HN
    obtain ⟨n, hn⟩ : ∃ n, n = nameAt (xs.drop a) := ⟨_, rfl⟩
    have hdd : (xs.drop a).drop n = xs.drop (a + n) := by rw [List.drop_drop]
    rw [← hn] at HN h0
    cases hp : Lib.hasPrefix (xs.drop (a + n)) [63, 62] with
    | true =>
      have HT := Lib.hid (show inP (xs.drop a) = .ok ((), n + 2) from by unfold inP insP; rw [← hn, if_neg h0, hdd, hp]; rfl)
      rw [HT.out]
      have HTK := Lib.hid (fun (wx : World) (hs : SC wx pb xs (a + n) f) => take_c hs ⟨#[63, 62]⟩ (by decide) true hp)
      clear h0 hn hdd hp
      go_enter Tryz.func108, Tryz.ntmps108
      go_wp2_with fail
      refine HN.out.mono ?_
      rintro e w1 ⟨v, rfl, hv, hs, hc⟩
      have HK := Lib.hid (HTK.out w1 hs)
      have HC1 := Lib.hid hc
      subst hv
      clear hs hc
      go_wp2_with fail
      refine HK.out.mono ?_
      rintro e w2 ⟨rfl, hs, hc⟩
      have HF := Lib.hid (And.intro hs (HC1.out.trans hc))
      clear hs hc
      go_wp2_with fail
      go_end0
      exact ⟨_, rfl, rfl, HF.out.1, HF.out.2⟩
    | false =>
      have HTK := Lib.hid (fun (wx : World) (hs : SC wx pb xs (a + n) f) => take_c hs ⟨#[63, 62]⟩ (by decide) false hp)
      have HBL := Lib.hid (fun (wx : World) (hs : SC wx pb xs (a + n) f) => blanks_c hs)
      obtain ⟨k, hk⟩ : ∃ k, k = blN (xs.drop (a + n)) := ⟨_, rfl⟩
      rw [← hk] at HBL
      by_cases hk0 : k = 0
      · have HT := Lib.hid (show inP (xs.drop a) = .error 11 from by unfold inP insP; rw [← hn, if_neg h0, hdd, hp, if_neg (by simp), ← hk, if_pos hk0])
        rw [HT.out]
        rw [show decide (0 < k) = false from by simp; omega] at HBL
        clear h0 hn hdd hp hk hk0
        go_enter Tryz.func108, Tryz.ntmps108
        go_wp2_with fail
        refine HN.out.mono ?_
        rintro e w1 ⟨v, rfl, hv, hs, hc⟩
        have HK := Lib.hid (HTK.out w1 hs)
        have HC1 := Lib.hid hc
        subst hv
        clear hs hc
        go_wp2_with fail
        refine HK.out.mono ?_
        rintro e w2 ⟨rfl, hs, hc⟩
        have HB := Lib.hid (HBL.out w2 hs)
        have HC2 := Lib.hid (HC1.out.trans hc)
        clear hs hc
        go_wp2_with fail
        refine HB.out.mono ?_
        rintro e w3 ⟨v, rfl, hv, hs, hc⟩
        have HF := Lib.hid (fail_c hs 11)
        have HC3 := Lib.hid (HC2.out.trans hc)
        unfold VBl at hv
        subst hv
        clear hs hc
        go_wp2_with (go_at_call 110; refine (HF.out).mono ?_; rintro e w4 ⟨he, rfl⟩; unfold Boom at he; subst he)
        exact ⟨rfl, rfl, HC3.out⟩
      · have hd2 : (xs.drop a).drop (n + k) = xs.drop (a + n + k) := by rw [List.drop_drop, Nat.add_assoc]
        have HTH := Lib.hid (fun (wx : World) (hs : SC wx pb xs (a + n + k) f) => through_c hs ⟨#[63, 62]⟩ (by decide))
        have e62 : (⟨#[63, 62]⟩ : ByteArray).data.toList = [63, 62] := rfl
        rw [e62] at HTH
        rw [show decide (0 < k) = true from by simp; omega] at HBL
        by_cases hi : Lib.index (xs.drop (a + n + k)) [63, 62] < 0
        · have HT := Lib.hid (show inP (xs.drop a) = .error 11 from by unfold inP insP; rw [← hn, if_neg h0, hdd, hp, if_neg (by simp), ← hk, if_neg hk0, hd2, if_pos hi])
          rw [HT.out]
          rw [show thr (xs.drop (a + n + k)) [63, 62] = .error 11 from by unfold thr; rw [if_pos hi]] at HTH
          clear h0 hn hdd hp hk hk0 hd2 hi e62
          go_enter Tryz.func108, Tryz.ntmps108
          go_wp2_with fail
          refine HN.out.mono ?_
          rintro e w1 ⟨v, rfl, hv, hs, hc⟩
          have HK := Lib.hid (HTK.out w1 hs)
          have HC1 := Lib.hid hc
          subst hv
          clear hs hc
          go_wp2_with fail
          refine HK.out.mono ?_
          rintro e w2 ⟨rfl, hs, hc⟩
          have HB := Lib.hid (HBL.out w2 hs)
          have HC2 := Lib.hid (HC1.out.trans hc)
          clear hs hc
          go_wp2_with fail
          refine HB.out.mono ?_
          rintro e w3 ⟨v, rfl, hv, hs, hc⟩
          have HF := Lib.hid (HTH.out w3 hs)
          have HC3 := Lib.hid (HC2.out.trans hc)
          unfold VBl at hv
          subst hv
          clear hs hc
          go_wp2_with (go_at_call 106; refine (HF.out).mono ?_; rintro e w4 ⟨he, hc⟩; unfold Boom at he; subst he; have HC4 := Lib.hid (HC3.out.trans hc); clear hc)
          exact ⟨rfl, rfl, HC4.out⟩
        · obtain ⟨i, hi'⟩ : ∃ i : Nat, Lib.index (xs.drop (a + n + k)) [63, 62] = i := ⟨(Lib.index (xs.drop (a + n + k)) [63, 62]).toNat, by omega⟩
          have HT := Lib.hid (show inP (xs.drop a) = .ok ((), n + k + i + 2) from by unfold inP insP; rw [← hn, if_neg h0, hdd, hp, if_neg (by simp), ← hk, if_neg hk0, hd2, if_neg hi, hi']; rfl)
          rw [HT.out]
          rw [show thr (xs.drop (a + n + k)) [63, 62] = .ok ((xs.drop (a + n + k)).take i, i + 2) from by unfold thr; rw [if_neg hi, hi']; rfl] at HTH
          have HAD := Lib.hid (show a + n + k + (i + 2) = a + (n + k + i + 2) by omega)
          clear h0 hn hdd hp hk hk0 hd2 hi e62 hi'
          go_enter Tryz.func108, Tryz.ntmps108
          go_wp2_with fail
          refine HN.out.mono ?_
          rintro e w1 ⟨v, rfl, hv, hs, hc⟩
          have HK := Lib.hid (HTK.out w1 hs)
          have HC1 := Lib.hid hc
          subst hv
          clear hs hc
          go_wp2_with fail
          refine HK.out.mono ?_
          rintro e w2 ⟨rfl, hs, hc⟩
          have HB := Lib.hid (HBL.out w2 hs)
          have HC2 := Lib.hid (HC1.out.trans hc)
          clear hs hc
          go_wp2_with fail
          refine HB.out.mono ?_
          rintro e w3 ⟨v, rfl, hv, hs, hc⟩
          have HF := Lib.hid (HTH.out w3 hs)
          have HC3 := Lib.hid (HC2.out.trans hc)
          unfold VBl at hv
          subst hv
          clear hs hc
          go_wp2_with fail
          refine HF.out.mono ?_
          rintro e w4 ⟨v4, rfl, hv4, hs, hc⟩
          have HE := Lib.hid (show SC w4 pb xs (a + (n + k + i + 2)) f from HAD.out ▸ hs)
          have HC4 := Lib.hid (HC3.out.trans hc)
          clear hs hc hv4
          go_wp2_with fail
          go_end0
          exact ⟨_, rfl, rfl, HE.out, HC4.out⟩
end Go.Proofs.YtpcajjbdlfookaaGreatDoor

/- xmllex: the scanner: skip, resolved, value. -/
namespace Go.Proofs.YtpcajjbdlfookaaGreatDoor
open Go.RowKit
set_option linter.unusedVariables false

def SkAft (w : World) (pb : Nat) (xs : List UInt8) (R : Nat × Bool) (e : Ending) (w' : World) : Prop := match R with
  | (k, true) => e = .returned (.tuple #[]) ∧ SC w' pb xs k k ∧ Chg [pb] w w'
  | (k, false) => Boom k 11 e ∧ Chg [pb] w w'
def SkI (w : World) (pb : Nat) (xs : List UInt8) (R : Nat × Bool) (wr : World) : Prop := ∃ k g f, SC wr pb xs k f ∧ Chg [pb] w wr ∧ xs.length - k < g ∧ skpF insP g (xs.drop k) k = R
theorem skp_end {g k : Nat} {r : List UInt8} {ins : List UInt8 → Option Nat} (h1 : Lib.hasPrefix r [60, 33, 45, 45] = false) (h2 : Lib.hasPrefix r [60, 63] = false) : skpF ins g r k = (k, true) := by
  cases g with
  | zero => rfl
  | succ g => rw [skpF, h1, h2]; rfl
theorem skp_com {g k : Nat} {r : List UInt8} {ins : List UInt8 → Option Nat} (h1 : Lib.hasPrefix r [60, 33, 45, 45] = true) : skpF ins (g + 1) r k = match comP (r.drop 4) with
    | none => (k, false)
    | some n => skpF ins g (r.drop (4 + n)) (k + 4 + n) := by rw [skpF, if_pos h1]; rfl
theorem skp_ins {g k : Nat} {r : List UInt8} {ins : List UInt8 → Option Nat} (h1 : Lib.hasPrefix r [60, 33, 45, 45] = false) (h2 : Lib.hasPrefix r [60, 63] = true) : skpF ins (g + 1) r k = match ins (r.drop 2) with
    | none => (k, false)
    | some n => skpF ins g (r.drop (2 + n)) (k + 2 + n) := by rw [skpF, h1, if_neg (by simp), if_pos h2]; rfl

set_option maxRecDepth 100000 in
set_option maxHeartbeats 2000000 in
theorem skip_c {w : World} {pb : Nat} {xs : List UInt8} {a f : Nat} (h : SC w pb xs a f) : Calls Tryz.prog 83 #[.pointer (some ⟨pb, 0, none⟩)] w
    (SkAft w pb xs (skpF insP (xs.length + 1) (xs.drop a) a)) := by
  obtain ⟨R, hR⟩ : ∃ R, R = skpF insP (xs.length + 1) (xs.drop a) a := ⟨_, rfl⟩
  have HI := Lib.hid (show SkI w pb xs R w from ⟨a, xs.length + 1, f, h, Chg.refl _ _, by omega, hR.symm⟩)
  rw [← hR]
  clear h hR
  go_enter Tryz.func83, Tryz.ntmps83
  go_wp2_with fail
  go_loopw [] (fun wr => SkI w pb xs R wr) (fun wr => xs.length - atOf wr pb)
  case atStart => exact HI.out
  case round =>
    obtain ⟨k, g, f', hs, hc, hg, hsk⟩ := hrel
    have HAT := Lib.hid hs.atOf
    obtain ⟨p, c, hbox, _⟩ := hs.box
    obtain ⟨d0, d1, d2, dz⟩ := cells3 hbox
    obtain ⟨hm1, hm2⟩ := hs.mark
    have hle := hs.le
    have HM := Lib.hid hm1
    have HC := Lib.hid (hc.trans hm2)
    obtain ⟨g, rfl⟩ : ∃ q, g = q + 1 := ⟨g - 1, by omega⟩
    cases h1 : Lib.hasPrefix (xs.drop k) [60, 33, 45, 45] with
    | true =>
      rw [skp_com h1] at hsk
      have HTK := Lib.hid (take_c hm1 ⟨#[60, 33, 45, 45]⟩ (by decide) true h1)
      have hd4 : (xs.drop k).drop 4 = xs.drop (k + 4) := by rw [List.drop_drop]
      rw [hd4] at hsk
      have e45 : (⟨#[45, 45]⟩ : ByteArray).data.toList = [45, 45] := rfl
      have e62 : (⟨#[62]⟩ : ByteArray).data.toList = [62] := rfl
      have HTH := Lib.hid (fun (wx : World) (hs : SC wx pb xs (k + 4) k) => through_c hs ⟨#[45, 45]⟩ (by decide))
      rw [e45] at HTH
      by_cases hi : Lib.index (xs.drop (k + 4)) [45, 45] < 0
      · rw [show comP (xs.drop (k + 4)) = none from by unfold comP; rw [if_pos hi]] at hsk
        have HS := Lib.hid (show (k, false) = R from hsk)
        rw [show thr (xs.drop (k + 4)) [45, 45] = .error 11 from by unfold thr; rw [if_pos hi]] at HTH
        clear hs hc hg hsk hbox hm1 hm2 h1 hd4 e45 e62 hi d0
        go_wp2_with fail
        refine HTK.out.mono ?_
        rintro e w1 ⟨rfl, hs, hc⟩
        have HT2 := Lib.hid (HTH.out w1 hs)
        have HC1 := Lib.hid (HC.out.trans hc)
        clear hs hc
        go_wp2_with (go_at_call 106; refine (HT2.out).mono ?_; rintro e w2 ⟨he, hc⟩; unfold Boom at he; subst he; have HC2 := Lib.hid (HC1.out.trans hc); clear hc)
        rw [← HS.out]
        exact ⟨rfl, rfl, HC2.out⟩
      · obtain ⟨i, hi'⟩ : ∃ i : Nat, Lib.index (xs.drop (k + 4)) [45, 45] = i := ⟨(Lib.index (xs.drop (k + 4)) [45, 45]).toNat, by omega⟩
        rw [show thr (xs.drop (k + 4)) [45, 45] = .ok ((xs.drop (k + 4)).take i, i + 2) from by unfold thr; rw [if_neg hi, hi']; rfl] at HTH
        have hdd : (xs.drop (k + 4)).drop (i + 2) = xs.drop (k + 4 + (i + 2)) := by rw [List.drop_drop]
        have HND := Lib.hid (fun (wx : World) (hs : SC wx pb xs (k + 4 + (i + 2)) k) => need_c hs ⟨#[62]⟩ (by decide))
        rw [e62] at HND
        cases hp : Lib.hasPrefix (xs.drop (k + 4 + (i + 2))) [62] with
        | false =>
          rw [show comP (xs.drop (k + 4)) = none from by unfold comP; rw [if_neg hi, hi', Int.toNat_natCast, hdd, hp]; rfl] at hsk
          have HS := Lib.hid (show (k, false) = R from hsk)
          rw [hp, if_neg (by simp)] at HND
          clear hs hc hg hsk hbox hm1 hm2 h1 hd4 e45 e62 hi hi' hdd hp d0
          go_wp2_with fail
          refine HTK.out.mono ?_
          rintro e w1 ⟨rfl, hs, hc⟩
          have HT2 := Lib.hid (HTH.out w1 hs)
          have HC1 := Lib.hid (HC.out.trans hc)
          clear hs hc
          go_wp2_with fail
          refine HT2.out.mono ?_
          rintro e w2 ⟨v, rfl, hv, hs, hc⟩
          have HN2 := Lib.hid (HND.out w2 hs)
          have HC2 := Lib.hid (HC1.out.trans hc)
          clear hs hc hv
          go_wp2_with (go_at_call 107; refine (HN2.out).mono ?_; rintro e w3 ⟨he, hc⟩; unfold Boom at he; subst he; have HC3 := Lib.hid (HC2.out.trans hc); clear hc)
          rw [← HS.out]
          exact ⟨rfl, rfl, HC3.out⟩
        | true =>
          rw [show comP (xs.drop (k + 4)) = some (i + 3) from by unfold comP; rw [if_neg hi, hi', Int.toNat_natCast, hdd, hp]; rfl] at hsk
          rw [hp, if_pos rfl] at HND
          have HNX := Lib.hid (fun (wx : World) (hs : SC wx pb xs (k + 4 + (i + 2) + 1) k) (hc : Chg [pb] w wx) => show SkI w pb xs R wx from ⟨k + 4 + (i + 3), g, k, (show k + 4 + (i + 2) + 1 = k + 4 + (i + 3) by omega) ▸ hs, hc, by have := hs.le.1; omega, by rw [← hsk]; dsimp only; rw [List.drop_drop, show k + (4 + (i + 3)) = k + 4 + (i + 3) by omega]⟩)
          clear hs hc hg hsk hbox hm1 hm2 h1 hd4 e45 e62 hi hi' hdd hp d0
          go_wp2_with fail
          refine HTK.out.mono ?_
          rintro e w1 ⟨rfl, hs, hc⟩
          have HT2 := Lib.hid (HTH.out w1 hs)
          have HC1 := Lib.hid (HC.out.trans hc)
          clear hs hc
          go_wp2_with fail
          refine HT2.out.mono ?_
          rintro e w2 ⟨v, rfl, hv, hs, hc⟩
          have HN2 := Lib.hid (HND.out w2 hs)
          have HC2 := Lib.hid (HC1.out.trans hc)
          clear hs hc hv
          go_wp2_with fail
          refine HN2.out.mono ?_
          rintro e w3 ⟨v3, rfl, hv, hs, hc⟩
          have HX := Lib.hid (HNX.out w3 hs (HC2.out.trans hc))
          have HA3 := Lib.hid hs.atOf
          have HL3 := Lib.hid hs.le
          subst hv
          clear hs hc
          go_wp2_with fail
          go_roundw
          case rel => exact HX.out
          case measure => rw [HA3.out, HAT.out]; have := HL3.out; show xs.length - (k + 4 + (i + 2) + 1) < _; have h9 : k + 4 + (i + 2) + 1 ≤ xs.length := HL3.out.1; omega
    | false =>
      have HTK := Lib.hid (take_c hm1 ⟨#[60, 33, 45, 45]⟩ (by decide) false h1)
      cases h2 : Lib.hasPrefix (xs.drop k) [60, 63] with
      | false =>
        rw [skp_end h1 h2] at hsk
        have HTJ := Lib.hid (fun (wx : World) (hs : SC wx pb xs k k) => take_c hs ⟨#[60, 63]⟩ (by decide) false h2)
        have HS := Lib.hid hsk
        clear hs hc hg hsk hbox hm1 hm2 h1 h2 d0
        go_wp2_with fail
        refine HTK.out.mono ?_
        rintro e w1 ⟨rfl, hs, hc⟩
        have HT2 := Lib.hid (HTJ.out w1 hs)
        have HC1 := Lib.hid (HC.out.trans hc)
        clear hs hc
        go_wp2_with fail
        refine HT2.out.mono ?_
        rintro e w2 ⟨rfl, hs, hc⟩
        have HF := Lib.hid (And.intro hs (HC1.out.trans hc))
        clear hs hc
        go_wp2_with fail
        go_end0
        rw [← HS.out]
        exact ⟨rfl, HF.out.1, HF.out.2⟩
      | true =>
        rw [skp_ins h1 h2] at hsk
        have HTJ := Lib.hid (fun (wx : World) (hs : SC wx pb xs k k) => take_c hs ⟨#[60, 63]⟩ (by decide) true h2)
        have hd2 : (xs.drop k).drop 2 = xs.drop (k + 2) := by rw [List.drop_drop]
        rw [hd2] at hsk
        have HIN := Lib.hid (fun (wx : World) (hs : SC wx pb xs (k + 2) k) => instruction_c hs)
        cases hin : insP (xs.drop (k + 2)) with
        | none =>
          rw [hin] at hsk
          rw [show inP (xs.drop (k + 2)) = .error 11 from by unfold inP; rw [hin]] at HIN
          have HS := Lib.hid (show (k, false) = R from hsk)
          clear hs hc hg hsk hbox hm1 hm2 h1 h2 hd2 hin d0
          go_wp2_with fail
          refine HTK.out.mono ?_
          rintro e w1 ⟨rfl, hs, hc⟩
          have HT2 := Lib.hid (HTJ.out w1 hs)
          have HC1 := Lib.hid (HC.out.trans hc)
          clear hs hc
          go_wp2_with fail
          refine HT2.out.mono ?_
          rintro e w2 ⟨rfl, hs, hc⟩
          have HI2 := Lib.hid (HIN.out w2 hs)
          have HC2 := Lib.hid (HC1.out.trans hc)
          clear hs hc
          go_wp2_with (go_at_call 108; refine (HI2.out).mono ?_; rintro e w3 ⟨he, hc⟩; unfold Boom at he; subst he; have HC3 := Lib.hid (HC2.out.trans hc); clear hc)
          rw [← HS.out]
          exact ⟨rfl, rfl, HC3.out⟩
        | some n =>
          rw [hin] at hsk
          rw [show inP (xs.drop (k + 2)) = .ok ((), n) from by unfold inP; rw [hin]] at HIN
          have HNX := Lib.hid (fun (wx : World) (hs : SC wx pb xs (k + 2 + n) k) (hc : Chg [pb] w wx) => show SkI w pb xs R wx from ⟨k + 2 + n, g, k, hs, hc, by have := hs.le.1; omega, by rw [← hsk]; dsimp only; rw [List.drop_drop, Nat.add_assoc]⟩)
          clear hs hc hg hsk hbox hm1 hm2 h1 h2 hd2 hin d0
          go_wp2_with fail
          refine HTK.out.mono ?_
          rintro e w1 ⟨rfl, hs, hc⟩
          have HT2 := Lib.hid (HTJ.out w1 hs)
          have HC1 := Lib.hid (HC.out.trans hc)
          clear hs hc
          go_wp2_with fail
          refine HT2.out.mono ?_
          rintro e w2 ⟨rfl, hs, hc⟩
          have HI2 := Lib.hid (HIN.out w2 hs)
          have HC2 := Lib.hid (HC1.out.trans hc)
          clear hs hc
          go_wp2_with fail
          refine HI2.out.mono ?_
          rintro e w3 ⟨v3, rfl, hv, hs, hc⟩
          have HX := Lib.hid (HNX.out w3 hs (HC2.out.trans hc))
          have HA3 := Lib.hid hs.atOf
          have HL3 := Lib.hid hs.le
          subst hv
          clear hs hc
          go_wp2_with fail
          go_roundw
          case rel => exact HX.out
          case measure => rw [HA3.out, HAT.out]; have := HL3.out.1; omega

/-- A text with its references resolved, or the error raised. -/
def rsv (l : List UInt8) : Except Nat (List UInt8 × Nat) := match rsT false l with
  | .error _ => .error 13
  | .ok s => .ok (s, 0)
set_option maxRecDepth 100000 in
theorem resolved_c {w : World} {pb : Nat} {xs : List UInt8} {a f : Nat} (h : SC w pb xs a f) (src : Value) (l : List UInt8) (hr : Rd w src l) (hl : l.length ≤ 1048576) : Calls Tryz.prog 129 #[.pointer (some ⟨pb, 0, none⟩), src] w
    (Aft w pb xs a f VS (rsv l)) := by
  have HU := unescape_c w h.bw src l hr (by omega)
  have HS := Lib.hid h
  clear h hr hl
  cases hu : rsT false l with
  | error q =>
    have HT := Lib.hid (show rsv l = .error 13 from by unfold rsv; rw [hu])
    rw [hu] at HU
    have HU2 : Hid (Calls Tryz.prog 138 #[src] w fun e w' => e = .returned (.tuple #[.string ⟨#[]⟩, .int .i64 (q : Nat), .int .i64 13]) ∧ Below w.heap.size w w') := HU
    rw [HT.out]
    clear HU hu
    go_enter Tryz.func129, Tryz.ntmps129
    go_wp2_with fail
    refine HU2.out.mono ?_
    rintro e w1 ⟨rfl, hb⟩
    have HF := Lib.hid (fail_c (HS.out.below hb) 13)
    have HC := Lib.hid (Chg.of_below (S := [pb]) hb)
    clear hb
    go_wp2_with (go_at_call 110; refine (HF.out).mono ?_; rintro e w2 ⟨he, rfl⟩; unfold Boom at he; subst he)
    exact ⟨rfl, rfl, HC.out⟩
  | ok s =>
    have HT := Lib.hid (show rsv l = .ok (s, 0) from by unfold rsv; rw [hu])
    rw [hu] at HU
    obtain ⟨S, hS⟩ : ∃ S, S = (⟨s.toArray⟩ : ByteArray) := ⟨_, rfl⟩
    have HU2 : Hid (Calls Tryz.prog 138 #[src] w fun e w' => e = .returned (.tuple #[.string S, .int .i64 0, .int .i64 0]) ∧ Below w.heap.size w w') := hS ▸ HU
    have HSS := Lib.hid hS
    rw [HT.out]
    clear HU hu hS
    go_enter Tryz.func129, Tryz.ntmps129
    go_wp2_with fail
    refine HU2.out.mono ?_
    rintro e w1 ⟨rfl, hb⟩
    have HF := Lib.hid (And.intro (HS.out.below hb) (Chg.of_below (S := [pb]) hb))
    clear hb
    go_wp2_with fail
    go_ret
    exact ⟨_, rfl, by rw [VS, ← HSS.out]; rfl, HF.out.1, HF.out.2⟩
end Go.Proofs.YtpcajjbdlfookaaGreatDoor
