/- xmllex: the scanner: need, through, blanks, name, tagName. -/
import Derived.Test.YtpcajjbdlfookaaGreatDoorMw14
import Derived.Test.YtpcajjbdlfookaaGreatDoorMw05
namespace Go.Proofs.YtpcajjbdlfookaaGreatDoor
open Go.RowKit
set_option linter.unusedVariables false

/-- A method that goes on by so many bytes, or raises. -/
def Aft {α : Type} (w : World) (pb : Nat) (xs : List UInt8) (a f : Nat) (val : α → World → Value → Prop) (R : Except Nat (α × Nat)) (e : Ending) (w' : World) : Prop := match R with
  | .error c => Boom f (c : Nat) e ∧ Chg [pb] w w'
  | .ok (x, n) => ∃ v, e = .returned v ∧ val x w' v ∧ SC w' pb xs (a + n) f ∧ Chg [pb] w w'
def VU : Unit → World → Value → Prop := fun _ _ v => v = .tuple #[]

set_option maxRecDepth 100000 in
theorem need_c {w : World} {pb : Nat} {xs : List UInt8} {a f : Nat} (h : SC w pb xs a f) (ms : ByteArray) (hms : ms.size ≤ 100) : Calls Tryz.prog 107 #[.pointer (some ⟨pb, 0, none⟩), .string ms] w
    (Aft w pb xs a f VU (if Lib.hasPrefix (xs.drop a) ms.data.toList then .ok ((), ms.size) else .error 11)) := by
  cases hb : Lib.hasPrefix (xs.drop a) ms.data.toList with
  | true =>
    have HT := Lib.hid (take_c h ms hms true hb)
    rw [if_pos rfl]
    clear h hb
    go_enter Tryz.func107, Tryz.ntmps107
    go_wp2_with (go_at_call 105; refine (HT.out).mono ?_; rintro e w1 ⟨rfl, hs, hc⟩; have HC := Lib.hid (And.intro hs hc); clear hs hc)
    go_end0
    exact ⟨_, rfl, rfl, HC.out.1, HC.out.2⟩
  | false =>
    have HT := Lib.hid (take_c h ms hms false hb)
    rw [if_neg (by simp)]
    clear h hb
    go_enter Tryz.func107, Tryz.ntmps107
    go_wp2_with fail
    refine HT.out.mono ?_
    rintro e w1 ⟨rfl, hs, hc⟩
    have HF := Lib.hid (fail_c hs 11)
    have HC := Lib.hid hc
    clear hs hc
    go_wp2_with (go_at_call 110; refine (HF.out).mono ?_; rintro e w2 ⟨he, rfl⟩; unfold Boom at he; subst he)
    exact ⟨rfl, rfl, HC.out⟩

/-- What stands ahead of the next mark. -/
def VB : List UInt8 → World → Value → Prop := fun l w v => Rd w v l
def thr (r m : List UInt8) : Except Nat (List UInt8 × Nat) := if Lib.index r m < 0 then .error 11 else .ok (r.take (Lib.index r m).toNat, (Lib.index r m).toNat + m.length)
set_option maxRecDepth 100000 in
set_option maxHeartbeats 1000000 in
theorem through_c {w : World} {pb : Nat} {xs : List UInt8} {a f : Nat} (h : SC w pb xs a f) (ms : ByteArray) (hms : ms.size ≤ 100) : Calls Tryz.prog 106 #[.pointer (some ⟨pb, 0, none⟩), .string ms] w
    (Aft w pb xs a f VB (thr (xs.drop a) ms.data.toList)) := by
  have hml : ms.data.toList.length = ms.size := by rw [Array.length_toList]; rfl
  have HRC := Lib.hid (rest_c h)
  have HS := Lib.hid h
  have hcv := fun (w : World) => Lib.run_convert_string_bytes (P := Tryz.prog) w 9 22 5 ms (u := .string) Tryz.underlying9 Tryz.underlying22 Tryz.underlying5
  have hle := h.le
  have hdl : (xs.drop a).length = xs.length - a := List.length_drop ..
  clear h
  by_cases hi : Lib.index (xs.drop a) ms.data.toList < 0
  · have HTH := Lib.hid (show thr (xs.drop a) ms.data.toList = .error 11 from by unfold thr; rw [if_pos hi])
    rw [HTH.out]
    go_enter Tryz.func106, Tryz.ntmps106
    go_wp2_with fail
    refine HRC.out.mono ?_
    rintro e w1 ⟨p, m, c, rfl, hr, hb1⟩
    have hbw := bytesW_below w1 5 ms
    have HP := Lib.hid (cut_miss (Lib.bytesWorld w1 5 ms) p m c _ _ _ (hr.below hbw) (bytesW_rd w1 5 ms (by omega)) ((HS.out.bw.below hb1).below hbw).mx (by omega) (by omega) hi)
    have HX := Lib.hid (hb1.trans (hbw.mono hb1.size))
    have hcv1 := hcv w1
    obtain ⟨W, hW⟩ : ∃ W, W = Lib.bytesWorld w1 5 ms := ⟨_, rfl⟩
    rw [← hW] at HP HX hcv1
    clear hb1 hr hbw hW hcv hi
    go_wp2_with fail
    refine HP.out.mono ?_
    rintro e w2 ⟨rfl, q, hq⟩
    have hx2 : Below w.heap.size w w2 := hq ▸ below_drewN HX.out q
    have HF := Lib.hid (fail_c (HS.out.below hx2) 11)
    have HC := Lib.hid (Chg.of_below (S := [pb]) hx2)
    clear hq hx2
    go_wp2_with (go_at_call 110; refine (HF.out).mono ?_; rintro e w3 ⟨he, rfl⟩; unfold Boom at he; subst he)
    exact ⟨rfl, rfl, HC.out⟩
  · obtain ⟨i, hi'⟩ : ∃ i : Nat, Lib.index (xs.drop a) ms.data.toList = i := ⟨(Lib.index (xs.drop a) ms.data.toList).toNat, by omega⟩
    have hroom := Lib.index_room (xs.drop a) ms.data.toList (by omega)
    rw [hi', hml, hdl] at hroom
    have HTH := Lib.hid (show thr (xs.drop a) ms.data.toList = .ok ((xs.drop a).take i, i + ms.size) from by unfold thr; rw [if_neg hi, hi', hml]; rfl)
    rw [HTH.out]
    go_enter Tryz.func106, Tryz.ntmps106
    go_wp2_with fail
    refine HRC.out.mono ?_
    rintro e w1 ⟨p, m, c, rfl, hr, hb1⟩
    have hbw := bytesW_below w1 5 ms
    have HP := Lib.hid (cut_hit (Lib.bytesWorld w1 5 ms) p m c i _ _ _ (hr.below hbw) (bytesW_rd w1 5 ms (by omega)) ((HS.out.bw.below hb1).below hbw).mx (by omega) (by omega) hi')
    have HX := Lib.hid (hb1.trans (hbw.mono hb1.size))
    have hml := hr.len
    have HT := Lib.hid ((hr.below hbw).to i (by omega))
    have hcv1 := hcv w1
    obtain ⟨W, hW⟩ : ∃ W, W = Lib.bytesWorld w1 5 ms := ⟨_, rfl⟩
    rw [← hW] at HP HX hcv1 HT
    clear hb1 hr hbw hW hcv hi hml
    go_wp2_with fail
    refine HP.out.mono ?_
    rintro e w2 ⟨⟨x, rfl⟩, q, hq⟩
    have hx2 : Below w.heap.size w w2 := hq ▸ below_drewN HX.out q
    have HT2 := Lib.hid (show Rd w2 (.slice p i c) ((xs.drop a).take i) from HT.out.below (hq ▸ below_drewN (Below.refl _ _) q))
    have hs2 := HS.out.below hx2
    have HS2 := Lib.hid hs2
    obtain ⟨sp, sc, hbox, _⟩ := hs2.box
    obtain ⟨c0, c1, c2, cz⟩ := cells3 hbox
    have HG := Lib.hid (HS.out.go hx2 (a + (i + ms.size)) (by omega))
    rw [show ((a + (i + ms.size) : Nat) : Int) = (a : Int) + ((i : Int) + (ms.size : Int)) by omega] at HG
    have HG2 := Lib.hid ((hs2.go (Below.refl _ _) (a + (i + ms.size)) (by omega)).2)
    rw [show ((a + (i + ms.size) : Nat) : Int) = (a : Int) + ((i : Int) + (ms.size : Int)) by omega] at HG2
    clear hq hx2 hs2 hbox c0 c2 hi'
    go_wp2_with fail
    go_ret
    exact ⟨_, rfl, HS2.out.rd HT2.out HG2.out, HG.out.1, HG.out.2⟩
end Go.Proofs.YtpcajjbdlfookaaGreatDoor

/- xmllex: the scanner: blanks, name, tagName. -/
namespace Go.Proofs.YtpcajjbdlfookaaGreatDoor
open Go.RowKit
set_option linter.unusedVariables false

def atOf (w : World) (pb : Nat) : Nat := match w.cell? ⟨pb, 1, none⟩ with
  | some (.int _ n) => n.toNat
  | _ => 0
theorem SC.atOf {w : World} {pb : Nat} {xs : List UInt8} {a f : Nat} (h : SC w pb xs a f) : atOf w pb = a := by
  obtain ⟨p, c, hb, _⟩ := h.box
  unfold Go.Proofs.YtpcajjbdlfookaaGreatDoor.atOf
  rw [(cells3 hb).2.1]
  simp
theorem SC.byte {w : World} {pb : Nat} {xs : List UInt8} {a f : Nat} (h : SC w pb xs a f) (ha : a < xs.length) : ∃ b o c, w.heap[pb]? = some (.cells #[.slice (some ⟨b, o, none⟩) xs.length c, .int .i64 (a : Nat), .int .i64 (f : Nat)] 155 (0, 0)) ∧ w.cell? ⟨b, o + a, none⟩ = some (.int .u8 (xs[a].toNat : Int)) ∧ xs.length ≤ c ∧ b < w.heap.size := by
  obtain ⟨p, c, hb, ⟨p', c', hv, h1, h2, h3, h4⟩, _⟩ := h.box
  simp only [Value.slice.injEq, true_and] at hv
  obtain ⟨rfl, rfl⟩ := hv
  obtain ⟨b, o, rfl, hx⟩ := h4 (by omega)
  exact ⟨b, o, c, hb, hx a ha, h1, World.block_lt_of_cell? w _ (hx a ha)⟩
theorem blN_yes {xs : List UInt8} {a : Nat} (ha : a < xs.length) (h : spaceB (xs[a].toNat : Int) = true) : blN (xs.drop a) = blN (xs.drop (a + 1)) + 1 := by
  rw [List.drop_eq_getElem_cons ha, blN, if_pos h]
theorem blN_no {xs : List UInt8} {a : Nat} (ha : a < xs.length) (h : spaceB (xs[a].toNat : Int) = false) : blN (xs.drop a) = 0 := by
  rw [List.drop_eq_getElem_cons ha, blN, h]
  rfl
theorem blN_end {xs : List UInt8} {a : Nat} (ha : ¬ a < xs.length) : blN (xs.drop a) = 0 := by
  rw [List.drop_eq_nil_of_le (by omega)]
  rfl
theorem space_s (w : World) (r : Int) (b : Bool) (h : spaceB r = b) : Calls Tryz.prog 57 #[.int .i64 r] w fun e w' => e = .returned (.bool b) ∧ w' = w :=
  (space_c w r).mono fun e w' ⟨h1, h2⟩ => ⟨by rw [h1, h], h2.symm⟩

def VBl (b : Bool) : Unit → World → Value → Prop := fun _ _ v => v = .bool b
def BlI (w : World) (pb : Nat) (xs : List UInt8) (a f : Nat) (wr : World) : Prop := ∃ k, SC wr pb xs (a + k) f ∧ Chg [pb] w wr ∧ blN (xs.drop (a + k)) + k = blN (xs.drop a)
set_option maxRecDepth 100000 in
set_option maxHeartbeats 1000000 in
theorem blanks_c {w : World} {pb : Nat} {xs : List UInt8} {a f : Nat} (h : SC w pb xs a f) : Calls Tryz.prog 124 #[.pointer (some ⟨pb, 0, none⟩)] w
    (Aft w pb xs a f (VBl (decide (0 < blN (xs.drop a)))) (.ok ((), blN (xs.drop a)))) := by
  have HI := Lib.hid (show BlI w pb xs a f w from ⟨0, h, Chg.refl _ _, rfl⟩)
  obtain ⟨p0, cc0, hb0, _⟩ := h.box
  obtain ⟨c0, c1, c2, _⟩ := cells3 hb0
  have hle := h.le
  clear h hb0
  go_enter Tryz.func124, Tryz.ntmps124
  go_wp2_with fail
  clear c0 c1 c2
  go_loopw [] (fun wr => BlI w pb xs a f wr) (fun wr => xs.length - atOf wr pb)
  case atStart => exact HI.out
  case round =>
    obtain ⟨k, hs, hc, hk⟩ := hrel
    have HS := Lib.hid hs
    have HC := Lib.hid hc
    have hle2 := hs.le
    have HAT := Lib.hid hs.atOf
    by_cases hlt : a + k < xs.length
    · obtain ⟨b, o, c, hbox, hcell, hcc, hbl⟩ := hs.byte hlt
      obtain ⟨d0, d1, d2, dz⟩ := cells3 hbox
      have hx := (xs[a + k]).toNat_lt
      obtain ⟨x, hxe⟩ : ∃ x, x = xs[a + k] := ⟨_, rfl⟩
      rw [← hxe] at hcell hx
      obtain ⟨L, hL⟩ : ∃ L, L = xs.length := ⟨_, rfl⟩
      rw [← hL] at d0
      have hltL : a + k < L := by omega
      have hltI : (a : Int) + (k : Int) < (L : Int) := by omega
      rw [show ((a + k : Nat) : Int) = (a : Int) + (k : Int) by omega] at d1
      have hn0 : (0 : Int) ≤ (a : Int) + (k : Int) := by omega
      have htn : ((a : Int) + (k : Int)).toNat = a + k := by omega
      have hbp : pb < wr.heap.size := hs.lt
      cases hsp : spaceB (x.toNat : Int) with
      | true =>
        have HT := Lib.hid (fun w => space_s w (x.toNat : Int) true hsp)
        have HN := Lib.hid (blN_yes hlt (by rw [← hxe]; exact hsp))
        have HK := Lib.hid hk
        have hk1 : a + (k + 1) ≤ xs.length := by omega
        have HG := Lib.hid (fun q => hs.go (below_drewN (Below.refl _ _) q) (a + (k + 1)) hk1)
        rw [show ((a + (k + 1) : Nat) : Int) = (a : Int) + (k : Int) + 1 by omega] at HG
        clear hs hc hk hbox hxe hsp hL
        go_wp2_with fail
        go_quiet ((go_at_call 57; exact Calls.quiet_of_same (HT.out _)))
        go_wp2_with fail
        go_roundw
        case rel => exact ⟨k + 1, (HG.out _).1, HC.out.trans (HG.out _).2, by have := HN.out; have := HK.out; rw [show a + (k + 1) = a + k + 1 by omega]; omega⟩
        case measure => rw [(HG.out _).1.atOf, HAT.out]; omega
      | false =>
        have HT := Lib.hid (fun w => space_s w (x.toNat : Int) false hsp)
        have hz := blN_no hlt (by rw [← hxe]; exact hsp)
        rw [hz] at hk
        obtain rfl : k = blN (xs.drop a) := by omega
        obtain ⟨n, hn⟩ : ∃ n, n = blN (xs.drop a) := ⟨_, rfl⟩
        rw [← hn] at HS HAT d1 hcell hltL hltI hn0 htn hle2 hlt ⊢
        have HNn := Lib.hid hn
        clear hs hc hk hbox hxe hsp hL hz hn
        by_cases h0 : 0 < n
        · have t0 : (a : Int) < (a : Int) + (n : Int) := by omega
          have HV := Lib.hid (show decide (0 < n) = true from by simpa using h0)
          clear h0
          go_wp2_with fail
          go_quiet ((go_at_call 57; exact Calls.quiet_of_same (HT.out _)))
          go_wp2_with fail
          go_ret
          rw [← HNn.out]
          exact ⟨_, rfl, by rw [VBl, HV.out]; rfl, HS.out.below (below_drewN (Below.refl _ _) _), HC.out.trans (Chg.of_below (below_drewN (Below.refl _ _) _))⟩
        · have t0 : decide ((a : Int) < (a : Int) + (n : Int)) = false := by simp; omega
          have HV := Lib.hid (show decide (0 < n) = false from by simpa using h0)
          clear h0
          go_wp2_with fail
          go_quiet ((go_at_call 57; exact Calls.quiet_of_same (HT.out _)))
          go_wp2_with fail
          go_ret
          rw [← HNn.out]
          exact ⟨_, rfl, by rw [VBl, HV.out]; rfl, HS.out.below (below_drewN (Below.refl _ _) _), HC.out.trans (Chg.of_below (below_drewN (Below.refl _ _) _))⟩
    · obtain ⟨p, c, hbox, _⟩ := hs.box
      obtain ⟨d0, d1, d2, dz⟩ := cells3 hbox
      rw [blN_end hlt] at hk
      obtain rfl : k = blN (xs.drop a) := by omega
      obtain ⟨n, hn⟩ : ∃ n, n = blN (xs.drop a) := ⟨_, rfl⟩
      rw [← hn] at HS HAT d1 hle2 hlt ⊢
      obtain ⟨L, hL⟩ : ∃ L, L = xs.length := ⟨_, rfl⟩
      rw [← hL] at d0
      have hltI : decide ((a : Int) + (n : Int) < (L : Int)) = false := by simp; omega
      rw [show ((a + n : Nat) : Int) = (a : Int) + (n : Int) by omega] at d1
      have HNn := Lib.hid hn
      clear hs hc hk hbox hL hn
      by_cases h0 : 0 < n
      · have t0 : (a : Int) < (a : Int) + (n : Int) := by omega
        have HV := Lib.hid (show decide (0 < n) = true from by simpa using h0)
        clear h0
        go_wp2_with fail
        go_quiet (fail)
        go_wp2_with fail
        go_ret
        rw [← HNn.out]
        exact ⟨_, rfl, by rw [VBl, HV.out]; rfl, HS.out.below (below_drewN (Below.refl _ _) _), HC.out.trans (Chg.of_below (below_drewN (Below.refl _ _) _))⟩
      · have t0 : decide ((a : Int) < (a : Int) + (n : Int)) = false := by simp; omega
        have HV := Lib.hid (show decide (0 < n) = false from by simpa using h0)
        clear h0
        go_wp2_with fail
        go_quiet (fail)
        go_wp2_with fail
        go_ret
        rw [← HNn.out]
        exact ⟨_, rfl, by rw [VBl, HV.out]; rfl, HS.out.below (below_drewN (Below.refl _ _) _), HC.out.trans (Chg.of_below (below_drewN (Below.refl _ _) _))⟩

theorem nameAt_no {r : List UInt8} (h : firstB (D r).1 = false) : nameAt r = 0 := by unfold nameAt; rw [if_pos (.inr h)]
theorem first_zero : firstB 0 = false := by decide
theorem later_zero : laterB 0 = false := by decide
theorem D_zero {r : List UInt8} (h : (D r).2 = 0) : (D r).1 = 0 := by
  by_cases hr : r.length = 0
  · rw [List.eq_nil_of_length_eq_zero hr]; rfl
  · unfold D at h ⊢
    split
    · rfl
    · rename_i hn
      rw [if_neg hn] at h
      exfalso
      unfold G at h
      rw [if_neg hr] at h
      have hw : ∀ n b0 b1 b2 b3, (Lib.decodeN n b0 b1 b2 b3).2 ≠ 0 := by
        intro n b0 b1 b2 b3
        unfold Lib.decodeN
        repeat' split
        all_goals simp
      exact hw _ _ _ _ _ h
/-- The loop of a name. -/
def NmI (w : World) (pb : Nat) (xs : List UInt8) (a f T : Nat) (r n : Nat) (wr : World) : Prop := ∃ k g, SC wr pb xs (a + k) f ∧ Chg [pb] w wr ∧ D ((xs.drop a).drop k) = (r, n) ∧ k ≤ (xs.drop a).length ∧ (xs.drop a).length - k < g ∧ later g (xs.drop a) k = T
set_option maxRecDepth 100000 in
set_option maxHeartbeats 1000000 in
theorem sname_c {w : World} {pb : Nat} {xs : List UInt8} {a f : Nat} (h : SC w pb xs a f) : Calls Tryz.prog 123 #[.pointer (some ⟨pb, 0, none⟩)] w
    (Aft w pb xs a f VU (if nameAt (xs.drop a) = 0 then .error 11 else .ok ((), nameAt (xs.drop a)))) := by
  have HRC := Lib.hid (rest_c h)
  have HS := Lib.hid h
  have hle := h.le
  obtain ⟨⟨r, n⟩, hD⟩ : ∃ q : Nat × Nat, q = D (xs.drop a) := ⟨_, rfl⟩
  have hDle := D_le (xs.drop a)
  rw [← hD] at hDle
  have HD := Lib.hid hD.symm
  clear h
  have hdl : (xs.drop a).length = xs.length - a := List.length_drop ..
  cases hf : firstB (r : Int) with
  | false =>
    have HN := Lib.hid (show nameAt (xs.drop a) = 0 from nameAt_no (by rw [← hD]; exact hf))
    rw [if_pos HN.out]
    have HFT := Lib.hid (fun w => (first_c w (r : Int)))
    rw [hf] at HFT
    clear hD hf hDle
    go_enter Tryz.func123, Tryz.ntmps123
    go_wp2_with fail
    refine HRC.out.mono ?_
    rintro e w1 ⟨p, m, c, rfl, hr, hb1⟩
    have HDC := decode_c w1 (HS.out.bw.below hb1).tab _ _ hr
    rw [HD.out] at HDC
    have HDC := Lib.hid HDC
    have HX := Lib.hid hb1
    clear hr hb1
    go_wp2_with fail
    refine HDC.out.mono ?_
    rintro e w2 ⟨rfl, hb2⟩
    have hx2 := HX.out.trans (hb2.mono HX.out.size)
    have HF := Lib.hid (fail_c (HS.out.below hx2) 11)
    have HC := Lib.hid (Chg.of_below (S := [pb]) hx2)
    clear hb2 hx2
    go_wp2_with (first
      | (go_at_call 110; refine (HF.out).mono ?_; rintro e w3 ⟨he, rfl⟩; unfold Boom at he; subst he)
      | (go_at_call 77; refine (HFT.out _).mono ?_; rintro e w' ⟨rfl, rfl⟩))
    exact ⟨rfl, rfl, HC.out⟩
  | true =>
    have hn0 : n ≠ 0 := by
      intro e
      have := D_zero (r := xs.drop a) (by rw [← hD]; exact e)
      rw [← hD] at this
      simp only at this
      rw [this] at hf
      simp [first_zero] at hf
    have hnm : nameAt (xs.drop a) = later ((xs.drop a).length + 1) (xs.drop a) n := by unfold nameAt; rw [← hD, if_neg (by simp [hf, hn0])]
    have hnz : nameAt (xs.drop a) ≠ 0 := by
      rw [hnm]
      have hge : ∀ f l k, k ≤ later f l k := by
        intro f
        induction f with
        | zero => intro l k; exact Nat.le_refl _
        | succ f ih =>
          intro l k
          rw [later]
          split
          · exact Nat.le_refl _
          · exact Nat.le_trans (Nat.le_add_right _ _) (ih _ _)
      have := hge ((xs.drop a).length + 1) (xs.drop a) n
      omega
    rw [if_neg hnz]
    have hl0 : later ((xs.drop a).length + 2) (xs.drop a) 0 = later ((xs.drop a).length + 1) (xs.drop a) n := by
      rw [later, List.drop_zero, ← hD, if_neg (by simp [hn0, first_later _ hf]), Nat.zero_add]
    obtain ⟨T, hT⟩ : ∃ T, T = nameAt (xs.drop a) := ⟨_, rfl⟩
    rw [← hT]
    rw [← hT] at hnm
    have HFT := Lib.hid (fun w => (first_c w (r : Int)))
    rw [hf] at HFT
    have HI := Lib.hid (fun (wx : World) (hs : SC wx pb xs a f) (hc : Chg [pb] w wx) => show NmI w pb xs a f T r n wx from ⟨0, (xs.drop a).length + 2, hs, hc, by rw [List.drop_zero]; exact hD.symm, by omega, by omega, by rw [hl0, hnm]⟩)
    have hr32 : (r : Int) ≤ 1114111 := by have := hDle.1; simp only at this; omega
    have hn4 : n ≤ 4 := hDle.2.1
    clear hD hf hDle hn0 hnm hnz hl0 hT
    go_enter Tryz.func123, Tryz.ntmps123
    go_wp2_with fail
    refine HRC.out.mono ?_
    rintro e w1 ⟨p, m, c, rfl, hr, hb1⟩
    have HDC := decode_c w1 (HS.out.bw.below hb1).tab _ _ hr
    rw [HD.out] at HDC
    have HDC := Lib.hid HDC
    have HX := Lib.hid hb1
    clear hr hb1
    go_wp2_with fail
    refine HDC.out.mono ?_
    rintro e w2 ⟨rfl, hb2⟩
    have hx2 := HX.out.trans (hb2.mono HX.out.size)
    have HI2 := Lib.hid (HI.out w2 (HS.out.below hx2) (Chg.of_below hx2))
    clear hb2 hx2 HD HRC HDC HI HX
    go_wp2_with (go_at_call 77; refine (HFT.out _).mono ?_; rintro e w' ⟨rfl, rfl⟩)
    go_loopw [2, 3] (fun s2 s3 wr => ∃ r n : Nat, s2 = .int .i64 r ∧ s3 = .int .i64 n ∧ r ≤ 1114111 ∧ n ≤ 4 ∧ NmI w pb xs a f T r n wr) (fun _ _ wr => xs.length - atOf wr pb)
    case atStart => exact ⟨r, n, rfl, rfl, by omega, hn4, HI2.out⟩
    case round =>
      clear HI2 HFT hr32 hn4
      obtain ⟨r, n, rfl, rfl, hr32, hn4, k, g, hs, hc, hD, hk, hg, hT⟩ := hrel
      have HS := Lib.hid hs
      have HC := Lib.hid hc
      have HAT := Lib.hid hs.atOf
      have HLT := Lib.hid (fun w => (later_c w (r : Int)))
      cases hlt : laterB (r : Int) with
      | false =>
        rw [hlt] at HLT
        have HK := Lib.hid (later_stop hg hD (.inr hlt) hT)
        clear hs hc hD hk hg hT hlt
        go_wp2_with (go_at_call 78; refine (HLT.out _).mono ?_; rintro e w' ⟨rfl, rfl⟩)
        go_end0
        exact ⟨_, rfl, rfl, by rw [HK.out]; exact HS.out, HC.out⟩
      | true =>
        rw [hlt] at HLT
        have hn0 : n ≠ 0 := by
          intro e
          have := D_zero (r := (xs.drop a).drop k) (by rw [hD]; exact e)
          rw [hD] at this
          simp only at this
          rw [this] at hlt
          simp [later_zero] at hlt
        obtain ⟨hkn, g', hg', hT'⟩ := later_step hk hg hD hn0 hlt hT
        rw [hdl] at hkn
        obtain ⟨p, c, hbox, _⟩ := hs.box
        obtain ⟨d0, d1, d2, dz⟩ := cells3 hbox
        have hgo := hs.go (Below.refl _ _) (a + k + n) (by omega)
        rw [show ((a + k + n : Nat) : Int) = ((a + k : Nat) : Int) + (n : Int) by omega, show ((a + k : Nat) : Int) = (a : Int) + (k : Int) by omega] at hgo
        rw [show ((a + k : Nat) : Int) = (a : Int) + (k : Int) by omega] at d1
        have HGO := Lib.hid hgo
        have HRS := Lib.hid (rest_c hgo.1)
        obtain ⟨⟨r', n'⟩, hD'⟩ : ∃ q : Nat × Nat, q = D ((xs.drop a).drop (k + n)) := ⟨_, rfl⟩
        have hDle := D_le ((xs.drop a).drop (k + n))
        rw [← hD'] at hDle
        have HDD := Lib.hid hD'.symm
        have hxd : xs.drop (a + k + n) = (xs.drop a).drop (k + n) := by rw [List.drop_drop, Nat.add_assoc]
        have HXD := Lib.hid hxd
        have HN := Lib.hid (fun (wx : World) (hb : SC wx pb xs (a + k + n) f) (hc : Chg [pb] w wx) => show NmI w pb xs a f T r' n' wx from ⟨k + n, g', by rw [← Nat.add_assoc]; exact hb, hc, hD'.symm, by omega, hg', hT'⟩)
        have hr' : r' ≤ 1114111 := hDle.1
        have hn' : n' ≤ 4 := hDle.2.1
        have hn1 : 1 ≤ n := by omega
        have HAK := Lib.hid (show a + k + n ≤ xs.length by omega)
        clear hs hc hD hk hg hT hlt hbox hgo hD' hDle hxd hg' hT' hn0 d0 d2
        go_wp2_with (first
          | (go_at_call 121; fail)
          | (go_at_call 78; refine (HLT.out _).mono ?_; rintro e w' ⟨rfl, rfl⟩))
        refine HRS.out.mono ?_
        rintro e w3 ⟨p3, m3, c3, rfl, hr3, hb3⟩
        rw [HXD.out] at hr3
        have hs3 := HGO.out.1.below hb3
        have HDC := decode_c w3 hs3.bw.tab _ _ hr3
        rw [HDD.out] at HDC
        have HDC := Lib.hid HDC
        have HS3 := Lib.hid hs3
        have HC3 := Lib.hid ((HC.out.trans HGO.out.2).trans (Chg.of_below hb3))
        clear hr3 hb3 hs3
        go_wp2_with fail
        refine HDC.out.mono ?_
        rintro e w4 ⟨rfl, hb4⟩
        have HS4 := Lib.hid (HS3.out.below hb4)
        have HC4 := Lib.hid (HC3.out.trans (Chg.of_below hb4))
        clear hb4
        go_wp2_with fail
        go_roundw
        case rel => exact ⟨r', n', rfl, rfl, hr', hn', HN.out _ HS4.out HC4.out⟩
        case measure => rw [HS4.out.atOf, HAT.out]; have := HAK.out; omega

/-- The name of a tag or an attribute. -/
def VS : List UInt8 → World → Value → Prop := fun l _ v => v = .string ⟨l.toArray⟩
def tgP (r : List UInt8) : Except Nat (List UInt8 × Nat) := match tagP r with
  | none => .error 11
  | some n => .ok (r.take n, n)
theorem nameAt_le (r : List UInt8) : nameAt r ≤ r.length := by
  unfold nameAt
  split
  · omega
  · have hge : ∀ f k, k ≤ r.length → later f r k ≤ r.length := by
      intro f
      induction f with
      | zero => intro k hk; exact hk
      | succ f ih =>
        intro k hk
        rw [later]
        split
        · exact hk
        · have := (D_le (r.drop k)).2.2
          rw [List.length_drop] at this
          exact ih _ (by omega)
    exact hge _ _ (D_le r).2.2
end Go.Proofs.YtpcajjbdlfookaaGreatDoor
