/- xmllex: the scanner: need, through, blanks, name, tagName. -/
import Derived.Test.YtgkoknckaajgmaaGreatDoorHn
namespace Go.Proofs.YtgkoknckaajgmaaGreatDoor
open Go.RowKit
set_option linter.unusedVariables false

/-- A method that goes on by so many bytes, or raises. -/
def Aft {α : Type} (w : World) (pb : Nat) (xs : List UInt8) (a f : Nat) (val : α → World → Value → Prop) (R : Except Nat (α × Nat)) (e : Ending) (w' : World) : Prop := match R with
  | .error c => Boom f (c : Nat) e ∧ Chg [pb] w w'
  | .ok (x, n) => ∃ v, e = .returned v ∧ val x w' v ∧ SC w' pb xs (a + n) f ∧ Chg [pb] w w'
def VU : Unit → World → Value → Prop := fun _ _ v => v = .tuple #[]

set_option maxRecDepth 100000 in
theorem need_c {w : World} {pb : Nat} {xs : List UInt8} {a f : Nat} (h : SC w pb xs a f) (ms : ByteArray) (hms : ms.size ≤ 100) : Calls Tryz.prog 117 #[.pointer (some ⟨pb, 0, none⟩), .string ms] w
    (Aft w pb xs a f VU (if Lib.hasPrefix (xs.drop a) ms.data.toList then .ok ((), ms.size) else .error 11)) := by
  cases hb : Lib.hasPrefix (xs.drop a) ms.data.toList with
  | true =>
    have HT := Lib.hid (take_c h ms hms true hb)
    rw [if_pos rfl]
    clear h hb
    go_enter Tryz.func117, Tryz.ntmps117
    go_wp2_with (go_at_call 115; refine (HT.out).mono ?_; rintro e w1 ⟨rfl, hs, hc⟩; have HC := Lib.hid (And.intro hs hc); clear hs hc)
    go_end0
    exact ⟨_, rfl, rfl, HC.out.1, HC.out.2⟩
  | false =>
    have HT := Lib.hid (take_c h ms hms false hb)
    rw [if_neg (by simp)]
    clear h hb
    go_enter Tryz.func117, Tryz.ntmps117
    go_wp2_with fail
    refine HT.out.mono ?_
    rintro e w1 ⟨rfl, hs, hc⟩
    have HF := Lib.hid (fail_c hs 11)
    have HC := Lib.hid hc
    clear hs hc
    go_wp2_with (go_at_call 120; refine (HF.out).mono ?_; rintro e w2 ⟨he, rfl⟩; unfold Boom at he; subst he)
    exact ⟨rfl, rfl, HC.out⟩

/-- What stands ahead of the next mark. -/
def VB : List UInt8 → World → Value → Prop := fun l w v => Rd w v l
def thr (r m : List UInt8) : Except Nat (List UInt8 × Nat) := if Lib.index r m < 0 then .error 11 else .ok (r.take (Lib.index r m).toNat, (Lib.index r m).toNat + m.length)
set_option maxRecDepth 100000 in
set_option maxHeartbeats 1000000 in
theorem through_c {w : World} {pb : Nat} {xs : List UInt8} {a f : Nat} (h : SC w pb xs a f) (ms : ByteArray) (hms : ms.size ≤ 100) : Calls Tryz.prog 116 #[.pointer (some ⟨pb, 0, none⟩), .string ms] w
    (Aft w pb xs a f VB (thr (xs.drop a) ms.data.toList)) := by
  have hml : ms.data.toList.length = ms.size := by rw [Array.length_toList]; rfl
  have HRC := Lib.hid (rest_c h)
  have HS := Lib.hid h
  have hcv := fun (w : World) => Lib.run_convert_string_bytes (P := Tryz.prog) w 9 22 5 ms (u := .string) Tryz.underlying9 Tryz.underlying22 Tryz.underlying5
  have hle := h.le
  have hdl : (xs.drop a).length = xs.length - a := List.length_drop ..
  clear h
  by_cases hi : Lib.index (xs.drop a) ms.data.toList < 0
  · have HTH := Lib.hid (show thr (xs.drop a) ms.data.toList = .error 11 from by unfold thr; rw [if_pos hi])
    rw [HTH.out]
    go_enter Tryz.func116, Tryz.ntmps116
    go_wp2_with fail
    refine HRC.out.mono ?_
    rintro e w1 ⟨p, m, c, rfl, hr, hb1⟩
    have hbw := bytesW_below w1 5 ms
    have HP := Lib.hid (cut_miss (Lib.bytesWorld w1 5 ms) p m c _ _ _ (hr.below hbw) (bytesW_rd w1 5 ms (by omega)) ((HS.out.bw.below hb1).below hbw).mx (by omega) (by omega) hi)
    have HX := Lib.hid (hb1.trans (hbw.mono hb1.size))
    have hcv1 := hcv w1
    obtain ⟨W, hW⟩ : ∃ W, W = Lib.bytesWorld w1 5 ms := ⟨_, rfl⟩
    rw [← hW] at HP HX hcv1
    clear hb1 hr hbw hW hcv hi
    go_wp2_with fail
    refine HP.out.mono ?_
    rintro e w2 ⟨rfl, q, hq⟩
    have hx2 : Below w.heap.size w w2 := hq ▸ below_drewN HX.out q
    have HF := Lib.hid (fail_c (HS.out.below hx2) 11)
    have HC := Lib.hid (Chg.of_below (S := [pb]) hx2)
    clear hq hx2
    go_wp2_with (go_at_call 120; refine (HF.out).mono ?_; rintro e w3 ⟨he, rfl⟩; unfold Boom at he; subst he)
    exact ⟨rfl, rfl, HC.out⟩
  · obtain ⟨i, hi'⟩ : ∃ i : Nat, Lib.index (xs.drop a) ms.data.toList = i := ⟨(Lib.index (xs.drop a) ms.data.toList).toNat, by omega⟩
    have hroom := Lib.index_room (xs.drop a) ms.data.toList (by omega)
    rw [hi', hml, hdl] at hroom
    have HTH := Lib.hid (show thr (xs.drop a) ms.data.toList = .ok ((xs.drop a).take i, i + ms.size) from by unfold thr; rw [if_neg hi, hi', hml]; rfl)
    rw [HTH.out]
    go_enter Tryz.func116, Tryz.ntmps116
    go_wp2_with fail
    refine HRC.out.mono ?_
    rintro e w1 ⟨p, m, c, rfl, hr, hb1⟩
    have hbw := bytesW_below w1 5 ms
    have HP := Lib.hid (cut_hit (Lib.bytesWorld w1 5 ms) p m c i _ _ _ (hr.below hbw) (bytesW_rd w1 5 ms (by omega)) ((HS.out.bw.below hb1).below hbw).mx (by omega) (by omega) hi')
    have HX := Lib.hid (hb1.trans (hbw.mono hb1.size))
    have hml := hr.len
    have HT := Lib.hid ((hr.below hbw).to i (by omega))
    have hcv1 := hcv w1
    obtain ⟨W, hW⟩ : ∃ W, W = Lib.bytesWorld w1 5 ms := ⟨_, rfl⟩
    rw [← hW] at HP HX hcv1 HT
    clear hb1 hr hbw hW hcv hi hml
    go_wp2_with fail
    refine HP.out.mono ?_
    rintro e w2 ⟨⟨x, rfl⟩, q, hq⟩
    have hx2 : Below w.heap.size w w2 := hq ▸ below_drewN HX.out q
    have HT2 := Lib.hid (show Rd w2 (.slice p i c) ((xs.drop a).take i) from HT.out.below (hq ▸ below_drewN (Below.refl _ _) q))
    have hs2 := HS.out.below hx2
    have HS2 := Lib.hid hs2
    obtain ⟨sp, sc, hbox, _⟩ := hs2.box
    obtain ⟨c0, c1, c2, cz⟩ := cells3 hbox
    have HG := Lib.hid (HS.out.go hx2 (a + (i + ms.size)) (by omega))
    rw [show ((a + (i + ms.size) : Nat) : Int) = (a : Int) + ((i : Int) + (ms.size : Int)) by omega] at HG
    have HG2 := Lib.hid ((hs2.go (Below.refl _ _) (a + (i + ms.size)) (by omega)).2)
    rw [show ((a + (i + ms.size) : Nat) : Int) = (a : Int) + ((i : Int) + (ms.size : Int)) by omega] at HG2
    clear hq hx2 hs2 hbox c0 c2 hi'
    go_wp2_with fail
    go_ret
    exact ⟨_, rfl, HS2.out.rd HT2.out HG2.out, HG.out.1, HG.out.2⟩
end Go.Proofs.YtgkoknckaajgmaaGreatDoor
