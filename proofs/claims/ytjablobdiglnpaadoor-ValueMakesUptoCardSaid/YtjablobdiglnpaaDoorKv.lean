/- Write on both sides. -/
import Derived.Test.YtjablobdiglnpaaDoorKu
import Derived.Test.YtjablobdiglnpaaDoorRef
namespace Go.Proofs.YtjablobdiglnpaaDoor
open Go.RowKit
set_option linter.unusedVariables false

/-- A value's bytes. -/
def writeL (v : Vl) : List UInt8 :=
  W.enc v.k ++ (if v.k = 1 then W.enc v.n else if v.k = 2 then W.fb v.y else if v.k = 3 then W.enc v.s.size ++ W.tb v.s else [])
def WroteAs (xs : List UInt8) (w : World) (e : Ending) (w' : World) : Prop := ∃ v', e = .returned v' ∧ Rd w' v' xs ∧ Below w.heap.size w w'
theorem fb_len (y : Bool) : (W.fb y).length ≤ 1 := by simp [W.fb]

section
variable (w : World) (gv : Value) (xs : List UInt8) (hg : Rd w gv xs) (hx : xs.length ≤ 1048576) (k n : Int) (y : Bool) (s : ByteArray) (hk : -9223372036854775808 ≤ k ∧ k ≤ 9223372036854775807) (hn : -9223372036854775808 ≤ n ∧ n ≤ 9223372036854775807) (hs : s.size ≤ 1048576)
include hg hx hk hn hs

set_option maxRecDepth 100000 in
theorem write_c : Calls Tryd.prog 17 #[gv, .agg #[.int .i64 k, .int .i64 n, .bool y, .string s]] w (WroteAs (xs ++ writeL ⟨k, n, y, s⟩) w) := by
  have HB := Lib.hid (fun (o : Obj) => box_below w o)
  have HI := Lib.hid (fun w v xs n => W.int_c w v xs n)
  have HG := Lib.hid hg
  have HL := Lib.hid (And.intro (fun n => W.enc_len n) fb_len)
  have HN := Lib.hid (And.intro hk (And.intro hn (And.intro hs hx)))
  rcases (by omega : k = 1 ∨ k = 2 ∨ k = 3 ∨ (k ≠ 1 ∧ k ≠ 2 ∧ k ≠ 3)) with rfl | rfl | rfl | h
  · have HP := Lib.hid (show writeL ⟨1, n, y, s⟩ = W.enc 1 ++ W.enc n from by rfl)
    rw [HP.out]
    have HF := Lib.hid (fun (v' : Value) (w' : World) (h : Rd w' v' (xs ++ (W.enc 1 ++ W.enc n))) (hb : Below w.heap.size w w') => (show WroteAs (xs ++ (W.enc 1 ++ W.enc n)) w (.returned v') w' from ⟨v', rfl, h, hb⟩))
    clear hg hx hk hn hs
    go_enter Tryd.func17, Tryd.ntmps17
    go_wp2_with fail
    refine (HI.out _ _ _ _ (HG.out.below (HB.out _)) HN.out.1.1 HN.out.1.2 (by have := HN.out.2.2.2; omega)).mono ?_
    rintro e w2 ⟨v2, rfl, hown, hb⟩
    have HR := Lib.hid (Rd.of_own hown)
    have hz : w.heap.size < w2.heap.size := by have := hb.size; simp at this; omega
    have HX := Lib.hid ((HB.out _).trans (hb.mono (by simp)))
    have hbb := (hb.block w.heap.size (by simp)).trans (heap_alloc_new w _)
    obtain ⟨⟨p0, p1, p2, p3⟩, _⟩ := box4 hbb
    clear hown hb hbb
    go_wp2_with fail
    refine (HI.out _ _ _ _ HR.out HN.out.2.1.1 HN.out.2.1.2 (by have := HN.out.2.2.2; have := HL.out.1 1; rw [List.length_append]; omega)).mono ?_
    rintro e w3 ⟨v3, rfl, hown, hb⟩
    have HR3 := Lib.hid (Rd.of_own hown)
    have HX3 := Lib.hid (HX.out.trans (hb.mono HX.out.size))
    clear hown hb
    go_wp2_with fail
    go_ret
    exact HF.out _ _ (by have := HR3.out; rw [List.append_assoc] at this; exact this) HX3.out
  · have HP := Lib.hid (show writeL ⟨2, n, y, s⟩ = W.enc 2 ++ W.fb y from by rfl)
    rw [HP.out]
    have HF := Lib.hid (fun (v' : Value) (w' : World) (h : Rd w' v' (xs ++ (W.enc 2 ++ W.fb y))) (hb : Below w.heap.size w w') => (show WroteAs (xs ++ (W.enc 2 ++ W.fb y)) w (.returned v') w' from ⟨v', rfl, h, hb⟩))
    clear hg hx hk hn hs
    go_enter Tryd.func17, Tryd.ntmps17
    go_wp2_with fail
    refine (HI.out _ _ _ _ (HG.out.below (HB.out _)) HN.out.1.1 HN.out.1.2 (by have := HN.out.2.2.2; omega)).mono ?_
    rintro e w2 ⟨v2, rfl, hown, hb⟩
    have HR := Lib.hid (Rd.of_own hown)
    have hz : w.heap.size < w2.heap.size := by have := hb.size; simp at this; omega
    have HX := Lib.hid ((HB.out _).trans (hb.mono (by simp)))
    have hbb := (hb.block w.heap.size (by simp)).trans (heap_alloc_new w _)
    obtain ⟨⟨p0, p1, p2, p3⟩, _⟩ := box4 hbb
    clear hown hb hbb
    go_wp2_with fail
    refine (W.flag_c _ _ _ _ HR.out (by have := HN.out.2.2.2; have := HL.out.1 2; rw [List.length_append]; omega)).mono ?_
    rintro e w3 ⟨v3, rfl, hown, hb⟩
    have HR3 := Lib.hid (Rd.of_own hown)
    have HX3 := Lib.hid (HX.out.trans (hb.mono HX.out.size))
    clear hown hb
    go_wp2_with fail
    go_ret
    exact HF.out _ _ (by have := HR3.out; rw [List.append_assoc] at this; exact this) HX3.out
  · have HP := Lib.hid (show writeL ⟨3, n, y, s⟩ = W.enc 3 ++ (W.enc s.size ++ W.tb s) from by rfl)
    rw [HP.out]
    have HF := Lib.hid (fun (v' : Value) (w' : World) (h : Rd w' v' (xs ++ (W.enc 3 ++ (W.enc s.size ++ W.tb s)))) (hb : Below w.heap.size w w') => (show WroteAs (xs ++ (W.enc 3 ++ (W.enc s.size ++ W.tb s))) w (.returned v') w' from ⟨v', rfl, h, hb⟩))
    clear hg hx hk hn hs
    go_enter Tryd.func17, Tryd.ntmps17
    go_wp2_with fail
    refine (HI.out _ _ _ _ (HG.out.below (HB.out _)) HN.out.1.1 HN.out.1.2 (by have := HN.out.2.2.2; omega)).mono ?_
    rintro e w2 ⟨v2, rfl, hown, hb⟩
    have HR := Lib.hid (Rd.of_own hown)
    have hz : w.heap.size < w2.heap.size := by have := hb.size; simp at this; omega
    have HX := Lib.hid ((HB.out _).trans (hb.mono (by simp)))
    have hbb := (hb.block w.heap.size (by simp)).trans (heap_alloc_new w _)
    obtain ⟨⟨p0, p1, p2, p3⟩, _⟩ := box4 hbb
    clear hown hb hbb
    go_wp2_with fail
    refine (W.text_c _ _ _ _ HR.out (by have := HN.out.2.2.2; have := HN.out.2.2.1; have := HL.out.1 3; rw [List.length_append]; omega)).mono ?_
    rintro e w3 ⟨v3, rfl, hown, hb⟩
    have HR3 := Lib.hid (Rd.of_own hown)
    have HX3 := Lib.hid (HX.out.trans (hb.mono HX.out.size))
    clear hown hb
    go_wp2_with fail
    go_ret
    exact HF.out _ _ (by have := HR3.out; rw [List.append_assoc] at this; exact this) HX3.out
  · have HP := Lib.hid (show writeL ⟨k, n, y, s⟩ = W.enc k from by unfold writeL; rw [if_neg h.1, if_neg h.2.1, if_neg h.2.2, List.append_nil])
    rw [HP.out]
    have HF := Lib.hid (fun (v' : Value) (w' : World) (h : Rd w' v' (xs ++ (W.enc k))) (hb : Below w.heap.size w w') => (show WroteAs (xs ++ (W.enc k)) w (.returned v') w' from ⟨v', rfl, h, hb⟩))
    have t1 : (k == 1) = false := by simp; omega
    have t2 : (k == 2) = false := by simp; omega
    have t3 : (k == 3) = false := by simp; omega
    clear hg hx hk hn hs h
    go_enter Tryd.func17, Tryd.ntmps17
    go_wp2_with fail
    refine (HI.out _ _ _ _ (HG.out.below (HB.out _)) HN.out.1.1 HN.out.1.2 (by have := HN.out.2.2.2; omega)).mono ?_
    rintro e w2 ⟨v2, rfl, hown, hb⟩
    have HR := Lib.hid (Rd.of_own hown)
    have hz : w.heap.size < w2.heap.size := by have := hb.size; simp at this; omega
    have HX := Lib.hid ((HB.out _).trans (hb.mono (by simp)))
    have hbb := (hb.block w.heap.size (by simp)).trans (heap_alloc_new w _)
    obtain ⟨⟨p0, p1, p2, p3⟩, _⟩ := box4 hbb
    clear hown hb hbb
    go_wp2_with fail
    go_ret
    exact HF.out _ _ HR.out HX.out

set_option maxRecDepth 100000 in
theorem rwrite_c : Calls Tryd.prog 18 #[gv, .agg #[.int .i64 k, .int .i64 n, .bool y, .string s]] w (WroteAs (xs ++ writeL ⟨k, n, y, s⟩) w) := by
  have HB := Lib.hid (fun (o : Obj) => box_below w o)
  have HI := Lib.hid (fun w v xs n => W.rint_c w v xs n)
  have HG := Lib.hid hg
  have HL := Lib.hid (And.intro (fun n => W.enc_len n) fb_len)
  have HN := Lib.hid (And.intro hk (And.intro hn (And.intro hs hx)))
  rcases (by omega : k = 1 ∨ k = 2 ∨ k = 3 ∨ (k ≠ 1 ∧ k ≠ 2 ∧ k ≠ 3)) with rfl | rfl | rfl | h
  · have HP := Lib.hid (show writeL ⟨1, n, y, s⟩ = W.enc 1 ++ W.enc n from by rfl)
    rw [HP.out]
    have HF := Lib.hid (fun (v' : Value) (w' : World) (h : Rd w' v' (xs ++ (W.enc 1 ++ W.enc n))) (hb : Below w.heap.size w w') => (show WroteAs (xs ++ (W.enc 1 ++ W.enc n)) w (.returned v') w' from ⟨v', rfl, h, hb⟩))
    clear hg hx hk hn hs
    go_enter Tryd.func18, Tryd.ntmps18
    go_wp2_with fail
    refine (HI.out _ _ _ _ (HG.out.below (HB.out _)) HN.out.1.1 HN.out.1.2 (by have := HN.out.2.2.2; omega)).mono ?_
    rintro e w2 ⟨v2, rfl, hown, hb⟩
    have HR := Lib.hid (Rd.of_own hown)
    have hz : w.heap.size < w2.heap.size := by have := hb.size; simp at this; omega
    have HX := Lib.hid ((HB.out _).trans (hb.mono (by simp)))
    have hbb := (hb.block w.heap.size (by simp)).trans (heap_alloc_new w _)
    obtain ⟨⟨p0, p1, p2, p3⟩, _⟩ := box4 hbb
    clear hown hb hbb
    go_wp2_with fail
    refine (HI.out _ _ _ _ HR.out HN.out.2.1.1 HN.out.2.1.2 (by have := HN.out.2.2.2; have := HL.out.1 1; rw [List.length_append]; omega)).mono ?_
    rintro e w3 ⟨v3, rfl, hown, hb⟩
    have HR3 := Lib.hid (Rd.of_own hown)
    have HX3 := Lib.hid (HX.out.trans (hb.mono HX.out.size))
    clear hown hb
    go_wp2_with fail
    go_ret
    exact HF.out _ _ (by have := HR3.out; rw [List.append_assoc] at this; exact this) HX3.out
  · have HP := Lib.hid (show writeL ⟨2, n, y, s⟩ = W.enc 2 ++ W.fb y from by rfl)
    rw [HP.out]
    have HF := Lib.hid (fun (v' : Value) (w' : World) (h : Rd w' v' (xs ++ (W.enc 2 ++ W.fb y))) (hb : Below w.heap.size w w') => (show WroteAs (xs ++ (W.enc 2 ++ W.fb y)) w (.returned v') w' from ⟨v', rfl, h, hb⟩))
    clear hg hx hk hn hs
    go_enter Tryd.func18, Tryd.ntmps18
    go_wp2_with fail
    refine (HI.out _ _ _ _ (HG.out.below (HB.out _)) HN.out.1.1 HN.out.1.2 (by have := HN.out.2.2.2; omega)).mono ?_
    rintro e w2 ⟨v2, rfl, hown, hb⟩
    have HR := Lib.hid (Rd.of_own hown)
    have hz : w.heap.size < w2.heap.size := by have := hb.size; simp at this; omega
    have HX := Lib.hid ((HB.out _).trans (hb.mono (by simp)))
    have hbb := (hb.block w.heap.size (by simp)).trans (heap_alloc_new w _)
    obtain ⟨⟨p0, p1, p2, p3⟩, _⟩ := box4 hbb
    clear hown hb hbb
    go_wp2_with fail
    refine (W.rflag_c _ _ _ _ HR.out (by have := HN.out.2.2.2; have := HL.out.1 2; rw [List.length_append]; omega)).mono ?_
    rintro e w3 ⟨v3, rfl, hown, hb⟩
    have HR3 := Lib.hid (Rd.of_own hown)
    have HX3 := Lib.hid (HX.out.trans (hb.mono HX.out.size))
    clear hown hb
    go_wp2_with fail
    go_ret
    exact HF.out _ _ (by have := HR3.out; rw [List.append_assoc] at this; exact this) HX3.out
  · have HP := Lib.hid (show writeL ⟨3, n, y, s⟩ = W.enc 3 ++ (W.enc s.size ++ W.tb s) from by rfl)
    rw [HP.out]
    have HF := Lib.hid (fun (v' : Value) (w' : World) (h : Rd w' v' (xs ++ (W.enc 3 ++ (W.enc s.size ++ W.tb s)))) (hb : Below w.heap.size w w') => (show WroteAs (xs ++ (W.enc 3 ++ (W.enc s.size ++ W.tb s))) w (.returned v') w' from ⟨v', rfl, h, hb⟩))
    clear hg hx hk hn hs
    go_enter Tryd.func18, Tryd.ntmps18
    go_wp2_with fail
    refine (HI.out _ _ _ _ (HG.out.below (HB.out _)) HN.out.1.1 HN.out.1.2 (by have := HN.out.2.2.2; omega)).mono ?_
    rintro e w2 ⟨v2, rfl, hown, hb⟩
    have HR := Lib.hid (Rd.of_own hown)
    have hz : w.heap.size < w2.heap.size := by have := hb.size; simp at this; omega
    have HX := Lib.hid ((HB.out _).trans (hb.mono (by simp)))
    have hbb := (hb.block w.heap.size (by simp)).trans (heap_alloc_new w _)
    obtain ⟨⟨p0, p1, p2, p3⟩, _⟩ := box4 hbb
    clear hown hb hbb
    go_wp2_with fail
    refine (W.rtext_c _ _ _ _ HR.out (by have := HN.out.2.2.2; have := HN.out.2.2.1; have := HL.out.1 3; rw [List.length_append]; omega)).mono ?_
    rintro e w3 ⟨v3, rfl, hown, hb⟩
    have HR3 := Lib.hid (Rd.of_own hown)
    have HX3 := Lib.hid (HX.out.trans (hb.mono HX.out.size))
    clear hown hb
    go_wp2_with fail
    go_ret
    exact HF.out _ _ (by have := HR3.out; rw [List.append_assoc] at this; exact this) HX3.out
  · have HP := Lib.hid (show writeL ⟨k, n, y, s⟩ = W.enc k from by unfold writeL; rw [if_neg h.1, if_neg h.2.1, if_neg h.2.2, List.append_nil])
    rw [HP.out]
    have HF := Lib.hid (fun (v' : Value) (w' : World) (h : Rd w' v' (xs ++ (W.enc k))) (hb : Below w.heap.size w w') => (show WroteAs (xs ++ (W.enc k)) w (.returned v') w' from ⟨v', rfl, h, hb⟩))
    have t1 : (k == 1) = false := by simp; omega
    have t2 : (k == 2) = false := by simp; omega
    have t3 : (k == 3) = false := by simp; omega
    clear hg hx hk hn hs h
    go_enter Tryd.func18, Tryd.ntmps18
    go_wp2_with fail
    refine (HI.out _ _ _ _ (HG.out.below (HB.out _)) HN.out.1.1 HN.out.1.2 (by have := HN.out.2.2.2; omega)).mono ?_
    rintro e w2 ⟨v2, rfl, hown, hb⟩
    have HR := Lib.hid (Rd.of_own hown)
    have hz : w.heap.size < w2.heap.size := by have := hb.size; simp at this; omega
    have HX := Lib.hid ((HB.out _).trans (hb.mono (by simp)))
    have hbb := (hb.block w.heap.size (by simp)).trans (heap_alloc_new w _)
    obtain ⟨⟨p0, p1, p2, p3⟩, _⟩ := box4 hbb
    clear hown hb hbb
    go_wp2_with fail
    go_ret
    exact HF.out _ _ HR.out HX.out

end
end Go.Proofs.YtjablobdiglnpaaDoor
