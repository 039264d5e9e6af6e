/- Proved: for every []byte b, the law JournalNobody returns true: a journal that no call made (nil, or a Journal{}) answers ErrNil and zero values; Open of a disk that no call made answers ErrNil. Conditions: none. -/
import Derived.Test.YtopiocnpnamjmaaJw
import Derived.Test.YtopiocnpnamjmaaRows
namespace Go.Proofs.Ytopiocnpnamjmaa.journalNobody
open Go.RowKit
set_option linter.unusedVariables false

set_option maxRecDepth 100000 in
set_option maxHeartbeats 4000000 in
theorem walk (v : Value) (b : List UInt8) (w : World) (h : Rd w v b) :
    Calls Try.prog 4 #[v] w fun e w' => e = .returned (.bool true) ∧ Below w.heap.size w w' := by
  have HV := Lib.hid h
  clear h
  go_enter Try.func4, Try.ntmps4
  go_wp2_with fail
  obtain ⟨w1, hw1⟩ : ∃ w1 : World, w1 = (w.alloc (.cells #[.pointer none, .slice none 0 0, .slice none 0 0, .bool false] 43)).alloc (.cells #[.pointer none, .pointer (some ⟨w.heap.size, 0, none⟩)] 29) := ⟨_, rfl⟩
  have HB1 := Lib.hid (show Below w.heap.size w w1 from by rw [hw1]; exact ((Below.refl _ _).alloc (Nat.le_refl _) _).alloc (by simp) _)
  have HS1 := Lib.hid (show w1.heap.size = w.heap.size + 2 from by rw [hw1]; simp)
  have HF1 := Lib.hid (show (w1.cell? ⟨w.heap.size + 1, 0, none⟩ = some (.pointer none) ∧ w1.cell? ⟨w.heap.size + 1, 1, none⟩ = some (.pointer (some ⟨w.heap.size, 0, none⟩))) ∧ NoJ w1 none ∧ NoJ w1 (some ⟨w.heap.size, 0, none⟩) from by
    rw [hw1]
    exact ⟨⟨by go_simp, by go_simp⟩, .inl rfl, .inr ⟨_, rfl, by go_simp⟩⟩)
  have HV1 := Lib.hid (HV.out.below HB1.out)
  rw [← hw1]
  clear hw1
  refine wp_loop_rounds 3 ?_
  obtain ⟨⟨f1, f2⟩, _⟩ := HF1.out
  rw [rounds_succ]
  go_wp2_with (first
    | (go_at_call 7; refine (japp_n HF1.out.2.1 _ b HV1.out).mono ?_; rintro e w' ⟨rfl, rfl⟩)
    | (go_at_call 11; refine (jcmp_n HF1.out.2.1 _ b HV1.out).mono ?_; rintro e w' ⟨rfl, rfl⟩)
    | (go_at_call 9; refine (jsnap_n HF1.out.2.1).mono ?_; rintro e w' ⟨rfl, rfl⟩)
    | (go_at_call 8; refine (jrecs_n HF1.out.2.1).mono ?_; rintro e w' ⟨rfl, rfl⟩)
    | (go_at_call 16; refine (jstopped_n HF1.out.2.1).mono ?_; rintro e w' ⟨rfl, rfl⟩))
  rw [rounds_succ]
  go_wp2_with (first
    | (go_at_call 7; refine (japp_n HF1.out.2.2 _ b HV1.out).mono ?_; rintro e w' ⟨rfl, rfl⟩)
    | (go_at_call 11; refine (jcmp_n HF1.out.2.2 _ b HV1.out).mono ?_; rintro e w' ⟨rfl, rfl⟩)
    | (go_at_call 9; refine (jsnap_n HF1.out.2.2).mono ?_; rintro e w' ⟨rfl, rfl⟩)
    | (go_at_call 8; refine (jrecs_n HF1.out.2.2).mono ?_; rintro e w' ⟨rfl, rfl⟩)
    | (go_at_call 16; refine (jstopped_n HF1.out.2.2).mono ?_; rintro e w' ⟨rfl, rfl⟩))
  rw [rounds_succ]
  clear f1 f2
  go_wp2_with fail
  obtain ⟨w2, hw2⟩ : ∃ w2 : World, w2 = (w1.alloc (.cells #[.int .i64 0, .int .i64 0, .map none, .int .i64 0, .bool false] 47)).alloc (.cells #[.pointer none, .pointer (some ⟨w1.heap.size, 0, none⟩)] 25) := ⟨_, rfl⟩
  have HB2 := Lib.hid (show Below w.heap.size w w2 from by rw [hw2]; exact (HB1.out.alloc HB1.out.size _).alloc (by have := HB1.out.size; simp; omega) _)
  have HF2 := Lib.hid (show (w2.cell? ⟨w1.heap.size + 1, 0, none⟩ = some (.pointer none) ∧ w2.cell? ⟨w1.heap.size + 1, 1, none⟩ = some (.pointer (some ⟨w1.heap.size, 0, none⟩))) ∧ NoD w2 none ∧ NoD w2 (some ⟨w1.heap.size, 0, none⟩) from by
    rw [hw2]
    exact ⟨⟨by go_simp, by go_simp⟩, .inl rfl, .inr ⟨_, rfl, by go_simp⟩⟩)
  rw [← hw2]
  clear hw2
  refine wp_loop_rounds 3 ?_
  obtain ⟨⟨f1, f2⟩, _⟩ := HF2.out
  rw [rounds_succ]
  go_wp2_with fail
  refine (open_n HF2.out.2.1 _).mono ?_
  rintro e w3 ⟨rfl, hb⟩
  have f3 : w3.cell? ⟨w1.heap.size + 1, 1, none⟩ = some (.pointer (some ⟨w1.heap.size, 0, none⟩)) := by rw [hb.cell (World.block_lt_of_cell? w2 _ f2)]; exact f2
  have HD3 := Lib.hid (HF2.out.2.2.below hb)
  have HB3 := Lib.hid (HB2.out.trans (hb.mono HB2.out.size))
  clear hb f1 f2
  go_wp2_with fail
  rw [rounds_succ]
  go_wp2_with fail
  refine (open_n HD3.out _).mono ?_
  rintro e w4 ⟨rfl, hb⟩
  have HB4 := Lib.hid (HB3.out.trans (hb.mono HB3.out.size))
  clear hb f3
  go_wp2_with fail
  rw [rounds_succ]
  go_wp2_with fail
  refine (jawake_c _).mono ?_
  rintro e w5 ⟨rfl, hb⟩
  have HX := Lib.hid hb
  clear hb
  go_wp2_with fail
  go_ret
  exact ⟨rfl, HB4.out.trans (HX.out.mono HB4.out.size)⟩
end Go.Proofs.Ytopiocnpnamjmaa.journalNobody
