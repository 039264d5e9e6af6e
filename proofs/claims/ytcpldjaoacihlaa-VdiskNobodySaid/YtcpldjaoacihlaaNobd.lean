/- Proved: for every Step s, the law VdiskNobody returns true: a disk that no call made (nil, or a Disk{}) answers ErrNil and zero values to every method. Conditions: none. -/
import Derived.Test.YtcpldjaoacihlaaVx
import Derived.Test.YtcpldjaoacihlaaVw
import Derived.Test.YtcpldjaoacihlaaRows
namespace Go.Proofs.Ytcpldjaoacihlaa.vdiskNobody
open Go.RowKit
set_option linter.unusedVariables false

/-- The law's three blocks: the step, the disk, the list. -/
def NF (w : World) (B : Nat) (n : Int) (nm to : ByteArray) (bv kv : Value) : Prop :=
  (w.cell? ⟨B, 1, none⟩ = some (.int .i64 n) ∧ w.cell? ⟨B, 2, none⟩ = some (.string nm) ∧ w.cell? ⟨B, 3, none⟩ = some (.string to) ∧ w.cell? ⟨B, 4, none⟩ = some bv ∧ w.cell? ⟨B, 5, none⟩ = some kv ∧
    w.cell? ⟨B + 2, 0, none⟩ = some (.pointer none) ∧ w.cell? ⟨B + 2, 1, none⟩ = some (.pointer (some ⟨B + 1, 0, none⟩))) ∧ NoD w none ∧ NoD w (some ⟨B + 1, 0, none⟩)
theorem NF.below {w w' : World} {B : Nat} {n : Int} {nm to : ByteArray} {bv kv : Value} (h : NF w B n nm to bv kv) (hb : Below w.heap.size w w') : NF w' B n nm to bv kv := by
  obtain ⟨⟨h1, h2, h3, h4, h5, h6, h7⟩, h8, h9⟩ := h
  have k : ∀ {a : Addr} {v : Value}, w.cell? a = some v → w'.cell? a = some v := fun {a v} h => by rw [hb.cell (World.block_lt_of_cell? w _ h)]; exact h
  exact ⟨⟨k h1, k h2, k h3, k h4, k h5, k h6, k h7⟩, h8.below hb, h9.below hb⟩

set_option maxRecDepth 100000 in
set_option maxHeartbeats 4000000 in
theorem walk (op n : Int) (nm to : ByteArray) (bv kv : Value) (w : World) (hn : nm.size ≤ 9223372036854775807) (ht : to.size ≤ 9223372036854775807) :
    Calls Try.prog 7 #[.agg #[.int .i64 op, .int .i64 n, .string nm, .string to, bv, kv]] w fun e w' => e = .returned (.bool true) ∧ Below w.heap.size w w' := by
  have HN := Lib.hid (And.intro hn ht)
  clear hn ht
  go_enter Try.func7, Try.ntmps7
  go_wp2_with fail
  obtain ⟨w1, hw1⟩ : ∃ w1 : World, w1 = ((w.alloc (.cells #[.int .i64 op, .int .i64 n, .string nm, .string to, bv, kv] 34)).alloc (.cells #[.int .i64 0, .int .i64 0, .map none, .int .i64 0, .bool false] 53)).alloc (.cells #[.pointer none, .pointer (some ⟨w.heap.size + 1, 0, none⟩)] 23) := ⟨_, rfl⟩
  have HB1 := Lib.hid (show Below w.heap.size w w1 from by rw [hw1]; exact (((Below.refl _ _).alloc (Nat.le_refl _) _).alloc (by simp) _).alloc (by simp; omega) _)
  have HF1 := Lib.hid (show NF w1 w.heap.size n nm to bv kv from by
    rw [hw1]
    exact ⟨⟨by go_simp, by go_simp, by go_simp, by go_simp, by go_simp, by go_simp, by go_simp⟩, .inl rfl, .inr ⟨_, rfl, by go_simp⟩⟩)
  rw [← hw1]
  clear hw1
  refine wp_loop_rounds 3 ?_
  obtain ⟨⟨f1, f2, f3, f4, f5, f6, f7⟩, _⟩ := HF1.out
  rw [rounds_succ]
  go_wp2_with fail
  refine (read_n HF1.out.2.1 nm).mono ?_
  rintro e w2 ⟨rfl, hb⟩
  have HB2 := Lib.hid (HB1.out.trans (hb.mono HB1.out.size))
  have HF2 := Lib.hid (HF1.out.below hb)
  clear hb f1 f2 f3 f4 f5 f6 f7 HB1 HF1
  obtain ⟨⟨f1, f2, f3, f4, f5, f6, f7⟩, _⟩ := HF2.out
  go_wp2_with fail
  refine (append_n HF2.out.2.1 nm HN.out.1 _).mono ?_
  rintro e w' ⟨rfl, rfl⟩
  go_wp2_with fail
  refine (sync_n HF2.out.2.1 nm).mono ?_
  rintro e w3 ⟨rfl, hb⟩
  have HB3 := Lib.hid (HB2.out.trans (hb.mono HB2.out.size))
  have HF3 := Lib.hid (HF2.out.below hb)
  clear hb f1 f2 f3 f4 f5 f6 f7 HB2 HF2
  obtain ⟨⟨f1, f2, f3, f4, f5, f6, f7⟩, _⟩ := HF3.out
  go_wp2_with fail
  refine (rename_n HF3.out.2.1 nm to HN.out.2).mono ?_
  rintro e w4 ⟨rfl, hb⟩
  have HB4 := Lib.hid (HB3.out.trans (hb.mono HB3.out.size))
  have HF4 := Lib.hid (HF3.out.below hb)
  clear hb f1 f2 f3 f4 f5 f6 f7 HB3 HF3
  obtain ⟨⟨f1, f2, f3, f4, f5, f6, f7⟩, _⟩ := HF4.out
  go_wp2_with fail
  refine (trunc_n HF4.out.2.1 nm _).mono ?_
  rintro e w5 ⟨rfl, hb⟩
  have HB5 := Lib.hid (HB4.out.trans (hb.mono HB4.out.size))
  have HF5 := Lib.hid (HF4.out.below hb)
  clear hb f1 f2 f3 f4 f5 f6 f7 HB4 HF4
  obtain ⟨⟨f1, f2, f3, f4, f5, f6, f7⟩, _⟩ := HF5.out
  go_wp2_with fail
  refine (remove_n HF5.out.2.1 nm).mono ?_
  rintro e w6 ⟨rfl, hb⟩
  have HB6 := Lib.hid (HB5.out.trans (hb.mono HB5.out.size))
  have HF6 := Lib.hid (HF5.out.below hb)
  clear hb f1 f2 f3 f4 f5 f6 f7 HB5 HF5
  obtain ⟨⟨f1, f2, f3, f4, f5, f6, f7⟩, _⟩ := HF6.out
  go_wp2_with fail
  refine (fuse_n HF6.out.2.1 _).mono ?_
  rintro e w' ⟨rfl, rfl⟩
  go_wp2_with fail
  refine (room_n HF6.out.2.1 _).mono ?_
  rintro e w' ⟨rfl, rfl⟩
  go_wp2_with fail
  refine (crash_n HF6.out.2.1 _).mono ?_
  rintro e w' ⟨rfl, rfl⟩
  go_wp2_with fail
  refine (dead_n HF6.out.2.1 ).mono ?_
  rintro e w' ⟨rfl, rfl⟩
  go_wp2_with fail
  refine (names_n HF6.out.2.1 ).mono ?_
  rintro e w' ⟨rfl, rfl⟩
  go_wp2_with fail
  refine (used_n HF6.out.2.1 ).mono ?_
  rintro e w' ⟨rfl, rfl⟩
  go_wp2_with fail
  refine (copy_n HF6.out.2.1 ).mono ?_
  rintro e w' ⟨rfl, rfl⟩
  go_wp2_with fail
  rw [rounds_succ]
  go_wp2_with fail
  refine (read_n HF6.out.2.2 nm).mono ?_
  rintro e w7 ⟨rfl, hb⟩
  have HB7 := Lib.hid (HB6.out.trans (hb.mono HB6.out.size))
  have HF7 := Lib.hid (HF6.out.below hb)
  clear hb f1 f2 f3 f4 f5 f6 f7 HB6 HF6
  obtain ⟨⟨f1, f2, f3, f4, f5, f6, f7⟩, _⟩ := HF7.out
  go_wp2_with fail
  refine (append_n HF7.out.2.2 nm HN.out.1 _).mono ?_
  rintro e w' ⟨rfl, rfl⟩
  go_wp2_with fail
  refine (sync_n HF7.out.2.2 nm).mono ?_
  rintro e w8 ⟨rfl, hb⟩
  have HB8 := Lib.hid (HB7.out.trans (hb.mono HB7.out.size))
  have HF8 := Lib.hid (HF7.out.below hb)
  clear hb f1 f2 f3 f4 f5 f6 f7 HB7 HF7
  obtain ⟨⟨f1, f2, f3, f4, f5, f6, f7⟩, _⟩ := HF8.out
  go_wp2_with fail
  refine (rename_n HF8.out.2.2 nm to HN.out.2).mono ?_
  rintro e w9 ⟨rfl, hb⟩
  have HB9 := Lib.hid (HB8.out.trans (hb.mono HB8.out.size))
  have HF9 := Lib.hid (HF8.out.below hb)
  clear hb f1 f2 f3 f4 f5 f6 f7 HB8 HF8
  obtain ⟨⟨f1, f2, f3, f4, f5, f6, f7⟩, _⟩ := HF9.out
  go_wp2_with fail
  refine (trunc_n HF9.out.2.2 nm _).mono ?_
  rintro e w10 ⟨rfl, hb⟩
  have HB10 := Lib.hid (HB9.out.trans (hb.mono HB9.out.size))
  have HF10 := Lib.hid (HF9.out.below hb)
  clear hb f1 f2 f3 f4 f5 f6 f7 HB9 HF9
  obtain ⟨⟨f1, f2, f3, f4, f5, f6, f7⟩, _⟩ := HF10.out
  go_wp2_with fail
  refine (remove_n HF10.out.2.2 nm).mono ?_
  rintro e w11 ⟨rfl, hb⟩
  have HB11 := Lib.hid (HB10.out.trans (hb.mono HB10.out.size))
  have HF11 := Lib.hid (HF10.out.below hb)
  clear hb f1 f2 f3 f4 f5 f6 f7 HB10 HF10
  obtain ⟨⟨f1, f2, f3, f4, f5, f6, f7⟩, _⟩ := HF11.out
  go_wp2_with fail
  refine (fuse_n HF11.out.2.2 _).mono ?_
  rintro e w' ⟨rfl, rfl⟩
  go_wp2_with fail
  refine (room_n HF11.out.2.2 _).mono ?_
  rintro e w' ⟨rfl, rfl⟩
  go_wp2_with fail
  refine (crash_n HF11.out.2.2 _).mono ?_
  rintro e w' ⟨rfl, rfl⟩
  go_wp2_with fail
  refine (dead_n HF11.out.2.2 ).mono ?_
  rintro e w' ⟨rfl, rfl⟩
  go_wp2_with fail
  refine (names_n HF11.out.2.2 ).mono ?_
  rintro e w' ⟨rfl, rfl⟩
  go_wp2_with fail
  refine (used_n HF11.out.2.2 ).mono ?_
  rintro e w' ⟨rfl, rfl⟩
  go_wp2_with fail
  refine (copy_n HF11.out.2.2 ).mono ?_
  rintro e w' ⟨rfl, rfl⟩
  go_wp2_with fail
  rw [rounds_succ]
  go_wp2_with fail
  refine (awake_c _).mono ?_
  rintro e w' ⟨rfl, hb⟩
  have HX := Lib.hid hb
  clear hb
  go_wp2_with fail
  go_ret
  exact ⟨rfl, HB11.out.trans (HX.out.mono HB11.out.size)⟩
end Go.Proofs.Ytcpldjaoacihlaa.vdiskNobody
