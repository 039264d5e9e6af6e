/- vdisk: a disk that no call made. -/
import Derived.Test.YtopiocnpnamjmaaVs
namespace Go.Proofs.Ytopiocnpnamjmaa
open Go.RowKit
set_option linter.unusedVariables false

/-- A disk that no call made: nil, or a block without a map. -/
def NoD (w : World) (p : Option Addr) : Prop := p = none ∨ ∃ b, p = some ⟨b, 0, none⟩ ∧ w.cell? ⟨b, 2, none⟩ = some (.map none)
theorem NoD.below {w w' : World} {p : Option Addr} (h : NoD w p) (hb : Below w.heap.size w w') : NoD w' p := by
  rcases h with rfl | ⟨b, rfl, h⟩
  · exact .inl rfl
  · exact .inr ⟨b, rfl, by rw [hb.cell (World.block_lt_of_cell? w _ h)]; exact h⟩
theorem NoD.alloc {w : World} {p : Option Addr} (h : NoD w p) (o : Obj) : NoD (w.alloc o) p := h.below ((Below.refl _ _).alloc (Nat.le_refl _) o)

theorem clone_nil_c (w : World) : Calls Try.prog 27 #[.slice none 0 0] w fun e w' => e = .returned (.slice none 0 0) ∧ w = w' := by
  have hnil := @Lib.run_eql_slice_nil Try.prog
  go_enter Try.func27, Try.ntmps27
  go_wp2
  go_ret
  exact ⟨rfl, rfl⟩

section
variable {w : World} {p : Option Addr}

theorem made_n (h : NoD w p) : Calls Try.prog 29 #[.pointer p] w fun e w' => e = .returned (.bool false) ∧ w = w' := by
  have hmn := fun (w : World) (r : Option Nat) => run_neq_map_nil (P := Try.prog) w 45 _ _ r Try.underlying45
  rcases h with rfl | ⟨b, rfl, h⟩
  all_goals
    go_enter Try.func29, Try.ntmps29
    go_wp2
    go_ret
    exact ⟨rfl, rfl⟩
theorem ready_n (h : NoD w p) (v : Bool) : Calls Try.prog 39 #[.pointer p, .bool v] w fun e w' => e = .returned (.int .i64 2) ∧ w = w' := by
  go_enter Try.func39, Try.ntmps39
  go_wp2_with (go_at_call 29; refine (made_n h).mono ?_; rintro e w' ⟨rfl, rfl⟩)
  go_ret
  exact ⟨rfl, rfl⟩
theorem fuse_n (h : NoD w p) (n : Int) : Calls Try.prog 10 #[.pointer p, .int .i64 n] w fun e w' => e = .returned (.int .i64 2) ∧ w = w' := by
  go_enter Try.func10, Try.ntmps10
  go_wp2_with (go_at_call 29; refine (made_n h).mono ?_; rintro e w' ⟨rfl, rfl⟩)
  go_ret
  exact ⟨rfl, rfl⟩
set_option maxRecDepth 100000 in
theorem crash_n (h : NoD w p) (v : Value) : Calls Try.prog 12 #[.pointer p, v] w fun e w' => e = .returned (.int .i64 2) ∧ w = w' := by
  go_enter Try.func12, Try.ntmps12
  go_wp2_with (go_at_call 29; refine (made_n h).mono ?_; rintro e w' ⟨rfl, rfl⟩)
  go_ret
  exact ⟨rfl, rfl⟩
theorem names_n (h : NoD w p) : Calls Try.prog 31 #[.pointer p] w fun e w' => e = .returned (.slice none 0 0) ∧ w = w' := by
  go_enter Try.func31, Try.ntmps31
  go_wp2_with (go_at_call 29; refine (made_n h).mono ?_; rintro e w' ⟨rfl, rfl⟩)
  go_ret
  exact ⟨rfl, rfl⟩
set_option maxRecDepth 100000 in
theorem append_n (h : NoD w p) (n : ByteArray) (hn : n.size ≤ 9223372036854775807) (v : Value) : Calls Try.prog 23 #[.pointer p, .string n, v] w fun e w' => e = .returned (.int .i64 2) ∧ w = w' := by
  have HN := Lib.hid hn
  clear hn
  go_enter Try.func23, Try.ntmps23
  go_wp2_with (first | (go_at_call 40; refine (nameable_c _ n HN.out).mono ?_; rintro e w' ⟨rfl, rfl⟩) | (go_at_call 39; refine (ready_n h _).mono ?_; rintro e w' ⟨rfl, rfl⟩))
  go_ret
  exact ⟨rfl, rfl⟩
set_option maxRecDepth 100000 in
theorem find_n (h : NoD w p) (n : ByteArray) (v : Bool) : Calls Try.prog 36 #[.pointer p, .string n, .bool v] w fun e w' => e = .returned (.tuple #[noV, .int .i64 2]) ∧ Below w.heap.size w w' := by
  unfold noV
  go_enter Try.func36, Try.ntmps36
  go_wp2_with (go_at_call 39; refine (ready_n (h.alloc _) _).mono ?_; rintro e w' ⟨rfl, rfl⟩)
  exact bodyPost_ret (v := .tuple #[.agg #[.slice none 0 0, .int .i64 0], .int .i64 2]) (by simp [results, Try.results36, go_sem]) rfl ⟨rfl, (Below.refl _ _).alloc (Nat.le_refl _) _⟩
set_option maxRecDepth 100000 in
theorem begin_n (h : NoD w p) (n : ByteArray) (v : Bool) : Calls Try.prog 43 #[.pointer p, .string n, .bool v] w fun e w' => e = .returned (.tuple #[noV, .int .i64 2]) ∧ Below w.heap.size w w' := by
  have HF := Lib.hid (find_n (h.alloc (.cells #[.slice none 0 0, .int .i64 0] 63)) n v)
  clear h
  unfold noV at *
  go_enter Try.func43, Try.ntmps43
  go_wp2_with fail
  refine HF.out.mono ?_
  rintro e w2 ⟨rfl, hb⟩
  have HB := Lib.hid hb
  have hsl : w.heap.size < w2.heap.size := by have := hb.size; simp at this; omega
  obtain ⟨k0, k1, kf0, kf1⟩ := cells2 ((hb.block w.heap.size (by simp)).trans (heap_alloc_new w _))
  clear hb
  go_wp2_with fail
  have hbb : Below w.heap.size w w2 := ((Below.refl _ _).alloc (Nat.le_refl _) _).trans (HB.out.mono (by simp))
  refine bodyPost_ret (v := .tuple #[.agg #[.slice none 0 0, .int .i64 0], .int .i64 2]) (by simp [results, Try.results43, go_sem, k0, k1, hsl]) rfl ⟨rfl, ?_⟩
  first
    | exact ((hbb.setCell (by simp) _).setCell (by simp) _).alloc (by simpa using hbb.size) _
    | exact ((hbb.alloc hbb.size _).setCell (by simp) _).setCell (by simp) _
set_option maxRecDepth 100000 in
theorem sync_n (h : NoD w p) (n : ByteArray) : Calls Try.prog 25 #[.pointer p, .string n] w fun e w' => e = .returned (.int .i64 2) ∧ Below w.heap.size w w' := by
  have HB := Lib.hid (begin_n h n true)
  unfold noV at HB
  clear h
  go_enter Try.func25, Try.ntmps25
  go_wp2_with (go_at_call 43; refine HB.out.mono ?_; rintro e w' ⟨rfl, hb⟩; have HX := Lib.hid hb; clear hb)
  go_ret
  exact ⟨rfl, HX.out.alloc HX.out.size _⟩
set_option maxRecDepth 100000 in
theorem trunc_n (h : NoD w p) (n : ByteArray) (k : Int) : Calls Try.prog 38 #[.pointer p, .string n, .int .i64 k] w fun e w' => e = .returned (.int .i64 2) ∧ Below w.heap.size w w' := by
  have HB := Lib.hid (fun v => begin_n h n v)
  unfold noV at HB
  clear h
  go_enter Try.func38, Try.ntmps38
  go_wp2_with (go_at_call 43; refine (HB.out _).mono ?_; rintro e w' ⟨rfl, hb⟩; have HX := Lib.hid hb; clear hb)
  go_ret
  exact ⟨rfl, HX.out.alloc HX.out.size _⟩
set_option maxRecDepth 100000 in
theorem remove_n (h : NoD w p) (n : ByteArray) : Calls Try.prog 35 #[.pointer p, .string n] w fun e w' => e = .returned (.int .i64 2) ∧ Below w.heap.size w w' := by
  have HB := Lib.hid (begin_n h n true)
  unfold noV at HB
  clear h
  go_enter Try.func35, Try.ntmps35
  go_wp2_with (go_at_call 43; refine HB.out.mono ?_; rintro e w' ⟨rfl, hb⟩; have HX := Lib.hid hb; clear hb)
  go_ret
  first | exact ⟨rfl, HX.out.alloc HX.out.size _⟩ | exact ⟨rfl, HX.out⟩
set_option maxRecDepth 100000 in
theorem rename_n (h : NoD w p) (n m : ByteArray) (hm : m.size ≤ 9223372036854775807) : Calls Try.prog 30 #[.pointer p, .string n, .string m] w fun e w' => e = .returned (.int .i64 2) ∧ Below w.heap.size w w' := by
  have HB := Lib.hid (fun v => begin_n h n v)
  have HM := Lib.hid hm
  unfold noV at HB
  clear h hm
  go_enter Try.func30, Try.ntmps30
  go_wp2_with (first | (go_at_call 40; refine (nameable_c _ m HM.out).mono ?_; rintro e w' ⟨rfl, rfl⟩) | (go_at_call 43; refine (HB.out _).mono ?_; rintro e w' ⟨rfl, hb⟩; have HX := Lib.hid hb; clear hb))
  go_ret
  exact ⟨rfl, HX.out.alloc HX.out.size _⟩
theorem read_n (h : NoD w p) (n : ByteArray) : Calls Try.prog 19 #[.pointer p, .string n] w fun e w' => e = .returned (.tuple #[.slice none 0 0, .int .i64 2]) ∧ Below w.heap.size w w' := by
  have HB := Lib.hid (find_n h n true)
  unfold noV at HB
  clear h
  go_enter Try.func19, Try.ntmps19
  go_wp2_with fail
  refine HB.out.mono ?_
  rintro e w1 ⟨rfl, hb⟩
  have HX := Lib.hid hb
  clear hb
  go_wp2_with fail
  refine (clone_nil_c _).mono ?_
  rintro e w' ⟨rfl, rfl⟩
  go_wp2_with fail
  go_ret2
  exact ⟨rfl, HX.out.alloc HX.out.size _⟩
end
end Go.Proofs.Ytopiocnpnamjmaa
