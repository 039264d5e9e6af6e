/- The reference's Decode. -/
import Derived.Test.YtpcajjbdlfookaaGreatDoorCr
namespace Go.Proofs.YtpcajjbdlfookaaGreatDoor
open Go.RowKit
set_option linter.unusedVariables false

theorem ret2_int {a b a' b' : Int} (h : a = a') (k : b = b') : Ending.returned (.tuple #[.int .i64 a, .int .i64 b]) = Ending.returned (.tuple #[.int .i64 a', .int .i64 b']) := by rw [h, k]

/-- What a walk of Decode ends in. -/
def Ends (xs : List UInt8) (w : World) (e : Ending) (w' : World) : Prop := e = .returned (.tuple #[.int .i64 (D xs).1, .int .i64 (D xs).2]) ∧ Below w.heap.size w w'

theorem take_at (xs : List UInt8) (n : Nat) (h : n ≤ xs.length) (hn : n ≤ 4) : ∃ x0 x1 x2 x3 : UInt8, x0.toNat = at8 xs 0 ∧ x1.toNat = at8 xs 1 ∧ x2.toNat = at8 xs 2 ∧ x3.toNat = at8 xs 3 ∧ xs.take n = [x0, x1, x2, x3].take n := by
  refine ⟨xs.getD 0 0, xs.getD 1 0, xs.getD 2 0, xs.getD 3 0, rfl, rfl, rfl, rfl, ?_⟩
  match xs, n, h, hn with
  | _, 0, _, _ => simp
  | a :: _, 1, _, _ => simp
  | a :: b :: _, 2, _, _ => simp
  | a :: b :: c :: _, 3, _, _ => simp
  | a :: b :: c :: d :: _, 4, _, _ => simp

section
variable {w : World} {xs : List UInt8} {b o c : Nat}

set_option maxRecDepth 100000 in
set_option maxHeartbeats 2000000 in
theorem rd_one (HR0 : Hid (Rd w (.slice (some ⟨b, o, none⟩) xs.length c) xs)) (hl : 1 ≤ xs.length) (hlc : xs.length ≤ c) (hcm : c ≤ 9223372036854775807) (c0 : w.cell? ⟨b, o, none⟩ = some (.int .u8 (at8 xs 0))) (h1 : 0 ≤ at8 xs 0) (h2 : at8 xs 0 < 128) (hc : c = 1 ∨ 1 < c) : Calls Tryz.prog 34 #[.slice (some ⟨b, o, none⟩) xs.length c] w (Ends xs w) := by
  have HR := HR0.out
  clear HR0
  have hl0 : ((xs.length : Int) == 0) = false := by rw [beq_eq_false_iff_ne]; omega
  have HE := Lib.hid (D_one xs (by omega) h2)
  have tE : (E ((at8 xs 0 : Nat) : Int) == List.take 1 xs) = true := by
    obtain ⟨x0, x1, x2, x3, e0, e1, e2, e3, et⟩ := take_at xs 1 hl (by omega)
    rw [et, ← e0, beq_iff_eq]
    unfold E
    rw [if_neg (by omega), if_pos (by omega), u8_eq x0 _ rfl]
    rfl
  have HR' := Lib.hid HR
  clear HR
  generalize at8 xs 0 = x0 at *
  rcases hc with rfl | hc
  all_goals
    go_enter Tryz.func34, Tryz.ntmps34
    go_wp2
    go_quiet (fail)
    go_wp2_with fail
    refine wp_loop_rounds 1 ?_
    rw [rounds_succ]
    go_wp2_with fail
    have RT := Lib.hid (HR'.out.to 1 (by omega))
    have cv0 := fun m => (RT.out.below (below_drewN (Below.refl _ _) m)).conv (P := Tryz.prog) 22 5 9 Tryz.underlying22 Tryz.underlying5 Tryz.underlying9
    go_region_with (go_at_call 63; refine (rencode_c _ _ (by omega) (by omega)).mono ?_; rintro e w1 ⟨v1, rfl, hr1, hb1⟩; have cv1 := hr1.conv (P := Tryz.prog) 22 5 9 Tryz.underlying22 Tryz.underlying5 Tryz.underlying9; have hb0 : Below w.heap.size w w1 := (below_drewN (Below.refl _ _) _).trans hb1; have cv2 := (RT.out.below hb0).conv (P := Tryz.prog) 22 5 9 Tryz.underlying22 Tryz.underlying5 Tryz.underlying9; have HB1 := Lib.hid hb0; clear hr1 hb1 hb0)
  all_goals go_wp2_with fail
  all_goals go_ret2
  all_goals exact ⟨by rw [HE.out]; exact ret2_int rfl rfl, HB1.out⟩

set_option maxRecDepth 100000 in
set_option maxHeartbeats 2000000 in
theorem rd_cont (HR0 : Hid (Rd w (.slice (some ⟨b, o, none⟩) xs.length c) xs)) (hl : 1 ≤ xs.length) (hlc : xs.length ≤ c) (hcm : c ≤ 9223372036854775807) (c0 : w.cell? ⟨b, o, none⟩ = some (.int .u8 (at8 xs 0))) (h1 : 128 ≤ at8 xs 0) (h2 : at8 xs 0 < 192) (hc : c = 1 ∨ 1 < c) : Calls Tryz.prog 34 #[.slice (some ⟨b, o, none⟩) xs.length c] w (Ends xs w) := by
  have HR := HR0.out
  clear HR0
  have hl0 : ((xs.length : Int) == 0) = false := by rw [beq_eq_false_iff_ne]; omega
  have HE := Lib.hid (D_cont xs (by omega) h1 h2)
  have tE : (E ((at8 xs 0 : Nat) : Int) == List.take 1 xs) = false := by
    obtain ⟨x0, x1, x2, x3, e0, e1, e2, e3, et⟩ := take_at xs 1 hl (by omega)
    rw [et, beq_eq_false_iff_ne]
    unfold E
    rw [if_neg (by omega), if_neg (by omega), if_pos (by omega)]
    simp
  have HR' := Lib.hid HR
  clear HR
  generalize at8 xs 0 = x0 at *
  rcases hc with rfl | hc
  all_goals
    go_enter Tryz.func34, Tryz.ntmps34
    go_wp2
    go_quiet (fail)
    go_wp2_with fail
    refine wp_loop_rounds 1 ?_
    rw [rounds_succ]
    go_wp2_with fail
    have RT := Lib.hid (HR'.out.to 1 (by omega))
    have cv0 := fun m => (RT.out.below (below_drewN (Below.refl _ _) m)).conv (P := Tryz.prog) 22 5 9 Tryz.underlying22 Tryz.underlying5 Tryz.underlying9
    go_region_with (go_at_call 63; refine (rencode_c _ _ (by omega) (by omega)).mono ?_; rintro e w1 ⟨v1, rfl, hr1, hb1⟩; have cv1 := hr1.conv (P := Tryz.prog) 22 5 9 Tryz.underlying22 Tryz.underlying5 Tryz.underlying9; have hb0 : Below w.heap.size w w1 := (below_drewN (Below.refl _ _) _).trans hb1; have cv2 := (RT.out.below hb0).conv (P := Tryz.prog) 22 5 9 Tryz.underlying22 Tryz.underlying5 Tryz.underlying9; have HB1 := Lib.hid hb0; clear hr1 hb1 hb0)
  all_goals go_wp2_with fail
  all_goals go_ret2
  all_goals exact ⟨by rw [HE.out]; exact ret2_int rfl rfl, HB1.out⟩

set_option maxRecDepth 100000 in
set_option maxHeartbeats 2000000 in
theorem rd_2_short (HR0 : Hid (Rd w (.slice (some ⟨b, o, none⟩) xs.length c) xs)) (hl : 1 ≤ xs.length) (hlc : xs.length ≤ c) (hcm : c ≤ 9223372036854775807) (c0 : w.cell? ⟨b, o, none⟩ = some (.int .u8 (at8 xs 0))) (h1 : 192 ≤ at8 xs 0) (h2 : at8 xs 0 < 224) (hs : xs.length < 2) : Calls Tryz.prog 34 #[.slice (some ⟨b, o, none⟩) xs.length c] w (Ends xs w) := by
  have hl0 : ((xs.length : Int) == 0) = false := by rw [beq_eq_false_iff_ne]; omega
  have HE := Lib.hid (D_two_bad xs (by omega) h1 h2 (by omega))
  clear HR0
  generalize at8 xs 0 = x0 at *
  go_enter Tryz.func34, Tryz.ntmps34
  go_wp2
  go_quiet (fail)
  go_wp2_with fail
  go_quiet (fail)
  go_wp2_with fail
  go_ret2
  exact ⟨by rw [HE.out]; exact ret2_int rfl rfl, below_drewN (Below.refl _ _) _⟩

set_option maxRecDepth 100000 in
set_option maxHeartbeats 2000000 in
theorem rd_2_bad1 (HR0 : Hid (Rd w (.slice (some ⟨b, o, none⟩) xs.length c) xs)) (hl : 1 ≤ xs.length) (hlc : xs.length ≤ c) (hcm : c ≤ 9223372036854775807) (c0 : w.cell? ⟨b, o, none⟩ = some (.int .u8 (at8 xs 0))) (h1 : 192 ≤ at8 xs 0) (h2 : at8 xs 0 < 224) (hs : 2 ≤ xs.length) (c1 : w.cell? ⟨b, o + 1, none⟩ = some (.int .u8 (at8 xs 1)))  (hb : at8 xs 1 < 128 ∨ 192 ≤ at8 xs 1) : Calls Tryz.prog 34 #[.slice (some ⟨b, o, none⟩) xs.length c] w (Ends xs w) := by
  have hl0 : ((xs.length : Int) == 0) = false := by rw [beq_eq_false_iff_ne]; omega
  have HE := Lib.hid (D_two_bad xs (by omega) h1 h2 (by omega))
  have hm := at8_lt xs 1
  clear HR0
  generalize at8 xs 0 = x0 at *
  generalize at8 xs 1 = x1 at *
  rcases hb with hb | hb
  all_goals
    go_enter Tryz.func34, Tryz.ntmps34
    go_wp2
    go_quiet (fail)
    go_wp2_with fail
    go_quiet (fail)
    go_wp2_with fail
    refine wp_loop_rounds 1 ?_
    rw [rounds_succ]
    go_wp2_with fail
    go_ret2
    exact ⟨by rw [HE.out]; exact ret2_int rfl rfl, below_drewN (Below.refl _ _) _⟩

set_option maxRecDepth 100000 in
set_option maxHeartbeats 4000000 in
theorem rd_2_yes (HR0 : Hid (Rd w (.slice (some ⟨b, o, none⟩) xs.length c) xs)) (hl : 1 ≤ xs.length) (hlc : xs.length ≤ c) (hcm : c ≤ 9223372036854775807) (c0 : w.cell? ⟨b, o, none⟩ = some (.int .u8 (at8 xs 0))) (h1 : 192 ≤ at8 xs 0) (h2 : at8 xs 0 < 224) (hs : 2 ≤ xs.length) (c1 : w.cell? ⟨b, o + 1, none⟩ = some (.int .u8 (at8 xs 1))) (g1 : 128 ≤ at8 xs 1) (k1 : at8 xs 1 < 192) (hq : 128 ≤ ((at8 xs 0 - 192) * 64 + (at8 xs 1 - 128))) : Calls Tryz.prog 34 #[.slice (some ⟨b, o, none⟩) xs.length c] w (Ends xs w) := by
  have hl0 : ((xs.length : Int) == 0) = false := by rw [beq_eq_false_iff_ne]; omega
  have HE := D_two xs hs h1 h2 g1 k1
  rw [if_pos hq] at HE
  have HE := Lib.hid HE
  have tE : (E ((((at8 xs 0 : Nat) : Int) - 192) * 64 + ((at8 xs 1 : Nat) : Int) - 128) == List.take 2 xs) = true := by
    obtain ⟨x0, x1, x2, x3, e0, e1, e2, e3, et⟩ := take_at xs 2 hs (by omega)
    rw [et, beq_iff_eq]
    exact (E_two x0 x1 _ (by omega) (by omega) (by omega) (by omega) (by omega)).2 (by omega)
  have hR := Lib.hid (show (((at8 xs 0 : Nat) : Int) - 192) * 64 + ((at8 xs 1 : Nat) : Int) - 128 = (((at8 xs 0 - 192) * 64 + (at8 xs 1 - 128) : Nat) : Int) from by omega)
  clear hq
  have HR' := HR0
  clear HR0
  generalize at8 xs 0 = x0 at *
  generalize at8 xs 1 = x1 at *
  go_enter Tryz.func34, Tryz.ntmps34
  go_wp2
  go_quiet (fail)
  go_wp2_with fail
  go_quiet (fail)
  go_wp2_with fail
  refine wp_loop_rounds 2 ?_
  rw [rounds_succ]
  go_wp2_with fail
  rw [rounds_succ]
  go_wp2_with fail
  have RT := Lib.hid (HR'.out.to 2 (by omega))
  have cv0 := fun m => (RT.out.below (below_drewN (Below.refl _ _) m)).conv (P := Tryz.prog) 22 5 9 Tryz.underlying22 Tryz.underlying5 Tryz.underlying9
  go_region_with (go_at_call 63; refine (rencode_c _ _ (by omega) (by omega)).mono ?_; rintro e w1 ⟨v1, rfl, hr1, hb1⟩; have cv1 := hr1.conv (P := Tryz.prog) 22 5 9 Tryz.underlying22 Tryz.underlying5 Tryz.underlying9; have hb0 : Below w.heap.size w w1 := (below_drewN (Below.refl _ _) _).trans hb1; have cv2 := (RT.out.below hb0).conv (P := Tryz.prog) 22 5 9 Tryz.underlying22 Tryz.underlying5 Tryz.underlying9; have HB1 := Lib.hid hb0; clear hr1 hb1 hb0)
  all_goals go_wp2_with fail
  all_goals go_ret2
  all_goals exact ⟨by rw [HE.out]; exact ret2_int hR.out rfl, HB1.out⟩

set_option maxRecDepth 100000 in
set_option maxHeartbeats 4000000 in
theorem rd_2_no (HR0 : Hid (Rd w (.slice (some ⟨b, o, none⟩) xs.length c) xs)) (hl : 1 ≤ xs.length) (hlc : xs.length ≤ c) (hcm : c ≤ 9223372036854775807) (c0 : w.cell? ⟨b, o, none⟩ = some (.int .u8 (at8 xs 0))) (h1 : 192 ≤ at8 xs 0) (h2 : at8 xs 0 < 224) (hs : 2 ≤ xs.length) (c1 : w.cell? ⟨b, o + 1, none⟩ = some (.int .u8 (at8 xs 1))) (g1 : 128 ≤ at8 xs 1) (k1 : at8 xs 1 < 192) (hq : ¬ (128 ≤ ((at8 xs 0 - 192) * 64 + (at8 xs 1 - 128)))) : Calls Tryz.prog 34 #[.slice (some ⟨b, o, none⟩) xs.length c] w (Ends xs w) := by
  have hl0 : ((xs.length : Int) == 0) = false := by rw [beq_eq_false_iff_ne]; omega
  have HE := D_two xs hs h1 h2 g1 k1
  rw [if_neg hq] at HE
  have HE := Lib.hid HE
  have tE : (E ((((at8 xs 0 : Nat) : Int) - 192) * 64 + ((at8 xs 1 : Nat) : Int) - 128) == List.take 2 xs) = false := by
    obtain ⟨x0, x1, x2, x3, e0, e1, e2, e3, et⟩ := take_at xs 2 hs (by omega)
    rw [et, beq_eq_false_iff_ne]
    exact fun h => hq (by have := (E_two x0 x1 _ (by omega) (by omega) (by omega) (by omega) (by omega)).1 h; omega)
  clear hq
  have HR' := HR0
  clear HR0
  generalize at8 xs 0 = x0 at *
  generalize at8 xs 1 = x1 at *
  go_enter Tryz.func34, Tryz.ntmps34
  go_wp2
  go_quiet (fail)
  go_wp2_with fail
  go_quiet (fail)
  go_wp2_with fail
  refine wp_loop_rounds 2 ?_
  rw [rounds_succ]
  go_wp2_with fail
  rw [rounds_succ]
  go_wp2_with fail
  have RT := Lib.hid (HR'.out.to 2 (by omega))
  have cv0 := fun m => (RT.out.below (below_drewN (Below.refl _ _) m)).conv (P := Tryz.prog) 22 5 9 Tryz.underlying22 Tryz.underlying5 Tryz.underlying9
  go_region_with (go_at_call 63; refine (rencode_c _ _ (by omega) (by omega)).mono ?_; rintro e w1 ⟨v1, rfl, hr1, hb1⟩; have cv1 := hr1.conv (P := Tryz.prog) 22 5 9 Tryz.underlying22 Tryz.underlying5 Tryz.underlying9; have hb0 : Below w.heap.size w w1 := (below_drewN (Below.refl _ _) _).trans hb1; have cv2 := (RT.out.below hb0).conv (P := Tryz.prog) 22 5 9 Tryz.underlying22 Tryz.underlying5 Tryz.underlying9; have HB1 := Lib.hid hb0; clear hr1 hb1 hb0)
  all_goals go_wp2_with fail
  all_goals go_ret2
  all_goals exact ⟨by rw [HE.out]; exact ret2_int rfl rfl, HB1.out⟩

set_option maxRecDepth 100000 in
set_option maxHeartbeats 2000000 in
theorem rd_3_short (HR0 : Hid (Rd w (.slice (some ⟨b, o, none⟩) xs.length c) xs)) (hl : 1 ≤ xs.length) (hlc : xs.length ≤ c) (hcm : c ≤ 9223372036854775807) (c0 : w.cell? ⟨b, o, none⟩ = some (.int .u8 (at8 xs 0))) (h1 : 224 ≤ at8 xs 0) (h2 : at8 xs 0 < 240) (hs : xs.length < 3) : Calls Tryz.prog 34 #[.slice (some ⟨b, o, none⟩) xs.length c] w (Ends xs w) := by
  have hl0 : ((xs.length : Int) == 0) = false := by rw [beq_eq_false_iff_ne]; omega
  have HE := Lib.hid (D_three_bad xs (by omega) h1 h2 (by omega))
  clear HR0
  generalize at8 xs 0 = x0 at *
  go_enter Tryz.func34, Tryz.ntmps34
  go_wp2
  go_quiet (fail)
  go_wp2_with fail
  go_quiet (fail)
  go_wp2_with fail
  go_ret2
  exact ⟨by rw [HE.out]; exact ret2_int rfl rfl, below_drewN (Below.refl _ _) _⟩

set_option maxRecDepth 100000 in
set_option maxHeartbeats 2000000 in
theorem rd_3_bad1 (HR0 : Hid (Rd w (.slice (some ⟨b, o, none⟩) xs.length c) xs)) (hl : 1 ≤ xs.length) (hlc : xs.length ≤ c) (hcm : c ≤ 9223372036854775807) (c0 : w.cell? ⟨b, o, none⟩ = some (.int .u8 (at8 xs 0))) (h1 : 224 ≤ at8 xs 0) (h2 : at8 xs 0 < 240) (hs : 3 ≤ xs.length) (c1 : w.cell? ⟨b, o + 1, none⟩ = some (.int .u8 (at8 xs 1))) (c2 : w.cell? ⟨b, o + 1 + 1, none⟩ = some (.int .u8 (at8 xs 2)))  (hb : at8 xs 1 < 128 ∨ 192 ≤ at8 xs 1) : Calls Tryz.prog 34 #[.slice (some ⟨b, o, none⟩) xs.length c] w (Ends xs w) := by
  have hl0 : ((xs.length : Int) == 0) = false := by rw [beq_eq_false_iff_ne]; omega
  have HE := Lib.hid (D_three_bad xs (by omega) h1 h2 (by omega))
  have hm := at8_lt xs 1
  clear HR0
  generalize at8 xs 0 = x0 at *
  generalize at8 xs 1 = x1 at *
  generalize at8 xs 2 = x2 at *
  rcases hb with hb | hb
  all_goals
    go_enter Tryz.func34, Tryz.ntmps34
    go_wp2
    go_quiet (fail)
    go_wp2_with fail
    go_quiet (fail)
    go_wp2_with fail
    refine wp_loop_rounds 1 ?_
    rw [rounds_succ]
    go_wp2_with fail
    go_ret2
    exact ⟨by rw [HE.out]; exact ret2_int rfl rfl, below_drewN (Below.refl _ _) _⟩

set_option maxRecDepth 100000 in
set_option maxHeartbeats 2000000 in
theorem rd_3_bad2 (HR0 : Hid (Rd w (.slice (some ⟨b, o, none⟩) xs.length c) xs)) (hl : 1 ≤ xs.length) (hlc : xs.length ≤ c) (hcm : c ≤ 9223372036854775807) (c0 : w.cell? ⟨b, o, none⟩ = some (.int .u8 (at8 xs 0))) (h1 : 224 ≤ at8 xs 0) (h2 : at8 xs 0 < 240) (hs : 3 ≤ xs.length) (c1 : w.cell? ⟨b, o + 1, none⟩ = some (.int .u8 (at8 xs 1))) (c2 : w.cell? ⟨b, o + 1 + 1, none⟩ = some (.int .u8 (at8 xs 2))) (g1 : 128 ≤ at8 xs 1) (k1 : at8 xs 1 < 192) (hb : at8 xs 2 < 128 ∨ 192 ≤ at8 xs 2) : Calls Tryz.prog 34 #[.slice (some ⟨b, o, none⟩) xs.length c] w (Ends xs w) := by
  have hl0 : ((xs.length : Int) == 0) = false := by rw [beq_eq_false_iff_ne]; omega
  have HE := Lib.hid (D_three_bad xs (by omega) h1 h2 (by omega))
  have hm := at8_lt xs 2
  clear HR0
  generalize at8 xs 0 = x0 at *
  generalize at8 xs 1 = x1 at *
  generalize at8 xs 2 = x2 at *
  rcases hb with hb | hb
  all_goals
    go_enter Tryz.func34, Tryz.ntmps34
    go_wp2
    go_quiet (fail)
    go_wp2_with fail
    go_quiet (fail)
    go_wp2_with fail
    refine wp_loop_rounds 2 ?_
    rw [rounds_succ]
    go_wp2_with fail
    rw [rounds_succ]
    go_wp2_with fail
    go_ret2
    exact ⟨by rw [HE.out]; exact ret2_int rfl rfl, below_drewN (Below.refl _ _) _⟩

set_option maxRecDepth 100000 in
set_option maxHeartbeats 4000000 in
theorem rd_3_yes (HR0 : Hid (Rd w (.slice (some ⟨b, o, none⟩) xs.length c) xs)) (hl : 1 ≤ xs.length) (hlc : xs.length ≤ c) (hcm : c ≤ 9223372036854775807) (c0 : w.cell? ⟨b, o, none⟩ = some (.int .u8 (at8 xs 0))) (h1 : 224 ≤ at8 xs 0) (h2 : at8 xs 0 < 240) (hs : 3 ≤ xs.length) (c1 : w.cell? ⟨b, o + 1, none⟩ = some (.int .u8 (at8 xs 1))) (c2 : w.cell? ⟨b, o + 1 + 1, none⟩ = some (.int .u8 (at8 xs 2))) (g1 : 128 ≤ at8 xs 1) (k1 : at8 xs 1 < 192) (g2 : 128 ≤ at8 xs 2) (k2 : at8 xs 2 < 192) (hq : 2048 ≤ ((at8 xs 0 - 224) * 4096 + (at8 xs 1 - 128) * 64 + (at8 xs 2 - 128)) ∧ (((at8 xs 0 - 224) * 4096 + (at8 xs 1 - 128) * 64 + (at8 xs 2 - 128)) < 55296 ∨ 57344 ≤ ((at8 xs 0 - 224) * 4096 + (at8 xs 1 - 128) * 64 + (at8 xs 2 - 128)))) : Calls Tryz.prog 34 #[.slice (some ⟨b, o, none⟩) xs.length c] w (Ends xs w) := by
  have hl0 : ((xs.length : Int) == 0) = false := by rw [beq_eq_false_iff_ne]; omega
  have HE := D_three xs hs h1 h2 g1 k1 g2 k2 _ rfl
  rw [if_pos hq] at HE
  have HE := Lib.hid HE
  have tE : (E (((((at8 xs 0 : Nat) : Int) - 224) * 64 + ((at8 xs 1 : Nat) : Int) - 128) * 64 + ((at8 xs 2 : Nat) : Int) - 128) == List.take 3 xs) = true := by
    obtain ⟨x0, x1, x2, x3, e0, e1, e2, e3, et⟩ := take_at xs 3 hs (by omega)
    rw [et, beq_iff_eq]
    exact (E_three x0 x1 x2 _ (by omega) (by omega) (by omega) (by omega) (by omega) (by omega) (by omega)).2 (by omega)
  have hR := Lib.hid (show ((((at8 xs 0 : Nat) : Int) - 224) * 64 + ((at8 xs 1 : Nat) : Int) - 128) * 64 + ((at8 xs 2 : Nat) : Int) - 128 = (((at8 xs 0 - 224) * 4096 + (at8 xs 1 - 128) * 64 + (at8 xs 2 - 128) : Nat) : Int) from by omega)
  clear hq
  have HR' := HR0
  clear HR0
  generalize at8 xs 0 = x0 at *
  generalize at8 xs 1 = x1 at *
  generalize at8 xs 2 = x2 at *
  go_enter Tryz.func34, Tryz.ntmps34
  go_wp2
  go_quiet (fail)
  go_wp2_with fail
  go_quiet (fail)
  go_wp2_with fail
  refine wp_loop_rounds 3 ?_
  rw [rounds_succ]
  go_wp2_with fail
  rw [rounds_succ]
  go_wp2_with fail
  rw [rounds_succ]
  go_wp2_with fail
  have RT := Lib.hid (HR'.out.to 3 (by omega))
  have cv0 := fun m => (RT.out.below (below_drewN (Below.refl _ _) m)).conv (P := Tryz.prog) 22 5 9 Tryz.underlying22 Tryz.underlying5 Tryz.underlying9
  go_region_with (go_at_call 63; refine (rencode_c _ _ (by omega) (by omega)).mono ?_; rintro e w1 ⟨v1, rfl, hr1, hb1⟩; have cv1 := hr1.conv (P := Tryz.prog) 22 5 9 Tryz.underlying22 Tryz.underlying5 Tryz.underlying9; have hb0 : Below w.heap.size w w1 := (below_drewN (Below.refl _ _) _).trans hb1; have cv2 := (RT.out.below hb0).conv (P := Tryz.prog) 22 5 9 Tryz.underlying22 Tryz.underlying5 Tryz.underlying9; have HB1 := Lib.hid hb0; clear hr1 hb1 hb0)
  all_goals go_wp2_with fail
  all_goals go_ret2
  all_goals exact ⟨by rw [HE.out]; exact ret2_int hR.out rfl, HB1.out⟩

set_option maxRecDepth 100000 in
set_option maxHeartbeats 4000000 in
theorem rd_3_no (HR0 : Hid (Rd w (.slice (some ⟨b, o, none⟩) xs.length c) xs)) (hl : 1 ≤ xs.length) (hlc : xs.length ≤ c) (hcm : c ≤ 9223372036854775807) (c0 : w.cell? ⟨b, o, none⟩ = some (.int .u8 (at8 xs 0))) (h1 : 224 ≤ at8 xs 0) (h2 : at8 xs 0 < 240) (hs : 3 ≤ xs.length) (c1 : w.cell? ⟨b, o + 1, none⟩ = some (.int .u8 (at8 xs 1))) (c2 : w.cell? ⟨b, o + 1 + 1, none⟩ = some (.int .u8 (at8 xs 2))) (g1 : 128 ≤ at8 xs 1) (k1 : at8 xs 1 < 192) (g2 : 128 ≤ at8 xs 2) (k2 : at8 xs 2 < 192) (hq : ¬ (2048 ≤ ((at8 xs 0 - 224) * 4096 + (at8 xs 1 - 128) * 64 + (at8 xs 2 - 128)) ∧ (((at8 xs 0 - 224) * 4096 + (at8 xs 1 - 128) * 64 + (at8 xs 2 - 128)) < 55296 ∨ 57344 ≤ ((at8 xs 0 - 224) * 4096 + (at8 xs 1 - 128) * 64 + (at8 xs 2 - 128))))) : Calls Tryz.prog 34 #[.slice (some ⟨b, o, none⟩) xs.length c] w (Ends xs w) := by
  have hl0 : ((xs.length : Int) == 0) = false := by rw [beq_eq_false_iff_ne]; omega
  have HE := D_three xs hs h1 h2 g1 k1 g2 k2 _ rfl
  rw [if_neg hq] at HE
  have HE := Lib.hid HE
  have tE : (E (((((at8 xs 0 : Nat) : Int) - 224) * 64 + ((at8 xs 1 : Nat) : Int) - 128) * 64 + ((at8 xs 2 : Nat) : Int) - 128) == List.take 3 xs) = false := by
    obtain ⟨x0, x1, x2, x3, e0, e1, e2, e3, et⟩ := take_at xs 3 hs (by omega)
    rw [et, beq_eq_false_iff_ne]
    exact fun h => hq (by have := (E_three x0 x1 x2 _ (by omega) (by omega) (by omega) (by omega) (by omega) (by omega) (by omega)).1 h; omega)
  clear hq
  have HR' := HR0
  clear HR0
  generalize at8 xs 0 = x0 at *
  generalize at8 xs 1 = x1 at *
  generalize at8 xs 2 = x2 at *
  go_enter Tryz.func34, Tryz.ntmps34
  go_wp2
  go_quiet (fail)
  go_wp2_with fail
  go_quiet (fail)
  go_wp2_with fail
  refine wp_loop_rounds 3 ?_
  rw [rounds_succ]
  go_wp2_with fail
  rw [rounds_succ]
  go_wp2_with fail
  rw [rounds_succ]
  go_wp2_with fail
  have RT := Lib.hid (HR'.out.to 3 (by omega))
  have cv0 := fun m => (RT.out.below (below_drewN (Below.refl _ _) m)).conv (P := Tryz.prog) 22 5 9 Tryz.underlying22 Tryz.underlying5 Tryz.underlying9
  go_region_with (go_at_call 63; refine (rencode_c _ _ (by omega) (by omega)).mono ?_; rintro e w1 ⟨v1, rfl, hr1, hb1⟩; have cv1 := hr1.conv (P := Tryz.prog) 22 5 9 Tryz.underlying22 Tryz.underlying5 Tryz.underlying9; have hb0 : Below w.heap.size w w1 := (below_drewN (Below.refl _ _) _).trans hb1; have cv2 := (RT.out.below hb0).conv (P := Tryz.prog) 22 5 9 Tryz.underlying22 Tryz.underlying5 Tryz.underlying9; have HB1 := Lib.hid hb0; clear hr1 hb1 hb0)
  all_goals go_wp2_with fail
  all_goals go_ret2
  all_goals exact ⟨by rw [HE.out]; exact ret2_int rfl rfl, HB1.out⟩

set_option maxRecDepth 100000 in
set_option maxHeartbeats 2000000 in
theorem rd_4_short (HR0 : Hid (Rd w (.slice (some ⟨b, o, none⟩) xs.length c) xs)) (hl : 1 ≤ xs.length) (hlc : xs.length ≤ c) (hcm : c ≤ 9223372036854775807) (c0 : w.cell? ⟨b, o, none⟩ = some (.int .u8 (at8 xs 0))) (h1 : 240 ≤ at8 xs 0) (h2 : at8 xs 0 < 256) (hs : xs.length < 4) : Calls Tryz.prog 34 #[.slice (some ⟨b, o, none⟩) xs.length c] w (Ends xs w) := by
  have hl0 : ((xs.length : Int) == 0) = false := by rw [beq_eq_false_iff_ne]; omega
  have HE := Lib.hid (D_four_bad xs (by omega) h1 (by omega))
  clear HR0
  generalize at8 xs 0 = x0 at *
  go_enter Tryz.func34, Tryz.ntmps34
  go_wp2
  go_quiet (fail)
  go_wp2_with fail
  go_quiet (fail)
  go_wp2_with fail
  go_ret2
  exact ⟨by rw [HE.out]; exact ret2_int rfl rfl, below_drewN (Below.refl _ _) _⟩

set_option maxRecDepth 100000 in
set_option maxHeartbeats 2000000 in
theorem rd_4_bad1 (HR0 : Hid (Rd w (.slice (some ⟨b, o, none⟩) xs.length c) xs)) (hl : 1 ≤ xs.length) (hlc : xs.length ≤ c) (hcm : c ≤ 9223372036854775807) (c0 : w.cell? ⟨b, o, none⟩ = some (.int .u8 (at8 xs 0))) (h1 : 240 ≤ at8 xs 0) (h2 : at8 xs 0 < 256) (hs : 4 ≤ xs.length) (c1 : w.cell? ⟨b, o + 1, none⟩ = some (.int .u8 (at8 xs 1))) (c2 : w.cell? ⟨b, o + 1 + 1, none⟩ = some (.int .u8 (at8 xs 2))) (c3 : w.cell? ⟨b, o + 1 + 2, none⟩ = some (.int .u8 (at8 xs 3)))  (hb : at8 xs 1 < 128 ∨ 192 ≤ at8 xs 1) : Calls Tryz.prog 34 #[.slice (some ⟨b, o, none⟩) xs.length c] w (Ends xs w) := by
  have hl0 : ((xs.length : Int) == 0) = false := by rw [beq_eq_false_iff_ne]; omega
  have HE := Lib.hid (D_four_bad xs (by omega) h1 (by omega))
  have hm := at8_lt xs 1
  clear HR0
  generalize at8 xs 0 = x0 at *
  generalize at8 xs 1 = x1 at *
  generalize at8 xs 2 = x2 at *
  generalize at8 xs 3 = x3 at *
  rcases hb with hb | hb
  all_goals
    go_enter Tryz.func34, Tryz.ntmps34
    go_wp2
    go_quiet (fail)
    go_wp2_with fail
    go_quiet (fail)
    go_wp2_with fail
    refine wp_loop_rounds 1 ?_
    rw [rounds_succ]
    go_wp2_with fail
    go_ret2
    exact ⟨by rw [HE.out]; exact ret2_int rfl rfl, below_drewN (Below.refl _ _) _⟩

set_option maxRecDepth 100000 in
set_option maxHeartbeats 2000000 in
theorem rd_4_bad2 (HR0 : Hid (Rd w (.slice (some ⟨b, o, none⟩) xs.length c) xs)) (hl : 1 ≤ xs.length) (hlc : xs.length ≤ c) (hcm : c ≤ 9223372036854775807) (c0 : w.cell? ⟨b, o, none⟩ = some (.int .u8 (at8 xs 0))) (h1 : 240 ≤ at8 xs 0) (h2 : at8 xs 0 < 256) (hs : 4 ≤ xs.length) (c1 : w.cell? ⟨b, o + 1, none⟩ = some (.int .u8 (at8 xs 1))) (c2 : w.cell? ⟨b, o + 1 + 1, none⟩ = some (.int .u8 (at8 xs 2))) (c3 : w.cell? ⟨b, o + 1 + 2, none⟩ = some (.int .u8 (at8 xs 3))) (g1 : 128 ≤ at8 xs 1) (k1 : at8 xs 1 < 192) (hb : at8 xs 2 < 128 ∨ 192 ≤ at8 xs 2) : Calls Tryz.prog 34 #[.slice (some ⟨b, o, none⟩) xs.length c] w (Ends xs w) := by
  have hl0 : ((xs.length : Int) == 0) = false := by rw [beq_eq_false_iff_ne]; omega
  have HE := Lib.hid (D_four_bad xs (by omega) h1 (by omega))
  have hm := at8_lt xs 2
  clear HR0
  generalize at8 xs 0 = x0 at *
  generalize at8 xs 1 = x1 at *
  generalize at8 xs 2 = x2 at *
  generalize at8 xs 3 = x3 at *
  rcases hb with hb | hb
  all_goals
    go_enter Tryz.func34, Tryz.ntmps34
    go_wp2
    go_quiet (fail)
    go_wp2_with fail
    go_quiet (fail)
    go_wp2_with fail
    refine wp_loop_rounds 2 ?_
    rw [rounds_succ]
    go_wp2_with fail
    rw [rounds_succ]
    go_wp2_with fail
    go_ret2
    exact ⟨by rw [HE.out]; exact ret2_int rfl rfl, below_drewN (Below.refl _ _) _⟩

set_option maxRecDepth 100000 in
set_option maxHeartbeats 2000000 in
theorem rd_4_bad3 (HR0 : Hid (Rd w (.slice (some ⟨b, o, none⟩) xs.length c) xs)) (hl : 1 ≤ xs.length) (hlc : xs.length ≤ c) (hcm : c ≤ 9223372036854775807) (c0 : w.cell? ⟨b, o, none⟩ = some (.int .u8 (at8 xs 0))) (h1 : 240 ≤ at8 xs 0) (h2 : at8 xs 0 < 256) (hs : 4 ≤ xs.length) (c1 : w.cell? ⟨b, o + 1, none⟩ = some (.int .u8 (at8 xs 1))) (c2 : w.cell? ⟨b, o + 1 + 1, none⟩ = some (.int .u8 (at8 xs 2))) (c3 : w.cell? ⟨b, o + 1 + 2, none⟩ = some (.int .u8 (at8 xs 3))) (g1 : 128 ≤ at8 xs 1) (k1 : at8 xs 1 < 192) (g2 : 128 ≤ at8 xs 2) (k2 : at8 xs 2 < 192) (hb : at8 xs 3 < 128 ∨ 192 ≤ at8 xs 3) : Calls Tryz.prog 34 #[.slice (some ⟨b, o, none⟩) xs.length c] w (Ends xs w) := by
  have hl0 : ((xs.length : Int) == 0) = false := by rw [beq_eq_false_iff_ne]; omega
  have HE := Lib.hid (D_four_bad xs (by omega) h1 (by omega))
  have hm := at8_lt xs 3
  clear HR0
  generalize at8 xs 0 = x0 at *
  generalize at8 xs 1 = x1 at *
  generalize at8 xs 2 = x2 at *
  generalize at8 xs 3 = x3 at *
  rcases hb with hb | hb
  all_goals
    go_enter Tryz.func34, Tryz.ntmps34
    go_wp2
    go_quiet (fail)
    go_wp2_with fail
    go_quiet (fail)
    go_wp2_with fail
    refine wp_loop_rounds 3 ?_
    rw [rounds_succ]
    go_wp2_with fail
    rw [rounds_succ]
    go_wp2_with fail
    rw [rounds_succ]
    go_wp2_with fail
    go_ret2
    exact ⟨by rw [HE.out]; exact ret2_int rfl rfl, below_drewN (Below.refl _ _) _⟩

set_option maxRecDepth 100000 in
set_option maxHeartbeats 4000000 in
theorem rd_4_yes (HR0 : Hid (Rd w (.slice (some ⟨b, o, none⟩) xs.length c) xs)) (hl : 1 ≤ xs.length) (hlc : xs.length ≤ c) (hcm : c ≤ 9223372036854775807) (c0 : w.cell? ⟨b, o, none⟩ = some (.int .u8 (at8 xs 0))) (h1 : 240 ≤ at8 xs 0) (h2 : at8 xs 0 < 256) (hs : 4 ≤ xs.length) (c1 : w.cell? ⟨b, o + 1, none⟩ = some (.int .u8 (at8 xs 1))) (c2 : w.cell? ⟨b, o + 1 + 1, none⟩ = some (.int .u8 (at8 xs 2))) (c3 : w.cell? ⟨b, o + 1 + 2, none⟩ = some (.int .u8 (at8 xs 3))) (g1 : 128 ≤ at8 xs 1) (k1 : at8 xs 1 < 192) (g2 : 128 ≤ at8 xs 2) (k2 : at8 xs 2 < 192) (g3 : 128 ≤ at8 xs 3) (k3 : at8 xs 3 < 192) (hq : 65536 ≤ ((at8 xs 0 - 240) * 262144 + (at8 xs 1 - 128) * 4096 + (at8 xs 2 - 128) * 64 + (at8 xs 3 - 128)) ∧ ((at8 xs 0 - 240) * 262144 + (at8 xs 1 - 128) * 4096 + (at8 xs 2 - 128) * 64 + (at8 xs 3 - 128)) ≤ 1114111) : Calls Tryz.prog 34 #[.slice (some ⟨b, o, none⟩) xs.length c] w (Ends xs w) := by
  have hl0 : ((xs.length : Int) == 0) = false := by rw [beq_eq_false_iff_ne]; omega
  have HE := D_four xs hs h1 g1 k1 g2 k2 g3 k3 _ rfl
  rw [if_pos hq] at HE
  have HE := Lib.hid HE
  have tE : (E ((((((at8 xs 0 : Nat) : Int) - 240) * 64 + ((at8 xs 1 : Nat) : Int) - 128) * 64 + ((at8 xs 2 : Nat) : Int) - 128) * 64 + ((at8 xs 3 : Nat) : Int) - 128) == List.take 4 xs) = true := by
    obtain ⟨x0, x1, x2, x3, e0, e1, e2, e3, et⟩ := take_at xs 4 hs (by omega)
    rw [et, beq_iff_eq]
    exact (E_four x0 x1 x2 x3 _ (by omega) (by omega) (by omega) (by omega) (by omega) (by omega) (by omega) (by omega)).2 (by omega)
  have hR := Lib.hid (show (((((at8 xs 0 : Nat) : Int) - 240) * 64 + ((at8 xs 1 : Nat) : Int) - 128) * 64 + ((at8 xs 2 : Nat) : Int) - 128) * 64 + ((at8 xs 3 : Nat) : Int) - 128 = (((at8 xs 0 - 240) * 262144 + (at8 xs 1 - 128) * 4096 + (at8 xs 2 - 128) * 64 + (at8 xs 3 - 128) : Nat) : Int) from by omega)
  clear hq
  have HR' := HR0
  clear HR0
  generalize at8 xs 0 = x0 at *
  generalize at8 xs 1 = x1 at *
  generalize at8 xs 2 = x2 at *
  generalize at8 xs 3 = x3 at *
  go_enter Tryz.func34, Tryz.ntmps34
  go_wp2
  go_quiet (fail)
  go_wp2_with fail
  go_quiet (fail)
  go_wp2_with fail
  refine wp_loop_rounds 4 ?_
  rw [rounds_succ]
  go_wp2_with fail
  rw [rounds_succ]
  go_wp2_with fail
  rw [rounds_succ]
  go_wp2_with fail
  rw [rounds_succ]
  go_wp2_with fail
  have RT := Lib.hid (HR'.out.to 4 (by omega))
  have cv0 := fun m => (RT.out.below (below_drewN (Below.refl _ _) m)).conv (P := Tryz.prog) 22 5 9 Tryz.underlying22 Tryz.underlying5 Tryz.underlying9
  go_region_with (go_at_call 63; refine (rencode_c _ _ (by omega) (by omega)).mono ?_; rintro e w1 ⟨v1, rfl, hr1, hb1⟩; have cv1 := hr1.conv (P := Tryz.prog) 22 5 9 Tryz.underlying22 Tryz.underlying5 Tryz.underlying9; have hb0 : Below w.heap.size w w1 := (below_drewN (Below.refl _ _) _).trans hb1; have cv2 := (RT.out.below hb0).conv (P := Tryz.prog) 22 5 9 Tryz.underlying22 Tryz.underlying5 Tryz.underlying9; have HB1 := Lib.hid hb0; clear hr1 hb1 hb0)
  all_goals go_wp2_with fail
  all_goals go_ret2
  all_goals exact ⟨by rw [HE.out]; exact ret2_int hR.out rfl, HB1.out⟩

set_option maxRecDepth 100000 in
set_option maxHeartbeats 4000000 in
theorem rd_4_no (HR0 : Hid (Rd w (.slice (some ⟨b, o, none⟩) xs.length c) xs)) (hl : 1 ≤ xs.length) (hlc : xs.length ≤ c) (hcm : c ≤ 9223372036854775807) (c0 : w.cell? ⟨b, o, none⟩ = some (.int .u8 (at8 xs 0))) (h1 : 240 ≤ at8 xs 0) (h2 : at8 xs 0 < 256) (hs : 4 ≤ xs.length) (c1 : w.cell? ⟨b, o + 1, none⟩ = some (.int .u8 (at8 xs 1))) (c2 : w.cell? ⟨b, o + 1 + 1, none⟩ = some (.int .u8 (at8 xs 2))) (c3 : w.cell? ⟨b, o + 1 + 2, none⟩ = some (.int .u8 (at8 xs 3))) (g1 : 128 ≤ at8 xs 1) (k1 : at8 xs 1 < 192) (g2 : 128 ≤ at8 xs 2) (k2 : at8 xs 2 < 192) (g3 : 128 ≤ at8 xs 3) (k3 : at8 xs 3 < 192) (hq : ¬ (65536 ≤ ((at8 xs 0 - 240) * 262144 + (at8 xs 1 - 128) * 4096 + (at8 xs 2 - 128) * 64 + (at8 xs 3 - 128)) ∧ ((at8 xs 0 - 240) * 262144 + (at8 xs 1 - 128) * 4096 + (at8 xs 2 - 128) * 64 + (at8 xs 3 - 128)) ≤ 1114111)) : Calls Tryz.prog 34 #[.slice (some ⟨b, o, none⟩) xs.length c] w (Ends xs w) := by
  have hl0 : ((xs.length : Int) == 0) = false := by rw [beq_eq_false_iff_ne]; omega
  have HE := D_four xs hs h1 g1 k1 g2 k2 g3 k3 _ rfl
  rw [if_neg hq] at HE
  have HE := Lib.hid HE
  have tE : (E ((((((at8 xs 0 : Nat) : Int) - 240) * 64 + ((at8 xs 1 : Nat) : Int) - 128) * 64 + ((at8 xs 2 : Nat) : Int) - 128) * 64 + ((at8 xs 3 : Nat) : Int) - 128) == List.take 4 xs) = false := by
    obtain ⟨x0, x1, x2, x3, e0, e1, e2, e3, et⟩ := take_at xs 4 hs (by omega)
    rw [et, beq_eq_false_iff_ne]
    exact fun h => hq (by have := (E_four x0 x1 x2 x3 _ (by omega) (by omega) (by omega) (by omega) (by omega) (by omega) (by omega) (by omega)).1 h; omega)
  clear hq
  have HR' := HR0
  clear HR0
  generalize at8 xs 0 = x0 at *
  generalize at8 xs 1 = x1 at *
  generalize at8 xs 2 = x2 at *
  generalize at8 xs 3 = x3 at *
  go_enter Tryz.func34, Tryz.ntmps34
  go_wp2
  go_quiet (fail)
  go_wp2_with fail
  go_quiet (fail)
  go_wp2_with fail
  refine wp_loop_rounds 4 ?_
  rw [rounds_succ]
  go_wp2_with fail
  rw [rounds_succ]
  go_wp2_with fail
  rw [rounds_succ]
  go_wp2_with fail
  rw [rounds_succ]
  go_wp2_with fail
  have RT := Lib.hid (HR'.out.to 4 (by omega))
  have cv0 := fun m => (RT.out.below (below_drewN (Below.refl _ _) m)).conv (P := Tryz.prog) 22 5 9 Tryz.underlying22 Tryz.underlying5 Tryz.underlying9
  go_region_with (go_at_call 63; refine (rencode_c _ _ (by omega) (by omega)).mono ?_; rintro e w1 ⟨v1, rfl, hr1, hb1⟩; have cv1 := hr1.conv (P := Tryz.prog) 22 5 9 Tryz.underlying22 Tryz.underlying5 Tryz.underlying9; have hb0 : Below w.heap.size w w1 := (below_drewN (Below.refl _ _) _).trans hb1; have cv2 := (RT.out.below hb0).conv (P := Tryz.prog) 22 5 9 Tryz.underlying22 Tryz.underlying5 Tryz.underlying9; have HB1 := Lib.hid hb0; clear hr1 hb1 hb0)
  all_goals go_wp2_with fail
  all_goals go_ret2
  all_goals exact ⟨by rw [HE.out]; exact ret2_int rfl rfl, HB1.out⟩

end
end Go.Proofs.YtpcajjbdlfookaaGreatDoor
