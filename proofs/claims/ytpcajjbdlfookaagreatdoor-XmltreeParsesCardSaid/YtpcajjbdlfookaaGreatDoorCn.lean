/- chars: the classes of name characters, and the reference's. -/
import Derived.Test.YtpcajjbdlfookaaGreatDoorCc
namespace Go.Proofs.YtpcajjbdlfookaaGreatDoor
open Go.RowKit
set_option linter.unusedVariables false

theorem rspace_c (w : World) (r : Int) : Calls Tryz.prog 38 #[.int .i64 r] w fun e w' => e = .returned (.bool (spaceB r)) ∧ w = w' := by
  have hs : spaceB r = (r == 9 || r == 10 || r == 13 || r == 32) := rfl
  have HS := Lib.hid hs
  clear hs
  go_enter Tryz.func38, Tryz.ntmps38
  go_wp2
  all_goals go_ret
  all_goals exact ⟨by rw [HS.out]; simp [*], rfl⟩

def firstB (r : Int) : Bool := btw r 65 90 || r == 95 || btw r 97 122 || btw r 192 214 || btw r 216 246 || btw r 248 767 || btw r 880 893 || btw r 895 8191 || btw r 8204 8205 || btw r 8304 8591 || btw r 11264 12271 || btw r 12289 55295 || btw r 63744 64975 || btw r 65008 65533 || btw r 65536 983039

def laterB (r : Int) : Bool := firstB r || r == 45 || r == 46 || btw r 48 57 || r == 183 || btw r 768 879 || btw r 8255 8256

set_option maxRecDepth 100000 in
theorem first_c (w : World) (r : Int) : Calls Tryz.prog 77 #[.int .i64 r] w fun e w' => e = .returned (.bool (firstB r)) ∧ w = w' := by
  have HS := Lib.hid (show firstB r = (btw r 65 90 || r == 95 || btw r 97 122 || btw r 192 214 || btw r 216 246 || btw r 248 767 || btw r 880 893 || btw r 895 8191 || btw r 8204 8205 || btw r 8304 8591 || btw r 11264 12271 || btw r 12289 55295 || btw r 63744 64975 || btw r 65008 65533 || btw r 65536 983039) from rfl)
  go_enter Tryz.func77, Tryz.ntmps77
  go_wp2_with ((go_at_call 58; refine (between_c _ _ _ _).mono ?_; rintro e w' ⟨rfl, rfl⟩))
  all_goals go_ret
  all_goals exact ⟨by rw [HS.out]; simp [*], rfl⟩

set_option maxRecDepth 100000 in
theorem later_c (w : World) (r : Int) : Calls Tryz.prog 78 #[.int .i64 r] w fun e w' => e = .returned (.bool (laterB r)) ∧ w = w' := by
  have HS := Lib.hid (show laterB r = (firstB r || r == 45 || r == 46 || btw r 48 57 || r == 183 || btw r 768 879 || btw r 8255 8256) from rfl)
  go_enter Tryz.func78, Tryz.ntmps78
  go_wp2_with (first
    | (go_at_call 77; refine (first_c _ _).mono ?_; rintro e w' ⟨rfl, rfl⟩)
    | (go_at_call 58; refine (between_c _ _ _ _).mono ?_; rintro e w' ⟨rfl, rfl⟩))
  all_goals go_ret
  all_goals exact ⟨by rw [HS.out]; simp [*], rfl⟩

def firstL : List Int := [65, 90, 95, 95, 97, 122, 192, 214, 216, 246, 248, 767, 880, 893, 895, 8191, 8204, 8205, 8304, 8591, 11264, 12271, 12289, 55295, 63744, 64975, 65008, 65533, 65536, 983039]
theorem one_eq (r a : Int) : btw r a a = (r == a) := by
  unfold btw
  rw [Bool.eq_iff_iff]
  simp
  omega
theorem firstL_eq (r : Int) : inR r firstL = firstB r := by
  unfold firstL firstB
  simp only [inR, one_eq, Bool.or_false, Bool.or_assoc]

def laterL : List Int := [45, 46, 48, 57, 183, 183, 768, 879, 8255, 8256]
theorem two_eq (r : Int) : btw r 45 46 = (r == 45 || r == 46) := by
  unfold btw
  rw [Bool.eq_iff_iff]
  simp
  omega
theorem laterL_eq (r : Int) : (firstB r || inR r laterL) = laterB r := by
  unfold laterL laterB
  simp only [inR, one_eq, two_eq, Bool.or_false, Bool.or_assoc]

set_option maxRecDepth 100000 in
theorem rfirst_c (w : World) (r : Int) : Calls Tryz.prog 95 #[.int .i64 r] w fun e w' => e = .returned (.bool (firstB r)) ∧ Below w.heap.size w w' := by
  go_enter Tryz.func95, Tryz.ntmps95
  go_wp2_with fail
  refine (within_c _ r firstL _ _ rfl (by simp [firstL]) (cells_made w _ _ firstL rfl)).mono ?_
  rintro e w' ⟨rfl, rfl⟩
  rw [firstL_eq]
  go_wp2
  go_ret
  exact ⟨rfl, (Below.refl _ _).alloc (Nat.le_refl _) _⟩

set_option maxRecDepth 100000 in
theorem rlater_c (w : World) (r : Int) : Calls Tryz.prog 96 #[.int .i64 r] w fun e w' => e = .returned (.bool (laterB r)) ∧ Below w.heap.size w w' := by
  have HE := Lib.hid (laterL_eq r)
  go_enter Tryz.func96, Tryz.ntmps96
  go_wp2_with fail
  refine (rfirst_c _ r).mono ?_
  rintro e w1 ⟨rfl, hb⟩
  have H1 := Lib.hid hb
  clear hb
  by_cases hf : firstB r = true
  · have HF := Lib.hid (show laterB r = true from by unfold laterB; rw [hf]; rfl)
    rw [hf]
    clear hf
    go_wp2_with fail
    go_ret
    exact ⟨by rw [HF.out]; rfl, H1.out⟩
  · have hf' : firstB r = false := by simpa using hf
    have HF := Lib.hid (show inR r laterL = laterB r from by rw [← HE.out, hf']; rfl)
    rw [hf']
    clear hf hf'
    go_wp2_with fail
    refine (within_c _ r laterL _ _ rfl (by simp [laterL]) (cells_made w1 _ _ laterL rfl)).mono ?_
    rintro e w' ⟨rfl, rfl⟩
    rw [HF.out]
    go_wp2
    go_ret
    exact ⟨rfl, H1.out.alloc (H1.out.size) _⟩
end Go.Proofs.YtpcajjbdlfookaaGreatDoor
