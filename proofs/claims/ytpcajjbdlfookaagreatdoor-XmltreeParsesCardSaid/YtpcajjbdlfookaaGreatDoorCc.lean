/- chars: the classes of characters, and the reference's. -/
import Derived.Test.YtpcajjbdlfookaaGreatDoorCa
namespace Go.Proofs.YtpcajjbdlfookaaGreatDoor
open Go.RowKit
set_option linter.unusedVariables false

def btw (r lo hi : Int) : Bool := decide (lo ≤ r) && decide (r ≤ hi)

theorem between_c (w : World) (r lo hi : Int) : Calls Tryz.prog 58 #[.int .i64 r, .int .i64 lo, .int .i64 hi] w fun e w' => e = .returned (.bool (btw r lo hi)) ∧ w = w' := by
  by_cases h : lo ≤ r
  · have HE := Lib.hid (show btw r lo hi = decide (r ≤ hi) from by unfold btw; simp [h])
    go_enter Tryz.func58, Tryz.ntmps58
    go_wp2
    go_ret
    exact ⟨by rw [HE.out]; rfl, rfl⟩
  · have HE := Lib.hid (show btw r lo hi = false from by unfold btw; simp [h])
    go_enter Tryz.func58, Tryz.ntmps58
    go_wp2
    go_ret
    exact ⟨by rw [HE.out]; rfl, rfl⟩

def spaceB (r : Int) : Bool := r == 9 || r == 10 || r == 13 || r == 32

theorem space_c (w : World) (r : Int) : Calls Tryz.prog 57 #[.int .i64 r] w fun e w' => e = .returned (.bool (spaceB r)) ∧ w = w' := by
  have hs : spaceB r = (r == 9 || r == 10 || r == 13 || r == 32) := rfl
  have HS := Lib.hid hs
  clear hs
  go_enter Tryz.func57, Tryz.ntmps57
  go_wp2
  all_goals go_ret
  all_goals exact ⟨by rw [HS.out]; simp [*], rfl⟩

def xmlB (r : Int) : Bool := spaceB r || btw r 32 55295 || btw r 57344 65533 || btw r 65536 1114111

theorem inXML_c (w : World) (r : Int) : Calls Tryz.prog 29 #[.int .i64 r] w fun e w' => e = .returned (.bool (xmlB r)) ∧ w = w' := by
  have HS := Lib.hid (show xmlB r = (spaceB r || btw r 32 55295 || btw r 57344 65533 || btw r 65536 1114111) from rfl)
  go_enter Tryz.func29, Tryz.ntmps29
  go_wp2_with (first
    | (go_at_call 57; refine (space_c _ _).mono ?_; rintro e w' ⟨rfl, rfl⟩)
    | (go_at_call 58; refine (between_c _ _ _ _).mono ?_; rintro e w' ⟨rfl, rfl⟩))
  all_goals go_ret
  all_goals exact ⟨by rw [HS.out]; simp [*], rfl⟩

/-- Whether a number is in one of some ranges. -/
def inR (r : Int) : List Int → Bool
  | a :: b :: t => btw r a b || inR r t
  | _ => false

theorem within_c (w : World) (r : Int) (zs : List Int) (b n : Nat) (hn : n = zs.length) (hs : zs.length ≤ 1000) (hc : ∀ i (h : i < zs.length), w.cell? ⟨b, i, none⟩ = some (.int .i64 zs[i])) :
    Calls Tryz.prog 64 #[.int .i64 r, .slice (some ⟨b, 0, none⟩) n n] w fun e w' => e = .returned (.bool (inR r zs)) ∧ w = w' := by
  subst hn
  have HC := Lib.hid hc
  clear hc
  go_enter Tryz.func64, Tryz.ntmps64
  go_wp2_with fail
  go_loop [5] (fun i => ∃ k : Nat, k ≤ zs.length ∧ i = .int .i64 k ∧ inR r (zs.drop k) = inR r zs) (fun i => zs.length - (intOf i).toNat)
  case atStart => exact ⟨0, by omega, rfl, rfl⟩
  case round =>
    obtain ⟨k, hk, rfl, hi⟩ := hrel
    have HI := Lib.hid hi
    clear hi
    by_cases hlt : k + 1 < zs.length
    · have hc0 := HC.out k (by omega)
      have hc1 := HC.out (k + 1) hlt
      have HD := Lib.hid (show zs.drop k = zs[k] :: zs[k + 1] :: zs.drop (k + 2) from by rw [List.drop_eq_getElem_cons (by omega), List.drop_eq_getElem_cons hlt])
      generalize zs[k] = z0 at *
      generalize zs[k + 1] = z1 at *
      by_cases h : btw r z0 z1 = true
      · have HE := Lib.hid (show inR r zs = true from by rw [← HI.out, HD.out, inR, h]; rfl)
        have h' : z0 ≤ r ∧ r ≤ z1 := by simpa [btw] using h
        obtain ⟨h1, h2⟩ := h'
        clear h
        go_wp2_with fail
        go_ret
        exact ⟨by rw [HE.out]; rfl, rfl⟩
      · have HE := Lib.hid (show inR r (zs.drop (k + 2)) = inR r zs from by rw [← HI.out, HD.out, inR, Bool.not_eq_true] at *; simp [h])
        have h' : r < z0 ∨ z1 < r := by simp [btw] at h; omega
        clear h
        rcases h' with h' | h'
        all_goals
          go_wp2_with fail
          all_goals
            refine ⟨⟨k + 2, by omega, by go_num, HE.out⟩, by simp [intOf]; omega⟩
    · have HE := Lib.hid (show inR r zs = false from by
        rw [← HI.out]
        have hl : (zs.drop k).length ≤ 1 := by simp; omega
        match zs.drop k, hl with
        | [], _ => rfl
        | [_], _ => rfl)
      go_wp2_with fail
      go_ret
      exact ⟨by rw [HE.out]; rfl, rfl⟩

theorem cells_made (w : World) (cs : Array Value) (T : TypeId) (zs : List Int) (h : cs.toList = zs.map (Value.int .i64)) :
    ∀ i (hi : i < zs.length), (w.alloc (.cells cs T)).cell? ⟨w.heap.size, i, none⟩ = some (.int .i64 zs[i]) := by
  intro i hi
  have hc : cs[i]? = some (.int .i64 zs[i]) := by
    rw [← Array.getElem?_toList, h]
    simp [hi]
  simp only [World.cell?, heap_alloc_new]
  simp [hc]

def xmlL : List Int := [9, 10, 13, 13, 32, 55295, 57344, 65533, 65536, 1114111]
theorem xmlL_eq (r : Int) : inR r xmlL = xmlB r := by
  unfold xmlL xmlB spaceB
  simp only [inR, btw]
  rw [Bool.eq_iff_iff]
  simp
  omega

theorem ofXML_c (w : World) (r : Int) : Calls Tryz.prog 35 #[.int .i64 r] w fun e w' => e = .returned (.bool (xmlB r)) ∧ Below w.heap.size w w' := by
  go_enter Tryz.func35, Tryz.ntmps35
  go_wp2_with fail
  refine (within_c _ r xmlL _ _ rfl (by simp [xmlL]) (cells_made w _ _ xmlL rfl)).mono ?_
  rintro e w' ⟨rfl, rfl⟩
  rw [xmlL_eq]
  go_wp2
  go_ret
  exact ⟨rfl, (Below.refl _ _).alloc (Nat.le_refl _) _⟩

/-- Where the first byte stands that begins no character of XML. -/
def wrong : Nat → List UInt8 → Nat → Int
  | 0, _, _ => -1
  | f + 1, xs, k => if k < xs.length then (if (D (xs.drop k)).2 = 0 ∨ xmlB (D (xs.drop k)).1 = false then (k : Int) else wrong f xs (k + (D (xs.drop k)).2)) else -1
end Go.Proofs.YtpcajjbdlfookaaGreatDoor
