/- chars: the classes of characters, and the reference's. -/
import Derived.Test.YtelemkiaepemjaaDoorCa
namespace Go.Proofs.YtelemkiaepemjaaDoor
open Go.RowKit
set_option linter.unusedVariables false

def btw (r lo hi : Int) : Bool := decide (lo ≤ r) && decide (r ≤ hi)

theorem between_c (w : World) (r lo hi : Int) : Calls Tryd.prog 64 #[.int .i64 r, .int .i64 lo, .int .i64 hi] w fun e w' => e = .returned (.bool (btw r lo hi)) ∧ w = w' := by
  by_cases h : lo ≤ r
  · have HE := Lib.hid (show btw r lo hi = decide (r ≤ hi) from by unfold btw; simp [h])
    go_enter Tryd.func64, Tryd.ntmps64
    go_wp2
    go_ret
    exact ⟨by rw [HE.out]; rfl, rfl⟩
  · have HE := Lib.hid (show btw r lo hi = false from by unfold btw; simp [h])
    go_enter Tryd.func64, Tryd.ntmps64
    go_wp2
    go_ret
    exact ⟨by rw [HE.out]; rfl, rfl⟩

def spaceB (r : Int) : Bool := r == 9 || r == 10 || r == 13 || r == 32

theorem space_c (w : World) (r : Int) : Calls Tryd.prog 63 #[.int .i64 r] w fun e w' => e = .returned (.bool (spaceB r)) ∧ w = w' := by
  have hs : spaceB r = (r == 9 || r == 10 || r == 13 || r == 32) := rfl
  have HS := Lib.hid hs
  clear hs
  go_enter Tryd.func63, Tryd.ntmps63
  go_wp2
  all_goals go_ret
  all_goals exact ⟨by rw [HS.out]; simp [*], rfl⟩

def xmlB (r : Int) : Bool := spaceB r || btw r 32 55295 || btw r 57344 65533 || btw r 65536 1114111

theorem inXML_c (w : World) (r : Int) : Calls Tryd.prog 45 #[.int .i64 r] w fun e w' => e = .returned (.bool (xmlB r)) ∧ w = w' := by
  have HS := Lib.hid (show xmlB r = (spaceB r || btw r 32 55295 || btw r 57344 65533 || btw r 65536 1114111) from rfl)
  go_enter Tryd.func45, Tryd.ntmps45
  go_wp2_with (first
    | (go_at_call 63; refine (space_c _ _).mono ?_; rintro e w' ⟨rfl, rfl⟩)
    | (go_at_call 64; refine (between_c _ _ _ _).mono ?_; rintro e w' ⟨rfl, rfl⟩))
  all_goals go_ret
  all_goals exact ⟨by rw [HS.out]; simp [*], rfl⟩

/-- Whether a number is in one of some ranges. -/
def inR (r : Int) : List Int → Bool
  | a :: b :: t => btw r a b || inR r t
  | _ => false

theorem cells_made (w : World) (cs : Array Value) (T : TypeId) (zs : List Int) (h : cs.toList = zs.map (Value.int .i64)) :
    ∀ i (hi : i < zs.length), (w.alloc (.cells cs T)).cell? ⟨w.heap.size, i, none⟩ = some (.int .i64 zs[i]) := by
  intro i hi
  have hc : cs[i]? = some (.int .i64 zs[i]) := by
    rw [← Array.getElem?_toList, h]
    simp [hi]
  simp only [World.cell?, heap_alloc_new]
  simp [hc]

def xmlL : List Int := [9, 10, 13, 13, 32, 55295, 57344, 65533, 65536, 1114111]
theorem xmlL_eq (r : Int) : inR r xmlL = xmlB r := by
  unfold xmlL xmlB spaceB
  simp only [inR, btw]
  rw [Bool.eq_iff_iff]
  simp
  omega

/-- Where the first byte stands that begins no character of XML. -/
def wrong : Nat → List UInt8 → Nat → Int
  | 0, _, _ => -1
  | f + 1, xs, k => if k < xs.length then (if (D (xs.drop k)).2 = 0 ∨ xmlB (D (xs.drop k)).1 = false then (k : Int) else wrong f xs (k + (D (xs.drop k)).2)) else -1
end Go.Proofs.YtelemkiaepemjaaDoor
