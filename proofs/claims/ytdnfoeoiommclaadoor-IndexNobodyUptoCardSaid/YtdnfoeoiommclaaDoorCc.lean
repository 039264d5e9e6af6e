/- chars: the classes of characters, and the reference's. -/
import Derived.Test.YtdnfoeoiommclaaDoorCa
namespace Go.Proofs.YtdnfoeoiommclaaDoor
open Go.RowKit
set_option linter.unusedVariables false

def btw (r lo hi : Int) : Bool := decide (lo ≤ r) && decide (r ≤ hi)

def spaceB (r : Int) : Bool := r == 9 || r == 10 || r == 13 || r == 32

def xmlB (r : Int) : Bool := spaceB r || btw r 32 55295 || btw r 57344 65533 || btw r 65536 1114111

/-- Whether a number is in one of some ranges. -/
def inR (r : Int) : List Int → Bool
  | a :: b :: t => btw r a b || inR r t
  | _ => false

theorem cells_made (w : World) (cs : Array Value) (T : TypeId) (zs : List Int) (h : cs.toList = zs.map (Value.int .i64)) :
    ∀ i (hi : i < zs.length), (w.alloc (.cells cs T)).cell? ⟨w.heap.size, i, none⟩ = some (.int .i64 zs[i]) := by
  intro i hi
  have hc : cs[i]? = some (.int .i64 zs[i]) := by
    rw [← Array.getElem?_toList, h]
    simp [hi]
  simp only [World.cell?, heap_alloc_new]
  simp [hc]

def xmlL : List Int := [9, 10, 13, 13, 32, 55295, 57344, 65533, 65536, 1114111]
theorem xmlL_eq (r : Int) : inR r xmlL = xmlB r := by
  unfold xmlL xmlB spaceB
  simp only [inR, btw]
  rw [Bool.eq_iff_iff]
  simp
  omega

/-- Where the first byte stands that begins no character of XML. -/
def wrong : Nat → List UInt8 → Nat → Int
  | 0, _, _ => -1
  | f + 1, xs, k => if k < xs.length then (if (D (xs.drop k)).2 = 0 ∨ xmlB (D (xs.drop k)).1 = false then (k : Int) else wrong f xs (k + (D (xs.drop k)).2)) else -1
end Go.Proofs.YtdnfoeoiommclaaDoor
