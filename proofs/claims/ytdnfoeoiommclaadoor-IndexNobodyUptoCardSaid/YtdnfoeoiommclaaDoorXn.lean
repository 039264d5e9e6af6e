/- An index: For of an index that no call made; the law's awake. -/
import Derived.Test.YtdnfoeoiommclaaDoorXm
namespace Go.Proofs.YtdnfoeoiommclaaDoor
open Go Go.RowKit Go.Shelf Go.ChangeMaps
set_option linter.unusedVariables false
set_option linter.unusedSimpArgs false

/-- The cells of an index that no call made. -/
def zeroX : Array Value := #[.string ⟨#[]⟩, .string ⟨#[]⟩, .slice none 0 0, .slice none 0 0, .string ⟨#[]⟩, .string ⟨#[]⟩, .int .i64 0, .slice none 0 0, .slice none 0 0, .string ⟨#[]⟩, .string ⟨#[]⟩, .string ⟨#[]⟩, .bool false, .bool false, .int .i64 0, .slice none 0 0, .slice none 0 0, .slice none 0 0, .map none]
/-- An index that no call made: nil, or zero. -/
def Nobody (w : World) (x : Value) : Prop := x = .pointer none ∨ ∃ X, x = .pointer (some ⟨X, 0, none⟩) ∧ w.heap[X]? = some (.cells zeroX 41 (0, 0))
theorem Nobody.below {w W : World} {x : Value} (h : Nobody w x) (hb : Below w.heap.size w W) : Nobody W x := by
  rcases h with h | ⟨X, h, hx⟩
  · exact .inl h
  · exact .inr ⟨X, h, (hb.block X (Array.getElem?_eq_some_iff.1 hx).1).trans hx⟩

set_option maxRecDepth 100000 in
theorem for_none (w : World) (x : Value) (hx : Nobody w x) (p : ByteArray) (f : Bool) (n : Int) (hp : p.size ≤ 2097152) : Calls Tryd.prog 7 #[x, .agg #[.string p, .bool f, .int .i64 n]] w fun e w' => e = .returned (.slice none 0 0) ∧ Below w.heap.size w w' := by
  rcases hx with rfl | ⟨X, rfl, hx⟩
  · go_enter Tryd.func7, Tryd.ntmps7
    go_wp2_with fail
    go_ret
    exact ⟨rfl, (Below.refl _ _).alloc (Nat.le_refl _) _⟩
  · have HK := Lib.hid (fun W => keyOf_any W p f n hp)
    have HL := Lib.hid lookX_nil
    have HC := Lib.hid cloneHook_nil
    have hXl := (Array.getElem?_eq_some_iff.1 hx).1
    have x18 : w.cell? ⟨X, 18, none⟩ = some (.map none) := by simp [World.cell?, hx, zeroX]
    have HX := Lib.hid hx
    clear hx
    go_enter Tryd.func7, Tryd.ntmps7
    go_wp2_with fail
    go_region_law (first
      | (go_simp; go_at_call 13; refine (HK.out _).mono ?_
         rintro e w2 ⟨b, rfl, hb2⟩
         have HB2 := Lib.hid ((((Below.refl w.heap.size w).alloc (Nat.le_refl _) _).drew).trans (hb2.mono (by simp)))
         have y18 : w2.cell? ⟨X, 18, none⟩ = some (.map none) := (HB2.out.cell (p := ⟨X, 18, none⟩) hXl).trans x18
         have hlk := HL.out w2 f b n
         clear hb2)
      | (go_simp; go_at_call 12; refine (HC.out _).mono ?_; rintro e w' ⟨rfl, rfl⟩)
      | fail "no arm")
    all_goals
      go_wp2_with fail
      go_ret
      exact ⟨rfl, HB2.out⟩
end Go.Proofs.YtdnfoeoiommclaaDoor
