/- Reading a law's arguments in the second form: a value, its text bounded by the bulk. -/
import Derived.Test.YtjablobdiglnpaaDoorKo
import Derived.Test.YtjablobdiglnpaaDoorBulk
namespace Go.Proofs.YtjablobdiglnpaaDoor
open Go.RowKit Go.ChangeShapes Go.WideShapes Go.Deep
set_option linter.unusedVariables false
section
variable {H : Type} {enc : TypeId × Value → H} {w : World} {base : Nat} {spare : Nat → Bool} {held : Bool}
theorem value_open2 {r : Reach} {b0 : Nat} {v : Value} {d : DataW H} {p : List MemPlace} (hv : Value.okWide Tryd.prog w r b0 23 v) (h : DataW.Trod enc Tryd.prog w base spare held 23 v d p) :
    ∃ x : Vl, v = x.val ∧ x.Ok ∧ ∃ a b c : DataW H, d = .agg [a, b, c, .lit (.string x.s.data.toList)] := by
  obtain ⟨v0, v1, v2, v3, y0, y1, y2, y3, m, rfl, hd, t0, t1, t2, t3⟩ := agg4_open Tryd.underlying23 (by kernel_rfl) (by kernel_rfl) hv h
  obtain ⟨k, e0, _, wk⟩ := DataW.trod_int Tryd.underlying3 t0
  obtain ⟨n, e1, _, wn⟩ := DataW.trod_int Tryd.underlying3 t1
  obtain ⟨y, e2, _⟩ := DataW.trod_bool Tryd.underlying4 t2
  obtain ⟨s, e3, x3, hs⟩ := DataW.trod_string Tryd.underlying9 t3
  simp only [List.cons.injEq, and_true] at e0 e1 e2 e3
  subst e0 e1 e2 e3
  refine ⟨⟨k, n, y, s⟩, rfl, ⟨?_, ?_, ?_⟩, y0.1, y1.1, y2.1, by rw [hd, x3]⟩
  · simpa [Lit.wf, IntKind.min, IntKind.max, IntKind.signed, IntKind.bits] using wk
  · simpa [Lit.wf, IntKind.min, IntKind.max, IntKind.signed, IntKind.bits] using wn
  · unfold maxLen at hs; exact hs
end
theorem bulk_value {H : Type} (a b c : DataW H) (s : ByteArray) (l : List (DataW H)) (hk : Rows.uptoBulkAll l ≤ 1048576) (h : DataW.agg [a, b, c, .lit (.string s.data.toList)] ∈ l) : s.size ≤ 1048576 := by
  have h1 := bulk_part h
  have h2 : Rows.uptoBulk (DataW.lit (.string s.data.toList) : DataW H) ≤ Rows.uptoBulkAll [a, b, c, .lit (.string s.data.toList)] := bulk_part (by simp)
  simp only [Rows.uptoBulk, Array.length_toList] at h1 h2
  have : s.data.size = s.size := rfl
  omega
end Go.Proofs.YtjablobdiglnpaaDoor
