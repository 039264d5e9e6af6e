/- Reading a law's arguments: slices of ints, slices of byte slices. -/
import Derived.Test.YtcpldjaoacihlaaVc
import Derived.Deep.Matrix
namespace Go.Proofs.Ytcpldjaoacihlaa
open Go.RowKit Go.ChangeShapes Go.WideShapes Go.Deep
set_option linter.unusedVariables false

theorem rdv_of_row {w : World} {x : Addr} {l c : Nat} {zs : List Int} (hl : l ≤ c) (hm : c ≤ maxLen) (hz : zs.length = c) (hcell : ∀ i, i < zs.length → w.cell? (x.add i) = some (.int .i64 (zs.getD i 0))) :
    RdV w (.slice (some x) l c) (icells (zs.take l)) := by
  have hlen : (icells (zs.take l)).length = l := by simp [icells]; omega
  refine ⟨some x, c, by rw [hlen], by omega, hm, by simp, fun hp => ?_⟩
  rw [hlen] at hp
  obtain ⟨b, off, spot⟩ := x
  have h0 := hcell 0 (by omega)
  have hspot : spot = none := by simpa [Addr.add] using World.cell?_spot h0
  subst hspot
  refine ⟨b, off, rfl, fun i hi => ?_⟩
  have hil : i < zs.length := by rw [hlen] at hi; omega
  have := hcell i hil
  rw [Addr.add_lit] at this
  rw [this]
  simp [icells, List.getD, hil]

/-- A slice of byte slices. -/
theorem rows_open {H : Type} {enc : TypeId × Value → H} {w : World} {base : Nat} {held : Bool} {fuel : Nat} {cs : List Value} {x : DataW H × List MemPlace}
    (h : DataW.trod enc Try.prog w base (fun _ => true) held fuel 44 cs = some x) : ∃ a l c ys, cs = [.slice a l c] ∧ RdV w (.slice a l c) ys ∧ ∀ e ∈ ys, ∃ xs, Rd w e xs := by
  rcases open_int_rows Try.underlying44 Try.underlying31 Try.underlying5 (by kernel_rfl) (by kernel_rfl) h with ⟨rfl, _⟩ | ⟨a, len, cap, A, L, C, Z, rfl, _, hl, hm, _, hr⟩
  · exact ⟨none, 0, 0, [], rfl, RdV.nil _, by simp⟩
  · have hlen : ((List.range len).map fun r => Value.slice (A r) (L r) (C r)).length = len := by simp
    refine ⟨some a, len, cap, (List.range len).map fun r => .slice (A r) (L r) (C r), rfl, ⟨some a, cap, by rw [hlen], by omega, hm, by simp, fun hp => ?_⟩, ?_⟩
    · rw [hlen] at hp
      obtain ⟨b, off, spot⟩ := a
      have h0 := (hr 0 (by omega)).1
      have hspot : spot = none := by simpa [Addr.add] using World.cell?_spot h0
      subst hspot
      refine ⟨b, off, rfl, fun i hi => ?_⟩
      rw [hlen] at hi
      have := (hr i (by omega)).1
      rw [Addr.add_lit] at this
      rw [this]
      simp
    · intro e he
      obtain ⟨r, hr', rfl⟩ := List.mem_map.1 he
      have hrl : r < len := by simpa using hr'
      obtain ⟨_, h2, h3, h4, h5, h6, h7⟩ := hr r (by omega)
      cases hA : A r with
      | none =>
        have hc := h6 hA
        have hl0 : L r = 0 := by omega
        rw [hc, hl0]
        exact ⟨[], Rd.nil _⟩
      | some x => exact ⟨_, rd_of_row h2 h3 h4 (fun i hi => (h7 x hA).2 i (by omega)) h5⟩
end Go.Proofs.Ytcpldjaoacihlaa
