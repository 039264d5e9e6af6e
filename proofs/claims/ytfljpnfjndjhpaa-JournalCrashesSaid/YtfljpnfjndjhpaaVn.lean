/- vdisk: Names. -/
import Derived.Test.YtfljpnfjndjhpaaVs
import Derived.Test.YtfljpnfjndjhpaaIter
namespace Go.Proofs.Ytfljpnfjndjhpaa
open Go.RowKit Go.Maps Go.Sort Go.Shelf
set_option linter.unusedVariables false

section
variable {w : World} {p : Option Addr} {s : DS} {foot : List Nat}

set_option maxHeartbeats 1000000 in
theorem names_c (h : Disk w p s foot) (hl : s.fs.length ≤ 1000000000) :
    Calls Try.prog 29 #[.pointer p] w fun e w' => ∃ v, e = .returned v ∧ w'.ownsRow w.heap.size 9 1 v s.fs.length ((s.fs.map (·.1)).map encStr) ∧ Below w.heap.size w w' := by
  obtain ⟨pb, mb, E, rfl, hc, hr, rfl, hnd⟩ := h
  have HC := Lib.hid hc
  obtain ⟨c0, c1, c2, c3, c4, cf⟩ := cells5 hc.blk
  have hEl : (vals E).length ≤ 1000000000 := by have := hl; rw [hc.fs] at this; simpa [vals, fils, mapA_length] using this
  have HM := Lib.hid hc.map
  have HS := Lib.hid (show Maps.size (Dof (vals E)) ≤ maxLen ∧ Maps.size (Dof (vals E)) * 16 ≤ 140737488355328 from by rw [dof_size]; unfold maxLen; omega)
  have HN := Lib.hid (show Ris (vals E) ∧ (vals E).map (·.1) = s.fs.map (·.1) from ⟨by unfold vals; exact (mapA_ris _ _).2 hc.ris, by rw [hc.fs]; simp [vals, fils, mapA]⟩)
  clear hc hr hnd hl c0 c1 c3 c4 cf hEl
  refine (callsIn_wide (n := 6)).1 ?_
  have hfK : Fence.wide.fn 44 := trivial
  have hfS : Fence.wide.fn 43 := trivial
  have hfM : Fence.wide.fn 27 := trivial
  refine callsIn_of_wp Try.func29 rfl trivial ?_ rfl
  simp only [Try.ntmps29, List.size_toArray, List.length_cons, List.length_nil, Nat.reduceAdd, Nat.reduceSub, Array.replicate_succ, Array.replicate_zero, List.push_toArray, List.append_toArray, List.nil_append, List.cons_append]
  gi_wp2_with (first
    | (gi_at_call 27; refine (callsIn_wide.2 (made_c HC.out)).mono ?_; rintro e w' ⟨rfl, rfl⟩)
    | (gi_at_call 44; refine (Try.maps_Keys_44 _ _).mono ?_; rintro e w' ⟨rfl, rfl⟩)
    | (gi_at_call 43; refine (Try.slices_Sorted_keys_43_44 mb (vals E).length (Dof (vals E)) heldR _ HM.out HS.out.1 HS.out.2).mono ?_; rintro e w' ⟨v, ss, rfl, hS, hrow, hnil, hb⟩; have HP := Lib.hid hS; have HR := Lib.hid hrow; have HB := Lib.hid hb; clear hS hrow hnil hb))
  go_ret
  have hss := sort_names HN.out.1 HP.out
  rw [HN.out.2] at hss
  have hrow := HR.out
  rw [hss] at hrow
  have hlen : ss.length = s.fs.length := by
    have := HP.out.length_eq
    rw [dof_keys, HN.out.2] at this
    simpa using this
  rw [hlen] at hrow
  exact ⟨v, rfl, own_mono hrow (by simp), ((Below.refl _ w).alloc (Nat.le_refl _) _).trans (HB.out.mono (by simp))⟩
end
end Go.Proofs.Ytfljpnfjndjhpaa
