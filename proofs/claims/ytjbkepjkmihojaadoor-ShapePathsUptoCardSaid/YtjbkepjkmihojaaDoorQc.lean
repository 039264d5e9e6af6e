/- shape: Order. -/
import Derived.Test.YtjbkepjkmihojaaDoorQo
import Derived.Test.YtjbkepjkmihojaaDoorByS
namespace Go.Proofs.YtjbkepjkmihojaaDoor
open Go Go.RowKit Go.Shelf
set_option linter.unusedVariables false

theorem OwnS.below {w w' : World} {base : Nat} {e : TypeId} {size : Nat} {v : Value} {n : Nat} {xs : List Value} (h : OwnS w base e size v n xs) (hb : Below w.heap.size w w') : OwnS w' base e size v n xs :=
  h.keep fun g hg => hb.block g (h.lt g hg)
theorem pcells_get (L : List PT) (k : Nat) (hk : k < L.length) : (pcells L)[k * 2]? = some (.string ⟨L[k].1.toArray⟩) ∧ (pcells L)[k * 2 + 1]? = some (.int .i64 L[k].2) := by
  induction L generalizing k with
  | nil => simp at hk
  | cons p r ih =>
    cases k with
    | zero => simp [pcells]
    | succ k =>
      have := ih k (by simpa using hk)
      rw [show (k + 1) * 2 = k * 2 + 2 from by omega]
      simpa [pcells, show k * 2 + 2 + 1 = k * 2 + 1 + 2 from rfl] using this
theorem OwnS.part {w : World} {base : Nat} {v : Value} {L : List PT} (h : OwnS w base 38 2 v L.length (pcells L)) {k : Nat} (hk : k < L.length) : ∃ g off c, v = .slice (some ⟨g, off, none⟩) L.length c ∧ g < w.heap.size ∧
    w.cell? ⟨g, off + k * 2, none⟩ = some (.string ⟨L[k].1.toArray⟩) ∧ w.cell? ⟨g, off + k * 2 + 1, none⟩ = some (.int .i64 L[k].2) := by
  rcases h.2 with ⟨rfl, h0⟩ | ⟨g, off, cap, cur, hv, _⟩
  · omega
  · refine ⟨g, off, cap, hv, h.lt g (by rw [hv]; rfl), h.cell hv (k * 2) _ (pcells_get L k hk).1, ?_⟩
    have := h.cell hv (k * 2 + 1) _ (pcells_get L k hk).2
    rwa [← Nat.add_assoc] at this

set_option maxRecDepth 100000 in
set_option maxHeartbeats 4000000 in
theorem compare_c (w : World) (b1 b2 : Nat) (v1 v2 : Value) (x y : List PT) (h1 : OwnS w b1 38 2 v1 x.length (pcells x)) (h2 : OwnS w b2 38 2 v2 y.length (pcells y)) (lx : x.length ≤ 4194304) (ly : y.length ≤ 4194304) :
    Calls Tryd.prog 26 #[v1, v2, .func (.func 27) #[] #[]] w fun e w' => e = .returned (.int .i64 (cmpQ x y)) ∧ Below w.heap.size w w' := by
  have H1 := Lib.hid h1
  have H2 := Lib.hid h2
  have hE := enters_of Tryd.func27 (by kernel_rfl) rfl
  obtain ⟨a1, c1, rfl, l1, m1, _⟩ := h1.form
  obtain ⟨a2, c2, rfl, l2, m2, _⟩ := h2.form
  clear h1 h2 m1 m2
  go_enter Tryd.func26, Tryd.ntmps26
  go_wp2_with fail
  go_loopw [13] (fun i wr => ∃ k : Nat, i = .int .i64 k ∧ k ≤ x.length ∧ k ≤ y.length ∧ Below w.heap.size w wr ∧ cmpQ x y = cmpQ (x.drop k) (y.drop k)) (fun i _ => x.length - (intOf i).toNat)
  case atStart => exact ⟨0, rfl, by omega, by omega, Below.refl _ _, by simp⟩
  case round =>
    obtain ⟨k, rfl, hkx, hky, hB, hC⟩ := hrel
    have HB := Lib.hid hB
    have HC := Lib.hid hC
    clear hB hC
    by_cases hx : k < x.length
    · obtain ⟨g, off, c', e1, gl1, n1, n2⟩ := (H1.out.below HB.out).part hx
      simp only [Value.slice.injEq, true_and] at e1
      obtain ⟨rfl, rfl⟩ := e1
      have HDX := Lib.hid (List.drop_eq_getElem_cons hx)
      have HBO := Lib.hid (fun o => HB.out.alloc HB.out.size o)
      by_cases hy : k < y.length
      · obtain ⟨g', off', c'', e2, gl2, n3, n4⟩ := (H2.out.below HB.out).part hy
        simp only [Value.slice.injEq, true_and] at e2
        obtain ⟨rfl, rfl⟩ := e2
        have HDY := Lib.hid (List.drop_eq_getElem_cons hy)
        have HP := Lib.hid (fun w => ordP_c w x[k] y[k])
        have HBO2 := Lib.hid (fun o o' => (HBO.out o).alloc (HBO.out o).size o')
        generalize x[k] = p at *
        generalize y[k] = q at *
        unfold pVal at HP
        have HQ := Lib.hid (show cmpQ x y = if cmpP p q = 0 then cmpQ (x.drop (k + 1)) (y.drop (k + 1)) else cmpP p q from by rw [HC.out, HDX.out, HDY.out]; rfl)
        generalize cmpP p q = c at *
        by_cases hc : c = 0
        · have hcb : ((c : Int) != 0) = false := by simp [hc]
          have HN := Lib.hid (show cmpQ x y = cmpQ (x.drop (k + 1)) (y.drop (k + 1)) from by rw [HQ.out, if_pos hc])
          clear hc
          go_wp2_with fail
          refine (HP.out _).mono ?_
          rintro e w' ⟨rfl, hb⟩
          have HX := Lib.hid ((HBO2.out _ _).trans (hb.mono (HBO2.out _ _).size))
          clear hb
          go_wp2_with fail
          go_roundw
          case rel => exact ⟨k + 1, by go_num, by omega, by omega, HX.out, HN.out⟩
          case measure => simp [intOf]; omega
        · have hcb : ((c : Int) != 0) = true := by simpa using hc
          have HN := Lib.hid (show cmpQ x y = c from by rw [HQ.out, if_neg hc])
          clear hc
          go_wp2_with fail
          refine (HP.out _).mono ?_
          rintro e w' ⟨rfl, hb⟩
          have HX := Lib.hid ((HBO2.out _ _).trans (hb.mono (HBO2.out _ _).size))
          clear hb
          go_wp2_with fail
          go_ret
          exact ⟨by rw [HN.out]; rfl, HX.out⟩
      · have HN := Lib.hid (show cmpQ x y = 1 from by rw [HC.out, HDX.out, show y.drop k = [] from List.drop_eq_nil_of_le (by omega)]; rfl)
        go_wp2_with fail
        go_ret
        exact ⟨by rw [HN.out]; rfl, HBO.out _⟩
    · by_cases hy : x.length < y.length
      · have HN := Lib.hid (show cmpQ x y = -1 from by rw [HC.out, show x.drop k = [] from List.drop_eq_nil_of_le (by omega), List.drop_eq_getElem_cons (show k < y.length by omega)]; rfl)
        go_wp2_with fail
        go_ret
        exact ⟨by rw [HN.out]; rfl, HB.out⟩
      · have HN := Lib.hid (show cmpQ x y = 0 from by rw [HC.out, show x.drop k = [] from List.drop_eq_nil_of_le (by omega), show y.drop k = [] from List.drop_eq_nil_of_le (by omega)]; rfl)
        go_wp2_with fail
        go_ret
        exact ⟨by rw [HN.out]; rfl, HB.out⟩
end Go.Proofs.YtjbkepjkmihojaaDoor
