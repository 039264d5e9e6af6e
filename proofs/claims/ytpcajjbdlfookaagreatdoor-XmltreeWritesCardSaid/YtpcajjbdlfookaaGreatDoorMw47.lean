/- xmltree: an element given as an argument is read, with the bound on its texts. -/
import Derived.Test.YtpcajjbdlfookaaGreatDoorMw30
import Derived.Test.YtpcajjbdlfookaaGreatDoorMw46
namespace Go.Proofs.YtpcajjbdlfookaaGreatDoor
open Go.RowKit Go.ChangeShapes Go.WideShapes Go.Deep
set_option linter.unusedVariables false

section
variable {H : Type} {enc : TypeId × Value → H} {w : World} {base : Nat} {held : Bool}
theorem weightsAll_inT {H : Type} {P : Program} {e : TypeId} : ∀ {l : List (DataW H)} {d : DataW H}, d ∈ l → ∀ n ∈ d.weights P e, n ∈ DataW.weightsAll P e l
  | x :: r, d, h, n, hn => by
    simp only [DataW.weightsAll, List.mem_append]
    rcases List.mem_cons.1 h with rfl | h
    · exact .inl hn
    · exact .inr (weightsAll_inT h n hn)
theorem weight_str {s : ByteArray} {P : Program} {t : TypeId} (h : ∀ n ∈ (DataW.lit (H := H) (.string s.data.toList)).weights P t, n ≤ reachBytes) : s.size ≤ 140737488351232 := by
  have := h s.data.toList.length (by simp [DataW.weights])
  rw [size_data] at this
  simpa [reachBytes] using this
theorem cells5_openW {P : Program} {t : TypeId} {spare : Nat → Bool} {fuel : Nat} {f0 f1 f2 f3 f4 : Field} {c0 c1 c2 c3 c4 : Value} {x : DataW H × List MemPlace} (hs : P.underlying t = some (.struct #[f0, f1, f2, f3, f4])) (hone : oneCellFields P #[f0, f1, f2, f3, f4] = true)
    (h : DataW.trod enc P w base spare held fuel t [c0, c1, c2, c3, c4] = some x) :
    ∃ (y0 y1 y2 y3 y4 : DataW H × List MemPlace) (n : Nat), fuel = n + 1 ∧ x.1 = .agg [y0.1, y1.1, y2.1, y3.1, y4.1] ∧
      DataW.trod enc P w base spare held n f0.type [c0] = some y0 ∧ DataW.trod enc P w base spare held n f1.type [c1] = some y1 ∧ DataW.trod enc P w base spare held n f2.type [c2] = some y2 ∧ DataW.trod enc P w base spare held n f3.type [c3] = some y3 ∧ DataW.trod enc P w base spare held n f4.type [c4] = some y4 := by
  obtain ⟨xs, n, hf, hx, _, hlen, hg⟩ := DataW.trod_struct hs h
  obtain ⟨o0, k0⟩ := oneT hone 0 f0 rfl
  obtain ⟨o1, k1⟩ := oneT hone 1 f1 rfl
  obtain ⟨o2, k2⟩ := oneT hone 2 f2 rfl
  obtain ⟨o3, k3⟩ := oneT hone 3 f3 rfl
  obtain ⟨o4, k4⟩ := oneT hone 4 f4 rfl
  match xs, hlen with
  | [y0, y1, y2, y3, y4], _ =>
    exact ⟨y0, y1, y2, y3, y4, n, hf, by rw [hx]; rfl, by simpa [o0, k0] using hg 0 f0 rfl, by simpa [o1, k1] using hg 1 f1 rfl, by simpa [o2, k2] using hg 2 f2 rfl, by simpa [o3, k3] using hg 3 f3 rfl, by simpa [o4, k4] using hg 4 f4 rfl⟩
theorem cells3_openW {P : Program} {t : TypeId} {spare : Nat → Bool} {fuel : Nat} {f0 f1 f2 : Field} {c0 c1 c2 : Value} {x : DataW H × List MemPlace} (hs : P.underlying t = some (.struct #[f0, f1, f2])) (hone : oneCellFields P #[f0, f1, f2] = true)
    (h : DataW.trod enc P w base spare held fuel t [c0, c1, c2] = some x) :
    ∃ (y0 y1 y2 : DataW H × List MemPlace) (n : Nat), fuel = n + 1 ∧ x.1 = .agg [y0.1, y1.1, y2.1] ∧
      DataW.trod enc P w base spare held n f0.type [c0] = some y0 ∧ DataW.trod enc P w base spare held n f1.type [c1] = some y1 ∧ DataW.trod enc P w base spare held n f2.type [c2] = some y2 := by
  obtain ⟨xs, n, hf, hx, _, hlen, hg⟩ := DataW.trod_struct hs h
  obtain ⟨o0, k0⟩ := oneT hone 0 f0 rfl
  obtain ⟨o1, k1⟩ := oneT hone 1 f1 rfl
  obtain ⟨o2, k2⟩ := oneT hone 2 f2 rfl
  match xs, hlen with
  | [y0, y1, y2], _ =>
    exact ⟨y0, y1, y2, n, hf, by rw [hx]; rfl, by simpa [o0, k0] using hg 0 f0 rfl, by simpa [o1, k1] using hg 1 f1 rfl, by simpa [o2, k2] using hg 2 f2 rfl⟩
/-- Attributes given as an argument. -/
theorem pairs_openW {fuel : Nat} {c : Value} {x : DataW H × List MemPlace} (h : DataW.trod enc Tryz.prog w base (fun _ => true) held fuel 24 [c] = some x) (hz : ∀ n ∈ x.1.weights Tryz.prog 24, n ≤ reachBytes) : ∃ l, PairsR Any w c l ∧ ∀ k (hk : k < l.length), smA l[k] := by
  have h3 : Tryz.prog.cellsOf 58 = 3 := by kernel_rfl
  rcases DataW.trod_slice Tryz.underlying24 h with ⟨hcs, _⟩ | ⟨a, len, cap, elems, rest, n, hf, hcs, rfl, hb, hl, hm, hlen, hel, hsp, hns⟩
  · simp only [List.cons.injEq, and_true] at hcs
    subst hcs
    exact ⟨[], PairsR.nil _ w, fun k hk => by simp at hk⟩
  · simp only [List.cons.injEq, and_true] at hcs
    subst hcs
    have hi' : ∀ i, i < len → ∃ s : PT, (w.cell? (a.add (i * 3)) = some (.string s.1) ∧ w.cell? (a.add (i * 3 + 1)) = some (.string s.2.1) ∧ w.cell? (a.add (i * 3 + 2)) = some (.string s.2.2)) ∧ smA s := fun i hil => by
      have hbe : ∀ n ∈ (elems[i]'(by omega)).1.weights Tryz.prog 58, n ≤ reachBytes := fun n hn => hz n (by
          simp only [DataW.weights, Tryz.underlying24, List.mem_cons, List.mem_append]
          exact .inr (.inl (weightsAll_inT (List.mem_map_of_mem (f := fun y : DataW H × List MemPlace => y.1) (List.getElem_mem (l := elems) (by omega : i < elems.length))) n hn)))
      have key := hel i hil
      rw [List.getElem?_eq_getElem (by omega)] at key
      obtain ⟨cs', hc, ht⟩ := Option.bind_eq_some_iff.1 key
      rw [h3] at hc
      obtain ⟨_, hcl, hat⟩ := World.cells?_some hc
      match cs', hcl with
      | [c0, c1, c2], _ =>
        obtain ⟨y0, y1, y2, n2, hf2, hx2, t0, t1, t2⟩ := cells3_openW Tryz.underlying58 (by kernel_rfl) ht
        have hw : ∀ n, n ∈ DataW.weightsEach Tryz.prog [9, 9, 9] [y0.1, y1.1, y2.1] → n ≤ reachBytes := fun n hn => hbe n (by
          rw [hx2]
          simp only [DataW.weights, Tryz.underlying58]
          exact hn)
        obtain ⟨s0, e0, z0, w0⟩ := DataW.trod_string Tryz.underlying9 t0
        obtain ⟨s1, e1, z1, w1⟩ := DataW.trod_string Tryz.underlying9 t1
        obtain ⟨s2, e2, z2, w2⟩ := DataW.trod_string Tryz.underlying9 t2
        have b0 : ∀ n ∈ y0.1.weights Tryz.prog 9, n ≤ reachBytes := fun n hn => hw n (DataW.weights_mem_each (j := 0) rfl rfl n hn)
        have b1 : ∀ n ∈ y1.1.weights Tryz.prog 9, n ≤ reachBytes := fun n hn => hw n (DataW.weights_mem_each (j := 1) rfl rfl n hn)
        have b2 : ∀ n ∈ y2.1.weights Tryz.prog 9, n ≤ reachBytes := fun n hn => hw n (DataW.weights_mem_each (j := 2) rfl rfl n hn)
        rw [z0] at b0
        rw [z1] at b1
        rw [z2] at b2
        simp only [List.cons.injEq, and_true] at e0 e1 e2
        subst e0 e1 e2
        refine ⟨(s0, s1, s2), ⟨by have := hat 0 (by omega); rw [Go.Deep.add_add, Nat.add_zero] at this; exact this, ?_, ?_⟩, weight_str b0, weight_str b1, weight_str b2⟩
        · rw [← Go.Deep.add_add]; exact hat 1 (by omega)
        · rw [← Go.Deep.add_add]; exact hat 2 (by omega)
    obtain ⟨l, hll, hp⟩ := list_ofT len hi'
    subst hll
    refine ⟨l, ⟨some a, cap, rfl, hl, hm, by simp, fun h0 => ?_⟩, fun k hk => (hp k hk).2⟩
    obtain ⟨b, off, spot⟩ := a
    obtain ⟨⟨q0, _⟩, _⟩ := hp 0 h0
    have hspot : spot = none := by simpa [Addr.add] using World.cell?_spot q0
    subst hspot
    refine ⟨b, off, rfl, ?_, trivial, fun k hk => ?_⟩
    · have := World.block_lt_of_cell? w _ q0
      simpa [Addr.add] using this
    · obtain ⟨⟨q0, q1, q2⟩, _⟩ := hp k hk
      rw [Addr.add_lit] at q0 q1 q2
      exact ⟨q0, q1, q2⟩
/-- Elements given as an argument. -/
theorem kids_openW : ∀ (fuel : Nat) {c : Value} {x : DataW H × List MemPlace}, DataW.trod enc Tryz.prog w base (fun _ => true) held fuel 25 [c] = some x → (∀ n ∈ x.1.weights Tryz.prog 25, n ≤ reachBytes) → ∃ l, KidsD Any w (fuel + 1) c l ∧ ∀ k (hk : k < l.length) m, smK m l[k] := by
  intro fuel
  induction fuel using Nat.strongRecOn with
  | _ fuel ih =>
    intro c x h hz
    have h5 : Tryz.prog.cellsOf 27 = 5 := by kernel_rfl
    rcases DataW.trod_slice Tryz.underlying25 h with ⟨hcs, _⟩ | ⟨a, len, cap, elems, rest, n, hf, hcs, rfl, hb, hl, hm, hlen, hel, hsp, hns⟩
    · simp only [List.cons.injEq, and_true] at hcs
      subst hcs
      exact ⟨[], KidsD.nil _ w fuel, fun k hk => by simp at hk⟩
    · simp only [List.cons.injEq, and_true] at hcs
      subst hcs
      have hi' : ∀ i, i < len → ∃ s : ET, (∃ av kv, (w.cell? (a.add (i * 5)) = some (.string s.space) ∧ w.cell? (a.add (i * 5 + 1)) = some (.string s.name) ∧ w.cell? (a.add (i * 5 + 2)) = some av ∧ w.cell? (a.add (i * 5 + 3)) = some kv ∧ w.cell? (a.add (i * 5 + 4)) = some (.string s.text)) ∧
          PairsR Any w av s.attrs ∧ KidsD Any w fuel kv s.kids) ∧ ∀ m, smK m s := fun i hil => by
        have hbe : ∀ n ∈ (elems[i]'(by omega)).1.weights Tryz.prog 27, n ≤ reachBytes := fun n hn => hz n (by
          simp only [DataW.weights, Tryz.underlying25, List.mem_cons, List.mem_append]
          exact .inr (.inl (weightsAll_inT (List.mem_map_of_mem (f := fun y : DataW H × List MemPlace => y.1) (List.getElem_mem (l := elems) (by omega : i < elems.length))) n hn)))
        have key := hel i hil
        rw [List.getElem?_eq_getElem (by omega)] at key
        obtain ⟨cs', hc, ht⟩ := Option.bind_eq_some_iff.1 key
        rw [h5] at hc
        obtain ⟨_, hcl, hat⟩ := World.cells?_some hc
        match cs', hcl with
        | [c0, c1, c2, c3, c4], _ =>
          obtain ⟨y0, y1, y2, y3, y4, n2, hf2, hx2, t0, t1, t2, t3, t4⟩ := cells5_openW Tryz.underlying27 (by kernel_rfl) ht
          have hw : ∀ n, n ∈ DataW.weightsEach Tryz.prog [9, 9, 24, 25, 9] [y0.1, y1.1, y2.1, y3.1, y4.1] → n ≤ reachBytes := fun n hn => hbe n (by
            rw [hx2]
            simp only [DataW.weights, Tryz.underlying27]
            exact hn)
          obtain ⟨s0, e0, z0, w0⟩ := DataW.trod_string Tryz.underlying9 t0
          obtain ⟨s1, e1, z1, w1⟩ := DataW.trod_string Tryz.underlying9 t1
          obtain ⟨s4, e4, z4, w4⟩ := DataW.trod_string Tryz.underlying9 t4
          have b0 : ∀ n ∈ y0.1.weights Tryz.prog 9, n ≤ reachBytes := fun n hn => hw n (DataW.weights_mem_each (j := 0) rfl rfl n hn)
          have b1 : ∀ n ∈ y1.1.weights Tryz.prog 9, n ≤ reachBytes := fun n hn => hw n (DataW.weights_mem_each (j := 1) rfl rfl n hn)
          have b2 : ∀ n ∈ y2.1.weights Tryz.prog 24, n ≤ reachBytes := fun n hn => hw n (DataW.weights_mem_each (j := 2) rfl rfl n hn)
          have b3 : ∀ n ∈ y3.1.weights Tryz.prog 25, n ≤ reachBytes := fun n hn => hw n (DataW.weights_mem_each (j := 3) rfl rfl n hn)
          have b4 : ∀ n ∈ y4.1.weights Tryz.prog 9, n ≤ reachBytes := fun n hn => hw n (DataW.weights_mem_each (j := 4) rfl rfl n hn)
          rw [z0] at b0
          rw [z1] at b1
          rw [z4] at b4
          simp only [List.cons.injEq, and_true] at e0 e1 e4
          subst e0 e1 e4
          obtain ⟨attrs, hp, has⟩ := pairs_openW t2 b2
          obtain ⟨kids, hk, hks⟩ := ih n2 (by omega) t3 b3
          have hd : KidsD Any w fuel c3 kids := by
            have := hk.ups (fuel - (n2 + 1))
            rwa [show n2 + 1 + (fuel - (n2 + 1)) = fuel by omega] at this
          refine ⟨.mk s0 s1 attrs kids s4, ⟨c2, c3, ⟨by have := hat 0 (by omega); rw [Go.Deep.add_add, Nat.add_zero] at this; exact this, ?_, ?_, ?_, ?_⟩, hp, hd⟩, fun m => ?_⟩
          · rw [← Go.Deep.add_add]; exact hat 1 (by omega)
          · rw [← Go.Deep.add_add]; exact hat 2 (by omega)
          · rw [← Go.Deep.add_add]; exact hat 3 (by omega)
          · rw [← Go.Deep.add_add]; exact hat 4 (by omega)
          · cases m with
            | zero => trivial
            | succ m => exact ⟨weight_str b0, weight_str b1, weight_str b4, has, fun k hk => hks k hk m⟩
      obtain ⟨l, hll, hp⟩ := list_ofT len hi'
      subst hll
      refine ⟨l, ⟨some a, cap, rfl, hl, hm, by simp, fun h0 => ?_⟩, fun k hk => (hp k hk).2⟩
      obtain ⟨b, off, spot⟩ := a
      obtain ⟨⟨av, kv, ⟨q0, _⟩, _⟩, _⟩ := hp 0 h0
      have hspot : spot = none := by simpa [Addr.add] using World.cell?_spot q0
      subst hspot
      refine ⟨b, off, rfl, ?_, trivial, fun k hk => ?_⟩
      · have := World.block_lt_of_cell? w _ q0
        simpa [Addr.add] using this
      · obtain ⟨⟨av, kv, ⟨q0, q1, q2, q3, q4⟩, hr⟩, _⟩ := hp k hk
        rw [Addr.add_lit] at q0 q1 q2 q3 q4
        exact ⟨av, kv, ⟨q0, q1, q2, q3, q4⟩, hr⟩
set_option maxRecDepth 100000 in
theorem elem_openW {r : Reach} {b0 : Nat} {v : Value} {d : DataW H} {p : List MemPlace} (hv : Value.okWide Tryz.prog w r b0 27 v) (h : DataW.Trod enc Tryz.prog w base (fun _ => true) held 27 v d p) (hz : ∀ n ∈ d.weights Tryz.prog 27, n ≤ reachBytes) :
    ∃ D t, ElemD Any w (D + 1) v t ∧ smK (D + 1) t := by
  obtain ⟨v0, v1, v2, v3, v4, y0, y1, y2, y3, y4, n, rfl, rfl, t0, t1, t2, t3, t4⟩ := agg5_open Tryz.underlying27 (by kernel_rfl) (by kernel_rfl) hv h
  have hw : ∀ n, n ∈ DataW.weightsEach Tryz.prog [9, 9, 24, 25, 9] [y0.1, y1.1, y2.1, y3.1, y4.1] → n ≤ reachBytes := fun n hn => hz n (by
    simp only [DataW.weights, Tryz.underlying27]
    exact hn)
  obtain ⟨s0, e0, z0, w0⟩ := DataW.trod_string Tryz.underlying9 t0
  obtain ⟨s1, e1, z1, w1⟩ := DataW.trod_string Tryz.underlying9 t1
  obtain ⟨s4, e4, z4, w4⟩ := DataW.trod_string Tryz.underlying9 t4
  have b0 : ∀ n ∈ y0.1.weights Tryz.prog 9, n ≤ reachBytes := fun n hn => hw n (DataW.weights_mem_each (j := 0) rfl rfl n hn)
  have b1 : ∀ n ∈ y1.1.weights Tryz.prog 9, n ≤ reachBytes := fun n hn => hw n (DataW.weights_mem_each (j := 1) rfl rfl n hn)
  have b2 : ∀ n ∈ y2.1.weights Tryz.prog 24, n ≤ reachBytes := fun n hn => hw n (DataW.weights_mem_each (j := 2) rfl rfl n hn)
  have b3 : ∀ n ∈ y3.1.weights Tryz.prog 25, n ≤ reachBytes := fun n hn => hw n (DataW.weights_mem_each (j := 3) rfl rfl n hn)
  have b4 : ∀ n ∈ y4.1.weights Tryz.prog 9, n ≤ reachBytes := fun n hn => hw n (DataW.weights_mem_each (j := 4) rfl rfl n hn)
  rw [z0] at b0
  rw [z1] at b1
  rw [z4] at b4
  simp only [List.cons.injEq, and_true] at e0 e1 e4
  subst e0 e1 e4
  obtain ⟨attrs, hp, has⟩ := pairs_openW t2 b2
  obtain ⟨kids, hk, hks⟩ := kids_openW _ t3 b3
  exact ⟨_, .mk s0 s1 attrs kids s4, ⟨_, _, rfl, hp, hk⟩, weight_str b0, weight_str b1, weight_str b4, has, fun k hk => hks k hk _⟩
end
end Go.Proofs.YtpcajjbdlfookaaGreatDoor
