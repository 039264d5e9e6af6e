/- The reference's Same at equal trees. -/
import Derived.Test.YtikofngogkchfaaDoorEx
import Derived.Laws.StructEq
namespace Go.Proofs.YtikofngogkchfaaDoor
open Go.RowKit
set_option linter.unusedVariables false

theorem fieldsV : (Tryd.prog.fieldsOf 23).toList.map (fun f => (f.name != "_", f.type, f.offset)) = [(true, 3, 0), (true, 3, 1), (true, 4, 2), (true, 9, 3)] := by kernel_rfl
theorem structV : Tryd.prog.underlying 23 = some (.struct (Tryd.prog.fieldsOf 23)) := by kernel_rfl
theorem heldV : Tryd.prog.stoodInHeld 23 = false := by kernel_rfl
theorem run_sameV (w : World) (k n : Int) (b : Bool) (t : ByteArray) : (binOp .neq 23 (.agg #[.int .i64 k, .int .i64 n, .bool b, .string t]) (.agg #[.int .i64 k, .int .i64 n, .bool b, .string t])).run Tryd.prog w = .ok (.bool false) w := by
  rw [run_neq_struct, run_equalIn_agg _ _ _ _ _ structV heldV]
  have hf := fieldsV
  generalize (Tryd.prog.fieldsOf 23).toList = fs at hf
  rcases fs with _ | ⟨f0, _ | ⟨f1, _ | ⟨f2, _ | ⟨f3, _ | ⟨f4, r⟩⟩⟩⟩⟩
  · simp at hf
  · simp at hf
  · simp at hf
  · simp at hf
  · simp only [List.map_cons, List.map_nil, List.cons.injEq, Prod.mk.injEq, and_true] at hf
    obtain ⟨⟨n0, t0, o0⟩, ⟨n1, t1, o1⟩, ⟨n2, t2, o2⟩, n3, t3, o3⟩ := hf
    simp only [Op.eqFields, t0, t1, t2, t3, o0, o1, o2, o3]
    simp only [bne_iff_ne] at n0 n1 n2 n3
    rw [if_pos n0, if_pos n1, if_pos n2, if_pos n3]
    simp [go_sem, part]
  · simp at hf
theorem Nd.val_two (n : Nd) (s1 s2 : Value) : ∃ op vk vi vb vt t i, n.val s1 = .agg #[.int .i64 op, .int .i64 vk, .int .i64 vi, .bool vb, .string vt, .string t, .int .i64 i, s1] ∧ n.val s2 = .agg #[.int .i64 op, .int .i64 vk, .int .i64 vi, .bool vb, .string vt, .string t, .int .i64 i, s2] := by
  cases n <;> exact ⟨_, _, _, _, _, _, _, rfl, rfl⟩
/-- One kid of two equal trees. -/
theorem kid_two {w : World} {g1 g2 : Nat} {a : Nd} {s1 s2 : Value} {pre1 post1 pre2 post2 : List Value} {T : TypeId} (h1 : w.heap[g1]? = some (.cells (pre1 ++ a.cells s1 ++ post1).toArray T (0, 0))) (h2 : w.heap[g2]? = some (.cells (pre2 ++ a.cells s2 ++ post2).toArray T (0, 0))) (hp : pre1.length = pre2.length) :
    ∃ op vk vi vb vt t i, (a.val s1 = .agg #[.int .i64 op, .int .i64 vk, .int .i64 vi, .bool vb, .string vt, .string t, .int .i64 i, s1] ∧ a.val s2 = .agg #[.int .i64 op, .int .i64 vk, .int .i64 vi, .bool vb, .string vt, .string t, .int .i64 i, s2]) ∧
      (w.cell? ⟨g1, pre1.length, none⟩ = some (.int .i64 op) ∧ w.cell? ⟨g1, pre1.length + 1, none⟩ = some (.int .i64 vk) ∧ w.cell? ⟨g1, pre1.length + 2, none⟩ = some (.int .i64 vi) ∧ w.cell? ⟨g1, pre1.length + 3, none⟩ = some (.bool vb)
      ∧ w.cell? ⟨g1, pre1.length + 4, none⟩ = some (.string vt) ∧ w.cell? ⟨g1, pre1.length + 5, none⟩ = some (.string t) ∧ w.cell? ⟨g1, pre1.length + 6, none⟩ = some (.int .i64 i) ∧ w.cell? ⟨g1, pre1.length + 7, none⟩ = some s1) ∧
      (w.cell? ⟨g2, pre1.length, none⟩ = some (.int .i64 op) ∧ w.cell? ⟨g2, pre1.length + 1, none⟩ = some (.int .i64 vk) ∧ w.cell? ⟨g2, pre1.length + 2, none⟩ = some (.int .i64 vi) ∧ w.cell? ⟨g2, pre1.length + 3, none⟩ = some (.bool vb)
      ∧ w.cell? ⟨g2, pre1.length + 4, none⟩ = some (.string vt) ∧ w.cell? ⟨g2, pre1.length + 5, none⟩ = some (.string t) ∧ w.cell? ⟨g2, pre1.length + 6, none⟩ = some (.int .i64 i) ∧ w.cell? ⟨g2, pre1.length + 7, none⟩ = some s2) := by
  obtain ⟨op, vk, vi, vb, vt, t, i, hv1, hv2⟩ := a.val_two s1 s2
  obtain ⟨op1, vk1, vi1, vb1, vt1, t1, i1, e1, k0, k1, k2, k3, k4, k5, k6, k7⟩ := kid_cells h1
  obtain ⟨op2, vk2, vi2, vb2, vt2, t2, i2, e2, m0, m1, m2, m3, m4, m5, m6, m7⟩ := kid_cells h2
  rw [hv1] at e1
  rw [hv2] at e2
  simp only [Value.agg.injEq, Array.mk.injEq, List.cons.injEq, Value.int.injEq, Value.bool.injEq, Value.string.injEq, true_and, and_true] at e1 e2
  obtain ⟨rfl, rfl, rfl, rfl, rfl, rfl, rfl⟩ := e1
  obtain ⟨rfl, rfl, rfl, rfl, rfl, rfl, rfl⟩ := e2
  rw [← hp] at m0 m1 m2 m3 m4 m5 m6 m7
  exact ⟨op, vk, vi, vb, vt, t, i, ⟨hv1, hv2⟩, ⟨k0, k1, k2, k3, k4, k5, k6, k7⟩, ⟨m0, m1, m2, m3, m4, m5, m6, m7⟩⟩

set_option maxRecDepth 100000 in
set_option maxHeartbeats 4000000 in
theorem nsame_c : ∀ (n : Nd) (w : World) (b1 b2 : Nat → Prop) (s1 s2 : Value), KidsAt w b1 n s1 → KidsAt w b2 n s2 →
    Calls Tryd.prog 7 #[n.val s1, n.val s2] w fun e w' => e = .returned (.bool true) ∧ Below w.heap.size w w' := by
  intro n
  induction n with
  | leaf op vk vi vb vt t i =>
    intro w b1 b2 s1 s2 h1 h2
    obtain rfl : s1 = .slice none 0 0 := h1
    obtain rfl : s2 = .slice none 0 0 := h2
    obtain ⟨op, vk, vi, vb, vt, t, i, hv1, hv2⟩ := (Nd.leaf op vk vi vb vt t i).val_two (.slice none 0 0) (.slice none 0 0)
    rw [hv1]
    have hs := fun w => run_sameV w vk vi vb vt
    have HB2 := Lib.hid (fun o o2 => (box_bel' w o).alloc (box_bel' w o).size o2)
    clear hv1 hv2
    go_enter Tryd.func7, Tryd.ntmps7
    go_wp2_with fail
    refine wp_loop_rounds 1 ?_
    rw [rounds_succ]
    go_wp2_with fail
    go_ret
    exact ⟨rfl, HB2.out _ _⟩
  | un op a ih =>
    intro w b1 b2 s1 s2 h1 h2
    obtain ⟨g1, sa1, rfl, _, hb1, ha1⟩ := h1
    obtain ⟨pa1, ma1, rfl, _⟩ := Nd.kids_form ha1
    obtain ⟨g2, sa2, rfl, _, hb2, ha2⟩ := h2
    obtain ⟨pa2, ma2, rfl, _⟩ := Nd.kids_form ha2
    obtain ⟨op1, vk1, vi1, vb1, vt1, t1, i1, ⟨e1, e2⟩, ⟨k0, k1, k2, k3, k4, k5, k6, k7⟩, ⟨m0, m1, m2, m3, m4, m5, m6, m7⟩⟩ := kid_two (pre1 := []) (post1 := []) (pre2 := []) (post2 := []) (a := a) (s1 := (.slice pa1 ma1 ma1)) (s2 := (.slice pa2 ma2 ma2)) (by simpa using hb1) (by simpa using hb2) rfl
    simp only [List.length_nil, Nat.zero_add] at k0 k1 k2 k3 k4 k5 k6 k7 m0 m1 m2 m3 m4 m5 m6 m7
    have HB2 := Lib.hid (fun o o2 => (box_bel' w o).alloc (box_bel' w o).size o2)
    have lt1 := (Array.getElem?_eq_some_iff.1 hb1).1
    have lt2 := (Array.getElem?_eq_some_iff.1 hb2).1
    have HI := Lib.hid (fun (w' : World) (hb : Below w.heap.size w w') => (show Calls Tryd.prog 7 #[.agg #[.int .i64 op1, .int .i64 vk1, .int .i64 vi1, .bool vb1, .string vt1, .string t1, .int .i64 i1, (.slice pa1 ma1 ma1)], .agg #[.int .i64 op1, .int .i64 vk1, .int .i64 vi1, .bool vb1, .string vt1, .string t1, .int .i64 i1, (.slice pa2 ma2 ma2)]] w' _ from by rw [← e1, ← e2]; exact ih w' b1 b2 (.slice pa1 ma1 ma1) (.slice pa2 ma2 ma2) (ha1.below hb) (ha2.below hb)))
    have hv1 : (Nd.un op a).val (.slice (some ⟨g1, 0, none⟩) 1 1) = .agg #[.int .i64 op, .int .i64 0, .int .i64 0, .bool false, .string ⟨#[]⟩, .string ⟨#[]⟩, .int .i64 0, .slice (some ⟨g1, 0, none⟩) 1 1] := rfl
    have hv2 : (Nd.un op a).val (.slice (some ⟨g2, 0, none⟩) 1 1) = .agg #[.int .i64 op, .int .i64 0, .int .i64 0, .bool false, .string ⟨#[]⟩, .string ⟨#[]⟩, .int .i64 0, .slice (some ⟨g2, 0, none⟩) 1 1] := rfl
    rw [hv1, hv2]
    have hs := fun w => run_sameV w 0 0 false ⟨#[]⟩
    clear hv1 hv2 ih e1 e2 hb1 hb2 ha1 ha2
    go_enter Tryd.func7, Tryd.ntmps7
    go_wp2_with fail
    refine wp_loop_rounds 2 ?_
    rw [rounds_succ]
    go_wp2_with fail
    go_region_with (go_at_call 7; refine (HI.out _ (by first | exact HB2.out _ _ | exact (HB2.out _ _).drew)).mono ?_; rintro e w1 ⟨rfl, hb⟩; have HB := Lib.hid ((HB2.out _ _).drew.trans (hb.mono (HB2.out _ _).drew.size)); clear hb)
    all_goals
      go_wp2_with fail
      rw [rounds_succ]
      go_wp2_with fail
      go_ret
      exact ⟨rfl, HB.out⟩
  | bin op a b iha ihb =>
    intro w b1 b2 s1 s2 h1 h2
    obtain ⟨g1, sa1, sb1, rfl, _, hb1, ha1, hc1⟩ := h1
    obtain ⟨pa1, ma1, rfl, _⟩ := Nd.kids_form ha1
    obtain ⟨pc1, mc1, rfl, _⟩ := Nd.kids_form hc1
    obtain ⟨g2, sa2, sb2, rfl, _, hb2, ha2, hc2⟩ := h2
    obtain ⟨pa2, ma2, rfl, _⟩ := Nd.kids_form ha2
    obtain ⟨pc2, mc2, rfl, _⟩ := Nd.kids_form hc2
    obtain ⟨op1, vk1, vi1, vb1, vt1, t1, i1, ⟨e1, e2⟩, ⟨k0, k1, k2, k3, k4, k5, k6, k7⟩, ⟨m0, m1, m2, m3, m4, m5, m6, m7⟩⟩ := kid_two (pre1 := []) (post1 := b.cells (.slice pc1 mc1 mc1)) (pre2 := []) (post2 := b.cells (.slice pc2 mc2 mc2)) (a := a) (s1 := (.slice pa1 ma1 ma1)) (s2 := (.slice pa2 ma2 ma2)) (by simpa using hb1) (by simpa using hb2) rfl
    simp only [List.length_nil, Nat.zero_add] at k0 k1 k2 k3 k4 k5 k6 k7 m0 m1 m2 m3 m4 m5 m6 m7
    obtain ⟨op2, vk2, vi2, vb2, vt2, t2, i2, ⟨f1, f2⟩, ⟨p0, p1, p2, p3, p4, p5, p6, p7⟩, ⟨q0, q1, q2, q3, q4, q5, q6, q7⟩⟩ := kid_two (pre1 := a.cells (.slice pa1 ma1 ma1)) (post1 := []) (pre2 := a.cells (.slice pa2 ma2 ma2)) (post2 := []) (a := b) (s1 := (.slice pc1 mc1 mc1)) (s2 := (.slice pc2 mc2 mc2)) (by simpa using hb1) (by simpa using hb2) (by rw [Nd.cells_len, Nd.cells_len])
    rw [Nd.cells_len] at p0 p1 p2 p3 p4 p5 p6 p7 q0 q1 q2 q3 q4 q5 q6 q7
    have HB2 := Lib.hid (fun o o2 => (box_bel' w o).alloc (box_bel' w o).size o2)
    have lt1 := (Array.getElem?_eq_some_iff.1 hb1).1
    have lt2 := (Array.getElem?_eq_some_iff.1 hb2).1
    have HI := Lib.hid (fun (w' : World) (hb : Below w.heap.size w w') => (show Calls Tryd.prog 7 #[.agg #[.int .i64 op1, .int .i64 vk1, .int .i64 vi1, .bool vb1, .string vt1, .string t1, .int .i64 i1, (.slice pa1 ma1 ma1)], .agg #[.int .i64 op1, .int .i64 vk1, .int .i64 vi1, .bool vb1, .string vt1, .string t1, .int .i64 i1, (.slice pa2 ma2 ma2)]] w' _ from by rw [← e1, ← e2]; exact iha w' b1 b2 (.slice pa1 ma1 ma1) (.slice pa2 ma2 ma2) (ha1.below hb) (ha2.below hb)))
    have HJ := Lib.hid (fun (w' : World) (hb : Below w.heap.size w w') => (show Calls Tryd.prog 7 #[.agg #[.int .i64 op2, .int .i64 vk2, .int .i64 vi2, .bool vb2, .string vt2, .string t2, .int .i64 i2, (.slice pc1 mc1 mc1)], .agg #[.int .i64 op2, .int .i64 vk2, .int .i64 vi2, .bool vb2, .string vt2, .string t2, .int .i64 i2, (.slice pc2 mc2 mc2)]] w' _ from by rw [← f1, ← f2]; exact ihb w' b1 b2 (.slice pc1 mc1 mc1) (.slice pc2 mc2 mc2) (hc1.below hb) (hc2.below hb)))
    have HP := Lib.hid (And.intro p0 (And.intro p1 (And.intro p2 (And.intro p3 (And.intro p4 (And.intro p5 (And.intro p6 p7)))))))
    have HQ := Lib.hid (And.intro q0 (And.intro q1 (And.intro q2 (And.intro q3 (And.intro q4 (And.intro q5 (And.intro q6 q7)))))))
    have hv1 : (Nd.bin op a b).val (.slice (some ⟨g1, 0, none⟩) 2 2) = .agg #[.int .i64 op, .int .i64 0, .int .i64 0, .bool false, .string ⟨#[]⟩, .string ⟨#[]⟩, .int .i64 0, .slice (some ⟨g1, 0, none⟩) 2 2] := rfl
    have hv2 : (Nd.bin op a b).val (.slice (some ⟨g2, 0, none⟩) 2 2) = .agg #[.int .i64 op, .int .i64 0, .int .i64 0, .bool false, .string ⟨#[]⟩, .string ⟨#[]⟩, .int .i64 0, .slice (some ⟨g2, 0, none⟩) 2 2] := rfl
    rw [hv1, hv2]
    have hs := fun w => run_sameV w 0 0 false ⟨#[]⟩
    have HBL := Lib.hid (And.intro lt1 lt2)
    clear hv1 hv2 iha ihb e1 e2 f1 f2 hb1 hb2 ha1 ha2 hc1 hc2 p0 p1 p2 p3 p4 p5 p6 p7 q0 q1 q2 q3 q4 q5 q6 q7
    go_enter Tryd.func7, Tryd.ntmps7
    go_wp2_with fail
    refine wp_loop_rounds 3 ?_
    rw [rounds_succ]
    go_wp2_with fail
    go_region_with (go_at_call 7; refine (HI.out _ (by first | exact HB2.out _ _ | exact (HB2.out _ _).drew)).mono ?_; rintro e w1 ⟨rfl, hb⟩; have HB := Lib.hid ((HB2.out _ _).drew.trans (hb.mono (HB2.out _ _).drew.size)); have HA := Lib.hid ((hb.block w.heap.size (by simp; omega)).trans (heap_alloc2_old w _ _)); have HBb := Lib.hid ((hb.block (w.heap.size + 1) (by simp)).trans (heap_alloc2_new w _ _)); clear hb)
    all_goals
      go_wp2_with fail
      have A7 := (cellsN HA.out).2.2.2.2.2.2.2.1
      have B7 := (cellsN HBb.out).2.2.2.2.2.2.2.1
      rw [rounds_succ]
      have kk : ∀ (g j : Nat) (u : Value), g < w.heap.size → w.cell? ⟨g, j, none⟩ = some u → w1.cell? ⟨g, j, none⟩ = some u := fun g j u h1 h2 => by rw [HB.out.cell (p := ⟨g, j, none⟩) h1]; exact h2
      have P0 := kk _ _ _ HBL.out.1 HP.out.1
      have P1 := kk _ _ _ HBL.out.1 HP.out.2.1
      have P2 := kk _ _ _ HBL.out.1 HP.out.2.2.1
      have P3 := kk _ _ _ HBL.out.1 HP.out.2.2.2.1
      have P4 := kk _ _ _ HBL.out.1 HP.out.2.2.2.2.1
      have P5 := kk _ _ _ HBL.out.1 HP.out.2.2.2.2.2.1
      have P6 := kk _ _ _ HBL.out.1 HP.out.2.2.2.2.2.2.1
      have P7 := kk _ _ _ HBL.out.1 HP.out.2.2.2.2.2.2.2
      have Q0 := kk _ _ _ HBL.out.2 HQ.out.1
      have Q1 := kk _ _ _ HBL.out.2 HQ.out.2.1
      have Q2 := kk _ _ _ HBL.out.2 HQ.out.2.2.1
      have Q3 := kk _ _ _ HBL.out.2 HQ.out.2.2.2.1
      have Q4 := kk _ _ _ HBL.out.2 HQ.out.2.2.2.2.1
      have Q5 := kk _ _ _ HBL.out.2 HQ.out.2.2.2.2.2.1
      have Q6 := kk _ _ _ HBL.out.2 HQ.out.2.2.2.2.2.2.1
      have Q7 := kk _ _ _ HBL.out.2 HQ.out.2.2.2.2.2.2.2
      clear kk k0 k1 k2 k3 k4 k5 k6 k7 m0 m1 m2 m3 m4 m5 m6 m7
      go_wp2_with fail
      go_region_with (go_at_call 7; refine (HJ.out _ (by first | exact HB.out | exact HB.out.drew)).mono ?_; rintro e w2 ⟨rfl, hb⟩; have HB2 := Lib.hid (HB.out.drew.trans (hb.mono HB.out.drew.size)); clear hb)
      all_goals
        go_wp2_with fail
        rw [rounds_succ]
        go_wp2_with fail
        go_ret
        exact ⟨rfl, HB2.out⟩
end Go.Proofs.YtikofngogkchfaaDoor
