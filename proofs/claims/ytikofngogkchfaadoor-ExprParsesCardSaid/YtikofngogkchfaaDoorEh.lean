/- How deep a tree is: the program's and (by sed) the reference's. -/
import Derived.Test.YtikofngogkchfaaDoorEd
namespace Go.Proofs.YtikofngogkchfaaDoor
open Go.RowKit
set_option linter.unusedVariables false

theorem w64_id (x : Int) (h1 : 0 ≤ x) (h2 : x ≤ 9223372036854775807) : wrap64 x = x := by unfold wrap64; omega
theorem depth_pos (n : Nd) : 1 ≤ n.depth := by cases n <;> simp [Nd.depth]
set_option maxRecDepth 100000 in
set_option maxHeartbeats 1000000 in
theorem depth_c : ∀ (n : Nd) (w : World) (base : Nat → Prop) (s : Value), KidsAt w base n s → n.depth ≤ 4611686018427387904 →
    Calls Tryd.prog 26 #[n.val s] w fun e w' => e = .returned (.int .i64 (n.depth : Nat)) ∧ Below w.heap.size w w' := by
  intro n
  induction n with
  | leaf op vk vi vb vt t i =>
    intro w base s h hd
    obtain rfl : s = .slice none 0 0 := h
    have HD := Lib.hid (show (Nd.leaf op vk vi vb vt t i).depth = 1 from rfl)
    have hv : (Nd.leaf op vk vi vb vt t i).val (.slice none 0 0) = .agg #[.int .i64 op, .int .i64 vk, .int .i64 vi, .bool vb, .string ⟨vt.toArray⟩, .string ⟨t.toArray⟩, .int .i64 i, .slice none 0 0] := rfl
    rw [hv]
    generalize (⟨vt.toArray⟩ : ByteArray) = VT
    generalize (⟨t.toArray⟩ : ByteArray) = T
    have HB := Lib.hid (fun o => box_bel' w o)
    clear hv hd
    go_enter Tryd.func26, Tryd.ntmps26
    go_wp2_with fail
    refine wp_loop_rounds 1 ?_
    rw [rounds_succ]
    go_wp2_with fail
    go_ret
    exact ⟨by rw [HD.out]; rfl, HB.out _⟩
  | un op a ih =>
    intro w base s h hd
    obtain ⟨g, sa, rfl, hg, hb, ha⟩ := h
    have hdd : (Nd.un op a).depth = a.depth + 1 := rfl
    obtain ⟨pa, ma, rfl, _⟩ := Nd.kids_form ha
    obtain ⟨op1, vk1, vi1, vb1, vt1, t1, i1, hv1, k0, k1, k2, k3, k4, k5, k6, k7⟩ := kid_cells (pre := []) (post := []) (a := a) (sa := .slice pa ma ma) (by simpa using hb)
    simp only [List.length_nil, Nat.zero_add] at k0 k1 k2 k3 k4 k5 k6 k7
    have hI := fun (w' : World) (hb : Below w.heap.size w w') => ih w' base _ (ha.below hb) (by omega)
    rw [hv1] at hI
    have HI := Lib.hid hI
    have lt1 := (Array.getElem?_eq_some_iff.1 hb).1
    have HB := Lib.hid (fun o => box_bel' w o)
    have HB2 := Lib.hid (fun o o2 => (box_bel' w o).alloc (box_bel' w o).size o2)
    have HD := Lib.hid hdd
    have hp := depth_pos a
    obtain ⟨d, hdv⟩ : ∃ d, d = a.depth := ⟨_, rfl⟩
    rw [← hdv] at HI HD hp
    have hmx : max (0 : Int) (d : Int) = d := by omega
    have hv : (Nd.un op a).val (.slice (some ⟨g, 0, none⟩) 1 1) = .agg #[.int .i64 op, .int .i64 0, .int .i64 0, .bool false, .string ⟨#[]⟩, .string ⟨#[]⟩, .int .i64 0, .slice (some ⟨g, 0, none⟩) 1 1] := rfl
    rw [hv]
    clear hv hI hdd ih hv1 hb ha hdv hg
    go_enter Tryd.func26, Tryd.ntmps26
    go_wp2_with fail
    refine wp_loop_rounds 2 ?_
    rw [rounds_succ]
    go_wp2_with (go_at_call 26; refine (HI.out _ (HB2.out _ _)).mono ?_; rintro e w1 ⟨rfl, hb⟩; have HC := Lib.hid ((HB2.out _ _).trans (hb.mono (HB2.out _ _).size)); clear hb)
    rw [rounds_succ]
    go_wp2_with fail
    go_ret
    exact ⟨by rw [HD.out]; simp; rw [w64_id _ (by omega) (by have := HD.out; omega)], HC.out⟩
  | bin op a b iha ihb =>
    intro w base s h hd
    obtain ⟨g, sa, sb, rfl, hg, hb, ha, hbb⟩ := h
    have hdd : (Nd.bin op a b).depth = max a.depth b.depth + 1 := rfl
    obtain ⟨pa, ma, rfl, _⟩ := Nd.kids_form ha
    obtain ⟨pb, mb, rfl, _⟩ := Nd.kids_form hbb
    obtain ⟨op1, vk1, vi1, vb1, vt1, t1, i1, hv1, k0, k1, k2, k3, k4, k5, k6, k7⟩ := kid_cells (pre := []) (post := b.cells _) (a := a) (sa := .slice pa ma ma) (by simpa using hb)
    obtain ⟨op2, vk2, vi2, vb2, vt2, t2, i2, hv2, m0, m1, m2, m3, m4, m5, m6, m7⟩ := kid_cells (pre := a.cells (.slice pa ma ma)) (post := []) (a := b) (sa := .slice pb mb mb) (by simpa using hb)
    simp only [List.length_nil, Nat.zero_add] at k0 k1 k2 k3 k4 k5 k6 k7
    rw [Nd.cells_len] at m0 m1 m2 m3 m4 m5 m6 m7
    have hIa := fun (w' : World) (hb : Below w.heap.size w w') => iha w' base _ (ha.below hb) (by omega)
    have hIb := fun (w' : World) (hb : Below w.heap.size w w') => ihb w' base _ (hbb.below hb) (by omega)
    have lt1 := (Array.getElem?_eq_some_iff.1 hb).1
    have HLT := Lib.hid lt1
    have HM := Lib.hid (And.intro m0 (And.intro m1 (And.intro m2 (And.intro m3 (And.intro m4 (And.intro m5 (And.intro m6 m7)))))))
    have HB2 := Lib.hid (fun o o2 => (box_bel' w o).alloc (box_bel' w o).size o2)
    rw [hv1] at hIa
    rw [hv2] at hIb
    have HIa := Lib.hid hIa
    have HIb := Lib.hid hIb
    have HD := Lib.hid hdd
    have hp := depth_pos a
    have hp2 := depth_pos b
    obtain ⟨da, hda⟩ : ∃ d, d = a.depth := ⟨_, rfl⟩
    obtain ⟨db, hdb⟩ : ∃ d, d = b.depth := ⟨_, rfl⟩
    rw [← hda] at HIa HD hp
    rw [← hdb] at HIb HD hp2
    have hmx : max (0 : Int) (da : Int) = da := by omega
    have hmx2 : max (da : Int) (db : Int) = ((max da db : Nat) : Int) := by omega
    have hv : (Nd.bin op a b).val (.slice (some ⟨g, 0, none⟩) 2 2) = .agg #[.int .i64 op, .int .i64 0, .int .i64 0, .bool false, .string ⟨#[]⟩, .string ⟨#[]⟩, .int .i64 0, .slice (some ⟨g, 0, none⟩) 2 2] := rfl
    rw [hv]
    clear hv hIa hIb hdd iha ihb hv1 hv2 hb ha hbb hda hdb hg m0 m1 m2 m3 m4 m5 m6 m7
    go_enter Tryd.func26, Tryd.ntmps26
    go_wp2_with fail
    refine wp_loop_rounds 3 ?_
    rw [rounds_succ]
    go_wp2_with (go_at_call 26; refine (HIa.out _ (HB2.out _ _)).mono ?_; rintro e w1 ⟨rfl, hb⟩; have HC := Lib.hid ((HB2.out _ _).trans (hb.mono (HB2.out _ _).size)); clear hb)
    rw [rounds_succ]
    have kk : ∀ (j : Nat) (u : Value), w.cell? ⟨g, j, none⟩ = some u → w1.cell? ⟨g, j, none⟩ = some u := fun j u h2 => by rw [HC.out.cell (p := ⟨g, j, none⟩) HLT.out]; exact h2
    have M0 := kk _ _ HM.out.1
    have M1 := kk _ _ HM.out.2.1
    have M2 := kk _ _ HM.out.2.2.1
    have M3 := kk _ _ HM.out.2.2.2.1
    have M4 := kk _ _ HM.out.2.2.2.2.1
    have M5 := kk _ _ HM.out.2.2.2.2.2.1
    have M6 := kk _ _ HM.out.2.2.2.2.2.2.1
    have M7 := kk _ _ HM.out.2.2.2.2.2.2.2
    clear kk k0 k1 k2 k3 k4 k5 k6 k7
    go_wp2_with (go_at_call 26; refine (HIb.out _ (HC.out.alloc HC.out.size _)).mono ?_; rintro e w2 ⟨rfl, hb⟩; have HC2 := Lib.hid ((HC.out.alloc HC.out.size _).trans (hb.mono (HC.out.alloc HC.out.size _).size)); clear hb)
    rw [rounds_succ]
    go_wp2_with fail
    go_ret
    exact ⟨by rw [HD.out]; simp; rw [w64_id _ (by omega) (by have := HD.out; omega)], HC2.out⟩
end Go.Proofs.YtikofngogkchfaaDoor
