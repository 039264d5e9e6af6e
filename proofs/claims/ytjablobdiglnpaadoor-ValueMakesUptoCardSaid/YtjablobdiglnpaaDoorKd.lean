/- value: Do. -/
import Derived.Test.YtjablobdiglnpaaDoorKc
namespace Go.Proofs.YtjablobdiglnpaaDoor
open Go.RowKit
set_option linter.unusedVariables false

set_option maxRecDepth 100000 in
theorem can_other (w : World) (k n : Int) (y : Bool) (s : ByteArray) (h : k ≠ 0 ∧ k ≠ 1 ∧ k ≠ 2 ∧ k ≠ 3) : Calls Tryd.prog 13 #[.agg #[.int .i64 k, .int .i64 n, .bool y, .string s]] w fun e w' => e = .returned (.bool false) ∧ Below w.heap.size w w' := by
  have t0 : (k == 0) = false := by simp; omega
  have t1 : (k == 1) = false := by simp; omega
  have t2 : (k == 2) = false := by simp; omega
  have t3 : (k == 3) = false := by simp; omega
  clear h
  go_enter Tryd.func13, Tryd.ntmps13
  go_wp2_with fail
  go_ret
  exact ⟨rfl, box_below _ _⟩
theorem can_c (w : World) (hT : Tabs w) (v : Vl) : Calls Tryd.prog 13 #[v.val] w fun e w' => e = .returned (.bool (canB v)) ∧ Below w.heap.size w w' := by
  obtain ⟨k, n, y, s⟩ := v
  unfold canB
  dsimp only
  by_cases h0 : k = 0
  · subst h0
    rw [if_pos rfl]
    exact can_0 w n y s
  rw [if_neg h0]
  by_cases h1 : k = 1
  · subst h1
    rw [if_pos rfl]
    exact can_1 w n y s
  rw [if_neg h1]
  by_cases h2 : k = 2
  · subst h2
    rw [if_pos rfl]
    exact can_2 w n y s
  rw [if_neg h2]
  by_cases h3 : k = 3
  · subst h3
    rw [if_pos rfl]
    unfold textB
    by_cases hS : sameB ⟨3, n, y, s⟩ (textV s) = true
    · rw [hS, Bool.true_and]
      by_cases hl : s.size ≤ 256
      · rw [show decide (s.size ≤ 256) = true from by simpa using hl, Bool.true_and]
        exact can_3y w n y s hT hS hl
      · rw [show decide (s.size ≤ 256) = false from by simpa using hl, Bool.false_and]
        exact can_3l w n y s hS (by omega)
    · rw [Bool.not_eq_true] at hS
      rw [hS, Bool.false_and]
      exact can_3f w n y s hS
  · rw [if_neg h3]
    exact can_other w k n y s ⟨h0, h1, h2, h3⟩
theorem kindF_class {op a b : Int} (h : (kindF op a b).2 = true) (c : Int) (hc : classF op = c) : kindC c a b = kindF op a b := by rw [← hc]; rfl

theorem box4 {w : World} {b : Nat} {c0 c1 c2 c3 : Value} {T : TypeId} (h : w.heap[b]? = some (.cells #[c0, c1, c2, c3] T (0, 0))) :
    (w.cell? ⟨b, 0, none⟩ = some c0 ∧ w.cell? ⟨b, 1, none⟩ = some c1 ∧ w.cell? ⟨b, 2, none⟩ = some c2 ∧ w.cell? ⟨b, 3, none⟩ = some c3) ∧
    w.frozen? ⟨b, 0, none⟩ = false ∧ w.frozen? ⟨b, 1, none⟩ = false ∧ w.frozen? ⟨b, 2, none⟩ = false ∧ w.frozen? ⟨b, 3, none⟩ = false := by
  refine ⟨cells4 h, ?_, ?_, ?_, ?_⟩ <;> simp [World.frozen?, h]

theorem heap_at3 (w : World) (o1 o2 o3 : Obj) : (((w.alloc o1).alloc o2).alloc o3).heap[w.heap.size + 1 + 1]? = some o3 := by
  have := heap_alloc_new ((w.alloc o1).alloc o2) o3
  simpa using this
theorem heap_at2 (w : World) (o1 o2 o3 : Obj) : (((w.alloc o1).alloc o2).alloc o3).heap[w.heap.size + 1]? = some o2 := by
  have := heap_alloc_new (w.alloc o1) o2
  have h2 : (w.alloc o1).heap.size < ((w.alloc o1).alloc o2).heap.size := by simp
  have := (box_below ((w.alloc o1).alloc o2) o3).block _ h2 |>.trans this
  simpa using this
theorem heap_at1 (w : World) (o1 o2 o3 : Obj) : (((w.alloc o1).alloc o2).alloc o3).heap[w.heap.size]? = some o1 := by
  have := heap_alloc_new w o1
  exact ((box_below ((w.alloc o1).alloc o2) o3).block _ (by simp; omega)).trans (((box_below (w.alloc o1) o2).block _ (by simp)).trans this)

theorem below4 {B : Nat} {w w4 : World} (hb : Below B w w4) {b : Nat} (hle : B ≤ b) (v0 v1 v2 v3 : Value) :
    Below B w ((((w4.setCell ⟨b, 0, none⟩ v0).setCell ⟨b, 1, none⟩ v1).setCell ⟨b, 2, none⟩ v2).setCell ⟨b, 3, none⟩ v3) :=
  (((hb.setCell hle _).setCell hle _).setCell hle _).setCell hle _

section
variable (w : World) (hT : Tabs w) (op : Int) (a b : Vl)
include hT
set_option maxRecDepth 100000 in
omit hT in
theorem do_A (h : (kindF op a.k b.k).2 = false) : Calls Tryd.prog 22 #[.int .i64 op, a.val, b.val] w fun e w' => e = .returned (.tuple #[noV.val, .bool false]) ∧ Below w.heap.size w w' := by
  have HK := Lib.hid (fun w => kind_c w op a.k b.k)
  simp only [h] at HK
  clear h
  obtain ⟨ak, an, ay, sa⟩ := a
  obtain ⟨bk, bn, b3, sb⟩ := b
  unfold Vl.val at *
  dsimp only at *
  go_enter Tryd.func22, Tryd.ntmps22
  go_wp2_with (go_at_call 24; refine (HK.out _).mono ?_; rintro e w' ⟨rfl, rfl⟩)
  refine bodyPost_ret (v := .tuple #[noV.val, .bool false]) (by simp [results, Tryd.results22, go_sem, noV, Vl.val]; rfl) rfl ⟨rfl, ?_⟩
  exact (((Below.refl _ _).alloc (Nat.le_refl _) _).alloc (by simp) _).alloc (by simp; omega) _

set_option maxRecDepth 100000 in
theorem do_B (h : (kindF op a.k b.k).2 = true) (hc : canB a = false) : Calls Tryd.prog 22 #[.int .i64 op, a.val, b.val] w fun e w' => e = .returned (.tuple #[noV.val, .bool false]) ∧ Below w.heap.size w w' := by
  have HK := fun w => kind_c w op a.k b.k
  simp only [h] at HK
  have HK := Lib.hid HK
  have HA := fun (w : World) (hT : Tabs w) => can_c w hT a
  simp only [hc] at HA
  have HA := Lib.hid HA
  have HT := Lib.hid hT
  clear h hT hc
  obtain ⟨ak, an, ay, sa⟩ := a
  obtain ⟨bk, bn, b3, sb⟩ := b
  unfold Vl.val at *
  dsimp only at *
  have HB3 := Lib.hid (show Below w.heap.size w (((w.alloc (.cells #[.int .i64 ak, .int .i64 an, .bool ay, .string sa] 23)).alloc (.cells #[.int .i64 bk, .int .i64 bn, .bool b3, .string sb] 23)).alloc (.cells #[.int .i64 0, .int .i64 0, .bool false, .string ⟨#[]⟩] 23)) from (((Below.refl _ _).alloc (Nat.le_refl _) _).alloc (by simp) _).alloc (by simp; omega) _)
  go_enter Tryd.func22, Tryd.ntmps22
  go_wp2_with (go_at_call 24; refine (HK.out _).mono ?_; rintro e w' ⟨rfl, rfl⟩)
  refine (HA.out _ (HT.out.below HB3.out)).mono ?_
  rintro e w4 ⟨rfl, hb⟩
  obtain ⟨⟨k0, k1, k2, k3⟩, f0, f1, f2, f3⟩ := box4 ((hb.block (w.heap.size + 1 + 1) (by simp)).trans (heap_at3 _ _ _ _))
  have HB4 := Lib.hid (HB3.out.trans (hb.mono (by simp; omega)))
  have hz4 : w.heap.size + 2 < w4.heap.size := by have := hb.size; simp at this; omega
  clear hb
  go_wp2_with fail
  refine bodyPost_ret (v := .tuple #[noV.val, .bool false]) (by simp [results, Tryd.results22, go_sem, noV, Vl.val, k0, k1, k2, k3]; rfl) rfl ⟨rfl, ?_⟩
  exact below4 HB4.out (by omega) _ _ _ _
end

theorem vbool_d (w : World) (n : Bool) : Calls Tryd.prog 9 #[.bool n] w fun e w' => e = .returned (.agg #[.int .i64 2, .int .i64 0, .bool n, .string ⟨#[]⟩]) ∧ Below w.heap.size w w' :=
  (vbool_c w n).mono fun _ _ ⟨h1, h2⟩ => ⟨h1, h2 ▸ (Below.refl _ _).alloc (Nat.le_refl _) _⟩

section
variable (w : World) (hT : Tabs w) (op ak an : Int) (ay : Bool) (sa : ByteArray) (bk bn : Int) (b3 : Bool) (sb : ByteArray)
include hT
set_option maxRecDepth 100000 in
set_option maxHeartbeats 1000000 in
theorem do_C (hk : (kindF op ak bk).2 = true) (ha : canB ⟨ak, an, ay, sa⟩ = true) (hb : canB ⟨bk, bn, b3, sb⟩ = false) : Calls Tryd.prog 22 #[.int .i64 op, .agg #[.int .i64 ak, .int .i64 an, .bool ay, .string sa], .agg #[.int .i64 bk, .int .i64 bn, .bool b3, .string sb]] w fun e w' => e = .returned (.tuple #[noV.val, .bool false]) ∧ Below w.heap.size w w' := by
  have HK := fun w => kind_c w op ak bk
  simp only [hk] at HK
  have HA := fun (w : World) (hT : Tabs w) => can_c w hT ⟨ak, an, ay, sa⟩
  simp only [ha, Vl.val] at HA
  have HV := fun (w : World) (hT : Tabs w) => can_c w hT ⟨bk, bn, b3, sb⟩
  simp only [hb, Vl.val] at HV
  have HK' := Lib.hid HK
  have HA' := Lib.hid HA
  have HV' := Lib.hid HV
  have HT := Lib.hid hT
  have HB3 := Lib.hid (show Below w.heap.size w (((w.alloc (.cells #[.int .i64 ak, .int .i64 an, .bool ay, .string sa] 23)).alloc (.cells #[.int .i64 bk, .int .i64 bn, .bool b3, .string sb] 23)).alloc (.cells #[.int .i64 0, .int .i64 0, .bool false, .string ⟨#[]⟩] 23)) from (((Below.refl _ _).alloc (Nat.le_refl _) _).alloc (by simp) _).alloc (by simp; omega) _)
  clear hk ha hb hT HK HA HV
  go_enter Tryd.func22, Tryd.ntmps22
  go_wp2_with (go_at_call 24; refine (HK'.out _).mono ?_; rintro e w' ⟨rfl, rfl⟩)
  refine (HA'.out _ (HT.out.below HB3.out)).mono ?_
  rintro e w4 ⟨rfl, hb⟩
  have hB4 := HB3.out.trans (hb.mono (by simp; omega))
  have ra := (hb.block w.heap.size (by simp; omega)).trans (heap_at1 _ _ _ _)
  have rb := (hb.block (w.heap.size + 1) (by simp)).trans (heap_at2 _ _ _ _)
  have rr := (hb.block (w.heap.size + 1 + 1) (by simp)).trans (heap_at3 _ _ _ _)
  have hz4 : w.heap.size + 2 < w4.heap.size := by have := hb.size; simp at this; omega
  obtain ⟨⟨p0, p1, p2, p3⟩, _⟩ := box4 rb
  have HX := Lib.hid (And.intro hB4 (And.intro ra (And.intro rb rr)))
  clear hb hB4 ra rb rr
  go_wp2_with fail
  refine (HV'.out _ (HT.out.below HX.out.1)).mono ?_
  rintro e w5 ⟨rfl, hb⟩
  have hB5 := HX.out.1.trans (hb.mono (by omega))
  have ra := (hb.block w.heap.size (by omega)).trans HX.out.2.1
  have rb := (hb.block (w.heap.size + 1) (by omega)).trans HX.out.2.2.1
  have rr := (hb.block (w.heap.size + 1 + 1) (by omega)).trans HX.out.2.2.2
  have hz5 : w.heap.size + 2 < w5.heap.size := by have := hb.size; omega
  have hz5' : w.heap.size + 1 + 1 < w5.heap.size := by omega
  clear p0 p1 p2 p3
  obtain ⟨⟨p0, p1, p2, p3⟩, _⟩ := box4 ra
  obtain ⟨⟨q0, q1, q2, q3⟩, _⟩ := box4 rb
  obtain ⟨⟨k0, k1, k2, k3⟩, f0, f1, f2, f3⟩ := box4 rr
  have HX5 := Lib.hid (And.intro hB5 rr)
  clear hb hB5 ra rb rr hz4 HX
  go_wp2_with fail
  refine bodyPost_ret (v := .tuple #[noV.val, .bool false]) (by simp [results, Tryd.results22, go_sem, noV, Vl.val, k0, k1, k2, k3]; rfl) rfl ⟨rfl, ?_⟩
  exact below4 HX5.out.1 (by omega) _ _ _ _

set_option maxRecDepth 100000 in
set_option maxHeartbeats 1000000 in
theorem do_1 (hk : (kindF op ak bk).2 = true) (ha : canB ⟨ak, an, ay, sa⟩ = true) (hb : canB ⟨bk, bn, b3, sb⟩ = true) (hc : classF op = 1) : Calls Tryd.prog 22 #[.int .i64 op, .agg #[.int .i64 ak, .int .i64 an, .bool ay, .string sa], .agg #[.int .i64 bk, .int .i64 bn, .bool b3, .string sb]] w fun e w' => e = .returned (.tuple #[(makeF op ⟨ak, an, ay, sa⟩ ⟨bk, bn, b3, sb⟩).1.val, .bool (makeF op ⟨ak, an, ay, sa⟩ ⟨bk, bn, b3, sb⟩).2]) ∧ Below w.heap.size w w' := by
  have HK := fun w => kind_c w op ak bk
  simp only [hk] at HK
  have HA := fun (w : World) (hT : Tabs w) => can_c w hT ⟨ak, an, ay, sa⟩
  simp only [ha, Vl.val] at HA
  have HV := fun (w : World) (hT : Tabs w) => can_c w hT ⟨bk, bn, b3, sb⟩
  simp only [hb, Vl.val] at HV
  have HK' := Lib.hid HK
  have HA' := Lib.hid HA
  have HV' := Lib.hid HV
  have HT := Lib.hid hT
  have HB3 := Lib.hid (show Below w.heap.size w (((w.alloc (.cells #[.int .i64 ak, .int .i64 an, .bool ay, .string sa] 23)).alloc (.cells #[.int .i64 bk, .int .i64 bn, .bool b3, .string sb] 23)).alloc (.cells #[.int .i64 0, .int .i64 0, .bool false, .string ⟨#[]⟩] 23)) from (((Below.refl _ _).alloc (Nat.le_refl _) _).alloc (by simp) _).alloc (by simp; omega) _)
  clear hk ha hb hT HK HA HV
  have HC := Lib.hid (fun w => class_c w op)
  rw [hc] at HC
  have HR := Lib.hid (show makeF op ⟨ak, an, ay, sa⟩ ⟨bk, bn, b3, sb⟩ = (boolV (!ay), true) from by unfold makeF; rw [if_pos hc])
  clear hc
  go_enter Tryd.func22, Tryd.ntmps22
  go_wp2_with (go_at_call 24; refine (HK'.out _).mono ?_; rintro e w' ⟨rfl, rfl⟩)
  refine (HA'.out _ (HT.out.below HB3.out)).mono ?_
  rintro e w4 ⟨rfl, hb⟩
  have hB4 := HB3.out.trans (hb.mono (by simp; omega))
  have ra := (hb.block w.heap.size (by simp; omega)).trans (heap_at1 _ _ _ _)
  have rb := (hb.block (w.heap.size + 1) (by simp)).trans (heap_at2 _ _ _ _)
  have rr := (hb.block (w.heap.size + 1 + 1) (by simp)).trans (heap_at3 _ _ _ _)
  have hz4 : w.heap.size + 2 < w4.heap.size := by have := hb.size; simp at this; omega
  obtain ⟨⟨p0, p1, p2, p3⟩, _⟩ := box4 rb
  have HX := Lib.hid (And.intro hB4 (And.intro ra (And.intro rb rr)))
  clear hb hB4 ra rb rr
  go_wp2_with fail
  refine (HV'.out _ (HT.out.below HX.out.1)).mono ?_
  rintro e w5 ⟨rfl, hb⟩
  have hB5 := HX.out.1.trans (hb.mono (by omega))
  have ra := (hb.block w.heap.size (by omega)).trans HX.out.2.1
  have rb := (hb.block (w.heap.size + 1) (by omega)).trans HX.out.2.2.1
  have rr := (hb.block (w.heap.size + 1 + 1) (by omega)).trans HX.out.2.2.2
  have hz5 : w.heap.size + 2 < w5.heap.size := by have := hb.size; omega
  have hz5' : w.heap.size + 1 + 1 < w5.heap.size := by omega
  clear p0 p1 p2 p3
  obtain ⟨⟨p0, p1, p2, p3⟩, _⟩ := box4 ra
  obtain ⟨⟨q0, q1, q2, q3⟩, _⟩ := box4 rb
  obtain ⟨⟨k0, k1, k2, k3⟩, f0, f1, f2, f3⟩ := box4 rr
  have HX5 := Lib.hid (And.intro hB5 rr)
  clear hb hB5 ra rb rr hz4 HX
  go_wp2_with (go_at_call 38; refine (HC.out _).mono ?_; rintro e w' ⟨rfl, rfl⟩)
  refine (vbool_d _ _).mono ?_
  rintro e w6 ⟨rfl, hb⟩
  have rr := (hb.block (w.heap.size + 1 + 1) (by omega)).trans HX5.out.2
  have hB := HX5.out.1.trans (hb.mono (by omega))
  have hz6 : w.heap.size + 2 < w6.heap.size := by have := hb.size; omega
  have hz6' : w.heap.size + 1 + 1 < w6.heap.size := by omega
  clear k0 k1 k2 k3 f0 f1 f2 f3
  obtain ⟨⟨k0, k1, k2, k3⟩, f0, f1, f2, f3⟩ := box4 rr
  have HX6 := Lib.hid (And.intro hB rr)
  clear hb rr hB
  go_wp2_with fail
  refine bodyPost_ret (v := .tuple #[(boolV (!ay)).val, .bool true]) (by simp [results, Tryd.results22, go_sem, boolV, Vl.val, k0, k1, k2, k3]; rfl) rfl ⟨by rw [HR.out], ?_⟩
  exact below4 HX6.out.1 (by omega) _ _ _ _

set_option maxRecDepth 100000 in
set_option maxHeartbeats 1000000 in
theorem do_2 (hk : (kindF op ak bk).2 = true) (ha : canB ⟨ak, an, ay, sa⟩ = true) (hb : canB ⟨bk, bn, b3, sb⟩ = true) (hc : classF op = 2) (hn : -9223372036854775808 ≤ an ∧ an ≤ 9223372036854775807) : Calls Tryd.prog 22 #[.int .i64 op, .agg #[.int .i64 ak, .int .i64 an, .bool ay, .string sa], .agg #[.int .i64 bk, .int .i64 bn, .bool b3, .string sb]] w fun e w' => e = .returned (.tuple #[(makeF op ⟨ak, an, ay, sa⟩ ⟨bk, bn, b3, sb⟩).1.val, .bool (makeF op ⟨ak, an, ay, sa⟩ ⟨bk, bn, b3, sb⟩).2]) ∧ Below w.heap.size w w' := by
  have HK := fun w => kind_c w op ak bk
  simp only [hk] at HK
  have HA := fun (w : World) (hT : Tabs w) => can_c w hT ⟨ak, an, ay, sa⟩
  simp only [ha, Vl.val] at HA
  have HV := fun (w : World) (hT : Tabs w) => can_c w hT ⟨bk, bn, b3, sb⟩
  simp only [hb, Vl.val] at HV
  have HK' := Lib.hid HK
  have HA' := Lib.hid HA
  have HV' := Lib.hid HV
  have HT := Lib.hid hT
  have HB3 := Lib.hid (show Below w.heap.size w (((w.alloc (.cells #[.int .i64 ak, .int .i64 an, .bool ay, .string sa] 23)).alloc (.cells #[.int .i64 bk, .int .i64 bn, .bool b3, .string sb] 23)).alloc (.cells #[.int .i64 0, .int .i64 0, .bool false, .string ⟨#[]⟩] 23)) from (((Below.refl _ _).alloc (Nat.le_refl _) _).alloc (by simp) _).alloc (by simp; omega) _)
  clear hk ha hb hT HK HA HV
  have HC := Lib.hid (fun w => class_c w op)
  rw [hc] at HC
  have HR := Lib.hid (show makeF op ⟨ak, an, ay, sa⟩ ⟨bk, bn, b3, sb⟩ = (calcV (intF 11 0 an)) from by unfold makeF; rw [if_neg (by rw [hc]; decide), if_pos hc])
  clear hc
  go_enter Tryd.func22, Tryd.ntmps22
  go_wp2_with (go_at_call 24; refine (HK'.out _).mono ?_; rintro e w' ⟨rfl, rfl⟩)
  refine (HA'.out _ (HT.out.below HB3.out)).mono ?_
  rintro e w4 ⟨rfl, hb⟩
  have hB4 := HB3.out.trans (hb.mono (by simp; omega))
  have ra := (hb.block w.heap.size (by simp; omega)).trans (heap_at1 _ _ _ _)
  have rb := (hb.block (w.heap.size + 1) (by simp)).trans (heap_at2 _ _ _ _)
  have rr := (hb.block (w.heap.size + 1 + 1) (by simp)).trans (heap_at3 _ _ _ _)
  have hz4 : w.heap.size + 2 < w4.heap.size := by have := hb.size; simp at this; omega
  obtain ⟨⟨p0, p1, p2, p3⟩, _⟩ := box4 rb
  have HX := Lib.hid (And.intro hB4 (And.intro ra (And.intro rb rr)))
  clear hb hB4 ra rb rr
  go_wp2_with fail
  refine (HV'.out _ (HT.out.below HX.out.1)).mono ?_
  rintro e w5 ⟨rfl, hb⟩
  have hB5 := HX.out.1.trans (hb.mono (by omega))
  have ra := (hb.block w.heap.size (by omega)).trans HX.out.2.1
  have rb := (hb.block (w.heap.size + 1) (by omega)).trans HX.out.2.2.1
  have rr := (hb.block (w.heap.size + 1 + 1) (by omega)).trans HX.out.2.2.2
  have hz5 : w.heap.size + 2 < w5.heap.size := by have := hb.size; omega
  have hz5' : w.heap.size + 1 + 1 < w5.heap.size := by omega
  clear p0 p1 p2 p3
  obtain ⟨⟨p0, p1, p2, p3⟩, _⟩ := box4 ra
  obtain ⟨⟨q0, q1, q2, q3⟩, _⟩ := box4 rb
  obtain ⟨⟨k0, k1, k2, k3⟩, f0, f1, f2, f3⟩ := box4 rr
  have HX5 := Lib.hid (And.intro hB5 rr)
  clear hb hB5 ra rb rr hz4 HX
  obtain ⟨⟨⟨rk, rn, ry, rs⟩, rb⟩, hR⟩ : ∃ R, R = calcV (intF 11 0 an) := ⟨_, rfl⟩
  have HQ := fun w => calc_c w 0 an (by omega) hn 11 (by omega)
  rw [← hR] at HQ HR
  have HR2 := Lib.hid HR.out
  simp only [Vl.val] at HQ
  have HQ' := Lib.hid HQ
  clear hR HQ HR
  go_wp2_with (go_at_call 38; refine (HC.out _).mono ?_; rintro e w' ⟨rfl, rfl⟩)
  refine (HQ'.out _).mono ?_
  rintro e w6 ⟨rfl, hb⟩
  have rr := (hb.block (w.heap.size + 1 + 1) (by omega)).trans HX5.out.2
  have hB := HX5.out.1.trans (hb.mono (by omega))
  have hz6 : w.heap.size + 2 < w6.heap.size := by have := hb.size; omega
  have hz6' : w.heap.size + 1 + 1 < w6.heap.size := by omega
  clear k0 k1 k2 k3 f0 f1 f2 f3
  obtain ⟨⟨k0, k1, k2, k3⟩, f0, f1, f2, f3⟩ := box4 rr
  have HX6 := Lib.hid (And.intro hB rr)
  clear hb rr hB
  go_wp2_with fail
  refine bodyPost_ret (v := .tuple #[.agg #[.int .i64 rk, .int .i64 rn, .bool ry, .string rs], .bool rb]) (by simp [results, Tryd.results22, go_sem, k0, k1, k2, k3]) rfl ⟨by rw [HR2.out]; rfl, ?_⟩
  exact below4 HX6.out.1 (by omega) _ _ _ _

set_option maxRecDepth 100000 in
set_option maxHeartbeats 1000000 in
theorem do_3 (hk : (kindF op ak bk).2 = true) (ha : canB ⟨ak, an, ay, sa⟩ = true) (hb : canB ⟨bk, bn, b3, sb⟩ = true) (hc : classF op = 3) (hn : -9223372036854775808 ≤ an ∧ an ≤ 9223372036854775807) (hm : -9223372036854775808 ≤ bn ∧ bn ≤ 9223372036854775807) (ho : 7 ≤ op ∧ op ≤ 11) : Calls Tryd.prog 22 #[.int .i64 op, .agg #[.int .i64 ak, .int .i64 an, .bool ay, .string sa], .agg #[.int .i64 bk, .int .i64 bn, .bool b3, .string sb]] w fun e w' => e = .returned (.tuple #[(makeF op ⟨ak, an, ay, sa⟩ ⟨bk, bn, b3, sb⟩).1.val, .bool (makeF op ⟨ak, an, ay, sa⟩ ⟨bk, bn, b3, sb⟩).2]) ∧ Below w.heap.size w w' := by
  have HK := fun w => kind_c w op ak bk
  simp only [hk] at HK
  have HA := fun (w : World) (hT : Tabs w) => can_c w hT ⟨ak, an, ay, sa⟩
  simp only [ha, Vl.val] at HA
  have HV := fun (w : World) (hT : Tabs w) => can_c w hT ⟨bk, bn, b3, sb⟩
  simp only [hb, Vl.val] at HV
  have HK' := Lib.hid HK
  have HA' := Lib.hid HA
  have HV' := Lib.hid HV
  have HT := Lib.hid hT
  have HB3 := Lib.hid (show Below w.heap.size w (((w.alloc (.cells #[.int .i64 ak, .int .i64 an, .bool ay, .string sa] 23)).alloc (.cells #[.int .i64 bk, .int .i64 bn, .bool b3, .string sb] 23)).alloc (.cells #[.int .i64 0, .int .i64 0, .bool false, .string ⟨#[]⟩] 23)) from (((Below.refl _ _).alloc (Nat.le_refl _) _).alloc (by simp) _).alloc (by simp; omega) _)
  clear hk ha hb hT HK HA HV
  have HC := Lib.hid (fun w => class_c w op)
  rw [hc] at HC
  have HR := Lib.hid (show makeF op ⟨ak, an, ay, sa⟩ ⟨bk, bn, b3, sb⟩ = (calcV (intF op an bn)) from by unfold makeF; rw [if_neg (by rw [hc]; decide), if_neg (by rw [hc]; decide), if_pos hc])
  clear hc
  go_enter Tryd.func22, Tryd.ntmps22
  go_wp2_with (go_at_call 24; refine (HK'.out _).mono ?_; rintro e w' ⟨rfl, rfl⟩)
  refine (HA'.out _ (HT.out.below HB3.out)).mono ?_
  rintro e w4 ⟨rfl, hb⟩
  have hB4 := HB3.out.trans (hb.mono (by simp; omega))
  have ra := (hb.block w.heap.size (by simp; omega)).trans (heap_at1 _ _ _ _)
  have rb := (hb.block (w.heap.size + 1) (by simp)).trans (heap_at2 _ _ _ _)
  have rr := (hb.block (w.heap.size + 1 + 1) (by simp)).trans (heap_at3 _ _ _ _)
  have hz4 : w.heap.size + 2 < w4.heap.size := by have := hb.size; simp at this; omega
  obtain ⟨⟨p0, p1, p2, p3⟩, _⟩ := box4 rb
  have HX := Lib.hid (And.intro hB4 (And.intro ra (And.intro rb rr)))
  clear hb hB4 ra rb rr
  go_wp2_with fail
  refine (HV'.out _ (HT.out.below HX.out.1)).mono ?_
  rintro e w5 ⟨rfl, hb⟩
  have hB5 := HX.out.1.trans (hb.mono (by omega))
  have ra := (hb.block w.heap.size (by omega)).trans HX.out.2.1
  have rb := (hb.block (w.heap.size + 1) (by omega)).trans HX.out.2.2.1
  have rr := (hb.block (w.heap.size + 1 + 1) (by omega)).trans HX.out.2.2.2
  have hz5 : w.heap.size + 2 < w5.heap.size := by have := hb.size; omega
  have hz5' : w.heap.size + 1 + 1 < w5.heap.size := by omega
  clear p0 p1 p2 p3
  obtain ⟨⟨p0, p1, p2, p3⟩, _⟩ := box4 ra
  obtain ⟨⟨q0, q1, q2, q3⟩, _⟩ := box4 rb
  obtain ⟨⟨k0, k1, k2, k3⟩, f0, f1, f2, f3⟩ := box4 rr
  have HX5 := Lib.hid (And.intro hB5 rr)
  clear hb hB5 ra rb rr hz4 HX
  obtain ⟨⟨⟨rk, rn, ry, rs⟩, rb⟩, hR⟩ : ∃ R, R = calcV (intF op an bn) := ⟨_, rfl⟩
  have HQ := fun w => calc_c w an bn hn hm op ho
  rw [← hR] at HQ HR
  have HR2 := Lib.hid HR.out
  simp only [Vl.val] at HQ
  have HQ' := Lib.hid HQ
  clear hR HQ HR
  go_wp2_with (go_at_call 38; refine (HC.out _).mono ?_; rintro e w' ⟨rfl, rfl⟩)
  refine (HQ'.out _).mono ?_
  rintro e w6 ⟨rfl, hb⟩
  have rr := (hb.block (w.heap.size + 1 + 1) (by omega)).trans HX5.out.2
  have hB := HX5.out.1.trans (hb.mono (by omega))
  have hz6 : w.heap.size + 2 < w6.heap.size := by have := hb.size; omega
  have hz6' : w.heap.size + 1 + 1 < w6.heap.size := by omega
  clear k0 k1 k2 k3 f0 f1 f2 f3
  obtain ⟨⟨k0, k1, k2, k3⟩, f0, f1, f2, f3⟩ := box4 rr
  have HX6 := Lib.hid (And.intro hB rr)
  clear hb rr hB
  go_wp2_with fail
  refine bodyPost_ret (v := .tuple #[.agg #[.int .i64 rk, .int .i64 rn, .bool ry, .string rs], .bool rb]) (by simp [results, Tryd.results22, go_sem, k0, k1, k2, k3]) rfl ⟨by rw [HR2.out]; rfl, ?_⟩
  exact below4 HX6.out.1 (by omega) _ _ _ _
end
end Go.Proofs.YtjablobdiglnpaaDoor
