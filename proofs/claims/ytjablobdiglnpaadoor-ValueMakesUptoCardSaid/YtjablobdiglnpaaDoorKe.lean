/- value: Do, order, sameness, logic; Do whatever the operator. -/
import Derived.Test.YtjablobdiglnpaaDoorKd
namespace Go.Proofs.YtjablobdiglnpaaDoor
open Go.RowKit
set_option linter.unusedVariables false

section
variable (w : World) (hT : Tabs w) (op ak an : Int) (ay : Bool) (sa : ByteArray) (bk bn : Int) (b3 : Bool) (sb : ByteArray)
include hT

set_option maxRecDepth 100000 in
set_option maxHeartbeats 1000000 in
theorem do_4 (hk : (kindF op ak bk).2 = true) (ha : canB ⟨ak, an, ay, sa⟩ = true) (hb : canB ⟨bk, bn, b3, sb⟩ = true) (hc : classF op = 4) : Calls Tryd.prog 22 #[.int .i64 op, .agg #[.int .i64 ak, .int .i64 an, .bool ay, .string sa], .agg #[.int .i64 bk, .int .i64 bn, .bool b3, .string sb]] w fun e w' => e = .returned (.tuple #[(makeF op ⟨ak, an, ay, sa⟩ ⟨bk, bn, b3, sb⟩).1.val, .bool (makeF op ⟨ak, an, ay, sa⟩ ⟨bk, bn, b3, sb⟩).2]) ∧ Below w.heap.size w w' := by
  have HK := fun w => kind_c w op ak bk
  simp only [hk] at HK
  have HA := fun (w : World) (hT : Tabs w) => can_c w hT ⟨ak, an, ay, sa⟩
  simp only [ha, Vl.val] at HA
  have HV := fun (w : World) (hT : Tabs w) => can_c w hT ⟨bk, bn, b3, sb⟩
  simp only [hb, Vl.val] at HV
  have HK' := Lib.hid HK
  have HA' := Lib.hid HA
  have HV' := Lib.hid HV
  have HT := Lib.hid hT
  have HB3 := Lib.hid (show Below w.heap.size w (((w.alloc (.cells #[.int .i64 ak, .int .i64 an, .bool ay, .string sa] 23)).alloc (.cells #[.int .i64 bk, .int .i64 bn, .bool b3, .string sb] 23)).alloc (.cells #[.int .i64 0, .int .i64 0, .bool false, .string ⟨#[]⟩] 23)) from (((Below.refl _ _).alloc (Nat.le_refl _) _).alloc (by simp) _).alloc (by simp; omega) _)
  clear hk ha hb hT HK HA HV
  have HC := Lib.hid (fun w => class_c w op)
  rw [hc] at HC
  have HR := Lib.hid (show makeF op ⟨ak, an, ay, sa⟩ ⟨bk, bn, b3, sb⟩ = (boolV (ordB op (cmpV ⟨ak, an, ay, sa⟩ ⟨bk, bn, b3, sb⟩)), true) from by unfold makeF; rw [if_neg (by rw [hc]; decide), if_neg (by rw [hc]; decide), if_neg (by rw [hc]; decide), if_pos hc])
  clear hc
  go_enter Tryd.func22, Tryd.ntmps22
  go_wp2_with (go_at_call 24; refine (HK'.out _).mono ?_; rintro e w' ⟨rfl, rfl⟩)
  refine (HA'.out _ (HT.out.below HB3.out)).mono ?_
  rintro e w4 ⟨rfl, hb⟩
  have hB4 := HB3.out.trans (hb.mono (by simp; omega))
  have ra := (hb.block w.heap.size (by simp; omega)).trans (heap_at1 _ _ _ _)
  have rb := (hb.block (w.heap.size + 1) (by simp)).trans (heap_at2 _ _ _ _)
  have rr := (hb.block (w.heap.size + 1 + 1) (by simp)).trans (heap_at3 _ _ _ _)
  have hz4 : w.heap.size + 2 < w4.heap.size := by have := hb.size; simp at this; omega
  obtain ⟨⟨p0, p1, p2, p3⟩, _⟩ := box4 rb
  have HX := Lib.hid (And.intro hB4 (And.intro ra (And.intro rb rr)))
  clear hb hB4 ra rb rr
  go_wp2_with fail
  refine (HV'.out _ (HT.out.below HX.out.1)).mono ?_
  rintro e w5 ⟨rfl, hb⟩
  have hB5 := HX.out.1.trans (hb.mono (by omega))
  have ra := (hb.block w.heap.size (by omega)).trans HX.out.2.1
  have rb := (hb.block (w.heap.size + 1) (by omega)).trans HX.out.2.2.1
  have rr := (hb.block (w.heap.size + 1 + 1) (by omega)).trans HX.out.2.2.2
  have hz5 : w.heap.size + 2 < w5.heap.size := by have := hb.size; omega
  have hz5' : w.heap.size + 1 + 1 < w5.heap.size := by omega
  clear p0 p1 p2 p3
  obtain ⟨⟨p0, p1, p2, p3⟩, _⟩ := box4 ra
  obtain ⟨⟨q0, q1, q2, q3⟩, _⟩ := box4 rb
  obtain ⟨⟨k0, k1, k2, k3⟩, f0, f1, f2, f3⟩ := box4 rr
  have HX5 := Lib.hid (And.intro hB5 rr)
  clear hb hB5 ra rb rr hz4 HX
  have HQ := fun w => compare_c w ⟨ak, an, ay, sa⟩ ⟨bk, bn, b3, sb⟩
  simp only [Vl.val] at HQ
  have HQ' := Lib.hid HQ
  clear HQ
  have HO := Lib.hid (fun (w : World) (c : Int) => ordered_c w op c)
  go_wp2_with (go_at_call 38; refine (HC.out _).mono ?_; rintro e w' ⟨rfl, rfl⟩)
  refine (HQ'.out _).mono ?_
  rintro e w6 ⟨rfl, hb⟩
  have rr := (hb.block (w.heap.size + 1 + 1) (by omega)).trans HX5.out.2
  have hB := HX5.out.1.trans (hb.mono (by omega))
  have hz6 : w.heap.size + 2 < w6.heap.size := by have := hb.size; omega
  have hz6' : w.heap.size + 1 + 1 < w6.heap.size := by omega
  clear k0 k1 k2 k3 f0 f1 f2 f3
  obtain ⟨⟨k0, k1, k2, k3⟩, f0, f1, f2, f3⟩ := box4 rr
  have HX6 := Lib.hid (And.intro hB rr)
  clear hb rr hB
  go_wp2_with (go_at_call 40; refine (HO.out _ _).mono ?_; rintro e w' ⟨rfl, rfl⟩)
  refine (vbool_d _ _).mono ?_
  rintro e w7 ⟨rfl, hb⟩
  have rr := (hb.block (w.heap.size + 1 + 1) (by omega)).trans HX6.out.2
  have hB := HX6.out.1.trans (hb.mono (by omega))
  have hz7 : w.heap.size + 2 < w7.heap.size := by have := hb.size; omega
  have hz7' : w.heap.size + 1 + 1 < w7.heap.size := by omega
  clear k0 k1 k2 k3 f0 f1 f2 f3
  obtain ⟨⟨k0, k1, k2, k3⟩, f0, f1, f2, f3⟩ := box4 rr
  have HX7 := Lib.hid (And.intro hB rr)
  clear hb rr hB
  go_wp2_with fail
  refine bodyPost_ret (v := .tuple #[(boolV (ordB op (cmpV ⟨ak, an, ay, sa⟩ ⟨bk, bn, b3, sb⟩))).val, .bool true]) (by simp [results, Tryd.results22, go_sem, boolV, Vl.val, k0, k1, k2, k3]; rfl) rfl ⟨by rw [HR.out], ?_⟩
  exact below4 HX7.out.1 (by omega) _ _ _ _

set_option maxRecDepth 100000 in
set_option maxHeartbeats 1000000 in
theorem do_5_16 (hk : (kindF 16 ak bk).2 = true) (ha : canB ⟨ak, an, ay, sa⟩ = true) (hb : canB ⟨bk, bn, b3, sb⟩ = true) (hc : classF 16 = 5) : Calls Tryd.prog 22 #[.int .i64 16, .agg #[.int .i64 ak, .int .i64 an, .bool ay, .string sa], .agg #[.int .i64 bk, .int .i64 bn, .bool b3, .string sb]] w fun e w' => e = .returned (.tuple #[(makeF 16 ⟨ak, an, ay, sa⟩ ⟨bk, bn, b3, sb⟩).1.val, .bool (makeF 16 ⟨ak, an, ay, sa⟩ ⟨bk, bn, b3, sb⟩).2]) ∧ Below w.heap.size w w' := by
  have HK := fun w => kind_c w 16 ak bk
  simp only [hk] at HK
  have HA := fun (w : World) (hT : Tabs w) => can_c w hT ⟨ak, an, ay, sa⟩
  simp only [ha, Vl.val] at HA
  have HV := fun (w : World) (hT : Tabs w) => can_c w hT ⟨bk, bn, b3, sb⟩
  simp only [hb, Vl.val] at HV
  have HK' := Lib.hid HK
  have HA' := Lib.hid HA
  have HV' := Lib.hid HV
  have HT := Lib.hid hT
  have HB3 := Lib.hid (show Below w.heap.size w (((w.alloc (.cells #[.int .i64 ak, .int .i64 an, .bool ay, .string sa] 23)).alloc (.cells #[.int .i64 bk, .int .i64 bn, .bool b3, .string sb] 23)).alloc (.cells #[.int .i64 0, .int .i64 0, .bool false, .string ⟨#[]⟩] 23)) from (((Below.refl _ _).alloc (Nat.le_refl _) _).alloc (by simp) _).alloc (by simp; omega) _)
  clear hk ha hb hT HK HA HV
  have HC := Lib.hid (fun w => class_c w 16)
  rw [hc] at HC
  have HR := Lib.hid (show makeF 16 ⟨ak, an, ay, sa⟩ ⟨bk, bn, b3, sb⟩ = (boolV (sameB ⟨ak, an, ay, sa⟩ ⟨bk, bn, b3, sb⟩), true) from by unfold makeF; rw [if_neg (by rw [hc]; decide), if_neg (by rw [hc]; decide), if_neg (by rw [hc]; decide), if_neg (by rw [hc]; decide), if_pos hc]; simp)
  clear hc
  go_enter Tryd.func22, Tryd.ntmps22
  go_wp2_with (go_at_call 24; refine (HK'.out _).mono ?_; rintro e w' ⟨rfl, rfl⟩)
  refine (HA'.out _ (HT.out.below HB3.out)).mono ?_
  rintro e w4 ⟨rfl, hb⟩
  have hB4 := HB3.out.trans (hb.mono (by simp; omega))
  have ra := (hb.block w.heap.size (by simp; omega)).trans (heap_at1 _ _ _ _)
  have rb := (hb.block (w.heap.size + 1) (by simp)).trans (heap_at2 _ _ _ _)
  have rr := (hb.block (w.heap.size + 1 + 1) (by simp)).trans (heap_at3 _ _ _ _)
  have hz4 : w.heap.size + 2 < w4.heap.size := by have := hb.size; simp at this; omega
  obtain ⟨⟨p0, p1, p2, p3⟩, _⟩ := box4 rb
  have HX := Lib.hid (And.intro hB4 (And.intro ra (And.intro rb rr)))
  clear hb hB4 ra rb rr
  go_wp2_with fail
  refine (HV'.out _ (HT.out.below HX.out.1)).mono ?_
  rintro e w5 ⟨rfl, hb⟩
  have hB5 := HX.out.1.trans (hb.mono (by omega))
  have ra := (hb.block w.heap.size (by omega)).trans HX.out.2.1
  have rb := (hb.block (w.heap.size + 1) (by omega)).trans HX.out.2.2.1
  have rr := (hb.block (w.heap.size + 1 + 1) (by omega)).trans HX.out.2.2.2
  have hz5 : w.heap.size + 2 < w5.heap.size := by have := hb.size; omega
  have hz5' : w.heap.size + 1 + 1 < w5.heap.size := by omega
  clear p0 p1 p2 p3
  obtain ⟨⟨p0, p1, p2, p3⟩, _⟩ := box4 ra
  obtain ⟨⟨q0, q1, q2, q3⟩, _⟩ := box4 rb
  obtain ⟨⟨k0, k1, k2, k3⟩, f0, f1, f2, f3⟩ := box4 rr
  have HX5 := Lib.hid (And.intro hB5 rr)
  clear hb hB5 ra rb rr hz4 HX
  have HQ := fun w => same_c w ⟨ak, an, ay, sa⟩ ⟨bk, bn, b3, sb⟩
  simp only [Vl.val] at HQ
  have HQ' := Lib.hid HQ
  clear HQ
  go_wp2_with (go_at_call 38; refine (HC.out _).mono ?_; rintro e w' ⟨rfl, rfl⟩)
  refine (HQ'.out _).mono ?_
  rintro e w6 ⟨rfl, hb⟩
  have rr := (hb.block (w.heap.size + 1 + 1) (by omega)).trans HX5.out.2
  have hB := HX5.out.1.trans (hb.mono (by omega))
  have hz6 : w.heap.size + 2 < w6.heap.size := by have := hb.size; omega
  have hz6' : w.heap.size + 1 + 1 < w6.heap.size := by omega
  clear k0 k1 k2 k3 f0 f1 f2 f3
  obtain ⟨⟨k0, k1, k2, k3⟩, f0, f1, f2, f3⟩ := box4 rr
  have HX6 := Lib.hid (And.intro hB rr)
  clear hb rr hB
  go_wp2_with fail
  refine (vbool_d _ _).mono ?_
  rintro e w7 ⟨rfl, hb⟩
  have rr := (hb.block (w.heap.size + 1 + 1) (by omega)).trans HX6.out.2
  have hB := HX6.out.1.trans (hb.mono (by omega))
  have hz7 : w.heap.size + 2 < w7.heap.size := by have := hb.size; omega
  have hz7' : w.heap.size + 1 + 1 < w7.heap.size := by omega
  clear k0 k1 k2 k3 f0 f1 f2 f3
  obtain ⟨⟨k0, k1, k2, k3⟩, f0, f1, f2, f3⟩ := box4 rr
  have HX7 := Lib.hid (And.intro hB rr)
  clear hb rr hB
  go_wp2_with fail
  refine bodyPost_ret (v := .tuple #[(boolV (sameB ⟨ak, an, ay, sa⟩ ⟨bk, bn, b3, sb⟩)).val, .bool true]) (by simp [results, Tryd.results22, go_sem, boolV, Vl.val, k0, k1, k2, k3]; rfl) rfl ⟨by rw [HR.out], ?_⟩
  exact below4 HX7.out.1 (by omega) _ _ _ _

set_option maxRecDepth 100000 in
set_option maxHeartbeats 1000000 in
theorem do_5_17 (hk : (kindF 17 ak bk).2 = true) (ha : canB ⟨ak, an, ay, sa⟩ = true) (hb : canB ⟨bk, bn, b3, sb⟩ = true) (hc : classF 17 = 5) : Calls Tryd.prog 22 #[.int .i64 17, .agg #[.int .i64 ak, .int .i64 an, .bool ay, .string sa], .agg #[.int .i64 bk, .int .i64 bn, .bool b3, .string sb]] w fun e w' => e = .returned (.tuple #[(makeF 17 ⟨ak, an, ay, sa⟩ ⟨bk, bn, b3, sb⟩).1.val, .bool (makeF 17 ⟨ak, an, ay, sa⟩ ⟨bk, bn, b3, sb⟩).2]) ∧ Below w.heap.size w w' := by
  have HK := fun w => kind_c w 17 ak bk
  simp only [hk] at HK
  have HA := fun (w : World) (hT : Tabs w) => can_c w hT ⟨ak, an, ay, sa⟩
  simp only [ha, Vl.val] at HA
  have HV := fun (w : World) (hT : Tabs w) => can_c w hT ⟨bk, bn, b3, sb⟩
  simp only [hb, Vl.val] at HV
  have HK' := Lib.hid HK
  have HA' := Lib.hid HA
  have HV' := Lib.hid HV
  have HT := Lib.hid hT
  have HB3 := Lib.hid (show Below w.heap.size w (((w.alloc (.cells #[.int .i64 ak, .int .i64 an, .bool ay, .string sa] 23)).alloc (.cells #[.int .i64 bk, .int .i64 bn, .bool b3, .string sb] 23)).alloc (.cells #[.int .i64 0, .int .i64 0, .bool false, .string ⟨#[]⟩] 23)) from (((Below.refl _ _).alloc (Nat.le_refl _) _).alloc (by simp) _).alloc (by simp; omega) _)
  clear hk ha hb hT HK HA HV
  have HC := Lib.hid (fun w => class_c w 17)
  rw [hc] at HC
  have HR := Lib.hid (show makeF 17 ⟨ak, an, ay, sa⟩ ⟨bk, bn, b3, sb⟩ = (boolV (!sameB ⟨ak, an, ay, sa⟩ ⟨bk, bn, b3, sb⟩), true) from by unfold makeF; rw [if_neg (by rw [hc]; decide), if_neg (by rw [hc]; decide), if_neg (by rw [hc]; decide), if_neg (by rw [hc]; decide), if_pos hc]; simp)
  clear hc
  go_enter Tryd.func22, Tryd.ntmps22
  go_wp2_with (go_at_call 24; refine (HK'.out _).mono ?_; rintro e w' ⟨rfl, rfl⟩)
  refine (HA'.out _ (HT.out.below HB3.out)).mono ?_
  rintro e w4 ⟨rfl, hb⟩
  have hB4 := HB3.out.trans (hb.mono (by simp; omega))
  have ra := (hb.block w.heap.size (by simp; omega)).trans (heap_at1 _ _ _ _)
  have rb := (hb.block (w.heap.size + 1) (by simp)).trans (heap_at2 _ _ _ _)
  have rr := (hb.block (w.heap.size + 1 + 1) (by simp)).trans (heap_at3 _ _ _ _)
  have hz4 : w.heap.size + 2 < w4.heap.size := by have := hb.size; simp at this; omega
  obtain ⟨⟨p0, p1, p2, p3⟩, _⟩ := box4 rb
  have HX := Lib.hid (And.intro hB4 (And.intro ra (And.intro rb rr)))
  clear hb hB4 ra rb rr
  go_wp2_with fail
  refine (HV'.out _ (HT.out.below HX.out.1)).mono ?_
  rintro e w5 ⟨rfl, hb⟩
  have hB5 := HX.out.1.trans (hb.mono (by omega))
  have ra := (hb.block w.heap.size (by omega)).trans HX.out.2.1
  have rb := (hb.block (w.heap.size + 1) (by omega)).trans HX.out.2.2.1
  have rr := (hb.block (w.heap.size + 1 + 1) (by omega)).trans HX.out.2.2.2
  have hz5 : w.heap.size + 2 < w5.heap.size := by have := hb.size; omega
  have hz5' : w.heap.size + 1 + 1 < w5.heap.size := by omega
  clear p0 p1 p2 p3
  obtain ⟨⟨p0, p1, p2, p3⟩, _⟩ := box4 ra
  obtain ⟨⟨q0, q1, q2, q3⟩, _⟩ := box4 rb
  obtain ⟨⟨k0, k1, k2, k3⟩, f0, f1, f2, f3⟩ := box4 rr
  have HX5 := Lib.hid (And.intro hB5 rr)
  clear hb hB5 ra rb rr hz4 HX
  have HQ := fun w => same_c w ⟨ak, an, ay, sa⟩ ⟨bk, bn, b3, sb⟩
  simp only [Vl.val] at HQ
  have HQ' := Lib.hid HQ
  clear HQ
  go_wp2_with (go_at_call 38; refine (HC.out _).mono ?_; rintro e w' ⟨rfl, rfl⟩)
  refine (HQ'.out _).mono ?_
  rintro e w6 ⟨rfl, hb⟩
  have rr := (hb.block (w.heap.size + 1 + 1) (by omega)).trans HX5.out.2
  have hB := HX5.out.1.trans (hb.mono (by omega))
  have hz6 : w.heap.size + 2 < w6.heap.size := by have := hb.size; omega
  have hz6' : w.heap.size + 1 + 1 < w6.heap.size := by omega
  clear k0 k1 k2 k3 f0 f1 f2 f3
  obtain ⟨⟨k0, k1, k2, k3⟩, f0, f1, f2, f3⟩ := box4 rr
  have HX6 := Lib.hid (And.intro hB rr)
  clear hb rr hB
  go_wp2_with fail
  refine (vbool_d _ _).mono ?_
  rintro e w7 ⟨rfl, hb⟩
  have rr := (hb.block (w.heap.size + 1 + 1) (by omega)).trans HX6.out.2
  have hB := HX6.out.1.trans (hb.mono (by omega))
  have hz7 : w.heap.size + 2 < w7.heap.size := by have := hb.size; omega
  have hz7' : w.heap.size + 1 + 1 < w7.heap.size := by omega
  clear k0 k1 k2 k3 f0 f1 f2 f3
  obtain ⟨⟨k0, k1, k2, k3⟩, f0, f1, f2, f3⟩ := box4 rr
  have HX7 := Lib.hid (And.intro hB rr)
  clear hb rr hB
  go_wp2_with fail
  refine bodyPost_ret (v := .tuple #[(boolV (!sameB ⟨ak, an, ay, sa⟩ ⟨bk, bn, b3, sb⟩)).val, .bool true]) (by simp [results, Tryd.results22, go_sem, boolV, Vl.val, k0, k1, k2, k3]; rfl) rfl ⟨by rw [HR.out], ?_⟩
  exact below4 HX7.out.1 (by omega) _ _ _ _

set_option maxRecDepth 100000 in
set_option maxHeartbeats 1000000 in
theorem do_6_18t (hk : (kindF 18 ak bk).2 = true) (ha : canB ⟨ak, an, true, sa⟩ = true) (hb : canB ⟨bk, bn, b3, sb⟩ = true) (hc : classF 18 = 6) : Calls Tryd.prog 22 #[.int .i64 18, .agg #[.int .i64 ak, .int .i64 an, .bool true, .string sa], .agg #[.int .i64 bk, .int .i64 bn, .bool b3, .string sb]] w fun e w' => e = .returned (.tuple #[(makeF 18 ⟨ak, an, true, sa⟩ ⟨bk, bn, b3, sb⟩).1.val, .bool (makeF 18 ⟨ak, an, true, sa⟩ ⟨bk, bn, b3, sb⟩).2]) ∧ Below w.heap.size w w' := by
  have HK := fun w => kind_c w 18 ak bk
  simp only [hk] at HK
  have HA := fun (w : World) (hT : Tabs w) => can_c w hT ⟨ak, an, true, sa⟩
  simp only [ha, Vl.val] at HA
  have HV := fun (w : World) (hT : Tabs w) => can_c w hT ⟨bk, bn, b3, sb⟩
  simp only [hb, Vl.val] at HV
  have HK' := Lib.hid HK
  have HA' := Lib.hid HA
  have HV' := Lib.hid HV
  have HT := Lib.hid hT
  have HB3 := Lib.hid (show Below w.heap.size w (((w.alloc (.cells #[.int .i64 ak, .int .i64 an, .bool true, .string sa] 23)).alloc (.cells #[.int .i64 bk, .int .i64 bn, .bool b3, .string sb] 23)).alloc (.cells #[.int .i64 0, .int .i64 0, .bool false, .string ⟨#[]⟩] 23)) from (((Below.refl _ _).alloc (Nat.le_refl _) _).alloc (by simp) _).alloc (by simp; omega) _)
  clear hk ha hb hT HK HA HV
  have HC := Lib.hid (fun w => class_c w 18)
  rw [hc] at HC
  have HR := Lib.hid (show makeF 18 ⟨ak, an, true, sa⟩ ⟨bk, bn, b3, sb⟩ = (boolV b3, true) from by unfold makeF; rw [if_neg (by rw [hc]; decide), if_neg (by rw [hc]; decide), if_neg (by rw [hc]; decide), if_neg (by rw [hc]; decide), if_neg (by rw [hc]; decide), if_pos hc]; simp)
  clear hc
  go_enter Tryd.func22, Tryd.ntmps22
  go_wp2_with (go_at_call 24; refine (HK'.out _).mono ?_; rintro e w' ⟨rfl, rfl⟩)
  refine (HA'.out _ (HT.out.below HB3.out)).mono ?_
  rintro e w4 ⟨rfl, hb⟩
  have hB4 := HB3.out.trans (hb.mono (by simp; omega))
  have ra := (hb.block w.heap.size (by simp; omega)).trans (heap_at1 _ _ _ _)
  have rb := (hb.block (w.heap.size + 1) (by simp)).trans (heap_at2 _ _ _ _)
  have rr := (hb.block (w.heap.size + 1 + 1) (by simp)).trans (heap_at3 _ _ _ _)
  have hz4 : w.heap.size + 2 < w4.heap.size := by have := hb.size; simp at this; omega
  obtain ⟨⟨p0, p1, p2, p3⟩, _⟩ := box4 rb
  have HX := Lib.hid (And.intro hB4 (And.intro ra (And.intro rb rr)))
  clear hb hB4 ra rb rr
  go_wp2_with fail
  refine (HV'.out _ (HT.out.below HX.out.1)).mono ?_
  rintro e w5 ⟨rfl, hb⟩
  have hB5 := HX.out.1.trans (hb.mono (by omega))
  have ra := (hb.block w.heap.size (by omega)).trans HX.out.2.1
  have rb := (hb.block (w.heap.size + 1) (by omega)).trans HX.out.2.2.1
  have rr := (hb.block (w.heap.size + 1 + 1) (by omega)).trans HX.out.2.2.2
  have hz5 : w.heap.size + 2 < w5.heap.size := by have := hb.size; omega
  have hz5' : w.heap.size + 1 + 1 < w5.heap.size := by omega
  clear p0 p1 p2 p3
  obtain ⟨⟨p0, p1, p2, p3⟩, _⟩ := box4 ra
  obtain ⟨⟨q0, q1, q2, q3⟩, _⟩ := box4 rb
  obtain ⟨⟨k0, k1, k2, k3⟩, f0, f1, f2, f3⟩ := box4 rr
  have HX5 := Lib.hid (And.intro hB5 rr)
  clear hb hB5 ra rb rr hz4 HX
  go_wp2_with (go_at_call 38; refine (HC.out _).mono ?_; rintro e w' ⟨rfl, rfl⟩)
  refine (vbool_d _ _).mono ?_
  rintro e w6 ⟨rfl, hb⟩
  have rr := (hb.block (w.heap.size + 1 + 1) (by omega)).trans HX5.out.2
  have hB := HX5.out.1.trans (hb.mono (by omega))
  have hz6 : w.heap.size + 2 < w6.heap.size := by have := hb.size; omega
  have hz6' : w.heap.size + 1 + 1 < w6.heap.size := by omega
  clear k0 k1 k2 k3 f0 f1 f2 f3
  obtain ⟨⟨k0, k1, k2, k3⟩, f0, f1, f2, f3⟩ := box4 rr
  have HX6 := Lib.hid (And.intro hB rr)
  clear hb rr hB
  go_wp2_with fail
  refine bodyPost_ret (v := .tuple #[(boolV (b3)).val, .bool true]) (by simp [results, Tryd.results22, go_sem, boolV, Vl.val, k0, k1, k2, k3]; rfl) rfl ⟨by rw [HR.out], ?_⟩
  exact below4 HX6.out.1 (by omega) _ _ _ _

set_option maxRecDepth 100000 in
set_option maxHeartbeats 1000000 in
theorem do_6_18f (hk : (kindF 18 ak bk).2 = true) (ha : canB ⟨ak, an, false, sa⟩ = true) (hb : canB ⟨bk, bn, b3, sb⟩ = true) (hc : classF 18 = 6) : Calls Tryd.prog 22 #[.int .i64 18, .agg #[.int .i64 ak, .int .i64 an, .bool false, .string sa], .agg #[.int .i64 bk, .int .i64 bn, .bool b3, .string sb]] w fun e w' => e = .returned (.tuple #[(makeF 18 ⟨ak, an, false, sa⟩ ⟨bk, bn, b3, sb⟩).1.val, .bool (makeF 18 ⟨ak, an, false, sa⟩ ⟨bk, bn, b3, sb⟩).2]) ∧ Below w.heap.size w w' := by
  have HK := fun w => kind_c w 18 ak bk
  simp only [hk] at HK
  have HA := fun (w : World) (hT : Tabs w) => can_c w hT ⟨ak, an, false, sa⟩
  simp only [ha, Vl.val] at HA
  have HV := fun (w : World) (hT : Tabs w) => can_c w hT ⟨bk, bn, b3, sb⟩
  simp only [hb, Vl.val] at HV
  have HK' := Lib.hid HK
  have HA' := Lib.hid HA
  have HV' := Lib.hid HV
  have HT := Lib.hid hT
  have HB3 := Lib.hid (show Below w.heap.size w (((w.alloc (.cells #[.int .i64 ak, .int .i64 an, .bool false, .string sa] 23)).alloc (.cells #[.int .i64 bk, .int .i64 bn, .bool b3, .string sb] 23)).alloc (.cells #[.int .i64 0, .int .i64 0, .bool false, .string ⟨#[]⟩] 23)) from (((Below.refl _ _).alloc (Nat.le_refl _) _).alloc (by simp) _).alloc (by simp; omega) _)
  clear hk ha hb hT HK HA HV
  have HC := Lib.hid (fun w => class_c w 18)
  rw [hc] at HC
  have HR := Lib.hid (show makeF 18 ⟨ak, an, false, sa⟩ ⟨bk, bn, b3, sb⟩ = (boolV false, true) from by unfold makeF; rw [if_neg (by rw [hc]; decide), if_neg (by rw [hc]; decide), if_neg (by rw [hc]; decide), if_neg (by rw [hc]; decide), if_neg (by rw [hc]; decide), if_pos hc]; simp)
  clear hc
  go_enter Tryd.func22, Tryd.ntmps22
  go_wp2_with (go_at_call 24; refine (HK'.out _).mono ?_; rintro e w' ⟨rfl, rfl⟩)
  refine (HA'.out _ (HT.out.below HB3.out)).mono ?_
  rintro e w4 ⟨rfl, hb⟩
  have hB4 := HB3.out.trans (hb.mono (by simp; omega))
  have ra := (hb.block w.heap.size (by simp; omega)).trans (heap_at1 _ _ _ _)
  have rb := (hb.block (w.heap.size + 1) (by simp)).trans (heap_at2 _ _ _ _)
  have rr := (hb.block (w.heap.size + 1 + 1) (by simp)).trans (heap_at3 _ _ _ _)
  have hz4 : w.heap.size + 2 < w4.heap.size := by have := hb.size; simp at this; omega
  obtain ⟨⟨p0, p1, p2, p3⟩, _⟩ := box4 rb
  have HX := Lib.hid (And.intro hB4 (And.intro ra (And.intro rb rr)))
  clear hb hB4 ra rb rr
  go_wp2_with fail
  refine (HV'.out _ (HT.out.below HX.out.1)).mono ?_
  rintro e w5 ⟨rfl, hb⟩
  have hB5 := HX.out.1.trans (hb.mono (by omega))
  have ra := (hb.block w.heap.size (by omega)).trans HX.out.2.1
  have rb := (hb.block (w.heap.size + 1) (by omega)).trans HX.out.2.2.1
  have rr := (hb.block (w.heap.size + 1 + 1) (by omega)).trans HX.out.2.2.2
  have hz5 : w.heap.size + 2 < w5.heap.size := by have := hb.size; omega
  have hz5' : w.heap.size + 1 + 1 < w5.heap.size := by omega
  clear p0 p1 p2 p3
  obtain ⟨⟨p0, p1, p2, p3⟩, _⟩ := box4 ra
  obtain ⟨⟨q0, q1, q2, q3⟩, _⟩ := box4 rb
  obtain ⟨⟨k0, k1, k2, k3⟩, f0, f1, f2, f3⟩ := box4 rr
  have HX5 := Lib.hid (And.intro hB5 rr)
  clear hb hB5 ra rb rr hz4 HX
  go_wp2_with (go_at_call 38; refine (HC.out _).mono ?_; rintro e w' ⟨rfl, rfl⟩)
  refine (vbool_d _ _).mono ?_
  rintro e w6 ⟨rfl, hb⟩
  have rr := (hb.block (w.heap.size + 1 + 1) (by omega)).trans HX5.out.2
  have hB := HX5.out.1.trans (hb.mono (by omega))
  have hz6 : w.heap.size + 2 < w6.heap.size := by have := hb.size; omega
  have hz6' : w.heap.size + 1 + 1 < w6.heap.size := by omega
  clear k0 k1 k2 k3 f0 f1 f2 f3
  obtain ⟨⟨k0, k1, k2, k3⟩, f0, f1, f2, f3⟩ := box4 rr
  have HX6 := Lib.hid (And.intro hB rr)
  clear hb rr hB
  go_wp2_with fail
  refine bodyPost_ret (v := .tuple #[(boolV (false)).val, .bool true]) (by simp [results, Tryd.results22, go_sem, boolV, Vl.val, k0, k1, k2, k3]; rfl) rfl ⟨by rw [HR.out], ?_⟩
  exact below4 HX6.out.1 (by omega) _ _ _ _

set_option maxRecDepth 100000 in
set_option maxHeartbeats 1000000 in
theorem do_6_19t (hk : (kindF 19 ak bk).2 = true) (ha : canB ⟨ak, an, true, sa⟩ = true) (hb : canB ⟨bk, bn, b3, sb⟩ = true) (hc : classF 19 = 6) : Calls Tryd.prog 22 #[.int .i64 19, .agg #[.int .i64 ak, .int .i64 an, .bool true, .string sa], .agg #[.int .i64 bk, .int .i64 bn, .bool b3, .string sb]] w fun e w' => e = .returned (.tuple #[(makeF 19 ⟨ak, an, true, sa⟩ ⟨bk, bn, b3, sb⟩).1.val, .bool (makeF 19 ⟨ak, an, true, sa⟩ ⟨bk, bn, b3, sb⟩).2]) ∧ Below w.heap.size w w' := by
  have HK := fun w => kind_c w 19 ak bk
  simp only [hk] at HK
  have HA := fun (w : World) (hT : Tabs w) => can_c w hT ⟨ak, an, true, sa⟩
  simp only [ha, Vl.val] at HA
  have HV := fun (w : World) (hT : Tabs w) => can_c w hT ⟨bk, bn, b3, sb⟩
  simp only [hb, Vl.val] at HV
  have HK' := Lib.hid HK
  have HA' := Lib.hid HA
  have HV' := Lib.hid HV
  have HT := Lib.hid hT
  have HB3 := Lib.hid (show Below w.heap.size w (((w.alloc (.cells #[.int .i64 ak, .int .i64 an, .bool true, .string sa] 23)).alloc (.cells #[.int .i64 bk, .int .i64 bn, .bool b3, .string sb] 23)).alloc (.cells #[.int .i64 0, .int .i64 0, .bool false, .string ⟨#[]⟩] 23)) from (((Below.refl _ _).alloc (Nat.le_refl _) _).alloc (by simp) _).alloc (by simp; omega) _)
  clear hk ha hb hT HK HA HV
  have HC := Lib.hid (fun w => class_c w 19)
  rw [hc] at HC
  have HR := Lib.hid (show makeF 19 ⟨ak, an, true, sa⟩ ⟨bk, bn, b3, sb⟩ = (boolV true, true) from by unfold makeF; rw [if_neg (by rw [hc]; decide), if_neg (by rw [hc]; decide), if_neg (by rw [hc]; decide), if_neg (by rw [hc]; decide), if_neg (by rw [hc]; decide), if_pos hc]; simp)
  clear hc
  go_enter Tryd.func22, Tryd.ntmps22
  go_wp2_with (go_at_call 24; refine (HK'.out _).mono ?_; rintro e w' ⟨rfl, rfl⟩)
  refine (HA'.out _ (HT.out.below HB3.out)).mono ?_
  rintro e w4 ⟨rfl, hb⟩
  have hB4 := HB3.out.trans (hb.mono (by simp; omega))
  have ra := (hb.block w.heap.size (by simp; omega)).trans (heap_at1 _ _ _ _)
  have rb := (hb.block (w.heap.size + 1) (by simp)).trans (heap_at2 _ _ _ _)
  have rr := (hb.block (w.heap.size + 1 + 1) (by simp)).trans (heap_at3 _ _ _ _)
  have hz4 : w.heap.size + 2 < w4.heap.size := by have := hb.size; simp at this; omega
  obtain ⟨⟨p0, p1, p2, p3⟩, _⟩ := box4 rb
  have HX := Lib.hid (And.intro hB4 (And.intro ra (And.intro rb rr)))
  clear hb hB4 ra rb rr
  go_wp2_with fail
  refine (HV'.out _ (HT.out.below HX.out.1)).mono ?_
  rintro e w5 ⟨rfl, hb⟩
  have hB5 := HX.out.1.trans (hb.mono (by omega))
  have ra := (hb.block w.heap.size (by omega)).trans HX.out.2.1
  have rb := (hb.block (w.heap.size + 1) (by omega)).trans HX.out.2.2.1
  have rr := (hb.block (w.heap.size + 1 + 1) (by omega)).trans HX.out.2.2.2
  have hz5 : w.heap.size + 2 < w5.heap.size := by have := hb.size; omega
  have hz5' : w.heap.size + 1 + 1 < w5.heap.size := by omega
  clear p0 p1 p2 p3
  obtain ⟨⟨p0, p1, p2, p3⟩, _⟩ := box4 ra
  obtain ⟨⟨q0, q1, q2, q3⟩, _⟩ := box4 rb
  obtain ⟨⟨k0, k1, k2, k3⟩, f0, f1, f2, f3⟩ := box4 rr
  have HX5 := Lib.hid (And.intro hB5 rr)
  clear hb hB5 ra rb rr hz4 HX
  go_wp2_with (go_at_call 38; refine (HC.out _).mono ?_; rintro e w' ⟨rfl, rfl⟩)
  refine (vbool_d _ _).mono ?_
  rintro e w6 ⟨rfl, hb⟩
  have rr := (hb.block (w.heap.size + 1 + 1) (by omega)).trans HX5.out.2
  have hB := HX5.out.1.trans (hb.mono (by omega))
  have hz6 : w.heap.size + 2 < w6.heap.size := by have := hb.size; omega
  have hz6' : w.heap.size + 1 + 1 < w6.heap.size := by omega
  clear k0 k1 k2 k3 f0 f1 f2 f3
  obtain ⟨⟨k0, k1, k2, k3⟩, f0, f1, f2, f3⟩ := box4 rr
  have HX6 := Lib.hid (And.intro hB rr)
  clear hb rr hB
  go_wp2_with fail
  refine bodyPost_ret (v := .tuple #[(boolV (true)).val, .bool true]) (by simp [results, Tryd.results22, go_sem, boolV, Vl.val, k0, k1, k2, k3]; rfl) rfl ⟨by rw [HR.out], ?_⟩
  exact below4 HX6.out.1 (by omega) _ _ _ _

set_option maxRecDepth 100000 in
set_option maxHeartbeats 1000000 in
theorem do_6_19f (hk : (kindF 19 ak bk).2 = true) (ha : canB ⟨ak, an, false, sa⟩ = true) (hb : canB ⟨bk, bn, b3, sb⟩ = true) (hc : classF 19 = 6) : Calls Tryd.prog 22 #[.int .i64 19, .agg #[.int .i64 ak, .int .i64 an, .bool false, .string sa], .agg #[.int .i64 bk, .int .i64 bn, .bool b3, .string sb]] w fun e w' => e = .returned (.tuple #[(makeF 19 ⟨ak, an, false, sa⟩ ⟨bk, bn, b3, sb⟩).1.val, .bool (makeF 19 ⟨ak, an, false, sa⟩ ⟨bk, bn, b3, sb⟩).2]) ∧ Below w.heap.size w w' := by
  have HK := fun w => kind_c w 19 ak bk
  simp only [hk] at HK
  have HA := fun (w : World) (hT : Tabs w) => can_c w hT ⟨ak, an, false, sa⟩
  simp only [ha, Vl.val] at HA
  have HV := fun (w : World) (hT : Tabs w) => can_c w hT ⟨bk, bn, b3, sb⟩
  simp only [hb, Vl.val] at HV
  have HK' := Lib.hid HK
  have HA' := Lib.hid HA
  have HV' := Lib.hid HV
  have HT := Lib.hid hT
  have HB3 := Lib.hid (show Below w.heap.size w (((w.alloc (.cells #[.int .i64 ak, .int .i64 an, .bool false, .string sa] 23)).alloc (.cells #[.int .i64 bk, .int .i64 bn, .bool b3, .string sb] 23)).alloc (.cells #[.int .i64 0, .int .i64 0, .bool false, .string ⟨#[]⟩] 23)) from (((Below.refl _ _).alloc (Nat.le_refl _) _).alloc (by simp) _).alloc (by simp; omega) _)
  clear hk ha hb hT HK HA HV
  have HC := Lib.hid (fun w => class_c w 19)
  rw [hc] at HC
  have HR := Lib.hid (show makeF 19 ⟨ak, an, false, sa⟩ ⟨bk, bn, b3, sb⟩ = (boolV b3, true) from by unfold makeF; rw [if_neg (by rw [hc]; decide), if_neg (by rw [hc]; decide), if_neg (by rw [hc]; decide), if_neg (by rw [hc]; decide), if_neg (by rw [hc]; decide), if_pos hc]; simp)
  clear hc
  go_enter Tryd.func22, Tryd.ntmps22
  go_wp2_with (go_at_call 24; refine (HK'.out _).mono ?_; rintro e w' ⟨rfl, rfl⟩)
  refine (HA'.out _ (HT.out.below HB3.out)).mono ?_
  rintro e w4 ⟨rfl, hb⟩
  have hB4 := HB3.out.trans (hb.mono (by simp; omega))
  have ra := (hb.block w.heap.size (by simp; omega)).trans (heap_at1 _ _ _ _)
  have rb := (hb.block (w.heap.size + 1) (by simp)).trans (heap_at2 _ _ _ _)
  have rr := (hb.block (w.heap.size + 1 + 1) (by simp)).trans (heap_at3 _ _ _ _)
  have hz4 : w.heap.size + 2 < w4.heap.size := by have := hb.size; simp at this; omega
  obtain ⟨⟨p0, p1, p2, p3⟩, _⟩ := box4 rb
  have HX := Lib.hid (And.intro hB4 (And.intro ra (And.intro rb rr)))
  clear hb hB4 ra rb rr
  go_wp2_with fail
  refine (HV'.out _ (HT.out.below HX.out.1)).mono ?_
  rintro e w5 ⟨rfl, hb⟩
  have hB5 := HX.out.1.trans (hb.mono (by omega))
  have ra := (hb.block w.heap.size (by omega)).trans HX.out.2.1
  have rb := (hb.block (w.heap.size + 1) (by omega)).trans HX.out.2.2.1
  have rr := (hb.block (w.heap.size + 1 + 1) (by omega)).trans HX.out.2.2.2
  have hz5 : w.heap.size + 2 < w5.heap.size := by have := hb.size; omega
  have hz5' : w.heap.size + 1 + 1 < w5.heap.size := by omega
  clear p0 p1 p2 p3
  obtain ⟨⟨p0, p1, p2, p3⟩, _⟩ := box4 ra
  obtain ⟨⟨q0, q1, q2, q3⟩, _⟩ := box4 rb
  obtain ⟨⟨k0, k1, k2, k3⟩, f0, f1, f2, f3⟩ := box4 rr
  have HX5 := Lib.hid (And.intro hB5 rr)
  clear hb hB5 ra rb rr hz4 HX
  go_wp2_with (go_at_call 38; refine (HC.out _).mono ?_; rintro e w' ⟨rfl, rfl⟩)
  refine (vbool_d _ _).mono ?_
  rintro e w6 ⟨rfl, hb⟩
  have rr := (hb.block (w.heap.size + 1 + 1) (by omega)).trans HX5.out.2
  have hB := HX5.out.1.trans (hb.mono (by omega))
  have hz6 : w.heap.size + 2 < w6.heap.size := by have := hb.size; omega
  have hz6' : w.heap.size + 1 + 1 < w6.heap.size := by omega
  clear k0 k1 k2 k3 f0 f1 f2 f3
  obtain ⟨⟨k0, k1, k2, k3⟩, f0, f1, f2, f3⟩ := box4 rr
  have HX6 := Lib.hid (And.intro hB rr)
  clear hb rr hB
  go_wp2_with fail
  refine bodyPost_ret (v := .tuple #[(boolV (b3)).val, .bool true]) (by simp [results, Tryd.results22, go_sem, boolV, Vl.val, k0, k1, k2, k3]; rfl) rfl ⟨by rw [HR.out], ?_⟩
  exact below4 HX6.out.1 (by omega) _ _ _ _
end

theorem do_c (w : World) (hT : Tabs w) (op : Int) (a b : Vl) (ha : a.Ok) (hb : b.Ok) : Calls Tryd.prog 22 #[.int .i64 op, a.val, b.val] w fun e w' => e = .returned (.tuple #[(doF op a b).1.val, .bool (doF op a b).2]) ∧ Below w.heap.size w w' := by
  by_cases h1 : (kindF op a.k b.k).2 = true
  · by_cases h2 : canB a = true
    · by_cases h3 : canB b = true
      · rw [show doF op a b = makeF op a b from by unfold doF; rw [if_pos ⟨h1, h2, h3⟩]]
        have hn := ha.n
        have hm := hb.n
        obtain ⟨ak, an, ay, sa⟩ := a
        obtain ⟨bk, bn, b3, sb⟩ := b
        rcases class_in op with hc | hc | hc | hc | hc | hc | hc
        · exfalso
          unfold kindF at h1
          rw [hc] at h1
          simp [kindC] at h1
        · exact do_1 w hT op ak an ay sa bk bn b3 sb h1 h2 h3 hc
        · exact do_2 w hT op ak an ay sa bk bn b3 sb h1 h2 h3 hc hn
        · refine do_3 w hT op ak an ay sa bk bn b3 sb h1 h2 h3 hc hn hm ?_
          rcases op_cases op with rfl | rfl | rfl | rfl | rfl | rfl | rfl | rfl | rfl | rfl | rfl | rfl | rfl | rfl | rfl | h
          all_goals first | (exfalso; revert hc; decide) | omega | skip
          rw [class_other op h] at hc
          omega
        · exact do_4 w hT op ak an ay sa bk bn b3 sb h1 h2 h3 hc
        · rcases op_cases op with rfl | rfl | rfl | rfl | rfl | rfl | rfl | rfl | rfl | rfl | rfl | rfl | rfl | rfl | rfl | h
          all_goals first | (exfalso; revert hc; decide) | exact do_5_16 w hT ak an ay sa bk bn b3 sb h1 h2 h3 hc | exact do_5_17 w hT ak an ay sa bk bn b3 sb h1 h2 h3 hc | skip
          rw [class_other op h] at hc
          omega
        · rcases op_cases op with rfl | rfl | rfl | rfl | rfl | rfl | rfl | rfl | rfl | rfl | rfl | rfl | rfl | rfl | rfl | h
          all_goals first | (exfalso; revert hc; decide) | skip
          · cases ay
            · exact do_6_18f w hT ak an sa bk bn b3 sb h1 h2 h3 hc
            · exact do_6_18t w hT ak an sa bk bn b3 sb h1 h2 h3 hc
          · cases ay
            · exact do_6_19f w hT ak an sa bk bn b3 sb h1 h2 h3 hc
            · exact do_6_19t w hT ak an sa bk bn b3 sb h1 h2 h3 hc
          · rw [class_other op h] at hc
            omega
      · rw [show doF op a b = (noV, false) from by unfold doF; rw [if_neg (by rintro ⟨_, _, h⟩; exact h3 h)]]
        obtain ⟨ak, an, ay, sa⟩ := a
        obtain ⟨bk, bn, b3, sb⟩ := b
        exact do_C w hT op ak an ay sa bk bn b3 sb h1 h2 (by simpa using h3)
    · rw [show doF op a b = (noV, false) from by unfold doF; rw [if_neg (by rintro ⟨_, h, _⟩; exact h2 h)]]
      exact do_B w hT op a b h1 (by simpa using h2)
  · rw [show doF op a b = (noV, false) from by unfold doF; rw [if_neg (by rintro ⟨h, _⟩; exact h1 h)]]
    exact do_A w op a b (by simpa using h1)
end Go.Proofs.YtjablobdiglnpaaDoor
