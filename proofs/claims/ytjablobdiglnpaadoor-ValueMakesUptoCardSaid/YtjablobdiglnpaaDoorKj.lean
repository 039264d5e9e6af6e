/- The reference's Do. -/
import Derived.Test.YtjablobdiglnpaaDoorKh
import Derived.Test.YtjablobdiglnpaaDoorKr
namespace Go.Proofs.YtjablobdiglnpaaDoor
open Go.RowKit
set_option linter.unusedVariables false

section
variable (w : World) (op : Int) (a b : Vl)
set_option maxRecDepth 100000 in
theorem rdo_A (h : (kindF op a.k b.k).2 = false) : Calls Tryd.prog 23 #[.int .i64 op, a.val, b.val] w fun e w' => e = .returned (.tuple #[noV.val, .bool false]) ∧ Below w.heap.size w w' := by
  have HK := Lib.hid (fun w => rkind_c w op a.k b.k)
  simp only [h] at HK
  clear h
  obtain ⟨ak, an, ay, sa⟩ := a
  obtain ⟨bk, bn, b3, sb⟩ := b
  unfold Vl.val at *
  dsimp only at *
  go_enter Tryd.func23, Tryd.ntmps23
  go_wp2_with (go_at_call 25; refine (HK.out _).mono ?_; rintro e w' ⟨rfl, rfl⟩)
  refine bodyPost_ret (v := .tuple #[noV.val, .bool false]) (by simp [results, Tryd.results23, go_sem, noV, Vl.val]; rfl) rfl ⟨rfl, ?_⟩
  exact (((Below.refl _ _).alloc (Nat.le_refl _) _).alloc (by simp) _).alloc (by simp; omega) _

set_option maxRecDepth 100000 in
theorem rdo_B (h : (kindF op a.k b.k).2 = true) (hc : canB a = false) : Calls Tryd.prog 23 #[.int .i64 op, a.val, b.val] w fun e w' => e = .returned (.tuple #[noV.val, .bool false]) ∧ Below w.heap.size w w' := by
  have HK := fun w => rkind_c w op a.k b.k
  simp only [h] at HK
  have HK := Lib.hid HK
  have HA := fun (w : World) => rcan_c w a
  simp only [hc] at HA
  have HA := Lib.hid HA
  clear h hc
  obtain ⟨ak, an, ay, sa⟩ := a
  obtain ⟨bk, bn, b3, sb⟩ := b
  unfold Vl.val at *
  dsimp only at *
  have HB3 := Lib.hid (show Below w.heap.size w (((w.alloc (.cells #[.int .i64 ak, .int .i64 an, .bool ay, .string sa] 23)).alloc (.cells #[.int .i64 bk, .int .i64 bn, .bool b3, .string sb] 23)).alloc (.cells #[.int .i64 0, .int .i64 0, .bool false, .string ⟨#[]⟩] 23)) from (((Below.refl _ _).alloc (Nat.le_refl _) _).alloc (by simp) _).alloc (by simp; omega) _)
  go_enter Tryd.func23, Tryd.ntmps23
  go_wp2_with (go_at_call 25; refine (HK.out _).mono ?_; rintro e w' ⟨rfl, rfl⟩)
  refine (HA.out _).mono ?_
  rintro e w4 ⟨rfl, hb⟩
  obtain ⟨⟨k0, k1, k2, k3⟩, f0, f1, f2, f3⟩ := box4 ((hb.block (w.heap.size + 1 + 1) (by simp)).trans (heap_at3 _ _ _ _))
  have HB4 := Lib.hid (HB3.out.trans (hb.mono (by simp; omega)))
  have hz4 : w.heap.size + 2 < w4.heap.size := by have := hb.size; simp at this; omega
  clear hb
  go_wp2_with fail
  refine bodyPost_ret (v := .tuple #[noV.val, .bool false]) (by simp [results, Tryd.results23, go_sem, noV, Vl.val, k0, k1, k2, k3]; rfl) rfl ⟨rfl, ?_⟩
  exact below4 HB4.out (by omega) _ _ _ _
end

section
variable (w : World) (op ak an : Int) (ay : Bool) (sa : ByteArray) (bk bn : Int) (b3 : Bool) (sb : ByteArray)
set_option maxRecDepth 100000 in
set_option maxHeartbeats 1000000 in
theorem rdo_C (kk : Int) (hk : kindF op ak bk = (kk, true)) (ha : canB ⟨ak, an, ay, sa⟩ = true) (hb : canB ⟨bk, bn, b3, sb⟩ = false) : Calls Tryd.prog 23 #[.int .i64 op, .agg #[.int .i64 ak, .int .i64 an, .bool ay, .string sa], .agg #[.int .i64 bk, .int .i64 bn, .bool b3, .string sb]] w fun e w' => e = .returned (.tuple #[noV.val, .bool false]) ∧ Below w.heap.size w w' := by
  have HK := fun w => rkind_c w op ak bk
  simp only [hk] at HK
  have HA := fun (w : World) => rcan_c w ⟨ak, an, ay, sa⟩
  simp only [ha, Vl.val] at HA
  have HV := fun (w : World) => rcan_c w ⟨bk, bn, b3, sb⟩
  simp only [hb, Vl.val] at HV
  have HK' := Lib.hid HK
  have HA' := Lib.hid HA
  have HV' := Lib.hid HV
  have HB3 := Lib.hid (show Below w.heap.size w (((w.alloc (.cells #[.int .i64 ak, .int .i64 an, .bool ay, .string sa] 23)).alloc (.cells #[.int .i64 bk, .int .i64 bn, .bool b3, .string sb] 23)).alloc (.cells #[.int .i64 0, .int .i64 0, .bool false, .string ⟨#[]⟩] 23)) from (((Below.refl _ _).alloc (Nat.le_refl _) _).alloc (by simp) _).alloc (by simp; omega) _)
  clear hk ha hb HK HA HV
  go_enter Tryd.func23, Tryd.ntmps23
  go_wp2_with (go_at_call 25; refine (HK'.out _).mono ?_; rintro e w' ⟨rfl, rfl⟩)
  refine (HA'.out _).mono ?_
  rintro e w4 ⟨rfl, hb⟩
  have hB4 := HB3.out.trans (hb.mono (by simp; omega))
  have ra := (hb.block w.heap.size (by simp; omega)).trans (heap_at1 _ _ _ _)
  have rb := (hb.block (w.heap.size + 1) (by simp)).trans (heap_at2 _ _ _ _)
  have rr := (hb.block (w.heap.size + 1 + 1) (by simp)).trans (heap_at3 _ _ _ _)
  have hz4 : w.heap.size + 2 < w4.heap.size := by have := hb.size; simp at this; omega
  obtain ⟨⟨p0, p1, p2, p3⟩, _⟩ := box4 rb
  have HX := Lib.hid (And.intro hB4 (And.intro ra (And.intro rb rr)))
  clear hb hB4 ra rb rr
  go_wp2_with fail
  refine (HV'.out _).mono ?_
  rintro e w5 ⟨rfl, hb⟩
  have hB5 := HX.out.1.trans (hb.mono (by omega))
  have ra := (hb.block w.heap.size (by omega)).trans HX.out.2.1
  have rb := (hb.block (w.heap.size + 1) (by omega)).trans HX.out.2.2.1
  have rr := (hb.block (w.heap.size + 1 + 1) (by omega)).trans HX.out.2.2.2
  have hz5 : w.heap.size + 2 < w5.heap.size := by have := hb.size; omega
  have hz5' : w.heap.size + 1 + 1 < w5.heap.size := by omega
  clear p0 p1 p2 p3
  obtain ⟨⟨p0, p1, p2, p3⟩, _⟩ := box4 ra
  obtain ⟨⟨q0, q1, q2, q3⟩, _⟩ := box4 rb
  obtain ⟨⟨k0, k1, k2, k3⟩, f0, f1, f2, f3⟩ := box4 rr
  have HX5 := Lib.hid (And.intro hB5 rr)
  clear hb hB5 ra rb rr hz4 HX
  go_wp2_with fail
  refine bodyPost_ret (v := .tuple #[noV.val, .bool false]) (by simp [results, Tryd.results23, go_sem, noV, Vl.val, k0, k1, k2, k3]; rfl) rfl ⟨rfl, ?_⟩
  exact below4 HX5.out.1 (by omega) _ _ _ _

set_option maxRecDepth 100000 in
set_option maxHeartbeats 1000000 in
theorem rdo_T (hk : kindF op ak bk = (2, true)) (ha : canB ⟨ak, an, ay, sa⟩ = true) (hb : canB ⟨bk, bn, b3, sb⟩ = true) (HQ : ∀ w : World, Calls Tryd.prog 42 #[.int .i64 op, .agg #[.int .i64 ak, .int .i64 an, .bool ay, .string sa], .agg #[.int .i64 bk, .int .i64 bn, .bool b3, .string sb]] w fun e w' => e = .returned (.bool (truthF op ⟨ak, an, ay, sa⟩ ⟨bk, bn, b3, sb⟩)) ∧ Below w.heap.size w w') : Calls Tryd.prog 23 #[.int .i64 op, .agg #[.int .i64 ak, .int .i64 an, .bool ay, .string sa], .agg #[.int .i64 bk, .int .i64 bn, .bool b3, .string sb]] w fun e w' => e = .returned (.tuple #[(boolV (truthF op ⟨ak, an, ay, sa⟩ ⟨bk, bn, b3, sb⟩)).val, .bool true]) ∧ Below w.heap.size w w' := by
  have HK := fun w => rkind_c w op ak bk
  simp only [hk] at HK
  have HA := fun (w : World) => rcan_c w ⟨ak, an, ay, sa⟩
  simp only [ha, Vl.val] at HA
  have HV := fun (w : World) => rcan_c w ⟨bk, bn, b3, sb⟩
  simp only [hb, Vl.val] at HV
  have HK' := Lib.hid HK
  have HA' := Lib.hid HA
  have HV' := Lib.hid HV
  have HB3 := Lib.hid (show Below w.heap.size w (((w.alloc (.cells #[.int .i64 ak, .int .i64 an, .bool ay, .string sa] 23)).alloc (.cells #[.int .i64 bk, .int .i64 bn, .bool b3, .string sb] 23)).alloc (.cells #[.int .i64 0, .int .i64 0, .bool false, .string ⟨#[]⟩] 23)) from (((Below.refl _ _).alloc (Nat.le_refl _) _).alloc (by simp) _).alloc (by simp; omega) _)
  clear hk ha hb HK HA HV
  have HQ' := Lib.hid HQ
  clear HQ
  go_enter Tryd.func23, Tryd.ntmps23
  go_wp2_with (go_at_call 25; refine (HK'.out _).mono ?_; rintro e w' ⟨rfl, rfl⟩)
  refine (HA'.out _).mono ?_
  rintro e w4 ⟨rfl, hb⟩
  have hB4 := HB3.out.trans (hb.mono (by simp; omega))
  have ra := (hb.block w.heap.size (by simp; omega)).trans (heap_at1 _ _ _ _)
  have rb := (hb.block (w.heap.size + 1) (by simp)).trans (heap_at2 _ _ _ _)
  have rr := (hb.block (w.heap.size + 1 + 1) (by simp)).trans (heap_at3 _ _ _ _)
  have hz4 : w.heap.size + 2 < w4.heap.size := by have := hb.size; simp at this; omega
  obtain ⟨⟨p0, p1, p2, p3⟩, _⟩ := box4 rb
  have HX := Lib.hid (And.intro hB4 (And.intro ra (And.intro rb rr)))
  clear hb hB4 ra rb rr
  go_wp2_with fail
  refine (HV'.out _).mono ?_
  rintro e w5 ⟨rfl, hb⟩
  have hB5 := HX.out.1.trans (hb.mono (by omega))
  have ra := (hb.block w.heap.size (by omega)).trans HX.out.2.1
  have rb := (hb.block (w.heap.size + 1) (by omega)).trans HX.out.2.2.1
  have rr := (hb.block (w.heap.size + 1 + 1) (by omega)).trans HX.out.2.2.2
  have hz5 : w.heap.size + 2 < w5.heap.size := by have := hb.size; omega
  have hz5' : w.heap.size + 1 + 1 < w5.heap.size := by omega
  clear p0 p1 p2 p3
  obtain ⟨⟨p0, p1, p2, p3⟩, _⟩ := box4 ra
  obtain ⟨⟨q0, q1, q2, q3⟩, _⟩ := box4 rb
  obtain ⟨⟨k0, k1, k2, k3⟩, f0, f1, f2, f3⟩ := box4 rr
  have HX5 := Lib.hid (And.intro hB5 rr)
  clear hb hB5 ra rb rr hz4 HX
  go_wp2_with fail
  refine (HQ'.out _).mono ?_
  rintro e w6 ⟨rfl, hb⟩
  have rr := (hb.block (w.heap.size + 1 + 1) (by omega)).trans HX5.out.2
  have hB := HX5.out.1.trans (hb.mono (by omega))
  have hz6 : w.heap.size + 2 < w6.heap.size := by have := hb.size; omega
  have hz6' : w.heap.size + 1 + 1 < w6.heap.size := by omega
  clear k0 k1 k2 k3 f0 f1 f2 f3
  obtain ⟨⟨k0, k1, k2, k3⟩, f0, f1, f2, f3⟩ := box4 rr
  have HX6 := Lib.hid (And.intro hB rr)
  clear hb rr hB
  go_wp2_with fail
  refine (rvbool_d _ _).mono ?_
  rintro e w7 ⟨rfl, hb⟩
  have rr := (hb.block (w.heap.size + 1 + 1) (by omega)).trans HX6.out.2
  have hB := HX6.out.1.trans (hb.mono (by omega))
  have hz7 : w.heap.size + 2 < w7.heap.size := by have := hb.size; omega
  have hz7' : w.heap.size + 1 + 1 < w7.heap.size := by omega
  clear k0 k1 k2 k3 f0 f1 f2 f3
  obtain ⟨⟨k0, k1, k2, k3⟩, f0, f1, f2, f3⟩ := box4 rr
  have HX7 := Lib.hid (And.intro hB rr)
  clear hb rr hB
  go_wp2_with fail
  refine bodyPost_ret (v := .tuple #[(boolV (truthF op ⟨ak, an, ay, sa⟩ ⟨bk, bn, b3, sb⟩)).val, .bool true]) (by simp [results, Tryd.results23, go_sem, boolV, Vl.val, k0, k1, k2, k3]; rfl) rfl ⟨rfl, ?_⟩
  exact below4 HX7.out.1 (by omega) _ _ _ _

set_option maxRecDepth 100000 in
set_option maxHeartbeats 1000000 in
theorem rdo_I (hk : kindF op ak bk = (1, true)) (ha : canB ⟨ak, an, ay, sa⟩ = true) (hb : canB ⟨bk, bn, b3, sb⟩ = true) (q : Int × Bool) (HQ : ∀ w : World, Calls Tryd.prog 43 #[.int .i64 op, .int .i64 an, .int .i64 bn] w (WholeAs q w)) : Calls Tryd.prog 23 #[.int .i64 op, .agg #[.int .i64 ak, .int .i64 an, .bool ay, .string sa], .agg #[.int .i64 bk, .int .i64 bn, .bool b3, .string sb]] w fun e w' => e = .returned (.tuple #[(calcV q).1.val, .bool (calcV q).2]) ∧ Below w.heap.size w w' := by
  have HK := fun w => rkind_c w op ak bk
  simp only [hk] at HK
  have HA := fun (w : World) => rcan_c w ⟨ak, an, ay, sa⟩
  simp only [ha, Vl.val] at HA
  have HV := fun (w : World) => rcan_c w ⟨bk, bn, b3, sb⟩
  simp only [hb, Vl.val] at HV
  have HK' := Lib.hid HK
  have HA' := Lib.hid HA
  have HV' := Lib.hid HV
  have HB3 := Lib.hid (show Below w.heap.size w (((w.alloc (.cells #[.int .i64 ak, .int .i64 an, .bool ay, .string sa] 23)).alloc (.cells #[.int .i64 bk, .int .i64 bn, .bool b3, .string sb] 23)).alloc (.cells #[.int .i64 0, .int .i64 0, .bool false, .string ⟨#[]⟩] 23)) from (((Below.refl _ _).alloc (Nat.le_refl _) _).alloc (by simp) _).alloc (by simp; omega) _)
  clear hk ha hb HK HA HV
  have HQ' := Lib.hid HQ
  clear HQ
  go_enter Tryd.func23, Tryd.ntmps23
  go_wp2_with (go_at_call 25; refine (HK'.out _).mono ?_; rintro e w' ⟨rfl, rfl⟩)
  refine (HA'.out _).mono ?_
  rintro e w4 ⟨rfl, hb⟩
  have hB4 := HB3.out.trans (hb.mono (by simp; omega))
  have ra := (hb.block w.heap.size (by simp; omega)).trans (heap_at1 _ _ _ _)
  have rb := (hb.block (w.heap.size + 1) (by simp)).trans (heap_at2 _ _ _ _)
  have rr := (hb.block (w.heap.size + 1 + 1) (by simp)).trans (heap_at3 _ _ _ _)
  have hz4 : w.heap.size + 2 < w4.heap.size := by have := hb.size; simp at this; omega
  obtain ⟨⟨p0, p1, p2, p3⟩, _⟩ := box4 rb
  have HX := Lib.hid (And.intro hB4 (And.intro ra (And.intro rb rr)))
  clear hb hB4 ra rb rr
  go_wp2_with fail
  refine (HV'.out _).mono ?_
  rintro e w5 ⟨rfl, hb⟩
  have hB5 := HX.out.1.trans (hb.mono (by omega))
  have ra := (hb.block w.heap.size (by omega)).trans HX.out.2.1
  have rb := (hb.block (w.heap.size + 1) (by omega)).trans HX.out.2.2.1
  have rr := (hb.block (w.heap.size + 1 + 1) (by omega)).trans HX.out.2.2.2
  have hz5 : w.heap.size + 2 < w5.heap.size := by have := hb.size; omega
  have hz5' : w.heap.size + 1 + 1 < w5.heap.size := by omega
  clear p0 p1 p2 p3
  obtain ⟨⟨p0, p1, p2, p3⟩, _⟩ := box4 ra
  obtain ⟨⟨q0, q1, q2, q3⟩, _⟩ := box4 rb
  obtain ⟨⟨k0, k1, k2, k3⟩, f0, f1, f2, f3⟩ := box4 rr
  have HX5 := Lib.hid (And.intro hB5 rr)
  clear hb hB5 ra rb rr hz4 HX
  go_wp2_with fail
  refine (HQ'.out _).mono ?_
  rintro e w6 ⟨n, rfl, hn, hb⟩
  have rr := (hb.block (w.heap.size + 1 + 1) (by omega)).trans HX5.out.2
  have hB := HX5.out.1.trans (hb.mono (by omega))
  have hz6 : w.heap.size + 2 < w6.heap.size := by have := hb.size; omega
  have hz6' : w.heap.size + 1 + 1 < w6.heap.size := by omega
  clear k0 k1 k2 k3 f0 f1 f2 f3
  obtain ⟨⟨k0, k1, k2, k3⟩, f0, f1, f2, f3⟩ := box4 rr
  have HX6 := Lib.hid (And.intro hB rr)
  clear hb rr hB
  obtain ⟨qn, qb⟩ := q
  cases qb
  · go_wp2_with fail
    refine bodyPost_ret (v := .tuple #[noV.val, .bool false]) (by simp [results, Tryd.results23, go_sem, noV, Vl.val, k0, k1, k2, k3]; rfl) rfl ⟨rfl, ?_⟩
    exact below4 HX6.out.1 (by omega) _ _ _ _
  · obtain rfl : n = qn := hn rfl
    clear hn
    go_wp2_with fail
    refine (rvint_d _ _).mono ?_
    rintro e w7 ⟨rfl, hb⟩
    have rr := (hb.block (w.heap.size + 1 + 1) (by omega)).trans HX6.out.2
    have hB := HX6.out.1.trans (hb.mono (by omega))
    have hz7 : w.heap.size + 2 < w7.heap.size := by have := hb.size; omega
    have hz7' : w.heap.size + 1 + 1 < w7.heap.size := by omega
    clear k0 k1 k2 k3 f0 f1 f2 f3
    obtain ⟨⟨k0, k1, k2, k3⟩, f0, f1, f2, f3⟩ := box4 rr
    have HX7 := Lib.hid (And.intro hB rr)
    clear hb rr hB
    go_wp2_with fail
    refine bodyPost_ret (v := .tuple #[(intV n).val, .bool true]) (by simp [results, Tryd.results23, go_sem, intV, Vl.val, k0, k1, k2, k3]; rfl) rfl ⟨rfl, ?_⟩
    exact below4 HX7.out.1 (by omega) _ _ _ _
end

/-! ### Both sides make the same -/
theorem compareBytes_eq : ∀ (x y : List UInt8), Lib.compareBytes x y = if Op.bytesLess x y = true then -1 else if (!(Op.bytesLess x y || x == y)) = true then 1 else 0
  | [], [] => rfl
  | [], _ :: _ => by simp [Lib.compareBytes, Op.bytesLess]
  | _ :: _, [] => by simp [Lib.compareBytes, Op.bytesLess]
  | a :: x, b :: y => by
    have ih := compareBytes_eq x y
    unfold Lib.compareBytes Op.bytesLess
    by_cases h1 : a < b
    · simp [h1]
    · rw [if_neg h1]
      by_cases h2 : b < a
      · have hne : a ≠ b := by rintro rfl; exact h1 h2
        rw [if_pos h2]
        simp [h1, hne]
      · have he : a = b := by
          have e1 : ¬ a.toNat < b.toNat := h1
          have e2 : ¬ b.toNat < a.toNat := h2
          exact UInt8.toNat_inj.1 (by omega)
        subst he
        rw [if_neg h2, ih]
        simp
theorem toList_data (s : ByteArray) : s.toList = s.data.toList := ByteArray.toList_eq s
theorem order_int (a b : Vl) (ha : a = intV a.n) (hb : b = intV b.n) : orderF a b = cmpV a b := by
  have e : ∀ n m : Int, orderF (intV n) (intV m) = Lib.compareInt n m := by
    intro n m
    have hl : Op.bytesLess (intV n).s.toList (intV m).s.toList = false := by
      rw [show (intV n).s.toList = [] from by rw [toList_data]; rfl, show (intV m).s.toList = [] from by rw [toList_data]; rfl]; rfl
    have hq : ((intV n).s.toList == (intV m).s.toList) = true := by simp [intV]
    unfold orderF lessB moreB Lib.compareInt
    rw [hl, hq]
    simp only [intV]
    by_cases h1 : n < m <;> by_cases h2 : m < n <;> simp [h1, h2]
  rw [ha, hb]
  rw [e]
  rfl
theorem order_text (a b : Vl) (ha : a = textV a.s) (hb : b = textV b.s) : orderF a b = cmpV a b := by
  rw [ha, hb]
  have hc : cmpV (textV a.s) (textV b.s) = Lib.compareBytes a.s.data.toList b.s.data.toList := rfl
  rw [hc, compareBytes_eq]
  unfold orderF lessB moreB
  simp only [textV, toList_data]
  simp
theorem can_kind1 (v : Vl) (h : canB v = true) (hk : v.k = 1) : v = intV v.n := by
  unfold canB at h
  rw [if_neg (by omega), if_pos hk] at h
  exact (sameB_iff _ _).1 h
theorem can_kind3 (v : Vl) (h : canB v = true) (hk : v.k = 3) : v = textV v.s := by
  unfold canB at h
  rw [if_neg (by omega), if_neg (by omega), if_neg (by omega), if_pos hk, Bool.and_eq_true] at h
  exact (sameB_iff _ _).1 h.1

theorem rdo_c (w : World) (op : Int) (a b : Vl) (ha : a.Ok) (hb : b.Ok) : Calls Tryd.prog 23 #[.int .i64 op, a.val, b.val] w fun e w' => e = .returned (.tuple #[(doF op a b).1.val, .bool (doF op a b).2]) ∧ Below w.heap.size w w' := by
  by_cases h1 : (kindF op a.k b.k).2 = true
  · by_cases h2 : canB a = true
    · by_cases h3 : canB b = true
      · rw [show doF op a b = makeF op a b from by unfold doF; rw [if_pos ⟨h1, h2, h3⟩]]
        have hn := ha.n
        have hm := hb.n
        have ords : a.k = b.k ∧ (a.k = 1 ∨ a.k = 3) → orderF a b = cmpV a b := by
          rintro ⟨he, h | h⟩
          · exact order_int a b (can_kind1 a h2 h) (can_kind1 b h3 (he ▸ h))
          · exact order_text a b (can_kind3 a h2 h) (can_kind3 b h3 (he ▸ h))
        rcases op_cases op with rfl | rfl | rfl | rfl | rfl | rfl | rfl | rfl | rfl | rfl | rfl | rfl | rfl | rfl | rfl | hx
        · have hk : kindF 5 a.k b.k = (2, true) := by revert h1; unfold kindF kindC; rw [show classF 5 = 1 from rfl]; simp only [if_pos]; split <;> simp
          have := rdo_T w 5 a.k a.n a.y a.s b.k b.n b.y b.s hk h2 h3 (fun w => truth_5 w a.k a.n a.y a.s b.k b.n b.y b.s)
          exact this
        · have hk : kindF 6 a.k b.k = (1, true) := by revert h1; unfold kindF kindC; rw [show classF 6 = 2 from rfl]; rw [if_neg (by decide), if_pos rfl]; split <;> simp
          exact rdo_I w 6 a.k a.n a.y a.s b.k b.n b.y b.s hk h2 h3 (intF 11 0 a.n) (fun w => whole_6 w a.n b.n hn)
        · have hk : kindF 7 a.k b.k = (1, true) := by revert h1; unfold kindF kindC; rw [show classF 7 = 3 from rfl]; rw [if_neg (by decide), if_neg (by decide), if_pos rfl]; split <;> simp
          exact rdo_I w 7 a.k a.n a.y a.s b.k b.n b.y b.s hk h2 h3 (intF 7 a.n b.n) (fun w => whole_7 w a.n b.n hn hm)
        · have hk : kindF 8 a.k b.k = (1, true) := by revert h1; unfold kindF kindC; rw [show classF 8 = 3 from rfl]; rw [if_neg (by decide), if_neg (by decide), if_pos rfl]; split <;> simp
          exact rdo_I w 8 a.k a.n a.y a.s b.k b.n b.y b.s hk h2 h3 (intF 8 a.n b.n) (fun w => whole_8 w a.n b.n hn hm)
        · have hk : kindF 9 a.k b.k = (1, true) := by revert h1; unfold kindF kindC; rw [show classF 9 = 3 from rfl]; rw [if_neg (by decide), if_neg (by decide), if_pos rfl]; split <;> simp
          exact rdo_I w 9 a.k a.n a.y a.s b.k b.n b.y b.s hk h2 h3 (intF 9 a.n b.n) (fun w => whole_9 w a.n b.n hn hm)
        · have hk : kindF 10 a.k b.k = (1, true) := by revert h1; unfold kindF kindC; rw [show classF 10 = 3 from rfl]; rw [if_neg (by decide), if_neg (by decide), if_pos rfl]; split <;> simp
          exact rdo_I w 10 a.k a.n a.y a.s b.k b.n b.y b.s hk h2 h3 (intF 10 a.n b.n) (fun w => whole_10 w a.n b.n hn hm)
        · have hk : kindF 11 a.k b.k = (1, true) := by revert h1; unfold kindF kindC; rw [show classF 11 = 3 from rfl]; rw [if_neg (by decide), if_neg (by decide), if_pos rfl]; split <;> simp
          exact rdo_I w 11 a.k a.n a.y a.s b.k b.n b.y b.s hk h2 h3 (intF 11 a.n b.n) (fun w => whole_11 w a.n b.n hn hm)
        · have hq : a.k = b.k ∧ (a.k = 1 ∨ a.k = 3) := by
            revert h1; unfold kindF kindC; rw [show classF 12 = 4 from rfl]; rw [if_neg (by decide), if_neg (by decide), if_neg (by decide), if_pos rfl]; split
            · intro _; assumption
            · intro h; cases h
          have hk : kindF 12 a.k b.k = (2, true) := by unfold kindF kindC; rw [show classF 12 = 4 from rfl]; rw [if_neg (by decide), if_neg (by decide), if_neg (by decide), if_pos rfl, if_pos hq]
          have := rdo_T w 12 a.k a.n a.y a.s b.k b.n b.y b.s hk h2 h3 (fun w => truth_12 w a.k a.n a.y a.s b.k b.n b.y b.s)
          rw [show makeF 12 a b = (boolV (truthF 12 a b), true) from by show (boolV (ordB 12 (cmpV a b)), true) = _; rw [← ords hq]; rfl]
          exact this
        · have hq : a.k = b.k ∧ (a.k = 1 ∨ a.k = 3) := by
            revert h1; unfold kindF kindC; rw [show classF 13 = 4 from rfl]; rw [if_neg (by decide), if_neg (by decide), if_neg (by decide), if_pos rfl]; split
            · intro _; assumption
            · intro h; cases h
          have hk : kindF 13 a.k b.k = (2, true) := by unfold kindF kindC; rw [show classF 13 = 4 from rfl]; rw [if_neg (by decide), if_neg (by decide), if_neg (by decide), if_pos rfl, if_pos hq]
          have := rdo_T w 13 a.k a.n a.y a.s b.k b.n b.y b.s hk h2 h3 (fun w => truth_13 w a.k a.n a.y a.s b.k b.n b.y b.s)
          rw [show makeF 13 a b = (boolV (truthF 13 a b), true) from by show (boolV (ordB 13 (cmpV a b)), true) = _; rw [← ords hq]; rfl]
          exact this
        · have hq : a.k = b.k ∧ (a.k = 1 ∨ a.k = 3) := by
            revert h1; unfold kindF kindC; rw [show classF 14 = 4 from rfl]; rw [if_neg (by decide), if_neg (by decide), if_neg (by decide), if_pos rfl]; split
            · intro _; assumption
            · intro h; cases h
          have hk : kindF 14 a.k b.k = (2, true) := by unfold kindF kindC; rw [show classF 14 = 4 from rfl]; rw [if_neg (by decide), if_neg (by decide), if_neg (by decide), if_pos rfl, if_pos hq]
          have := rdo_T w 14 a.k a.n a.y a.s b.k b.n b.y b.s hk h2 h3 (fun w => truth_14 w a.k a.n a.y a.s b.k b.n b.y b.s)
          rw [show makeF 14 a b = (boolV (truthF 14 a b), true) from by show (boolV (ordB 14 (cmpV a b)), true) = _; rw [← ords hq]; rfl]
          exact this
        · have hq : a.k = b.k ∧ (a.k = 1 ∨ a.k = 3) := by
            revert h1; unfold kindF kindC; rw [show classF 15 = 4 from rfl]; rw [if_neg (by decide), if_neg (by decide), if_neg (by decide), if_pos rfl]; split
            · intro _; assumption
            · intro h; cases h
          have hk : kindF 15 a.k b.k = (2, true) := by unfold kindF kindC; rw [show classF 15 = 4 from rfl]; rw [if_neg (by decide), if_neg (by decide), if_neg (by decide), if_pos rfl, if_pos hq]
          have := rdo_T w 15 a.k a.n a.y a.s b.k b.n b.y b.s hk h2 h3 (fun w => truth_15 w a.k a.n a.y a.s b.k b.n b.y b.s)
          rw [show makeF 15 a b = (boolV (truthF 15 a b), true) from by show (boolV (ordB 15 (cmpV a b)), true) = _; rw [← ords hq]; rfl]
          exact this
        · have hk : kindF 16 a.k b.k = (2, true) := by revert h1; unfold kindF kindC; rw [show classF 16 = 5 from rfl]; rw [if_neg (by decide), if_neg (by decide), if_neg (by decide), if_neg (by decide), if_pos rfl]; split <;> simp
          have := rdo_T w 16 a.k a.n a.y a.s b.k b.n b.y b.s hk h2 h3 (fun w => truth_16 w a.k a.n a.y a.s b.k b.n b.y b.s)
          rw [show makeF 16 a b = (boolV (truthF 16 a b), true) from by show (boolV (sameB a b == _), true) = _; simp [truthF]]
          exact this
        · have hk : kindF 17 a.k b.k = (2, true) := by revert h1; unfold kindF kindC; rw [show classF 17 = 5 from rfl]; rw [if_neg (by decide), if_neg (by decide), if_neg (by decide), if_neg (by decide), if_pos rfl]; split <;> simp
          have := rdo_T w 17 a.k a.n a.y a.s b.k b.n b.y b.s hk h2 h3 (fun w => truth_17 w a.k a.n a.y a.s b.k b.n b.y b.s)
          rw [show makeF 17 a b = (boolV (truthF 17 a b), true) from by show (boolV (sameB a b == _), true) = _; simp [truthF]]
          exact this
        · have hk : kindF 18 a.k b.k = (2, true) := by revert h1; unfold kindF kindC; rw [show classF 18 = 6 from rfl]; rw [if_neg (by decide), if_neg (by decide), if_neg (by decide), if_neg (by decide), if_neg (by decide), if_pos rfl]; split <;> simp
          have := rdo_T w 18 a.k a.n a.y a.s b.k b.n b.y b.s hk h2 h3 (fun w => truth_18 w a.k a.n a.y a.s b.k b.n b.y b.s)
          exact this
        · have hk : kindF 19 a.k b.k = (2, true) := by revert h1; unfold kindF kindC; rw [show classF 19 = 6 from rfl]; rw [if_neg (by decide), if_neg (by decide), if_neg (by decide), if_neg (by decide), if_neg (by decide), if_pos rfl]; split <;> simp
          have := rdo_T w 19 a.k a.n a.y a.s b.k b.n b.y b.s hk h2 h3 (fun w => truth_19 w a.k a.n a.y a.s b.k b.n b.y b.s)
          exact this
        · exfalso
          unfold kindF at h1
          rw [class_other op hx] at h1
          simp [kindC] at h1
      · rw [show doF op a b = (noV, false) from by unfold doF; rw [if_neg (by rintro ⟨_, _, h⟩; exact h3 h)]]
        exact rdo_C w op a.k a.n a.y a.s b.k b.n b.y b.s (kindF op a.k b.k).1 (by rw [← h1]) h2 (by simpa using h3)
    · rw [show doF op a b = (noV, false) from by unfold doF; rw [if_neg (by rintro ⟨_, h, _⟩; exact h2 h)]]
      exact rdo_B w op a b h1 (by simpa using h2)
  · rw [show doF op a b = (noV, false) from by unfold doF; rw [if_neg (by rintro ⟨h, _⟩; exact h1 h)]]
    exact rdo_A w op a b (by simpa using h1)

end Go.Proofs.YtjablobdiglnpaaDoor
