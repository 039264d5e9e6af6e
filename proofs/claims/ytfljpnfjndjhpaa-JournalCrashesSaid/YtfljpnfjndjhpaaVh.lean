/- vdisk: find, begin. -/
import Derived.Test.YtfljpnfjndjhpaaVg
namespace Go.Proofs.Ytfljpnfjndjhpaa
open Go.RowKit
set_option linter.unusedVariables false

def noV : Value := .agg #[.slice none 0 0, .int .i64 0]

section
variable {w : World} {pb mb : Nat} {s : DS} {E : Ents}

set_option maxRecDepth 100000 in
theorem find_ok (h : Core w pb mb s E) (n : ByteArray) (hn : n.size ≤ 9223372036854775807) (v : Bool) (h0 : s.fnd n.data.toList v = 0) :
    Calls Try.prog 34 #[.pointer (some ⟨pb, 0, none⟩), .string n, .bool v] w fun e w' => e = .returned (.tuple #[valA n.data.toList E, .int .i64 0]) ∧ Below w.heap.size w w' := by
  have HC := Lib.hid h
  have hlp := h.ltp
  obtain ⟨c0, c1, c2, c3, c4, cf⟩ := cells5 h.blk
  obtain ⟨hr, hs⟩ := DS.fnd_ok h0
  have HR := Lib.hid (show Calls Try.prog 37 #[.pointer (some ⟨pb, 0, none⟩), .bool v] (w.alloc (.cells #[.slice none 0 0, .int .i64 0] 60)) fun e w' => e = .returned (.int .i64 0) ∧ (w.alloc (.cells #[.slice none 0 0, .int .i64 0] 60)) = w' from by
    have := ready_c (h.keep (w' := w.alloc (.cells #[.slice none 0 0, .int .i64 0] 60)) (Below.heap_alloc _ _ _ h.ltp) (Below.heap_alloc _ _ _ h.map.lt)) v
    rw [hr] at this
    exact this)
  obtain ⟨a', c', he, u1, u2, u3⟩ := h.shapeAt n.data.toList
  have hlk := (h.keep (w' := w.alloc (.cells #[.slice none 0 0, .int .i64 0] 60)) (Below.heap_alloc _ _ _ h.ltp) (Below.heap_alloc _ _ _ h.map.lt)).lookOk n (by unfold maxLen; omega)
  rw [hs, he] at hlk
  have HE := Lib.hid he
  clear h h0 hr hs he c0 c1 c3 c4 cf u1 u2 u3
  go_enter Try.func34, Try.ntmps34
  go_wp2_with (go_at_call 37; refine HR.out.mono ?_; rintro e w' ⟨rfl, rfl⟩)
  rw [HE.out]
  exact bodyPost_ret (v := .tuple #[.agg #[.slice a' (fileA n.data.toList s.fs).data.length c', .int .i64 (fileA n.data.toList s.fs).sy], .int .i64 0]) (by simp [results, Try.results34, go_sem]) rfl ⟨rfl, ((Below.refl _ _).alloc (Nat.le_refl _) _).alloc (by simp) _⟩

set_option maxRecDepth 100000 in
theorem find_no (h : Core w pb mb s E) (n : ByteArray) (hn : n.size ≤ 9223372036854775807) (v : Bool) (h0 : s.fnd n.data.toList v ≠ 0) :
    Calls Try.prog 34 #[.pointer (some ⟨pb, 0, none⟩), .string n, .bool v] w fun e w' => e = .returned (.tuple #[noV, .int .i64 (s.fnd n.data.toList v)]) ∧ Below w.heap.size w w' := by
  have HC := Lib.hid h
  have hlp := h.ltp
  obtain ⟨c0, c1, c2, c3, c4, cf⟩ := cells5 h.blk
  have HR := Lib.hid (ready_c (h.keep (w' := w.alloc (.cells #[.slice none 0 0, .int .i64 0] 60)) (Below.heap_alloc _ _ _ h.ltp) (Below.heap_alloc _ _ _ h.map.lt)) v)
  obtain ⟨a', c', he, u1, u2, u3⟩ := h.shapeAt n.data.toList
  have hlk := (h.keep (w' := w.alloc (.cells #[.slice none 0 0, .int .i64 0] 60)) (Below.heap_alloc _ _ _ h.ltp) (Below.heap_alloc _ _ _ h.map.lt)).lookOk n (by unfold maxLen; omega)
  rw [he] at hlk
  unfold noV
  by_cases hr : s.rdy v = 0
  · have hs : (getA n.data.toList s.fs).isSome = false := by
      cases hs : (getA n.data.toList s.fs).isSome
      · rfl
      · exact absurd (by unfold DS.fnd; simp [hr, hs]) h0
    rw [hs] at hlk
    have HX := Lib.hid (show s.fnd n.data.toList v = 33 from by unfold DS.fnd; simp [hr, hs])
    rw [hr] at HR
    clear h h0 hr hs he c0 c1 c3 c4 cf u1 u2 u3
    go_enter Try.func34, Try.ntmps34
    go_wp2_with (go_at_call 37; refine HR.out.mono ?_; rintro e w' ⟨rfl, rfl⟩)
    rw [HX.out]
    exact bodyPost_ret (v := .tuple #[.agg #[.slice none 0 0, .int .i64 0], .int .i64 33]) (by simp [results, Try.results34, go_sem]) rfl ⟨rfl, ((Below.refl _ _).alloc (Nat.le_refl _) _).alloc (by simp) _⟩
  · have HX := Lib.hid (show s.fnd n.data.toList v = s.rdy v from by unfold DS.fnd; simp [hr])
    have t : (s.rdy v != 0) = true := by simpa using hr
    generalize s.rdy v = r at *
    clear h h0 hr he c0 c1 c2 c3 c4 cf u1 u2 u3 hlk
    go_enter Try.func34, Try.ntmps34
    go_wp2_with (go_at_call 37; refine HR.out.mono ?_; rintro e w' ⟨rfl, rfl⟩)
    rw [HX.out]
    exact bodyPost_ret (v := .tuple #[.agg #[.slice none 0 0, .int .i64 0], .int .i64 r]) (by simp [results, Try.results34, go_sem]) rfl ⟨rfl, ((Below.refl _ _).alloc (Nat.le_refl _) _)⟩

theorem Core.below {w' : World} (h : Core w pb mb s E) (hb : Below w.heap.size w w') : Core w' pb mb s E := h.keep (hb.block _ h.ltp) (hb.block _ h.map.lt)
theorem Core.alloc (h : Core w pb mb s E) (o : Obj) : Core (w.alloc o) pb mb s E := h.below ((Below.refl _ _).alloc (Nat.le_refl _) o)

theorem cells2 {w : World} {b : Nat} {c0 c1 : Value} {T : TypeId} (h : w.heap[b]? = some (.cells #[c0, c1] T (0, 0))) :
    w.cell? ⟨b, 0, none⟩ = some c0 ∧ w.cell? ⟨b, 1, none⟩ = some c1 ∧ w.frozen? ⟨b, 0, none⟩ = false ∧ w.frozen? ⟨b, 1, none⟩ = false := by
  refine ⟨?_, ?_, ?_, ?_⟩ <;> simp [World.cell?, World.frozen?, h]

set_option maxRecDepth 100000 in
theorem beg_ok (h : Core w pb mb s E) (n : ByteArray) (hn : n.size ≤ 9223372036854775807) (v : Bool) (h0 : s.beg n.data.toList v = 0) :
    Calls Try.prog 41 #[.pointer (some ⟨pb, 0, none⟩), .string n, .bool v] w fun e w' => e = .returned (.tuple #[valA n.data.toList E, .int .i64 0]) ∧ Core w' pb mb s.burn E ∧ Chg [pb] w w' := by
  have HC := Lib.hid h
  have HN := Lib.hid hn
  obtain ⟨hf, hz⟩ := DS.beg_ok h0
  have HF := Lib.hid hf
  have HD := Lib.hid (DS.rdy_ok (DS.fnd_ok hf).1).2
  have HZ := Lib.hid (show decide (s.fuse = 0) = false from by simpa using hz)
  obtain ⟨a', c', he, u1, u2, u3⟩ := h.shapeAt n.data.toList
  have HE := Lib.hid he
  clear h h0 hf hz hn he u1 u2 u3
  go_enter Try.func41, Try.ntmps41
  go_wp2_with fail
  refine (find_ok (HC.out.alloc _) n HN.out v HF.out).mono ?_
  rintro e w2 ⟨rfl, hb⟩
  have HB := Lib.hid hb
  have HC2 := Lib.hid ((HC.out.alloc _).below hb)
  have hsz : w.heap.size + 1 ≤ w2.heap.size := by have := hb.size; simpa using this
  obtain ⟨k0, k1, kf0, kf1⟩ := cells2 ((hb.block w.heap.size (by simp)).trans (heap_alloc_new w _))
  clear hb
  rw [HE.out]
  go_wp2_with fail
  refine (stops_c (HC2.out.alloc _) HD.out).mono ?_
  rintro e w3 ⟨rfl, hc3, hg3⟩
  rw [HZ.out]
  have HC3 := Lib.hid hc3
  have HG3 := Lib.hid hg3
  have hlp := HC.out.ltp
  obtain ⟨j0, j1, jf0, jf1⟩ := cells2 ((hg3.block w.heap.size (by simp; omega) (by simp; omega)).trans ((Below.heap_alloc w2 _ _ (by omega)).trans ((HB.out.block w.heap.size (by simp)).trans (heap_alloc_new w _))))
  obtain ⟨l0, l1, lf0, lf1⟩ := cells2 ((hg3.block w2.heap.size (by simp) (by simp; omega)).trans (heap_alloc_new w2 _))
  have hs3 : w2.heap.size + 1 ≤ w3.heap.size := by have := hg3.size; simpa using this
  clear hc3 hg3 k0 k1 kf0 kf1
  go_wp2_with fail
  have hch : Chg [pb] w w3 := (((Chg.refl [pb] w).alloc' _).trans (Chg.of_below HB.out)).trans (((Chg.refl [pb] w2).alloc' _).trans HG3.out)
  refine bodyPost_ret (v := .tuple #[.agg #[.slice a' (fileA n.data.toList s.fs).data.length c', .int .i64 (fileA n.data.toList s.fs).sy], .int .i64 0]) (by simp [results, Try.results41, go_sem, j0, j1]) rfl ⟨by rw [HE.out], ?_, ?_⟩
  · refine HC3.out.keep ?_ ?_ <;> (rw [Below.heap_setCell _ _ _ _ (by simp; have := HC.out.ltp; have := HC.out.map.lt; omega), Below.heap_setCell _ _ _ _ (by simp; have := HC.out.ltp; have := HC.out.map.lt; omega)])
  · exact (hch.set' _ _ _ (.inr (Nat.le_refl _))).set' _ _ _ (.inr (Nat.le_refl _))

set_option maxRecDepth 100000 in
theorem beg_no (h : Core w pb mb s E) (n : ByteArray) (hn : n.size ≤ 9223372036854775807) (v : Bool) (h0 : s.beg n.data.toList v ≠ 0) :
    Calls Try.prog 41 #[.pointer (some ⟨pb, 0, none⟩), .string n, .bool v] w fun e w' => e = .returned (.tuple #[noV, .int .i64 (s.beg n.data.toList v)]) ∧ Core w' pb mb (s.aft n.data.toList v) E ∧ Chg [pb] w w' := by
  have HC := Lib.hid h
  have HN := Lib.hid hn
  by_cases hf : s.fnd n.data.toList v = 0
  · have hz : s.fuse = 0 := by
      refine Decidable.byContradiction fun hz => h0 ?_
      unfold DS.beg
      rw [if_pos hf, if_neg hz]
    have HX := Lib.hid (show s.beg n.data.toList v = 70 from by unfold DS.beg; rw [if_pos hf, if_pos hz])
    have HA := Lib.hid (show s.aft n.data.toList v = s.burn from by unfold DS.aft; rw [if_pos hf])
    have HF := Lib.hid hf
    have HD := Lib.hid (DS.rdy_ok (DS.fnd_ok hf).1).2
    have HZ := Lib.hid (show decide (s.fuse = 0) = true from by simpa using hz)
    obtain ⟨a', c', he, u1, u2, u3⟩ := h.shapeAt n.data.toList
    have HE := Lib.hid he
    clear h h0 hf hz hn he u1 u2 u3
    go_enter Try.func41, Try.ntmps41
    go_wp2_with fail
    refine (find_ok (HC.out.alloc _) n HN.out v HF.out).mono ?_
    rintro e w2 ⟨rfl, hb⟩
    have HB := Lib.hid hb
    have HC2 := Lib.hid ((HC.out.alloc _).below hb)
    have hsz : w.heap.size + 1 ≤ w2.heap.size := by have := hb.size; simpa using this
    obtain ⟨k0, k1, kf0, kf1⟩ := cells2 ((hb.block w.heap.size (by simp)).trans (heap_alloc_new w _))
    clear hb
    rw [HE.out]
    go_wp2_with fail
    refine (stops_c (HC2.out.alloc _) HD.out).mono ?_
    rintro e w3 ⟨rfl, hc3, hg3⟩
    rw [HZ.out]
    have HC3 := Lib.hid hc3
    have HG3 := Lib.hid hg3
    have hlp := HC.out.ltp
    obtain ⟨j0, j1, jf0, jf1⟩ := cells2 ((hg3.block w.heap.size (by simp; omega) (by simp; omega)).trans ((Below.heap_alloc w2 _ _ (by omega)).trans ((HB.out.block w.heap.size (by simp)).trans (heap_alloc_new w _))))
    have hs3 : w2.heap.size + 1 ≤ w3.heap.size := by have := hg3.size; simpa using this
    clear hc3 hg3 k0 k1 kf0 kf1
    go_wp2_with fail
    have hch : Chg [pb] w w3 := (((Chg.refl [pb] w).alloc' _).trans (Chg.of_below HB.out)).trans (((Chg.refl [pb] w2).alloc' _).trans HG3.out)
    refine bodyPost_ret (v := .tuple #[.agg #[.slice none 0 0, .int .i64 0], .int .i64 70]) (by simp [results, Try.results41, go_sem, j0, j1]) rfl ⟨by rw [HX.out]; rfl, ?_, ?_⟩
    · rw [HA.out]
      refine HC3.out.keep ?_ ?_ <;> (rw [Below.heap_setCell _ _ _ _ (by simp; have := HC.out.ltp; have := HC.out.map.lt; omega), Below.heap_setCell _ _ _ _ (by simp; have := HC.out.ltp; have := HC.out.map.lt; omega)])
    · exact (hch.set' _ _ _ (.inr (Nat.le_refl _))).set' _ _ _ (.inr (Nat.le_refl _))
  · have HX := Lib.hid (show s.beg n.data.toList v = s.fnd n.data.toList v from by unfold DS.beg; rw [if_neg hf])
    have HA := Lib.hid (show s.aft n.data.toList v = s from by unfold DS.aft; rw [if_neg hf])
    have t : (s.fnd n.data.toList v == 0) = false := by simpa using hf
    have HF := Lib.hid (find_no (h.alloc (.cells #[.slice none 0 0, .int .i64 0] 60)) n hn v hf)
    generalize s.fnd n.data.toList v = r at *
    clear h h0 hf hn
    go_enter Try.func41, Try.ntmps41
    go_wp2_with fail
    refine HF.out.mono ?_
    rintro e w2 ⟨rfl, hb⟩
    have HB := Lib.hid hb
    have HC2 := Lib.hid ((HC.out.alloc _).below hb)
    have hsz : w.heap.size + 1 ≤ w2.heap.size := by have := hb.size; simpa using this
    obtain ⟨k0, k1, kf0, kf1⟩ := cells2 ((hb.block w.heap.size (by simp)).trans (heap_alloc_new w _))
    have hlp := HC.out.ltp
    have hsl : w.heap.size < w2.heap.size := by omega
    clear hb
    unfold noV
    go_wp2_with fail
    have hch : Chg [pb] w w2 := ((Chg.refl [pb] w).alloc' _).trans (Chg.of_below HB.out)
    refine bodyPost_ret (v := .tuple #[.agg #[.slice none 0 0, .int .i64 0], .int .i64 r]) (by simp [results, Try.results41, go_sem, k0, k1, hsl]) rfl ⟨by rw [HX.out]; rfl, ?_, ?_⟩
    · rw [HA.out]
      have hm := HC.out.map.lt
      refine HC2.out.keep ?_ ?_ <;> (first | (rw [Below.heap_alloc _ _ _ (by simp; omega), Below.heap_setCell _ _ _ _ (by simp; omega), Below.heap_setCell _ _ _ _ (by simp; omega)]) | (rw [Below.heap_setCell _ _ _ _ (by simp; omega), Below.heap_setCell _ _ _ _ (by simp; omega), Below.heap_alloc _ _ _ (by omega)]))
    · first
        | exact ((hch.set' _ _ _ (.inr (Nat.le_refl _))).set' _ _ _ (.inr (Nat.le_refl _))).alloc' _
        | exact ((hch.alloc' _).set' _ _ _ (.inr (Nat.le_refl _))).set' _ _ _ (.inr (Nat.le_refl _))
end
end Go.Proofs.Ytfljpnfjndjhpaa
