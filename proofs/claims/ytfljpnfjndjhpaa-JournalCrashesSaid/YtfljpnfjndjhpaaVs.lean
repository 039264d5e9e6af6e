/- vdisk: New, Fuse, Room, Used, Dead, Read; bytes.Clone, bytes.Equal. -/
import Derived.Test.YtfljpnfjndjhpaaVa
namespace Go.Proofs.Ytfljpnfjndjhpaa
open Go.RowKit
set_option linter.unusedVariables false

theorem equal_c (w : World) (v1 v2 : Value) (xs ys : List UInt8) (h1 : Rd w v1 xs) (h2 : Rd w v2 ys) :
    Calls Try.prog 12 #[v1, v2] w fun e w' => e = .returned (.bool (xs == ys)) ∧ w = w' := by
  have c1 := h1.conv (P := Try.prog) 23 5 9 Try.underlying23 Try.underlying5 Try.underlying9
  have c2 := h2.conv (P := Try.prog) 23 5 9 Try.underlying23 Try.underlying5 Try.underlying9
  go_enter Try.func12, Try.ntmps12
  go_wp2
  go_ret
  exact ⟨rfl, rfl⟩

theorem clone_c (w : World) (v : Value) (xs : List UInt8) (h : Rd w v xs) (hn : xs.length ≤ 140737488355328) :
    Calls Try.prog 25 #[v] w fun e w' => ∃ v', e = .returned v' ∧ w'.ownsRow w.heap.size 5 1 v' xs.length (bcells xs) ∧ Below w.heap.size w w' := by
  have HR := Lib.hid h
  have HN := Lib.hid hn
  obtain ⟨i0, hi, hz0, hz1, hz2⟩ := info_parts infoU8
  obtain ⟨p, c, rfl, h1, h2, h3, h4⟩ := h
  clear h4 hn
  cases p with
  | none =>
    have h0 : xs.length = 0 := by have := h3 rfl; omega
    have H0 := Lib.hid (List.eq_nil_of_length_eq_zero h0)
    have hc := h3 rfl
    clear h0 h1 h2 h3
    obtain rfl := H0.out
    subst hc
    have hnil := @Lib.run_eql_slice_nil Try.prog
    go_enter Try.func25, Try.ntmps25
    go_wp2
    go_ret
    exact ⟨_, rfl, World.ownsRow_nil _ _ _ _, Below.refl _ _⟩
  | some a =>
    clear h3
    have hnil := @Lib.run_eql_slice_nil Try.prog
    go_enter Try.func25, Try.ntmps25
    go_wp2_with (at_builtin; refine wpList_append_src rfl _ _ 23 23 rfl w.heap.size 5 i0 (.int .u8 0) 1 Try.underlying23 hi hz0 hz1 hz2 rfl _ 0 [] rfl (World.ownsRow_made w #[] 0 (Nat.le_refl _) (by unfold maxLen; omega) rfl) _ xs.length (bcells xs) rfl ((HR.out.alloc _).src Try.underlying23) (by have := HN.out; unfold maxLen; omega) (by have := HN.out; omega) (by simp) ?_; intro v' w2 hown2 hgrow2; have HO := Lib.hid hown2; have HG := Lib.hid hgrow2; clear hown2 hgrow2)
    go_ret
    have h2 := HO.out
    rw [Nat.zero_add, List.nil_append] at h2
    exact ⟨_, rfl, h2, ((Below.refl _ _).alloc (Nat.le_refl _) _).trans (below_own HG.out (World.ownsRow_made w #[] 0 (Nat.le_refl _) (by unfold maxLen; omega) rfl) (by simp))⟩


/-- An empty disk. -/
def newS (room : Int) : DS := ⟨room, -1, false, []⟩

theorem new_c (w : World) (n : Int) :
    Calls Try.prog 4 #[.int .i64 n] w fun e w' => if possB n then ∃ foot, e = .returned (.tuple #[.pointer (some ⟨w.heap.size + 1, 0, none⟩), .int .i64 0]) ∧ Disk w' (some ⟨w.heap.size + 1, 0, none⟩) (newS n) foot ∧ (∀ i ∈ foot, w.heap.size ≤ i) ∧ Below w.heap.size w w'
      else e = .returned (.tuple #[.pointer none, .int .i64 1]) ∧ w = w' := by
  cases hp : possB n with
  | false =>
    have HP := Lib.hid hp
    simp only [Bool.false_eq_true, if_false]
    clear hp
    go_enter Try.func4, Try.ntmps4
    go_wp2_with fail
    refine (possible_c _ n).mono ?_
    rintro e w' ⟨rfl, rfl⟩
    rw [HP.out]
    go_wp2
    go_ret2
    exact ⟨rfl, rfl⟩
  | true =>
    have HP := Lib.hid hp
    have hmm := @run_makeMap Try.prog
    simp only [if_true]
    clear hp
    go_enter Try.func4, Try.ntmps4
    go_wp2_with fail
    refine (possible_c _ n).mono ?_
    rintro e w' ⟨rfl, rfl⟩
    rw [HP.out]
    go_wp2
    go_ret2
    have h := HP.out
    simp only [possB, Bool.and_eq_true, decide_eq_true_eq] at h
    have hs1 : (w.alloc (.map #[] 0)).heap.size = w.heap.size + 1 := by simp
    have e1 : ∀ o : Obj, ((w.alloc (.map #[] 0)).alloc o).heap[w.heap.size + 1]? = some o := fun o => by rw [← hs1]; exact heap_alloc_new _ o
    refine ⟨[w.heap.size + 1, w.heap.size], rfl, ⟨_, _, [], rfl, ⟨e1 _, (MapIs.made w).keep (Below.heap_alloc _ _ _ (by simp)), rfl, by simp, DS.Ok.new h.1 h.2⟩, by simp, rfl, by simp⟩, ?_, ((Below.refl _ _).alloc (Nat.le_refl _) _).alloc (by simp) _⟩
    intro i hi
    simp only [List.mem_cons, List.not_mem_nil, or_false] at hi
    omega

section
variable {w : World} {p : Option Addr} {s : DS} {foot : List Nat}

theorem fuse_c (h : Disk w p s foot) (n : Int) (hn : n ≤ 9223372036854775807) :
    Calls Try.prog 9 #[.pointer p, .int .i64 n] w fun e w' => e = .returned (.int .i64 (s.setFuse n).1) ∧ After w p (s.setFuse n).2 foot w' := by
  obtain ⟨pb, mb, E, rfl, hc, hr, rfl, hnd⟩ := h
  have HC := Lib.hid hc
  have HR := Lib.hid hr
  have HND := Lib.hid hnd
  have HO := Lib.hid (hc.ok.setFuse n hn)
  obtain ⟨c0, c1, c2, c3, c4, cf⟩ := cells5 hc.blk
  have cf3 := cf 3
  clear hc hr hnd hn c0 c1 c2 c4 cf
  by_cases h0 : n < 0
  · have HX := Lib.hid (show s.setFuse n = (1, s) from by unfold DS.setFuse; rw [if_pos h0])
    rw [HX.out]
    go_enter Try.func9, Try.ntmps9
    go_wp2_with (go_at_call 27; refine (made_c HC.out).mono ?_; rintro e w' ⟨rfl, rfl⟩)
    go_ret
    exact ⟨rfl, after_core HR.out HND.out HC.out (Chg.refl _ _)⟩
  · have HX := Lib.hid (show s.setFuse n = (0, { s with fuse := n }) from by unfold DS.setFuse; rw [if_neg h0])
    have h1 : 0 ≤ n := by omega
    rw [HX.out]
    clear h0
    go_enter Try.func9, Try.ntmps9
    go_wp2_with (go_at_call 27; refine (made_c HC.out).mono ?_; rintro e w' ⟨rfl, rfl⟩)
    go_ret
    refine ⟨rfl, after_core HR.out HND.out (HC.out.mk' _ ((heap_mod HC.out.blk).trans rfl) (Below.heap_setCell _ _ _ _ HC.out.ne.symm) rfl (by have := HO.out; rwa [HX.out] at this)) ((Chg.refl _ _).set' _ _ _ (.inl (by simp)))⟩

theorem FRow.rd {v : Value} {f : Fl} {sl : Value} (h : FRow w (.agg #[sl, .int .i64 f.sy]) f) : Rd w sl f.data := by
  obtain ⟨sl', he, h1⟩ := h
  simp only [Value.agg.injEq, Array.mk.injEq, List.cons.injEq, and_true] at he
  subst he
  exact Rd.of_own h1

theorem read_c (h : Disk w p s foot) (n : ByteArray) (hn : n.size ≤ 9223372036854775807) :
    Calls Try.prog 17 #[.pointer p, .string n] w fun e w' => ∃ v, e = .returned (.tuple #[v, .int .i64 (s.read n.data.toList).2]) ∧ w'.ownsRow w.heap.size 5 1 v (s.read n.data.toList).1.length (bcells (s.read n.data.toList).1) ∧ Below w.heap.size w w' := by
  obtain ⟨pb, mb, E, rfl, hc, hr, rfl, hnd⟩ := h
  have HC := Lib.hid hc
  by_cases h0 : s.fnd n.data.toList true = 0
  · have HX := Lib.hid (show s.read n.data.toList = ((fileA n.data.toList s.fs).data, 0) from by unfold DS.read; rw [if_pos h0])
    have HF := Lib.hid (find_ok hc n hn true h0)
    obtain ⟨a', c', he, u1, u2, u3⟩ := hc.shapeAt n.data.toList
    rw [he] at HF
    have HW := Lib.hid (show Rd w (.slice a' (fileA n.data.toList s.fs).data.length c') (fileA n.data.toList s.fs).data from by have := row_at hr n.data.toList; rw [← hc.fs, he] at this; exact FRow.rd (v := noV) this)
    have HB := Lib.hid (show (fileA n.data.toList s.fs).data.length ≤ 140737488355328 from by have := fileA_tot n.data.toList hc.ok.ris; have := hc.ok.tot; omega)
    rw [HX.out]
    clear hc hr hnd hn h0 he u1 u2 u3
    go_enter Try.func17, Try.ntmps17
    go_wp2_with fail
    refine HF.out.mono ?_
    rintro e w1 ⟨rfl, hb1⟩
    have HB1 := Lib.hid hb1
    clear hb1
    go_wp2_with fail
    refine (clone_c _ _ (fileA n.data.toList s.fs).data ((HW.out.below HB1.out).alloc _) HB.out).mono ?_
    rintro e w2 ⟨v2, rfl, ho, hb⟩
    have HO := Lib.hid ho
    have HB2 := Lib.hid hb
    clear ho hb
    go_wp2_with fail
    go_ret2
    exact ⟨_, rfl, own_mono HO.out (by have := HB1.out.size; simp; omega), (HB1.out.alloc HB1.out.size _).trans (HB2.out.mono (by have := HB1.out.size; simp; omega))⟩
  · have HX := Lib.hid (show s.read n.data.toList = ([], s.fnd n.data.toList true) from by unfold DS.read; rw [if_neg h0])
    have HF := Lib.hid (find_no hc n hn true h0)
    rw [HX.out]
    generalize s.fnd n.data.toList true = r at *
    clear hc hr hnd hn h0
    unfold noV at HF
    go_enter Try.func17, Try.ntmps17
    go_wp2_with fail
    refine HF.out.mono ?_
    rintro e w1 ⟨rfl, hb1⟩
    have HB1 := Lib.hid hb1
    clear hb1
    go_wp2_with fail
    refine (clone_c _ _ [] (Rd.nil _) (by simp)).mono ?_
    rintro e w2 ⟨v2, rfl, ho, hb⟩
    have HO := Lib.hid ho
    have HB2 := Lib.hid hb
    clear ho hb
    go_wp2_with fail
    go_ret2
    exact ⟨_, rfl, own_mono HO.out (by have := HB1.out.size; simp; omega), (HB1.out.alloc HB1.out.size _).trans (HB2.out.mono (by have := HB1.out.size; simp; omega))⟩
end
end Go.Proofs.Ytfljpnfjndjhpaa
