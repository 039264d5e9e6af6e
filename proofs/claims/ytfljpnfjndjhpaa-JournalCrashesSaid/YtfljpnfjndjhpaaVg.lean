/- vdisk: put, drop. -/
import Derived.Test.YtfljpnfjndjhpaaVe
import Derived.IntWalk
namespace Go.Proofs.Ytfljpnfjndjhpaa
open Go.RowKit
set_option linter.unusedVariables false
section
variable {w : World} {pb mb : Nat} {s : DS} {E : Ents}

set_option maxRecDepth 100000 in
theorem put_c (h : Core w pb mb s E) (n : ByteArray) (hn : n.size ≤ 9223372036854775807) (v : Value) (f : Fl) (hv : Shape v f) (ho : ({ s with fs := putA n.data.toList f s.fs } : DS).Ok) (hl : s.fs.length ≤ 1000000000) :
    Calls Try.prog 31 #[.pointer (some ⟨pb, 0, none⟩), .string n, v] w fun e w' => e = .returned (.tuple #[]) ∧ Core w' pb mb { s with fs := putA n.data.toList f s.fs } (putA n.data.toList (v, f) E) ∧ Chg [pb, mb] w w' := by
  have HC := Lib.hid h
  have HO := Lib.hid ho
  have HN := Lib.hid hn
  have HL := Lib.hid hl
  have HV := Lib.hid hv
  obtain ⟨c0, c1, c2, c3, c4, cf⟩ := cells5 h.blk
  have cf1 := cf 1
  obtain ⟨a, c, rfl, v1, v2, v3⟩ := hv
  obtain ⟨a', c', he, u1, u2, u3⟩ := h.shapeAt n.data.toList
  have HE := Lib.hid he
  have hlk : ∀ w', w'.heap[mb]? = w.heap[mb]? → (Instr.lookup 43 (.map (some mb)) (.string n) false).run Try.prog w' = .ok (.agg #[.slice a' (fileA n.data.toList s.fs).data.length c', .int .i64 (fileA n.data.toList s.fs).sy]) w' := fun w' hw' => by
    rw [← he]
    exact (h.map.keep hw').look Try.underlying43 (zeroFile w') n (by unfold maxLen; omega)
  have HLK := Lib.hid hlk
  have t1 := h.ok.tot
  have t2 := ho.tot
  have t3 := total_put n.data.toList f s.fs h.ok.ris
  rw [fileA_len] at t3
  simp only at t2
  have HT := Lib.hid (show (total s.fs : Int) + ((f.data.length : Int) - ((fileA n.data.toList s.fs).data.length : Int)) = total (putA n.data.toList f s.fs) from by omega)
  have b1 : f.data.length ≤ 4194304 := Nat.le_trans (total_mem (mem_putA.2 (.inl rfl))) t2
  have b2 : (fileA n.data.toList s.fs).data.length ≤ 4194304 := Nat.le_trans (fileA_tot _ h.ok.ris) t1
  generalize total s.fs = T0 at *
  generalize (fileA n.data.toList s.fs).data.length = L0 at *
  generalize f.data.length = L1 at *
  have hlp := h.ltp
  have hlm := h.map.lt
  clear h ho hl he hlk cf c0 c3 c4 t2 t3 u1 u2 u3 v1 v2 v3
  have hfd := fieldFile
  go_enter Try.func31, Try.ntmps31
  go_wp2_with fail
  have hl1 := HLK.out (w.alloc (.cells #[.slice a L1 c, .int .i64 f.sy] 60)).drew (Below.heap_alloc _ _ _ hlm)
  have x1 : IntKind.i64.wrap ((L1 : Int) - (L0 : Int)) = (L1 : Int) - (L0 : Int) := IntWalk.i64_in _ (by omega)
  have x2 : IntKind.i64.wrap ((T0 : Int) + ((L1 : Int) - (L0 : Int))) = (T0 : Int) + ((L1 : Int) - (L0 : Int)) := IntWalk.i64_in _ (by omega)
  refine wp_region_still_tail 19 (by kernel_rfl) (by kernel_rfl) ?_
  change wpStill _ _ (World.drew _) (fun a' => wpList _ _ _ _ a' (World.drew _)) _ _
  simp only [List.take_succ_cons, List.take_zero, List.drop_succ_cons, List.drop_zero]
  repeat still_step
  refine wpStill_nil ?_
  clear hl1
  go_wp2_with fail
  clear x1 x2
  rw [HT.out]
  refine wp_region_still_tail 6 (by kernel_rfl) (by kernel_rfl) ?_
  change wpStill _ _ (World.drew _) (fun a' => wpList _ _ _ _ a' (World.drew _)) _ _
  simp only [List.take_succ_cons, List.take_zero, List.drop_succ_cons, List.drop_zero]
  repeat still_step
  refine wpStill_nil ?_
  have hkm : ((w.setCell ⟨pb, 1, none⟩ (.int .i64 (total (putA n.data.toList f s.fs)))).alloc (.cells #[.slice a L1 c, .int .i64 f.sy] 60)).drew.drew.heap[mb]? = w.heap[mb]? :=
    (Below.heap_alloc _ _ _ (by rw [World.size_setCell]; exact hlm)).trans (Below.heap_setCell _ _ _ _ HC.out.ne.symm)
  refine wpList_put rfl _ _ _ 43 _ rfl Try.underlying43 mb (vals E) rfl (HC.out.map.keep hkm) (by have := HL.out; have e := HC.out.fs; rw [e] at this; simp only [fils, vals, mapA_length] at this ⊢; unfold maxLen; omega) n (by have := HN.out; unfold maxLen; omega) _ rfl rfl ?_
  intro w2 hm2 hg2
  have HM := Lib.hid hm2
  have HG := Lib.hid hg2
  clear hm2 hg2 hkm
  go_wp2
  go_end0
  have hpb : w2.heap[pb]? = _ := HG.out.block pb (by simp; omega) (by simpa using HC.out.ne)
  refine ⟨rfl, ⟨?_, ?_, ?_, ?_, HO.out⟩, ?_⟩
  · rw [hpb]
    refine (Below.heap_alloc _ _ _ (by rw [World.size_setCell]; exact hlp)).trans ?_
    rw [heap_mod HC.out.blk]
    rfl
  · have := HM.out
    unfold vals at this ⊢
    rw [mapA_putA]
    exact this
  · simp only [fils]
    rw [mapA_putA, HC.out.fs]
    rfl
  · intro p hp
    rcases mem_putA.1 hp with rfl | ⟨hp, _⟩
    · exact HV.out
    · exact HC.out.shape p hp
  · exact ((((Chg.refl _ w).set' pb 1 _ (.inl (by simp))).alloc' _).drew'.drew').trans (HG.out.mono (by simp))

set_option maxRecDepth 100000 in
theorem drop_c (h : Core w pb mb s E) (n : ByteArray) (hn : n.size ≤ 9223372036854775807) (ho : ({ s with fs := delA n.data.toList s.fs } : DS).Ok) :
    Calls Try.prog 42 #[.pointer (some ⟨pb, 0, none⟩), .string n] w fun e w' => e = .returned (.tuple #[]) ∧ Core w' pb mb { s with fs := delA n.data.toList s.fs } (delA n.data.toList E) ∧ Chg [pb, mb] w w' := by
  have HC := Lib.hid h
  have HO := Lib.hid ho
  have HN := Lib.hid hn
  obtain ⟨c0, c1, c2, c3, c4, cf⟩ := cells5 h.blk
  have cf1 := cf 1
  obtain ⟨a', c', he, u1, u2, u3⟩ := h.shapeAt n.data.toList
  have hlk : ∀ w', w'.heap[mb]? = w.heap[mb]? → (Instr.lookup 43 (.map (some mb)) (.string n) false).run Try.prog w' = .ok (.agg #[.slice a' (fileA n.data.toList s.fs).data.length c', .int .i64 (fileA n.data.toList s.fs).sy]) w' := fun w' hw' => by
    rw [← he]
    exact (h.map.keep hw').look Try.underlying43 (zeroFile w') n (by unfold maxLen; omega)
  have t1 := h.ok.tot
  have t3 := total_del n.data.toList s.fs h.ok.ris
  rw [fileA_len] at t3
  have HT := Lib.hid (show (total s.fs : Int) - ((fileA n.data.toList s.fs).data.length : Int) = total (delA n.data.toList s.fs) from by omega)
  have b2 : (fileA n.data.toList s.fs).data.length ≤ 4194304 := Nat.le_trans (fileA_tot _ h.ok.ris) t1
  have hl1 := hlk w.drew rfl
  generalize total s.fs = T0 at *
  generalize (fileA n.data.toList s.fs).data.length = L0 at *
  have hlp := h.ltp
  have hlm := h.map.lt
  have x1 : IntKind.i64.wrap ((T0 : Int) - (L0 : Int)) = (T0 : Int) - (L0 : Int) := IntWalk.i64_in _ (by omega)
  have hfd := fieldFile
  clear h ho he hlk cf c0 c3 c4 t3 u1 u2 u3
  go_enter Try.func42, Try.ntmps42
  go_wp2_with fail
  refine wp_region_still_tail 15 (by kernel_rfl) (by kernel_rfl) ?_
  change wpStill _ _ (World.drew _) (fun a' => wpList _ _ _ _ a' (World.drew _)) _ _
  simp only [List.take_succ_cons, List.take_zero, List.drop_succ_cons, List.drop_zero]
  repeat still_step
  refine wpStill_nil ?_
  clear hl1
  go_wp2_with (at_delete; rw [HT.out]; clear x1; refine wpList_drop rfl _ _ 43 _ rfl Try.underlying43 mb (vals E) rfl (HC.out.map.keep (Below.heap_setCell _ _ _ _ HC.out.ne.symm)) n (by have := HN.out; unfold maxLen; omega) rfl ?_; intro w2 hm2 hg2; have HM := Lib.hid hm2; have HG := Lib.hid hg2; clear hm2 hg2)
  go_end0
  have hpb : w2.heap[pb]? = _ := HG.out.block pb (by simp; omega) (by simpa using HC.out.ne)
  refine ⟨rfl, ⟨?_, ?_, ?_, ?_, HO.out⟩, ?_⟩
  · rw [hpb]
    exact (heap_mod HC.out.blk).trans rfl
  · have := HM.out
    unfold vals at this ⊢
    rw [mapA_delA]
    exact this
  · simp only [fils]
    rw [mapA_delA, HC.out.fs]
    rfl
  · intro p hp
    exact HC.out.shape p (mem_delA.1 hp).1
  · exact (((Chg.refl _ w).set' pb 1 _ (.inl (by simp))).drew').trans (HG.out.mono (by simp))

/-- A file cut, as a value. -/
def cutV (a : Option Addr) (c : Nat) (f : Fl) (m : Nat) : Value := .agg #[.slice a m c, .int .i64 (min m f.sy : Nat)]

theorem cutV_shape {a : Option Addr} {c : Nat} {f : Fl} {m : Nat} (h : Shape (.agg #[.slice a f.data.length c, .int .i64 f.sy]) f) (hm : m ≤ f.data.length) : Shape (cutV a c f m) (f.cut m) := by
  obtain ⟨a', c', he, h1, h2, h3⟩ := h
  simp only [Value.agg.injEq, Array.mk.injEq, List.cons.injEq, Value.slice.injEq, and_true, true_and] at he
  obtain ⟨rfl, rfl⟩ := he
  refine ⟨a, c, ?_, ?_, h2, h3⟩
  · simp only [cutV, Fl.cut, List.length_take, Nat.min_eq_left hm]
  · simp only [Fl.cut, List.length_take]; omega
theorem cutV_row {w : World} {a : Option Addr} {c : Nat} {f : Fl} {m : Nat} (h : FRow w (.agg #[.slice a f.data.length c, .int .i64 f.sy]) f) (hm : m ≤ f.data.length) : FRow w (cutV a c f m) (f.cut m) := by
  obtain ⟨sl, he, h1⟩ := h
  simp only [Value.agg.injEq, Array.mk.injEq, List.cons.injEq, and_true] at he
  subst he
  have := ownsRow_take h1 m hm
  rw [bcells_take] at this
  have e : (f.cut m).data.length = m := by simp only [Fl.cut, List.length_take]; omega
  exact ⟨.slice a m c, by simp only [cutV, Fl.cut], by rw [e]; exact this⟩
theorem cutV_blk (a : Option Addr) (c : Nat) (f : Fl) (m : Nat) : fblk (cutV a c f m) = fblk (.agg #[.slice a f.data.length c, .int .i64 f.sy]) := by
  simp only [cutV, fblk_mk]
  cases a <;> rfl

set_option maxRecDepth 100000 in
theorem cut_c (w : World) (a : Option Addr) (c : Nat) (f : Fl) (k : Int) (hk : 0 ≤ k) (h1 : f.data.length ≤ 4194304) (h2 : f.sy ≤ f.data.length) (h3 : f.data.length ≤ c) (h4 : c ≤ maxLen) :
    Calls Try.prog 30 #[.agg #[.slice a f.data.length c, .int .i64 f.sy], .int .i64 k] w fun e w' => e = .returned (cutV a c f (min k.toNat f.data.length)) ∧ Below w.heap.size w w' := by
  obtain ⟨m, rfl⟩ := Int.eq_ofNat_of_zero_le hk
  rw [Int.toNat_natCast]
  unfold cutV
  generalize f.data.length = L at *
  generalize f.sy = y at *
  unfold maxLen at h4
  clear hk
  by_cases hm : L < m
  · have HM := Lib.hid (show min m L = L from by omega)
    have HY := Lib.hid (show min L y = y from by omega)
    by_cases hy : L = y
    · subst hy
      go_enter Try.func30, Try.ntmps30
      go_wp2_with fail
      refine wp_region_still_tail 9 (by kernel_rfl) (by kernel_rfl) ?_
      change wpStill _ _ (World.drew _) (fun a' => wpList _ _ _ _ a' (World.drew _)) _ _
      simp only [List.take_succ_cons, List.take_zero, List.drop_succ_cons, List.drop_zero]
      repeat still_step
      refine wpStill_nil ?_
      go_wp2_with fail
      exact bodyPost_ret (v := .agg #[.slice a L c, .int .i64 L]) (by simp [results, Try.results30, go_sem]) rfl ⟨by first | rfl | (rw [HM.out, HY.out]), (((Below.refl _ _).alloc (Nat.le_refl _) _).alloc (by simp) _).drew⟩
    · have hy' : y < L := by omega
      clear hy
      go_enter Try.func30, Try.ntmps30
      go_wp2_with fail
      refine wp_region_still_tail 9 (by kernel_rfl) (by kernel_rfl) ?_
      change wpStill _ _ (World.drew _) (fun a' => wpList _ _ _ _ a' (World.drew _)) _ _
      simp only [List.take_succ_cons, List.take_zero, List.drop_succ_cons, List.drop_zero]
      repeat still_step
      refine wpStill_nil ?_
      go_wp2_with fail
      exact bodyPost_ret (v := .agg #[.slice a L c, .int .i64 y]) (by simp [results, Try.results30, go_sem]) rfl ⟨by first | rfl | (rw [HM.out, HY.out]), (((Below.refl _ _).alloc (Nat.le_refl _) _).alloc (by simp) _).drew⟩
  · have HM := Lib.hid (show min m L = m from by omega)
    have hm' : m ≤ L := by omega
    have hmc : m ≤ c := by omega
    clear hm
    by_cases hy : m ≤ y
    · have HY := Lib.hid (show min m y = m from by omega)
      go_enter Try.func30, Try.ntmps30
      go_wp2_with fail
      refine wp_region_still_tail 9 (by kernel_rfl) (by kernel_rfl) ?_
      change wpStill _ _ (World.drew _) (fun a' => wpList _ _ _ _ a' (World.drew _)) _ _
      simp only [List.take_succ_cons, List.take_zero, List.drop_succ_cons, List.drop_zero]
      repeat still_step
      refine wpStill_nil ?_
      go_wp2_with fail
      exact bodyPost_ret (v := .agg #[.slice a m c, .int .i64 m]) (by simp [results, Try.results30, go_sem]) rfl ⟨by first | rfl | (rw [HM.out, HY.out]), (((Below.refl _ _).alloc (Nat.le_refl _) _).alloc (by simp) _).drew⟩
    · have HY := Lib.hid (show min m y = y from by omega)
      have hy' : y < m := by omega
      clear hy
      go_enter Try.func30, Try.ntmps30
      go_wp2_with fail
      refine wp_region_still_tail 9 (by kernel_rfl) (by kernel_rfl) ?_
      change wpStill _ _ (World.drew _) (fun a' => wpList _ _ _ _ a' (World.drew _)) _ _
      simp only [List.take_succ_cons, List.take_zero, List.drop_succ_cons, List.drop_zero]
      repeat still_step
      refine wpStill_nil ?_
      go_wp2_with fail
      exact bodyPost_ret (v := .agg #[.slice a m c, .int .i64 y]) (by simp [results, Try.results30, go_sem]) rfl ⟨by first | rfl | (rw [HM.out, HY.out]), (((Below.refl _ _).alloc (Nat.le_refl _) _).alloc (by simp) _).drew⟩

end
end Go.Proofs.Ytfljpnfjndjhpaa
