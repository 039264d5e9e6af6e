/- vdisk: Sync, Truncate, Remove, Rename. -/
import Derived.Test.YtfljpnfjndjhpaaVi
namespace Go.Proofs.Ytfljpnfjndjhpaa
open Go.RowKit
set_option linter.unusedVariables false

theorem burn_with (s : DS) (l : Fs) : ({ s.burn with fs := l } : DS) = { s.burn with fs := l } := rfl
theorem change_ok {s : DS} {n : List UInt8} {v : Bool} {g : Fl → Fs} (h : s.beg n v = 0) : s.change n v g = (0, { s.burn with fs := g (fileA n s.fs) }) := by unfold DS.change; rw [if_pos h]
theorem change_no {s : DS} {n : List UInt8} {v : Bool} {g : Fl → Fs} (h : s.beg n v ≠ 0) : s.change n v g = (s.beg n v, s.aft n v) := by unfold DS.change; rw [if_neg h]
theorem sync_shape {a : Option Addr} {c : Nat} {f : Fl} (h : Shape (.agg #[.slice a f.data.length c, .int .i64 f.sy]) f) : Shape (.agg #[.slice a f.data.length c, .int .i64 (f.data.length : Nat)]) ⟨f.data, f.data.length⟩ := by
  obtain ⟨a', c', he, h1, h2, h3⟩ := h
  simp only [Value.agg.injEq, Array.mk.injEq, List.cons.injEq, Value.slice.injEq, and_true, true_and] at he
  obtain ⟨rfl, rfl⟩ := he
  exact ⟨a, c, rfl, h1, h2, h3⟩
theorem sync_row {w : World} {a : Option Addr} {c : Nat} {f : Fl} (h : FRow w (.agg #[.slice a f.data.length c, .int .i64 f.sy]) f) : FRow w (.agg #[.slice a f.data.length c, .int .i64 (f.data.length : Nat)]) ⟨f.data, f.data.length⟩ := by
  obtain ⟨sl, he, h1⟩ := h
  simp only [Value.agg.injEq, Array.mk.injEq, List.cons.injEq, and_true] at he
  subst he
  exact ⟨_, rfl, h1⟩

section
variable {w : World} {p : Option Addr} {s : DS} {foot : List Nat}

/-- What the four calls share behind begin and their work on the map. -/
theorem after_put {w w3 : World} {pb mb : Nat} {s s3 : DS} {E : Ents} (hc : Core w pb mb s E) (hr : ∀ p ∈ E, FRow w p.2.1 p.2.2) (hn : (pb :: mb :: blocks E).Nodup) {n : List UInt8} {v : Value} {f : Fl}
    (hg : Chg [pb, mb] w w3) (hc3 : Core w3 pb mb s3 (putA n (v, f) E)) (hrow : FRow w v f) (hfr : fblk v = fblk (valA n E)) :
    After w (some ⟨pb, 0, none⟩) s3 (pb :: mb :: blocks E) w3 := by
  have hlt := foot_lt hc hr
  have hn' := hn
  simp only [List.nodup_cons, List.mem_cons, not_or] at hn'
  have hb : ∀ g, fblk v = some g → g ∈ blocks E := fun g hg => (blk_out hc.ris hn'.2.2 (by rw [← hfr]; exact hg)).2
  obtain ⟨foot', hd, hf⟩ := disk_put hc.ris hr hn hlt hc3 (hrow.keep fun g hgb => hg.block g (hlt g (by simp [hb g hgb])) (by
      simp only [List.mem_cons, List.not_mem_nil, or_false, not_or]
      have := hb g hgb
      exact ⟨by rintro rfl; exact hn'.1.2 this, by rintro rfl; exact hn'.2.1 this⟩))
    (fun g hgb => .inl (by rw [← hfr]; exact hgb)) (fun g h1 h2 h3 _ => hg.block g h1 (by simp [h2, h3]))
  exact ⟨foot', hd, hf, hg.mono fun i hi => List.mem_append_left (blocks E) hi⟩

set_option maxRecDepth 100000 in
theorem sync_c (h : Disk w p s foot) (n : ByteArray) (hn : n.size ≤ 9223372036854775807) (hl : s.fs.length ≤ 1000000000) :
    Calls Try.prog 23 #[.pointer p, .string n] w fun e w' => e = .returned (.int .i64 (s.sync n.data.toList).1) ∧ After w p (s.sync n.data.toList).2 foot w' := by
  obtain ⟨pb, mb, E, rfl, hc, hr, rfl, hnd⟩ := h
  have HC := Lib.hid hc
  have HR := Lib.hid hr
  have HND := Lib.hid hnd
  have HN := Lib.hid hn
  have HL := Lib.hid hl
  unfold DS.sync
  by_cases h0 : s.beg n.data.toList true = 0
  · have H0 := Lib.hid h0
    have HX := Lib.hid (change_ok (g := fun f => putA n.data.toList ⟨f.data, f.data.length⟩ s.fs) h0)
    have HO := Lib.hid (hc.ok.sync n.data.toList)
    obtain ⟨a', c', he, u1, u2, u3⟩ := hc.shapeAt n.data.toList
    have HE := Lib.hid he
    have HS := Lib.hid (sync_shape (by have := hc.shapeAt n.data.toList; rwa [he] at this))
    have HW := Lib.hid (sync_row (w := w) (by have := row_at hr n.data.toList; rw [← hc.fs] at this; rwa [he] at this))
    rw [HX.out]
    clear hc hr hnd hn hl h0 he u1 u2 u3
    go_enter Try.func23, Try.ntmps23
    go_wp2_with fail
    refine (beg_ok HC.out n HN.out true H0.out).mono ?_
    rintro e w1 ⟨rfl, hc1, hg1⟩
    rw [HE.out]
    have HC1 := Lib.hid hc1
    have HG1 := Lib.hid hg1
    clear hc1 hg1
    go_wp2_with fail
    refine (put_c (HC1.out.alloc _) n HN.out _ ⟨(fileA n.data.toList s.fs).data, (fileA n.data.toList s.fs).data.length⟩ HS.out (by have := HO.out; unfold DS.sync at this; rw [HX.out] at this; rw [DS.burn_fs]; exact this) (by rw [DS.burn_fs]; exact HL.out)).mono ?_
    rintro e w2 ⟨rfl, hc2, hg2⟩
    have HC2 := Lib.hid hc2
    have HG2 := Lib.hid hg2
    clear hc2 hg2
    go_wp2_with fail
    go_ret
    refine ⟨rfl, ?_⟩
    have h2 := HC2.out
    rw [DS.burn_fs] at h2
    exact after_put HC.out HR.out HND.out (((HG1.out.mono (by simp)).alloc' _).trans HG2.out) h2 HW.out (by rw [HE.out]; rfl)
  · have HX := Lib.hid (change_no (g := fun f => putA n.data.toList ⟨f.data, f.data.length⟩ s.fs) h0)
    have HB := Lib.hid (beg_no hc n hn true h0)
    have t : (s.beg n.data.toList true != 0) = true := by simpa using h0
    rw [HX.out]
    generalize s.beg n.data.toList true = r at *
    clear hc hr hnd hn hl h0
    go_enter Try.func23, Try.ntmps23
    go_wp2_with fail
    refine HB.out.mono ?_
    rintro e w1 ⟨rfl, hc1, hg1⟩
    have HC1 := Lib.hid hc1
    have HG1 := Lib.hid hg1
    clear hc1 hg1
    unfold noV
    go_wp2_with fail
    go_ret
    exact ⟨rfl, after_core HR.out HND.out (HC1.out.alloc _) (HG1.out.alloc' _)⟩

set_option maxRecDepth 100000 in
theorem trunc_c (h : Disk w p s foot) (n : ByteArray) (hn : n.size ≤ 9223372036854775807) (hl : s.fs.length ≤ 1000000000) (k : Int) :
    Calls Try.prog 36 #[.pointer p, .string n, .int .i64 k] w fun e w' => e = .returned (.int .i64 (s.trunc n.data.toList k).1) ∧ After w p (s.trunc n.data.toList k).2 foot w' := by
  obtain ⟨pb, mb, E, rfl, hc, hr, rfl, hnd⟩ := h
  have HC := Lib.hid hc
  have HR := Lib.hid hr
  have HND := Lib.hid hnd
  have HN := Lib.hid hn
  have HL := Lib.hid hl
  unfold DS.trunc
  by_cases h0 : s.beg n.data.toList (decide (0 ≤ k)) = 0
  · have H0 := Lib.hid h0
    have HX := Lib.hid (change_ok (g := fun f => putA n.data.toList (f.cut (min k.toNat f.data.length)) s.fs) h0)
    have hk : 0 ≤ k := by simpa using (DS.rdy_ok (DS.fnd_ok (DS.beg_ok h0).1).1).1
    have H1 := Lib.hid (show s.beg n.data.toList true = 0 from by have := h0; rwa [show decide (0 ≤ k) = true from by simpa using hk] at this)
    have HO := Lib.hid (hc.ok.trunc n.data.toList k)
    obtain ⟨a', c', he, u1, u2, u3⟩ := hc.shapeAt n.data.toList
    have HE := Lib.hid he
    have HS := Lib.hid (cutV_shape (m := min k.toNat (fileA n.data.toList s.fs).data.length) (by have := hc.shapeAt n.data.toList; rwa [he] at this) (Nat.min_le_right _ _))
    have HW := Lib.hid (cutV_row (w := w) (m := min k.toNat (fileA n.data.toList s.fs).data.length) (by have := row_at hr n.data.toList; rw [← hc.fs] at this; rwa [he] at this) (Nat.min_le_right _ _))
    have HU := Lib.hid (fun w' => cut_c w' a' c' (fileA n.data.toList s.fs) k hk (Nat.le_trans (fileA_tot _ hc.ok.ris) hc.ok.tot) (fileA_sy hc.ok.sy) u1 u2)
    rw [HX.out]
    clear hc hr hnd hn hl h0 he u1 u2 u3
    go_enter Try.func36, Try.ntmps36
    go_wp2_with fail
    refine (beg_ok HC.out n HN.out true H1.out).mono ?_
    rintro e w1 ⟨rfl, hc1, hg1⟩
    rw [HE.out]
    have HC1 := Lib.hid hc1
    have HG1 := Lib.hid hg1
    clear hc1 hg1
    go_wp2_with fail
    refine (HU.out _).mono ?_
    rintro e w1b ⟨rfl, hb1⟩
    have HB1 := Lib.hid hb1
    clear hb1
    go_wp2_with fail
    refine (put_c ((HC1.out.alloc _).below HB1.out) n HN.out _ ((fileA n.data.toList s.fs).cut (min k.toNat (fileA n.data.toList s.fs).data.length)) HS.out (by have := HO.out; unfold DS.trunc at this; rw [HX.out] at this; rw [DS.burn_fs]; exact this) (by rw [DS.burn_fs]; exact HL.out)).mono ?_
    rintro e w2 ⟨rfl, hc2, hg2⟩
    have HC2 := Lib.hid hc2
    have HG2 := Lib.hid hg2
    clear hc2 hg2
    go_wp2_with fail
    go_ret
    refine ⟨rfl, ?_⟩
    have h2 := HC2.out
    rw [DS.burn_fs] at h2
    exact after_put HC.out HR.out HND.out ((((HG1.out.mono (by simp)).alloc' _).trans (Chg.of_below HB1.out)).trans HG2.out) h2 HW.out (by rw [HE.out, cutV_blk])
  · have HX := Lib.hid (change_no (g := fun f => putA n.data.toList (f.cut (min k.toNat f.data.length)) s.fs) h0)
    have HB := Lib.hid (beg_no hc n hn (decide (0 ≤ k)) h0)
    have t : (s.beg n.data.toList (decide (0 ≤ k)) != 0) = true := by simpa using h0
    rw [HX.out]
    generalize s.beg n.data.toList (decide (0 ≤ k)) = r at *
    clear hc hr hnd hn hl h0
    go_enter Try.func36, Try.ntmps36
    go_wp2_with fail
    refine HB.out.mono ?_
    rintro e w1 ⟨rfl, hc1, hg1⟩
    have HC1 := Lib.hid hc1
    have HG1 := Lib.hid hg1
    clear hc1 hg1
    unfold noV
    go_wp2_with fail
    go_ret
    exact ⟨rfl, after_core HR.out HND.out (HC1.out.alloc _) (HG1.out.alloc' _)⟩

set_option maxRecDepth 100000 in
theorem remove_c (h : Disk w p s foot) (n : ByteArray) (hn : n.size ≤ 9223372036854775807) :
    Calls Try.prog 33 #[.pointer p, .string n] w fun e w' => e = .returned (.int .i64 (s.remove n.data.toList).1) ∧ After w p (s.remove n.data.toList).2 foot w' := by
  obtain ⟨pb, mb, E, rfl, hc, hr, rfl, hnd⟩ := h
  have HC := Lib.hid hc
  have HR := Lib.hid hr
  have HND := Lib.hid hnd
  have HN := Lib.hid hn
  unfold DS.remove
  by_cases h0 : s.beg n.data.toList true = 0
  · have H0 := Lib.hid h0
    have HX := Lib.hid (change_ok (g := fun _ => delA n.data.toList s.fs) h0)
    have HO := Lib.hid (hc.ok.remove n.data.toList)
    obtain ⟨a', c', he, u1, u2, u3⟩ := hc.shapeAt n.data.toList
    have HE := Lib.hid he
    rw [HX.out]
    clear hc hr hnd hn h0 he u1 u2 u3
    go_enter Try.func33, Try.ntmps33
    go_wp2_with fail
    refine (beg_ok HC.out n HN.out true H0.out).mono ?_
    rintro e w1 ⟨rfl, hc1, hg1⟩
    rw [HE.out]
    have HC1 := Lib.hid hc1
    have HG1 := Lib.hid hg1
    clear hc1 hg1
    go_wp2_with fail
    go_fit (drop_c (HC1.out.alloc _) n HN.out (by have := HO.out; unfold DS.remove at this; rw [HX.out] at this; rw [DS.burn_fs]; exact this))
    rintro e w2 ⟨rfl, hc2, hg2⟩
    have HC2 := Lib.hid hc2
    have HG2 := Lib.hid hg2
    clear hc2 hg2
    go_wp2_with fail
    go_ret
    refine ⟨rfl, ?_⟩
    have h2 := HC2.out
    rw [DS.burn_fs] at h2
    have hg := (((HG1.out.mono (by simp)).alloc' _).trans HG2.out)
    obtain ⟨foot', hd, hf⟩ := disk_drop HR.out HND.out h2 (fun g h1 h2 h3 => hg.block g h1 (by simp [h2, h3]))
    exact ⟨foot', hd, fun i hi => .inl (hf i hi), hg.mono fun i hi => List.mem_append_left (blocks E) hi⟩
  · have HX := Lib.hid (change_no (g := fun _ => delA n.data.toList s.fs) h0)
    have HB := Lib.hid (beg_no hc n hn true h0)
    have t : (s.beg n.data.toList true != 0) = true := by simpa using h0
    rw [HX.out]
    generalize s.beg n.data.toList true = r at *
    clear hc hr hnd hn h0
    go_enter Try.func33, Try.ntmps33
    go_wp2_with fail
    refine HB.out.mono ?_
    rintro e w1 ⟨rfl, hc1, hg1⟩
    have HC1 := Lib.hid hc1
    have HG1 := Lib.hid hg1
    clear hc1 hg1
    unfold noV
    go_wp2_with fail
    go_ret
    exact ⟨rfl, after_core HR.out HND.out (HC1.out.alloc _) (HG1.out.alloc' _)⟩

set_option maxRecDepth 100000 in
theorem rename_c (h : Disk w p s foot) (n m : ByteArray) (hn : n.size ≤ 9223372036854775807) (hm : m.size ≤ 9223372036854775807) (hl : s.fs.length ≤ 1000000000) :
    Calls Try.prog 28 #[.pointer p, .string n, .string m] w fun e w' => e = .returned (.int .i64 (s.rename n.data.toList m.data.toList).1) ∧ After w p (s.rename n.data.toList m.data.toList).2 foot w' := by
  obtain ⟨pb, mb, E, rfl, hc, hr, rfl, hnd⟩ := h
  have HC := Lib.hid hc
  have HR := Lib.hid hr
  have HND := Lib.hid hnd
  have HN := Lib.hid hn
  have HM := Lib.hid hm
  have HL := Lib.hid hl
  unfold DS.rename
  by_cases h0 : s.beg n.data.toList (namok m.data.toList) = 0
  · have H0 := Lib.hid h0
    have HX := Lib.hid (change_ok (g := fun f => putA m.data.toList f (delA n.data.toList s.fs)) h0)
    have HO := Lib.hid (hc.ok.rename n.data.toList m.data.toList)
    have HOR := Lib.hid (show ({ s.burn with fs := delA n.data.toList s.burn.fs } : DS).Ok from by
      have := hc.ok.remove n.data.toList
      unfold DS.remove at this
      have hb : s.beg n.data.toList true = 0 := by rwa [(DS.rdy_ok (DS.fnd_ok (DS.beg_ok h0).1).1).1] at h0
      rw [change_ok hb] at this
      rw [DS.burn_fs]
      exact this)
    obtain ⟨a', c', he, u1, u2, u3⟩ := hc.shapeAt n.data.toList
    have HE := Lib.hid he
    have HS := Lib.hid (show Shape (.agg #[.slice a' (fileA n.data.toList s.fs).data.length c', .int .i64 (fileA n.data.toList s.fs).sy]) (fileA n.data.toList s.fs) from by have := hc.shapeAt n.data.toList; rwa [he] at this)
    have HW := Lib.hid (show FRow w (.agg #[.slice a' (fileA n.data.toList s.fs).data.length c', .int .i64 (fileA n.data.toList s.fs).sy]) (fileA n.data.toList s.fs) from by have := row_at hr n.data.toList; rw [← hc.fs] at this; rwa [he] at this)
    have HLD := Lib.hid (show (delA n.data.toList s.fs).length ≤ 1000000000 from Nat.le_trans (length_delA _ _) hl)
    rw [HX.out]
    clear hc hr hnd hn hm hl h0 he u1 u2 u3
    go_enter Try.func28, Try.ntmps28
    go_wp2_with fail
    refine (nameable_c _ m HM.out).mono ?_
    rintro e w' ⟨rfl, rfl⟩
    go_wp2_with fail
    refine (beg_ok HC.out n HN.out _ H0.out).mono ?_
    rintro e w1 ⟨rfl, hc1, hg1⟩
    rw [HE.out]
    have HC1 := Lib.hid hc1
    have HG1 := Lib.hid hg1
    have hz1 : w.heap.size ≤ w1.heap.size := hg1.size
    clear hc1 hg1
    go_wp2_with fail
    refine (drop_c (HC1.out.alloc _) n HN.out HOR.out).mono ?_
    rintro e w2 ⟨rfl, hc2, hg2⟩
    have HC2 := Lib.hid hc2
    have HG2 := Lib.hid hg2
    have hne : w1.heap.size ∉ [pb, mb] := by have h1 := HC1.out.ltp; have h2 := HC1.out.map.lt; simp only [List.mem_cons, List.not_mem_nil, or_false, not_or]; omega
    obtain ⟨k0, k1, kf0, kf1⟩ := cells2 ((hg2.block w1.heap.size (by simp) hne).trans (heap_alloc_new w1 _))
    clear hc2 hg2 hne
    go_wp2_with fail
    refine (put_c HC2.out m HM.out _ (fileA n.data.toList s.fs) HS.out (by have := HO.out; unfold DS.rename at this; rw [HX.out] at this; simp only [DS.burn_fs]; exact this) (by simp only [DS.burn_fs]; exact HLD.out)).mono ?_
    rintro e w3 ⟨rfl, hc3, hg3⟩
    have HC3 := Lib.hid hc3
    have HG3 := Lib.hid hg3
    clear hc3 hg3
    go_wp2_with fail
    go_ret
    refine ⟨rfl, ?_⟩
    have h3 := HC3.out
    simp only [DS.burn_fs] at h3
    have hg := (((HG1.out.mono (T := [pb, mb]) (by simp)).alloc' _).trans HG2.out).trans HG3.out
    have hnd := HND.out
    simp only [List.nodup_cons, List.mem_cons, not_or] at hnd
    have hlt := foot_lt HC.out HR.out
    have hb : ∀ g, fblk (.agg #[.slice a' (fileA n.data.toList s.fs).data.length c', .int .i64 (fileA n.data.toList s.fs).sy]) = some g → g ∉ blocks (delA n.data.toList E) ∧ g ∈ blocks E := fun g hgb => by rw [← HE.out] at hgb; exact blk_out HC.out.ris hnd.2.2 hgb
    obtain ⟨foot', hd, hf⟩ := disk_put' (w := w) (fun p hp => HR.out p (mem_delA.1 hp).1) (by
        have hs := blocks_del n.data.toList E
        simp only [List.nodup_cons, List.mem_cons, not_or]
        exact ⟨⟨hnd.1.1, fun h => hnd.1.2 (hs.subset h)⟩, fun h => hnd.2.1 (hs.subset h), hs.nodup hnd.2.2⟩) h3
      (HW.out.keep fun g hgb => hg.block g (hlt g (by simp [(hb g hgb).2])) (by
        simp only [List.mem_cons, List.not_mem_nil, or_false, not_or]
        exact ⟨by rintro rfl; exact hnd.1.2 (hb _ hgb).2, by rintro rfl; exact hnd.2.1 (hb _ hgb).2⟩))
      (fun g hgb => ⟨by rintro rfl; exact hnd.1.2 (hb _ hgb).2, by rintro rfl; exact hnd.2.1 (hb _ hgb).2, fun hm => (hb g hgb).1 ((blocks_del _ _).subset hm)⟩)
      (fun g h1 h2 h3 _ => hg.block g h1 (by simp [h2, h3]))
    refine ⟨foot', hd, fun i hi => .inl ?_, hg.mono fun i hi => List.mem_append_left (blocks E) hi⟩
    rcases hf i hi with h | h
    · simp only [List.mem_cons] at h ⊢
      exact h.imp id (Or.imp id fun h => (blocks_del _ _).subset h)
    · simp [(hb i h).2]
  · have HX := Lib.hid (change_no (g := fun f => putA m.data.toList f (delA n.data.toList s.fs)) h0)
    have HB := Lib.hid (beg_no hc n hn (namok m.data.toList) h0)
    have t : (s.beg n.data.toList (namok m.data.toList) != 0) = true := by simpa using h0
    rw [HX.out]
    generalize s.beg n.data.toList (namok m.data.toList) = r at *
    clear hc hr hnd hn hl h0 hm
    go_enter Try.func28, Try.ntmps28
    go_wp2_with fail
    refine (nameable_c _ m HM.out).mono ?_
    rintro e w' ⟨rfl, rfl⟩
    go_wp2_with fail
    refine HB.out.mono ?_
    rintro e w1 ⟨rfl, hc1, hg1⟩
    have HC1 := Lib.hid hc1
    have HG1 := Lib.hid hg1
    clear hc1 hg1
    unfold noV
    go_wp2_with fail
    go_ret
    exact ⟨rfl, after_core HR.out HND.out (HC1.out.alloc _) (HG1.out.alloc' _)⟩
end
end Go.Proofs.Ytfljpnfjndjhpaa
