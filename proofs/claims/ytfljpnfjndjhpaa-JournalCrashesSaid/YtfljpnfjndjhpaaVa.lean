/- vdisk: Append. -/
import Derived.Test.YtfljpnfjndjhpaaVo
import Derived.Deep.QuietTactic
import Derived.BigQuiet
namespace Go.Proofs.Ytfljpnfjndjhpaa
open Go.RowKit
set_option linter.unusedVariables false

theorem infoU8 : (Try.prog.info? 5).map (fun i => (i.zero, i.size, i.bytes)) = some (some (.int .u8 0), 1, 1) := by kernel_rfl

theorem _root_.Go.Proofs.Ytfljpnfjndjhpaa.Rd.chg {w w' : World} {v : Value} {xs : List UInt8} {S : List Nat} (h : Rd w v xs) (hc : Chg S w w') (hs : 0 < xs.length → ∀ g, v.ownBlock = some g → g ∉ S) : Rd w' v xs := by
  obtain ⟨p, c, rfl, h1, h2, h3, h4⟩ := h
  refine ⟨p, c, rfl, h1, h2, h3, fun hp => ?_⟩
  obtain ⟨b, o, rfl, hx⟩ := h4 hp
  refine ⟨b, o, rfl, fun i hi => ?_⟩
  have := hx i hi
  rw [World.cell?_of_block (w := w) (hc.block b (World.block_lt_of_cell? w _ this) (hs hp b rfl))]
  exact this
theorem own_form {w : World} {B : Nat} {v : Value} {xs : List UInt8} (h : w.ownsRow B 5 1 v xs.length (bcells xs)) : ∃ a c, v = .slice a xs.length c ∧ xs.length ≤ c ∧ c ≤ maxLen ∧ (a = none → c = 0) := by
  rcases h.2 with ⟨rfl, h0⟩ | ⟨g, cap, cur, rfl, _, _, h1, h2, _⟩
  · exact ⟨none, 0, by rw [h0], by omega, by unfold maxLen; omega, fun _ => rfl⟩
  · exact ⟨_, cap, rfl, h1, h2, by simp⟩

theorem Core.drewN {w : World} {pb mb : Nat} {s : DS} {E : Ents} (h : Core w pb mb s E) (k : Nat) : Core (w.drewN k) pb mb s E := h.keep rfl rfl
theorem Chg.drewN {S : List Nat} {w w' : World} (h : Chg S w w') (k : Nat) : Chg S w (w'.drewN k) := ⟨h.os, h.tape, h.output, h.size, h.block⟩
theorem Chg.ofDrewN {S : List Nat} {w w' : World} {k : Nat} (h : Chg S (w.drewN k) w') : Chg S w w' := ⟨h.os, h.tape, h.output, h.size, h.block⟩

section
variable {w : World} {p : Option Addr} {s : DS} {foot : List Nat}

set_option maxRecDepth 100000 in
set_option maxHeartbeats 1000000 in
theorem append_c (h : Disk w p s foot) (n : ByteArray) (hn : n.size ≤ 9223372036854775807) (hl : s.fs.length ≤ 1000000000) (v : Value) (b : List UInt8) (hv : Rd w v b) (hap : 0 < b.length → ∀ g, v.ownBlock = some g → g ∉ foot) (hb : b.length ≤ 140737488355328) :
    Calls Try.prog 21 #[.pointer p, .string n, v] w fun e w' => e = .returned (.int .i64 (s.append n.data.toList b).1) ∧ After w p (s.append n.data.toList b).2 foot w' := by
  obtain ⟨pb, mb, E, rfl, hc, hr, rfl, hnd⟩ := h
  have HC := Lib.hid hc
  have HR := Lib.hid hr
  have HND := Lib.hid hnd
  have HN := Lib.hid hn
  have HL := Lib.hid hl
  have HV := Lib.hid hv
  have HAP := Lib.hid hap
  have HBL := Lib.hid hb
  clear hap
  obtain ⟨bp, bc, rfl, hbl, hbm, _⟩ := hv
  unfold maxLen at hbm
  by_cases h0 : s.rdy (namok n.data.toList) = 0
  · have H0 := Lib.hid h0
    have HY := Lib.hid (show Calls Try.prog 37 #[.pointer (some ⟨pb, 0, none⟩), .bool (namok n.data.toList)] w fun e w' => e = .returned (.int .i64 0) ∧ w = w' from by have := ready_c hc (namok n.data.toList); rwa [h0] at this)
    have HD := Lib.hid (DS.rdy_ok h0).2
    obtain ⟨c0, c1, c2, c3, c4, cf⟩ := cells5 hc.blk
    have r0 := hc.ok.room0
    have r1 := hc.ok.room1
    have r2 := hc.ok.tot
    have X1 := Lib.hid (show IntKind.i64.wrap (s.room - (total s.fs : Int)) = s.room - (total s.fs : Int) from IntWalk.i64_in _ (by omega))
    by_cases hfull : 0 < b.length ∧ s.room - total s.fs < b.length
    · have HX := Lib.hid (show s.append n.data.toList b = (71, s) from by unfold DS.append; rw [if_neg (by simpa using h0), if_pos hfull])
      rw [HX.out]
      obtain ⟨f1, f2⟩ := hfull
      clear hc hr hnd hn hl h0 hb c3 c4 cf
      go_enter Try.func21, Try.ntmps21
      go_wp2_with fail
      refine (nameable_c _ n HN.out).mono ?_
      rintro e w' ⟨rfl, rfl⟩
      go_wp2_with fail
      refine HY.out.mono ?_
      rintro e w' ⟨rfl, rfl⟩
      go_wp2_with fail
      have x1 := X1.out
      go_quiet (fail)
      clear x1
      go_wp2_with fail
      go_ret
      exact ⟨rfl, after_core HR.out HND.out (HC.out.drewN _) ((Chg.refl _ _).drewN _)⟩
    · by_cases hz : s.fuse = 0
      · have HX := Lib.hid (show s.append n.data.toList b = (70, s.burn) from by unfold DS.append; rw [if_neg (by simpa using h0), if_neg hfull, if_pos hz])
        have HZ := Lib.hid (show decide (s.fuse = 0) = true from by simpa using hz)
        rw [HX.out]
        rcases (show (b.length = 0 ∨ (0 < b.length ∧ (b.length : Int) ≤ s.room - total s.fs)) from by omega) with f1 | ⟨f1, f2⟩
        · have t1 : decide (0 < b.length) = false := decide_eq_false (by omega)
          clear hc hr hnd hn hl h0 hb c3 c4 cf f1 hfull hz
          go_enter Try.func21, Try.ntmps21
          go_wp2_with fail
          refine (nameable_c _ n HN.out).mono ?_
          rintro e w' ⟨rfl, rfl⟩
          go_wp2_with fail
          refine HY.out.mono ?_
          rintro e w' ⟨rfl, rfl⟩
          go_wp2_with fail
          have x1 := X1.out
          go_quiet (fail)
          clear x1
          go_wp2_with fail
          refine (stops_c (HC.out.drewN _) HD.out).mono ?_
          rintro e w1 ⟨rfl, hc1, hg1'⟩
          have hg1 := hg1'.ofDrewN
          clear hg1'
          rw [HZ.out]
          have HG := Lib.hid (And.intro hc1 hg1)
          clear hc1 hg1
          go_wp2_with fail
          go_ret
          exact ⟨rfl, after_core HR.out HND.out HG.out.1 HG.out.2⟩
        · clear hc hr hnd hn hl h0 hb c3 c4 cf hfull hz
          go_enter Try.func21, Try.ntmps21
          go_wp2_with fail
          refine (nameable_c _ n HN.out).mono ?_
          rintro e w' ⟨rfl, rfl⟩
          go_wp2_with fail
          refine HY.out.mono ?_
          rintro e w' ⟨rfl, rfl⟩
          go_wp2_with fail
          have x1 := X1.out
          go_quiet (fail)
          clear x1
          go_wp2_with fail
          refine (stops_c (HC.out.drewN _) HD.out).mono ?_
          rintro e w1 ⟨rfl, hc1, hg1'⟩
          have hg1 := hg1'.ofDrewN
          clear hg1'
          rw [HZ.out]
          have HG := Lib.hid (And.intro hc1 hg1)
          clear hc1 hg1
          go_wp2_with fail
          go_ret
          exact ⟨rfl, after_core HR.out HND.out HG.out.1 HG.out.2⟩
      · obtain ⟨bs, hbs⟩ : ∃ bs, bs = (fileA n.data.toList s.fs).data ++ b := ⟨_, rfl⟩
        have HBS := Lib.hid hbs
        have HX := Lib.hid (show s.append n.data.toList b = (0, { s.burn with fs := putA n.data.toList ⟨bs, (fileA n.data.toList s.fs).sy⟩ s.fs }) from by rw [hbs]; unfold DS.append; rw [if_neg (by simpa using h0), if_neg hfull, if_neg hz])
        have HZ := Lib.hid (show decide (s.fuse = 0) = false from by simpa using hz)
        have HO := Lib.hid (show ({ s.burn with fs := putA n.data.toList ⟨bs, (fileA n.data.toList s.fs).sy⟩ s.burn.fs } : DS).Ok from by have := hc.ok.append n.data.toList b; rw [HX.out] at this; rw [DS.burn_fs]; exact this)
        obtain ⟨i0, hi, hz0, hz1, hz2⟩ := info_parts infoU8
        obtain ⟨a', c', he, u1, u2, u3⟩ := hc.shapeAt n.data.toList
        have HE := Lib.hid he
        have HW := Lib.hid (show FRow w (.agg #[.slice a' (fileA n.data.toList s.fs).data.length c', .int .i64 (fileA n.data.toList s.fs).sy]) (fileA n.data.toList s.fs) from by have := row_at hr n.data.toList; rw [← hc.fs] at this; rwa [he] at this)
        have HB2 := Lib.hid (show (fileA n.data.toList s.fs).data.length ≤ 4194304 from Nat.le_trans (fileA_tot _ hc.ok.ris) hc.ok.tot)
        have HB3 := Lib.hid (show b.length ≤ 4194304 from by omega)
        clear hbs
        rw [HX.out]
        rcases (show (b.length = 0 ∨ (0 < b.length ∧ (b.length : Int) ≤ s.room - total s.fs)) from by omega) with f1 | ⟨f1, f2⟩
        · have t1 : decide (0 < b.length) = false := decide_eq_false (by omega)
          clear hc hr hnd hn hl h0 hb c3 c4 cf f1 hfull hz he u1 u2 u3
          go_enter Try.func21, Try.ntmps21
          go_wp2_with fail
          refine (nameable_c _ n HN.out).mono ?_
          rintro e w' ⟨rfl, rfl⟩
          go_wp2_with fail
          refine HY.out.mono ?_
          rintro e w' ⟨rfl, rfl⟩
          go_wp2_with fail
          have x1 := X1.out
          go_quiet (fail)
          clear x1
          go_wp2_with fail
          refine (stops_c (HC.out.drewN _) HD.out).mono ?_
          rintro e w1 ⟨rfl, hc1, hg1'⟩
          have hg1 := hg1'.ofDrewN
          clear hg1'
          rw [HZ.out]
          have HC1 := Lib.hid hc1
          have HG1 := Lib.hid hg1
          have hsw1 : w.heap.size ≤ w1.heap.size := hg1.size
          obtain ⟨d0, d1, d2, d3, d4, df⟩ := cells5 hc1.blk
          have hlk := hc1.look n (by have := HN.out; unfold maxLen; omega)
          rw [HE.out] at hlk
          have HNE := Lib.hid (show ∀ g, fblk (.agg #[.slice a' (fileA n.data.toList s.fs).data.length c', .int .i64 (fileA n.data.toList s.fs).sy]) = some g → g ∉ [pb, mb] ∧ g < w.heap.size from fun g hgb => by
            have hnd := HND.out
            simp only [List.nodup_cons, List.mem_cons, not_or] at hnd
            rw [← HE.out] at hgb
            have := (blk_out HC.out.ris hnd.2.2 hgb).2
            refine ⟨?_, foot_lt HC.out HR.out g (by simp [this])⟩
            simp only [List.mem_cons, List.not_mem_nil, or_false, not_or]
            exact ⟨by rintro rfl; exact hnd.1.2 this, by rintro rfl; exact hnd.2.1 this⟩)
          have HW1 := Lib.hid (HW.out.keep (w' := w1) fun g hgb => hg1.block g (HNE.out g hgb).2 (fun hm => (HNE.out g hgb).1 (by simp only [List.mem_singleton] at hm; simp [hm])))
          have HV1 := Lib.hid (HV.out.chg hg1 (fun h0 g hgb hm => HAP.out h0 g hgb (by simp only [List.mem_singleton] at hm; simp [hm])))
          obtain ⟨sl, hsl, how⟩ := HW1.out
          simp only [Value.agg.injEq, Array.mk.injEq, List.cons.injEq, and_true] at hsl
          subst hsl
          have HOW := Lib.hid how
          clear hc1 hg1 d0 d1 d3 d4 df how
          go_wp2_with (at_builtin; go_must (refine wpList_append_srcA rfl _ _ 23 23 rfl 0 5 i0 (.int .u8 0) 1 Try.underlying23 hi hz0 hz1 hz2 rfl _ _ _ rfl (HOW.out.alloc _) _ b.length (bcells b) rfl ((HV1.out.alloc _).src Try.underlying23) (by have := HB2.out; have := HB3.out; unfold maxLen; omega) (by have := HB2.out; have := HB3.out; omega) (Nat.zero_le _) ?_); intro v2 w2 hown2 hgrow2 hloc2; rw [← bcells_append, ← HBS.out] at hown2; have HO2 := Lib.hid (own_bytes hown2 rfl); have HGR := Lib.hid hgrow2; have HLC := Lib.hid hloc2; clear hown2 hgrow2 hloc2 hlk; obtain ⟨a2, cp2, rfl, v1, v2, v3⟩ := own_form HO2.out; obtain ⟨k0, k1, kf0, kf1⟩ := cells2 ((HGR.out.block w1.heap.size (by simp) (fun e => by have := (HNE.out w1.heap.size e.symm).2; omega)).trans (heap_alloc_new w1 _)))
          have HKB := Lib.hid (show ∀ i, i < w1.heap.size → fblk (.agg #[.slice a' (fileA n.data.toList s.fs).data.length c', .int .i64 (fileA n.data.toList s.fs).sy]) ≠ some i → (w2.setCell ⟨w1.heap.size, 0, none⟩ (.slice a2 bs.length cp2)).heap[i]? = w1.heap[i]? from fun i h1 h2 =>
            (Below.heap_setCell _ _ _ _ (by simp; omega)).trans ((HGR.out.block i (by simp; omega) (fun e => h2 e.symm)).trans (Below.heap_alloc _ _ _ h1)))
          have HPM := Lib.hid (show fblk (.agg #[.slice a' (fileA n.data.toList s.fs).data.length c', .int .i64 (fileA n.data.toList s.fs).sy]) ≠ some pb ∧ fblk (.agg #[.slice a' (fileA n.data.toList s.fs).data.length c', .int .i64 (fileA n.data.toList s.fs).sy]) ≠ some mb from ⟨fun e => (HNE.out _ e).1 (by simp), fun e => (HNE.out _ e).1 (by simp)⟩)
          refine (put_c (HC1.out.keep (HKB.out _ HC1.out.ltp HPM.out.1) (HKB.out _ HC1.out.map.lt HPM.out.2)) n HN.out _ ⟨bs, (fileA n.data.toList s.fs).sy⟩ ⟨a2, cp2, rfl, v1, v2, v3⟩ HO.out (by rw [DS.burn_fs]; exact HL.out)).mono ?_
          rintro e w5 ⟨rfl, hc5, hg5⟩
          have HC5 := Lib.hid hc5
          have HG5 := Lib.hid hg5
          clear hc5 hg5
          go_wp2_with fail
          go_ret
          refine ⟨rfl, ?_⟩
          have h5 := HC5.out
          rw [DS.burn_fs] at h5
          have hnd := HND.out
          have hlt := foot_lt HC.out HR.out
          have hnd' := hnd
          simp only [List.nodup_cons, List.mem_cons, not_or] at hnd'
          have hin : ∀ g, fblk (.agg #[.slice a' (fileA n.data.toList s.fs).data.length c', .int .i64 (fileA n.data.toList s.fs).sy]) = some g → g ∈ blocks E := fun g hg => (blk_out HC.out.ris hnd'.2.2 (by rw [HE.out]; exact hg)).2
          have hkg : ∀ g, g < w.heap.size → g ≠ pb → g ≠ mb → fblk (valA n.data.toList E) ≠ some g → w5.heap[g]? = w.heap[g]? := fun g h1 h2 h3 h4 => by
            rw [HE.out] at h4
            exact (HG5.out.block g (by rw [World.size_setCell]; have := HGR.out.size; simp at this; omega) (by simp [h2, h3])).trans ((HKB.out g (by omega) h4).trans (HG1.out.block g h1 (by simpa using h2)))
          have hch : Chg (pb :: mb :: blocks E) w w5 := ((((HG1.out.mono (T := pb :: mb :: blocks E) (by simp)).alloc' _).trans (Chg.of_grown HGR.out (fun g hg => .inl (by simp [hin g hg])))).set' _ 0 _ (.inr hsw1)).trans (HG5.out.mono fun i hi => List.mem_append_left (blocks E) hi)
          have hob : ∀ g, fblk (.agg #[.slice a2 bs.length cp2, .int .i64 (fileA n.data.toList s.fs).sy]) = some g → (fblk (valA n.data.toList E) = some g ∨ w.heap.size ≤ g) ∧ g ≠ w1.heap.size ∧ g < w2.heap.size := fun g hg => by
            have hg2 : (Value.slice a2 bs.length cp2).ownBlock = some g := hg
            have hlt2 := (HO2.out.lt g hg2).2
            rcases HLC.out with h | h
            · rw [hg2] at h
              rw [HE.out]
              have := HNE.out g h.symm
              exact ⟨.inl h.symm, by omega, hlt2⟩
            · rw [hg2] at h
              simp at h
              exact ⟨.inr (by omega), by omega, hlt2⟩
          obtain ⟨foot', hd, hf⟩ := disk_put HC.out.ris HR.out hnd hlt h5 (show FRow w5 _ _ from FRow.keep (w := w2) ⟨_, rfl, own_mono HO2.out (Nat.zero_le _)⟩ fun g hg => by
              have h1 := hob g hg
              have h2 : g ≠ pb ∧ g ≠ mb := by
                rcases h1.1 with h | h
                · rw [HE.out] at h
                  have := (HNE.out g h).1
                  simp only [List.mem_cons, List.not_mem_nil, or_false, not_or] at this
                  exact this
                · have := hlt pb (by simp); have := hlt mb (by simp); omega
              exact (HG5.out.block g (by rw [World.size_setCell]; exact h1.2.2) (by simp [h2.1, h2.2])).trans (Below.heap_setCell _ _ _ _ (by simpa using h1.2.1))) (fun g hg => (hob g hg).1) hkg
          exact ⟨foot', hd, hf, hch⟩
        · clear hc hr hnd hn hl h0 hb c3 c4 cf hfull hz he u1 u2 u3
          go_enter Try.func21, Try.ntmps21
          go_wp2_with fail
          refine (nameable_c _ n HN.out).mono ?_
          rintro e w' ⟨rfl, rfl⟩
          go_wp2_with fail
          refine HY.out.mono ?_
          rintro e w' ⟨rfl, rfl⟩
          go_wp2_with fail
          have x1 := X1.out
          go_quiet (fail)
          clear x1
          go_wp2_with fail
          refine (stops_c (HC.out.drewN _) HD.out).mono ?_
          rintro e w1 ⟨rfl, hc1, hg1'⟩
          have hg1 := hg1'.ofDrewN
          clear hg1'
          rw [HZ.out]
          have HC1 := Lib.hid hc1
          have HG1 := Lib.hid hg1
          have hsw1 : w.heap.size ≤ w1.heap.size := hg1.size
          obtain ⟨d0, d1, d2, d3, d4, df⟩ := cells5 hc1.blk
          have hlk := hc1.look n (by have := HN.out; unfold maxLen; omega)
          rw [HE.out] at hlk
          have HNE := Lib.hid (show ∀ g, fblk (.agg #[.slice a' (fileA n.data.toList s.fs).data.length c', .int .i64 (fileA n.data.toList s.fs).sy]) = some g → g ∉ [pb, mb] ∧ g < w.heap.size from fun g hgb => by
            have hnd := HND.out
            simp only [List.nodup_cons, List.mem_cons, not_or] at hnd
            rw [← HE.out] at hgb
            have := (blk_out HC.out.ris hnd.2.2 hgb).2
            refine ⟨?_, foot_lt HC.out HR.out g (by simp [this])⟩
            simp only [List.mem_cons, List.not_mem_nil, or_false, not_or]
            exact ⟨by rintro rfl; exact hnd.1.2 this, by rintro rfl; exact hnd.2.1 this⟩)
          have HW1 := Lib.hid (HW.out.keep (w' := w1) fun g hgb => hg1.block g (HNE.out g hgb).2 (fun hm => (HNE.out g hgb).1 (by simp only [List.mem_singleton] at hm; simp [hm])))
          have HV1 := Lib.hid (HV.out.chg hg1 (fun h0 g hgb hm => HAP.out h0 g hgb (by simp only [List.mem_singleton] at hm; simp [hm])))
          obtain ⟨sl, hsl, how⟩ := HW1.out
          simp only [Value.agg.injEq, Array.mk.injEq, List.cons.injEq, and_true] at hsl
          subst hsl
          have HOW := Lib.hid how
          clear hc1 hg1 d0 d1 d3 d4 df how
          go_wp2_with (at_builtin; go_must (refine wpList_append_srcA rfl _ _ 23 23 rfl 0 5 i0 (.int .u8 0) 1 Try.underlying23 hi hz0 hz1 hz2 rfl _ _ _ rfl (HOW.out.alloc _) _ b.length (bcells b) rfl ((HV1.out.alloc _).src Try.underlying23) (by have := HB2.out; have := HB3.out; unfold maxLen; omega) (by have := HB2.out; have := HB3.out; omega) (Nat.zero_le _) ?_); intro v2 w2 hown2 hgrow2 hloc2; rw [← bcells_append, ← HBS.out] at hown2; have HO2 := Lib.hid (own_bytes hown2 rfl); have HGR := Lib.hid hgrow2; have HLC := Lib.hid hloc2; clear hown2 hgrow2 hloc2 hlk; obtain ⟨a2, cp2, rfl, v1, v2, v3⟩ := own_form HO2.out; obtain ⟨k0, k1, kf0, kf1⟩ := cells2 ((HGR.out.block w1.heap.size (by simp) (fun e => by have := (HNE.out w1.heap.size e.symm).2; omega)).trans (heap_alloc_new w1 _)))
          have HKB := Lib.hid (show ∀ i, i < w1.heap.size → fblk (.agg #[.slice a' (fileA n.data.toList s.fs).data.length c', .int .i64 (fileA n.data.toList s.fs).sy]) ≠ some i → (w2.setCell ⟨w1.heap.size, 0, none⟩ (.slice a2 bs.length cp2)).heap[i]? = w1.heap[i]? from fun i h1 h2 =>
            (Below.heap_setCell _ _ _ _ (by simp; omega)).trans ((HGR.out.block i (by simp; omega) (fun e => h2 e.symm)).trans (Below.heap_alloc _ _ _ h1)))
          have HPM := Lib.hid (show fblk (.agg #[.slice a' (fileA n.data.toList s.fs).data.length c', .int .i64 (fileA n.data.toList s.fs).sy]) ≠ some pb ∧ fblk (.agg #[.slice a' (fileA n.data.toList s.fs).data.length c', .int .i64 (fileA n.data.toList s.fs).sy]) ≠ some mb from ⟨fun e => (HNE.out _ e).1 (by simp), fun e => (HNE.out _ e).1 (by simp)⟩)
          refine (put_c (HC1.out.keep (HKB.out _ HC1.out.ltp HPM.out.1) (HKB.out _ HC1.out.map.lt HPM.out.2)) n HN.out _ ⟨bs, (fileA n.data.toList s.fs).sy⟩ ⟨a2, cp2, rfl, v1, v2, v3⟩ HO.out (by rw [DS.burn_fs]; exact HL.out)).mono ?_
          rintro e w5 ⟨rfl, hc5, hg5⟩
          have HC5 := Lib.hid hc5
          have HG5 := Lib.hid hg5
          clear hc5 hg5
          go_wp2_with fail
          go_ret
          refine ⟨rfl, ?_⟩
          have h5 := HC5.out
          rw [DS.burn_fs] at h5
          have hnd := HND.out
          have hlt := foot_lt HC.out HR.out
          have hnd' := hnd
          simp only [List.nodup_cons, List.mem_cons, not_or] at hnd'
          have hin : ∀ g, fblk (.agg #[.slice a' (fileA n.data.toList s.fs).data.length c', .int .i64 (fileA n.data.toList s.fs).sy]) = some g → g ∈ blocks E := fun g hg => (blk_out HC.out.ris hnd'.2.2 (by rw [HE.out]; exact hg)).2
          have hkg : ∀ g, g < w.heap.size → g ≠ pb → g ≠ mb → fblk (valA n.data.toList E) ≠ some g → w5.heap[g]? = w.heap[g]? := fun g h1 h2 h3 h4 => by
            rw [HE.out] at h4
            exact (HG5.out.block g (by rw [World.size_setCell]; have := HGR.out.size; simp at this; omega) (by simp [h2, h3])).trans ((HKB.out g (by omega) h4).trans (HG1.out.block g h1 (by simpa using h2)))
          have hch : Chg (pb :: mb :: blocks E) w w5 := ((((HG1.out.mono (T := pb :: mb :: blocks E) (by simp)).alloc' _).trans (Chg.of_grown HGR.out (fun g hg => .inl (by simp [hin g hg])))).set' _ 0 _ (.inr hsw1)).trans (HG5.out.mono fun i hi => List.mem_append_left (blocks E) hi)
          have hob : ∀ g, fblk (.agg #[.slice a2 bs.length cp2, .int .i64 (fileA n.data.toList s.fs).sy]) = some g → (fblk (valA n.data.toList E) = some g ∨ w.heap.size ≤ g) ∧ g ≠ w1.heap.size ∧ g < w2.heap.size := fun g hg => by
            have hg2 : (Value.slice a2 bs.length cp2).ownBlock = some g := hg
            have hlt2 := (HO2.out.lt g hg2).2
            rcases HLC.out with h | h
            · rw [hg2] at h
              rw [HE.out]
              have := HNE.out g h.symm
              exact ⟨.inl h.symm, by omega, hlt2⟩
            · rw [hg2] at h
              simp at h
              exact ⟨.inr (by omega), by omega, hlt2⟩
          obtain ⟨foot', hd, hf⟩ := disk_put HC.out.ris HR.out hnd hlt h5 (show FRow w5 _ _ from FRow.keep (w := w2) ⟨_, rfl, own_mono HO2.out (Nat.zero_le _)⟩ fun g hg => by
              have h1 := hob g hg
              have h2 : g ≠ pb ∧ g ≠ mb := by
                rcases h1.1 with h | h
                · rw [HE.out] at h
                  have := (HNE.out g h).1
                  simp only [List.mem_cons, List.not_mem_nil, or_false, not_or] at this
                  exact this
                · have := hlt pb (by simp); have := hlt mb (by simp); omega
              exact (HG5.out.block g (by rw [World.size_setCell]; exact h1.2.2) (by simp [h2.1, h2.2])).trans (Below.heap_setCell _ _ _ _ (by simpa using h1.2.1))) (fun g hg => (hob g hg).1) hkg
          exact ⟨foot', hd, hf, hch⟩
  · have HX := Lib.hid (show s.append n.data.toList b = (s.rdy (namok n.data.toList), s) from by unfold DS.append; rw [if_pos (by simpa using h0)])
    have HY := Lib.hid (ready_c hc (namok n.data.toList))
    have t : (s.rdy (namok n.data.toList) != 0) = true := by simpa using h0
    rw [HX.out]
    generalize s.rdy (namok n.data.toList) = r at *
    clear hc hr hnd hn hl h0 hb
    go_enter Try.func21, Try.ntmps21
    go_wp2_with fail
    refine (nameable_c _ n HN.out).mono ?_
    rintro e w' ⟨rfl, rfl⟩
    go_wp2_with fail
    refine HY.out.mono ?_
    rintro e w' ⟨rfl, rfl⟩
    go_wp2_with fail
    go_ret
    exact ⟨rfl, after_core HR.out HND.out HC.out (Chg.refl _ _)⟩
end
end Go.Proofs.Ytfljpnfjndjhpaa
