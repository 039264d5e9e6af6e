/- Cases: tree.Copy. Written by tools/genzd.py. -/
import Derived.Test.YtllhlmdhnmdihaaDoorMi07
import Derived.Deep.DeepCutAuto
import Derived.Deep.AppendLies
import Derived.Deep.RegionLaw
import Derived.Deep.QuietTactic
import Derived.Test.YtllhlmdhnmdihaaDoorRows
namespace Go.Proofs.YtllhlmdhnmdihaaDoor
open Go Go.RowKit Go.Shelf
set_option linter.unusedVariables false
set_option linter.unusedSimpArgs false

/-- A case stored into a box, cell for cell. -/
abbrev putC (w : World) (b : Nat) (c0 c1 c2 c3 c4 : Value) : World :=
  (((((w.setCell ⟨b, 0, none⟩ c0).setCell ⟨b, 1, none⟩ c1).setCell ⟨b, 2, none⟩ c2).setCell ⟨b, 3, none⟩ c3).setCell ⟨b, 4, none⟩ c4)
theorem putC_at {w : World} {b : Nat} {z0 z1 z2 z3 z4 : Value} {T : TypeId} (h : w.heap[b]? = some (.cells #[z0, z1, z2, z3, z4] T (0, 0))) (c0 c1 c2 c3 c4 : Value) :
    (putC w b c0 c1 c2 c3 c4).heap[b]? = some (.cells #[c0, c1, c2, c3, c4] T (0, 0)) := by
  unfold putC
  simp [World.setCell, Array.getElem?_modify, h]
theorem putC_below {w0 w : World} {B b : Nat} (h : Below B w0 w) (hb : B ≤ b) (c0 c1 c2 c3 c4 : Value) : Below B w0 (putC w b c0 c1 c2 c3 c4) :=
  ((((h.setCell (p := ⟨b, 0, none⟩) hb c0).setCell (p := ⟨b, 1, none⟩) hb c1).setCell (p := ⟨b, 2, none⟩) hb c2).setCell (p := ⟨b, 3, none⟩) hb c3).setCell (p := ⟨b, 4, none⟩) hb c4
theorem putC_far (w : World) (b g : Nat) (hg : g ≠ b) (c0 c1 c2 c3 c4 : Value) : (putC w b c0 c1 c2 c3 c4).heap[g]? = w.heap[g]? := by
  unfold putC
  simp [World.setCell, Array.getElem?_modify, Ne.symm hg]
theorem infoC5 : (Tryd.prog.info? 25).map (·.size) = some 5 := by kernel_rfl

set_option maxRecDepth 100000 in
set_option maxHeartbeats 2000000 in
theorem copy_c (w : World) (c : CV) (h : CVok w c) (hs : ∀ x ∈ c.insts, x.ls.length ≤ 40) (hs2 : ∀ x ∈ c.docs, x.rs.length ≤ 40) (hc4 : c.insts.length ≤ 40) (hd4 : c.docs.length ≤ 100) : Calls Tryd.prog 10 #[c.val] w (CopyC w c) := by
  obtain ⟨i0, hi, hz0, hz1, hz2⟩ := info_parts infoInst
  obtain ⟨i1, hi1, hz10, hz11, hz12⟩ := info_parts infoDoc
  obtain ⟨i2, hi2, hz20, hz21, hz22⟩ := info_parts infoText
  have HI := Lib.hid h.insts
  have HD := Lib.hid h.docs
  have HSI := Lib.hid (fun (W : World) (hb : Below w.heap.size w W) => (h.insts.below hb).src)
  have HSD := Lib.hid (fun (W : World) (hb : Below w.heap.size w W) => (h.docs.below hb).src)
  have hl := h.insts.1
  have hl2 := h.docs.1
  have HS := Lib.hid hs
  have HS2 := Lib.hid hs2
  obtain ⟨id, mo, iv, dv, cl, is, ds⟩ := c
  dsimp only at HI HD HSI HSD HS HS2 hl hl2 hc4 hd4
  obtain ⟨a, ca, hiv, hn1, hn2, _, _⟩ := hl
  obtain ⟨a2, ca2, hdv, hm1, hm2, _, _⟩ := hl2
  subst hiv hdv
  have HC4 := Lib.hid hc4
  have HD4 := Lib.hid hd4
  unfold CV.val
  dsimp only
  obtain ⟨w0, hw0⟩ : ∃ x, x = (w.alloc (.cells #[.int .i64 id, .string mo, .slice a is.length ca, .slice a2 ds.length ca2, .int .i64 cl] 25)).alloc (.cells #[.int .i64 0, .string ⟨#[]⟩, .slice none 0 0, .slice none 0 0, .int .i64 0] 25) := ⟨_, rfl⟩
  have HBW := Lib.hid (show Below w.heap.size w w0 from by rw [hw0]; exact (box_bel' w _).alloc (box_bel' w _).size _)
  have HQ := Lib.hid (show w0.heap[w.heap.size]? = some (.cells #[.int .i64 id, .string mo, .slice a is.length ca, .slice a2 ds.length ca2, .int .i64 cl] 25 (0, 0)) from by rw [hw0]; exact two_old w _ _)
  have HQ2 := Lib.hid (show w0.heap[w.heap.size + 1]? = some (.cells #[.int .i64 0, .string ⟨#[]⟩, .slice none 0 0, .slice none 0 0, .int .i64 0] 25 (0, 0)) from by rw [hw0]; exact two_new w _ _)
  have HSW := Lib.hid (show w0.heap.size = w.heap.size + 2 from by rw [hw0]; simp)
  have HW0 := Lib.hid hw0
  clear h hs hs2 hn1 hn2 hm1 hm2 hc4 hd4 hw0
  go_enter Tryd.func10, Tryd.ntmps10
  go_wp2_with fail
  rw [← HW0.out]
  go_cut [] (fun wx => ∃ vI vD, wx.heap[w.heap.size]? = some (.cells #[.int .i64 id, .string mo, vI, vD, .int .i64 cl] 25 (0, 0)) ∧ wx.heap[w.heap.size + 1]? = some (.cells #[.int .i64 0, .string ⟨#[]⟩, .slice none 0 0, .slice none 0 0, .int .i64 0] 25 (0, 0)) ∧ wx.ownsRow (w.heap.size + 2) 51 6 vI is.length (flatI is) ∧ wx.ownsRow (w.heap.size + 2) 55 6 vD ds.length (flatD ds) ∧ Below w.heap.size w wx)
  case first =>
    obtain ⟨d0, d1, d2, d3, d4, dz⟩ := cells5 HQ.out
    go_region_law (first
      | (refine step_append_nil (by rfl) _ _ 22 22 (by rfl) (w.heap.size + 2) 51 i0 (.agg #[.string ⟨#[]⟩, .string ⟨#[]⟩, .int .i64 0, .int .i64 0, .slice none 0 0, .int .i64 0]) 6 80 Tryd.underlying22 hi hz0 hz1 hz2 rfl (by decide) (by rfl) (.slice a is.length ca) is.length (flatI is) (by rfl) (HSI.out _ (by first | exact HBW.out | exact HBW.out.drew | exact below_drewN HBW.out _)) (by have := HC4.out; unfold maxLen; omega) (by have := HC4.out; omega) (by simp [HSW.out]) ?_
         intro v1 w1 hown1 hgrow1
         obtain ⟨p1, kk1, hv1, _⟩ := (OwnS.ofRow hown1).form
         subst hv1
         have HO1 := Lib.hid hown1
         have HG1 := Lib.hid hgrow1
         have hb1 : Below w.heap.size w w1 := (show Below w.heap.size w _ from by first | exact HBW.out | exact HBW.out.drew | exact below_drewN HBW.out _).grown hgrow1 (by simp [HSW.out] <;> omega) (fun k ek => by cases ek)
         have HB1 := Lib.hid hb1
         have hq1 : w1.heap[w.heap.size]? = some (.cells #[.int .i64 id, .string mo, .slice a is.length ca, .slice a2 ds.length ca2, .int .i64 cl] 25 (0, 0)) := (hgrow1.block w.heap.size (by simp [HSW.out]) (by simp)).trans HQ.out
         have hq2 : w1.heap[w.heap.size + 1]? = some (.cells #[.int .i64 0, .string ⟨#[]⟩, .slice none 0 0, .slice none 0 0, .int .i64 0] 25 (0, 0)) := (hgrow1.block (w.heap.size + 1) (by simp [HSW.out]) (by simp)).trans HQ2.out
         have HQ3 := Lib.hid hq1
         have HQ4 := Lib.hid hq2
         obtain ⟨e0, e1, e2, e3, e4, ez⟩ := cells5 hq1
         clear hown1 hgrow1 hb1 hq1 hq2)
      | (refine step_append_nil (by rfl) _ _ 23 23 (by rfl) (w.heap.size + 2) 55 i1 (.agg #[.string ⟨#[]⟩, .int .i64 0, .int .i64 0, .bool false, .string ⟨#[]⟩, .slice none 0 0]) 6 80 Tryd.underlying23 hi1 hz10 hz11 hz12 rfl (by decide) (by rfl) (.slice a2 ds.length ca2) ds.length (flatD ds) (by rfl) (HSD.out _ (by first | exact HB1.out | exact HB1.out.drew | exact below_drewN HB1.out _)) (by have := HD4.out; unfold maxLen; omega) (by have := HD4.out; omega) (by have := HG1.out.size; simp [HSW.out] at this; simp; omega) ?_
         intro v2 w2 hown2 hgrow2
         obtain ⟨p2, kk2, hv2, _⟩ := (OwnS.ofRow hown2).form
         subst hv2
         have HO2 := Lib.hid hown2
         have HG2 := Lib.hid hgrow2
         have hq3 := (hgrow2.block w.heap.size (by have := HG1.out.size; simp [HSW.out] at this; simp; omega) (by simp)).trans HQ3.out
         obtain ⟨k0, k1, k2, k3, k4, kz⟩ := cells5 hq3
         clear hown2 hgrow2)
      | fail "no arm")
    all_goals
      have HQ5 := Lib.hid hq3
      clear hq3 k0 k1 k2 k3 k4 kz d0 d1 d2 d3 d4 dz e0 e1 e2 e3 e4 ez
      go_wp2_with fail
      go_meet
      have hs1 : w.heap.size + 2 ≤ w1.heap.size := by have := HG1.out.size; simp [HSW.out] at this; omega
      refine ⟨_, _, cells5w HQ5.out _ _, (set2_far _ _ (by omega)).trans ((HG2.out.block (w.heap.size + 1) (by first | omega | (simp; omega)) (by simp)).trans HQ4.out), ownr_keep HO1.out (fun g hg => (set2_far _ _ (by have := (ownr_lt HO1.out g hg).1; omega)).trans (HG2.out.block g (by have := (ownr_lt HO1.out g hg).2; first | exact this | simpa using this) (by simp))), ownr_keep HO2.out (fun g hg => set2_far _ _ (by have := (ownr_lt HO2.out g hg).1; omega)), ?_⟩
      have hb2 : Below w.heap.size w w2 := (show Below w.heap.size w _ from by first | exact HB1.out | exact HB1.out.drew | exact below_drewN HB1.out _).grown HG2.out (by first | omega | (simp; omega)) (fun k ek => by cases ek)
      exact (hb2.setCell (p := ⟨w.heap.size, 2, none⟩) (Nat.le_refl _) _).setCell (p := ⟨w.heap.size, 3, none⟩) (Nat.le_refl _) _
  case rest =>
    obtain ⟨vI, vD, hq, hq2, ho1, ho2, hb⟩ := hcut
    obtain ⟨pI, cI, hvI, _⟩ := (OwnS.ofRow ho1).form
    obtain ⟨pD, cD, hvD, _⟩ := (OwnS.ofRow ho2).form
    subst hvI hvD
    have HQ3 := Lib.hid hq
    have HQ4 := Lib.hid hq2
    have HO1 := Lib.hid ho1
    have HO2 := Lib.hid ho2
    have HB := Lib.hid hb
    obtain ⟨d0, d1, d2, d3, d4, dz⟩ := cells5 hq
    clear hq hq2 ho1 ho2 hb
    have hn : is.length ≤ 9223372036854775807 := by have := HC4.out; omega
    have hn2 : ds.length ≤ 9223372036854775807 := by have := HD4.out; omega
    go_wp2_with fail
    go_loopw [18] (fun i wr => ∃ k : Nat, k ≤ is.length ∧ i = .int .i64 k ∧ InstsHalf wr (w.heap.size + 2) (.slice pI is.length cI) is k ∧ wr.ownsRow (w.heap.size + 2) 55 6 (.slice pD ds.length cD) ds.length (flatD ds) ∧ wr.heap[w.heap.size]? = some (.cells #[.int .i64 id, .string mo, .slice pI is.length cI, .slice pD ds.length cD, .int .i64 cl] 25 (0, 0)) ∧ wr.heap[w.heap.size + 1]? = some (.cells #[.int .i64 0, .string ⟨#[]⟩, .slice none 0 0, .slice none 0 0, .int .i64 0] 25 (0, 0)) ∧ Below w.heap.size w wr) (fun i _ => is.length - (intOf i).toNat)
    case atStart => exact ⟨0, by omega, rfl, InstsHalf.zero HO1.out, HO2.out, HQ3.out, HQ4.out, HB.out⟩
    case round =>
      clear d0 d1 d2 d3 d4 dz
      obtain ⟨k, hk, rfl, hha, hdo, hq, hq2, hbr⟩ := hrel
      have HHA := Lib.hid hha
      have HDO := Lib.hid hdo
      have HQR := Lib.hid hq
      have HQR2 := Lib.hid hq2
      have HBR := Lib.hid hbr
      clear hha hdo hq hq2 hbr
      by_cases hlt : k < is.length
      · obtain ⟨x, hx⟩ : ∃ x, x = is[k] := ⟨_, rfl⟩
        have hx' : is[k]? = some x := by rw [List.getElem?_eq_getElem hlt, hx]
        have HX := Lib.hid hx'
        have hxo := (HI.out.2 x (by rw [hx]; exact List.getElem_mem hlt)).below HBR.out
        have HXO := Lib.hid hxo
        have HX4 := Lib.hid (HS.out x (by rw [hx]; exact List.getElem_mem hlt))
        have HC := Lib.hid (fun (W : World) (hb : Below wr.heap.size wr W) => copied_c W x (HXO.out.below hb) HX4.out)
        obtain ⟨g, hpi, hgb, hgl, ⟨cur, hcur⟩, hfz, hrow⟩ := HHA.out.row hlt hx'
        subst hpi
        obtain ⟨pl, cp, hlv⟩ := hxo.rl.form
        obtain ⟨path, item, st, bf, lv, ls, due⟩ := x
        dsimp only at hlv HX4
        subst hlv
        unfold IV.cells at HC hrow
        dsimp only at HC hrow
        have c0 := hrow 0 (by omega)
        have c1 := hrow 1 (by omega)
        have c2 := hrow 2 (by omega)
        have c3 := hrow 3 (by omega)
        have c4 := hrow 4 (by omega)
        have c5 := hrow 5 (by omega)
        simp only [List.getElem?_cons_zero, List.getElem?_cons_succ, Nat.add_zero, Nat.zero_add] at c0 c1 c2 c3 c4 c5
        obtain ⟨e0, e1, e2, e3, e4, ez⟩ := cells5 HQR.out
        have HCU := Lib.hid hcur
        have HGB := Lib.hid (And.intro hgb hgl)
        have HBX := Lib.hid (fun o => box_bel' wr o)
        have HCC := Lib.hid (And.intro c0 (And.intro c1 (And.intro c2 (And.intro c3 (And.intro c4 c5)))))
        obtain ⟨f0, f1, f2, f3, f4, f5, fz⟩ := cells6 (heap_alloc_new wr (.cells #[.string path, .string item, .int .i64 st, .int .i64 bf, .slice pl (icells ls).length cp, .int .i64 due] 51))
        have hez : (wr.alloc (.cells #[.string path, .string item, .int .i64 st, .int .i64 bf, .slice pl (icells ls).length cp, .int .i64 due] 51)).cell? ⟨w.heap.size, 2, none⟩ = some (.slice (some ⟨g, 0, none⟩) is.length cI) := ((HBX.out _).cell (p := ⟨w.heap.size, 2, none⟩) (Array.getElem?_eq_some_iff.1 HQR.out).1).trans e2
        clear hrow hx hx' hxo hcur hfz hgb hgl
        go_wp2_with fail
        go_region_law (first
          | (go_simp
             go_at_call 19
             refine (HC.out _ ?_).mono ?_
             · first | exact HBX.out _ | exact (HBX.out _).drew | exact below_drewN (HBX.out _) _
             rintro e w3 ⟨v', rfl, hown3, hb3⟩
             dsimp only at hown3
             obtain ⟨pa, cc, hv', _⟩ := hown3.form
             subst hv'
             have hb4 : Below (wr.heap.size + 1) (wr.alloc (.cells #[.string path, .string item, .int .i64 st, .int .i64 bf, .slice pl (icells ls).length cp, .int .i64 due] 51)) w3 := by
               have hz : ∀ n, n ≤ wr.heap.size + 1 → n ≤ (wr.alloc (.cells #[.string path, .string item, .int .i64 st, .int .i64 bf, .slice pl (icells ls).length cp, .int .i64 due] 51)).heap.size := by simp
               first
                 | exact hb3.mono (by simp)
                 | exact (Below.refl _ _).drew.trans (hb3.mono (by simp))
                 | exact (below_drewN (Below.refl _ _) _).trans (hb3.mono (by simp))
             have hb5 : Below wr.heap.size wr w3 := (HBX.out _).trans (hb4.mono (by omega))
             have HB5 := Lib.hid hb5
             have HO3 := Lib.hid (hown3.up (b' := w.heap.size + 2) (by have := HGB.out; simp; omega))
             obtain ⟨q0, q1, q2, q3, q4, qz⟩ := cells5 ((hb5.block w.heap.size (Array.getElem?_eq_some_iff.1 HQR.out).1).trans HQR.out)
             have s0 := (hb5.cell (p := ⟨g, k * 6, none⟩) HGB.out.2).trans HCC.out.1
             have s1 := (hb5.cell (p := ⟨g, k * 6 + 1, none⟩) HGB.out.2).trans HCC.out.2.1
             have s2 := (hb5.cell (p := ⟨g, k * 6 + 2, none⟩) HGB.out.2).trans HCC.out.2.2.1
             have s3 := (hb5.cell (p := ⟨g, k * 6 + 3, none⟩) HGB.out.2).trans HCC.out.2.2.2.1
             have s4 := (hb5.cell (p := ⟨g, k * 6 + 4, none⟩) HGB.out.2).trans HCC.out.2.2.2.2.1
             have s5 := (hb5.cell (p := ⟨g, k * 6 + 5, none⟩) HGB.out.2).trans HCC.out.2.2.2.2.2
             have sz : ∀ o, w3.frozen? ⟨g, o, none⟩ = false := fun o => by
               have := (hb5.block g HGB.out.2).trans HCU.out
               simp [World.frozen?, this]
             clear hown3 hb3 hb4 hb5)
          | fail "no arm")
        all_goals
          clear s0 s1 s2 s3 s4 s5 sz q0 q1 q2 q3 q4 qz f0 f1 f2 f3 f4 f5 fz e0 e1 e2 e3 e4 ez c0 c1 c2 c3 c4 c5
          go_wp2_with fail
          go_roundw
          case rel =>
            have hcu := (HB5.out.block g HGB.out.2).trans HCU.out
            have hfar : ∀ b, b ≠ g → (putR w3 g (k * 6) (.string path) (.string item) (.int .i64 st) (.int .i64 bf) (.slice pa ls.length cc) (.int .i64 due)).heap[b]? = w3.heap[b]? := fun b hb => putR_far w3 g (k * 6) b hb _ _ _ _ _ _
            refine ⟨k + 1, by omega, by go_num, InstsHalf.step (x := ⟨path, item, st, bf, .slice pa ls.length cc, ls, due⟩) HHA.out hlt HB5.out HX.out rfl HO3.out, ?_, ?_, ?_, putR_below (HBR.out.trans (HB5.out.mono HBR.out.size)) (by have := HGB.out.1; omega) _ _ _ _ _ _ _⟩
            · have hd := ownr_below HDO.out HB5.out
              exact ownr_keep hd fun b hb => hfar b (ownr_far (by decide) hcu hd b hb)
            · exact (hfar _ (by have := HGB.out.1; omega)).trans ((HB5.out.block w.heap.size (Array.getElem?_eq_some_iff.1 HQR.out).1).trans HQR.out)
            · exact (hfar _ (by have := HGB.out.1; omega)).trans ((HB5.out.block (w.heap.size + 1) (Array.getElem?_eq_some_iff.1 HQR2.out).1).trans HQR2.out)
          case measure => simp [intOf]; omega
      · have HIO := Lib.hid (HHA.out.full (by omega))
        obtain ⟨d0, d1, d2, d3, d4, dz⟩ := cells5 HQR.out
        go_wp2_with fail
        have HQ7 := Lib.hid HQR.out
        have HQ8 := Lib.hid HQR2.out
        have HD7 := Lib.hid HDO.out
        have HB7 := Lib.hid HBR.out
        clear HQ3 HQ4 HO1 HO2 HHA HDO HQR HQR2 HB HBR d0 d1 d2 d3 d4 dz
        go_loopw [33] (fun i wx => ∃ m : Nat, m ≤ ds.length ∧ i = .int .i64 m ∧ DocsHalf wx (w.heap.size + 2) (.slice pD ds.length cD) ds m ∧ InstsOwn wx (w.heap.size + 2) (.slice pI is.length cI) is ∧ wx.heap[w.heap.size]? = some (.cells #[.int .i64 id, .string mo, .slice pI is.length cI, .slice pD ds.length cD, .int .i64 cl] 25 (0, 0)) ∧ wx.heap[w.heap.size + 1]? = some (.cells #[.int .i64 0, .string ⟨#[]⟩, .slice none 0 0, .slice none 0 0, .int .i64 0] 25 (0, 0)) ∧ Below w.heap.size w wx) (fun i _ => ds.length - (intOf i).toNat)
        case atStart => exact ⟨0, by omega, rfl, DocsHalf.zero HD7.out, HIO.out, HQ7.out, HQ8.out, HB7.out⟩
        case round =>
          obtain ⟨m, hm, rfl, hha, hio, hq, hq2, hbr⟩ := hrel
          have HHA := Lib.hid hha
          have HIS := Lib.hid hio
          have HQR := Lib.hid hq
          have HQR2 := Lib.hid hq2
          have HBR := Lib.hid hbr
          clear hha hio hq hq2 hbr
          by_cases hlt : m < ds.length
          · obtain ⟨x, hx⟩ : ∃ x, x = ds[m] := ⟨_, rfl⟩
            have hx' : ds[m]? = some x := by rw [List.getElem?_eq_getElem hlt, hx]
            have HX := Lib.hid hx'
            have hxo := (HD.out.2 x (by rw [hx]; exact List.getElem_mem hlt)).below HBR.out
            have HX4 := Lib.hid (HS2.out x (by rw [hx]; exact List.getElem_mem hlt))
            have HSR := Lib.hid (fun (W : World) (hb : Below wr.heap.size wr W) => (hxo.rr.below hb).src (t := 31) Tryd.underlying31 (tcells_one x.rs))
            obtain ⟨g, hpi, hgb, hgl, ⟨cur, hcur⟩, hfz, hrow⟩ := HHA.out.row hlt hx'
            subst hpi
            obtain ⟨pl, cp, hlv⟩ := hxo.rr.form
            obtain ⟨path, vk, vi, vb, vt, rv, rs⟩ := x
            dsimp only at hlv HX4 HSR
            subst hlv
            unfold DV.cells at hrow
            dsimp only at hrow
            have c0 := hrow 0 (by omega)
            have c1 := hrow 1 (by omega)
            have c2 := hrow 2 (by omega)
            have c3 := hrow 3 (by omega)
            have c4 := hrow 4 (by omega)
            have c5 := hrow 5 (by omega)
            simp only [List.getElem?_cons_zero, List.getElem?_cons_succ, Nat.add_zero, Nat.zero_add] at c0 c1 c2 c3 c4 c5
            obtain ⟨e0, e1, e2, e3, e4, ez⟩ := cells5 HQR.out
            have HCU := Lib.hid hcur
            have HGB := Lib.hid (And.intro hgb hgl)
            have HBX := Lib.hid (fun o => box_bel' wr o)
            have HCC := Lib.hid c5
            obtain ⟨f0, f1, f2, f3, f4, f5, fz⟩ := cells6 (heap_alloc_new wr (.cells #[.string path, .int .i64 vk, .int .i64 vi, .bool vb, .string vt, .slice pl (tcells rs).length cp] 55))
            have hez : (wr.alloc (.cells #[.string path, .int .i64 vk, .int .i64 vi, .bool vb, .string vt, .slice pl (tcells rs).length cp] 55)).cell? ⟨w.heap.size, 3, none⟩ = some (.slice (some ⟨g, 0, none⟩) ds.length cD) := ((HBX.out _).cell (p := ⟨w.heap.size, 3, none⟩) (Array.getElem?_eq_some_iff.1 HQR.out).1).trans e3
            clear hrow hx hx' hxo hcur hfz hgb hgl
            have hlt8 : (tcells rs).length = rs.length := by simp [tcells]
            have HL8 := Lib.hid hlt8
            clear hlt8
            go_wp2_with fail
            go_region_law (first
              | (refine step_append_nil (by rfl) _ _ 31 31 (by rfl) (w.heap.size + 2) 9 i2 (.string ⟨#[]⟩) 1 16 Tryd.underlying31 hi2 hz20 hz21 hz22 rfl (by decide) (by rfl) (.slice pl (tcells rs).length cp) (tcells rs).length (tcells rs) (by rfl) (HSR.out _ (by first | exact HBX.out _ | exact (HBX.out _).drew | exact below_drewN (HBX.out _) _)) (by have := HX4.out; have := HL8.out; unfold maxLen; omega) (by have := HX4.out; have := HL8.out; omega) (by have := HGB.out; simp; omega) ?_
                 intro v3 w3 hown3 hgrow3
                 obtain ⟨p3, k3, hv3, _⟩ := (OwnS.ofRow hown3).form
                 subst hv3
                 have hb4 : Below (wr.heap.size + 1) (wr.alloc (.cells #[.string path, .int .i64 vk, .int .i64 vi, .bool vb, .string vt, .slice pl (tcells rs).length cp] 55)) w3 := (show Below (wr.heap.size + 1) (wr.alloc (.cells #[.string path, .int .i64 vk, .int .i64 vi, .bool vb, .string vt, .slice pl (tcells rs).length cp] 55)) _ from by first | exact Below.refl _ _ | exact (Below.refl _ _).drew | exact below_drewN (Below.refl _ _) _).grown hgrow3 (by simp) (fun k ek => by cases ek)
                 have hb5 : Below wr.heap.size wr w3 := (HBX.out _).trans (hb4.mono (by omega))
                 have HB5 := Lib.hid hb5
                 have HO3 := Lib.hid (OwnS.ofRow hown3)
                 obtain ⟨q0, q1, q2, q3, q4, qz⟩ := cells5 ((hb5.block w.heap.size (Array.getElem?_eq_some_iff.1 HQR.out).1).trans HQR.out)
                 have s5 := (hb5.cell (p := ⟨g, m * 6 + 5, none⟩) HGB.out.2).trans HCC.out
                 have sz : ∀ o, w3.frozen? ⟨g, o, none⟩ = false := fun o => by
                   have := (hb5.block g HGB.out.2).trans HCU.out
                   simp [World.frozen?, this]
                 clear hown3 hgrow3 hb4 hb5)
              | fail "no arm")
            all_goals
              clear s5 sz q0 q1 q2 q3 q4 qz f0 f1 f2 f3 f4 f5 fz e0 e1 e2 e3 e4 ez c0 c1 c2 c3 c4 c5 hez
              go_wp2_with fail
              go_roundw
              case rel =>
                have hcu := (HB5.out.block g HGB.out.2).trans HCU.out
                have hfar : ∀ b, b ≠ g → (w3.setCell ⟨g, m * 6 + 5, none⟩ (.slice p3 (tcells rs).length k3)).heap[b]? = w3.heap[b]? := fun b hb => Below.heap_setCell _ _ _ _ hb
                refine ⟨m + 1, by omega, by go_num, DocsHalf.step HHA.out hlt HB5.out HX.out (by have := HO3.out; rw [HL8.out] at this ⊢; exact this), InstsOwn.far (HIS.out.below HB5.out) (by decide) (by decide) hcu hfar, ?_, ?_, (HBR.out.trans (HB5.out.mono HBR.out.size)).setCell (p := ⟨g, m * 6 + 5, none⟩) (by have := HGB.out.1; show _ ≤ g; omega) _⟩
                · exact (hfar _ (by have := HGB.out.1; omega)).trans ((HB5.out.block w.heap.size (Array.getElem?_eq_some_iff.1 HQR.out).1).trans HQR.out)
                · exact (hfar _ (by have := HGB.out.1; omega)).trans ((HB5.out.block (w.heap.size + 1) (Array.getElem?_eq_some_iff.1 HQR2.out).1).trans HQR2.out)
              case measure => simp [intOf]; omega
          · have HDF := Lib.hid (HHA.out.full (by omega))
            obtain ⟨d0, d1, d2, d3, d4, dz⟩ := cells5 HQR.out
            obtain ⟨f0, f1, f2, f3, f4, fz⟩ := cells5 HQR2.out
            go_wp2_with fail
            have hf := fun b (hb : b ≠ w.heap.size + 1) => putC_far wr (w.heap.size + 1) b hb (.int .i64 id) (.string mo) (.slice pI is.length cI) (.slice pD ds.length cD) (.int .i64 cl)
            refine bodyPost_ret (results_cell_row Tryd.results10 _ _ (w.heap.size + 1) 25 _ (0, 0) _ rfl (putC_at HQR2.out _ _ _ _ _) Tryd.underlying25 rfl infoC5) rfl ?_
            exact ⟨_, _, rfl, (InstsOwn.far HIS.out (by decide) (by decide) HQR2.out hf).up (by omega), (DocsOwn.far HDF.out (by decide) (by decide) HQR2.out hf).up (by omega), putC_below HBR.out (by omega) _ _ _ _ _⟩
end Go.Proofs.YtllhlmdhnmdihaaDoor

/- Cases: a copy of a document (the reference's). Written by tools/genze.py. -/
namespace Go.Proofs.YtllhlmdhnmdihaaDoor
open Go Go.RowKit Go.Shelf
set_option linter.unusedVariables false
set_option linter.unusedSimpArgs false

theorem infoD6 : (Tryd.prog.info? 55).map (·.size) = some 6 := by kernel_rfl
/-- A copy of a document: the same, but for where the references lie. -/
def CopyAsD (w : World) (x : DV) (e : Ending) (w' : World) : Prop :=
  ∃ v', e = .returned (.agg #[.string x.path, .int .i64 x.vk, .int .i64 x.vi, .bool x.vb, .string x.vt, v']) ∧ OwnS w' w.heap.size 9 1 v' x.rs.length (tcells x.rs) ∧ Below w.heap.size w w'

end Go.Proofs.YtllhlmdhnmdihaaDoor

/- Cases: a copy of a case (the reference's). Written by tools/genzf.py. -/
namespace Go.Proofs.YtllhlmdhnmdihaaDoor
open Go Go.RowKit Go.Shelf
set_option linter.unusedVariables false
set_option linter.unusedSimpArgs false

theorem InstsOwn.grow {W W' : World} {base b n s : Nat} {e : TypeId} {v vI : Value} {l : List IV} {xs : List Value} (h : InstsOwn W base vI l) (h1 : e ≠ 51) (h2 : e ≠ 3) (hr : W.ownsRow b e s v n xs) (hg : W.grownBy W' v.ownBlock) : InstsOwn W' base vI l := by
  obtain ⟨l', k1, k2, k3⟩ := h
  exact ⟨l', k1, ownr_keep k2 fun g hb => hg.block g (ownr_lt k2 g hb).2 (own_apart h1 hr (OwnS.ofRow k2) g hb), fun x hx => own_grow h2 hr (k3 x hx) hg⟩
end Go.Proofs.YtllhlmdhnmdihaaDoor

/- What the bulk's bound gives, for the second form of a statement. -/
namespace Go.Proofs.YtllhlmdhnmdihaaDoor

theorem bulk_one {H : Type} (d : DataW H) : 1 ≤ Rows.uptoBulk d := by
  cases d with
  | lit l => cases l <;> simp [Rows.uptoBulk]
  | _ => simp [Rows.uptoBulk]

theorem bulk_part {H : Type} {d : DataW H} {l : List (DataW H)} (h : d ∈ l) : Rows.uptoBulk d ≤ Rows.uptoBulkAll l := by
  induction l with
  | nil => cases h
  | cons x r ih =>
    simp only [Rows.uptoBulkAll]
    cases List.mem_cons.1 h with
    | inl e => subst e; omega
    | inr e => have := ih e; omega

theorem bulk_length {H : Type} (l : List (DataW H)) : l.length ≤ Rows.uptoBulkAll l := by
  induction l with
  | nil => simp [Rows.uptoBulkAll]
  | cons x r ih => have := bulk_one x; simp only [Rows.uptoBulkAll, List.length_cons]; omega

theorem bulk_bound {H : Type} {l : List (DataW H)} (hk : Rows.uptoSmall H l = true) : Rows.uptoBulkAll l ≤ 1048576 := of_decide_eq_true hk

theorem bulk_slice {H : Type} (elems spare l : List (DataW H)) (hk : Rows.uptoBulkAll l ≤ 1048576) (h : DataW.slice elems spare ∈ l) : elems.length ≤ 1048576 := by
  have h1 := bulk_part h
  have h2 := bulk_length elems
  simp only [Rows.uptoBulk] at h1
  omega

theorem bulk_string {H : Type} (bs : List UInt8) (l : List (DataW H)) (hk : Rows.uptoBulkAll l ≤ 1048576) (h : DataW.lit (.string bs) ∈ l) : bs.length ≤ 1048576 := by
  have h1 := bulk_part h
  simp only [Rows.uptoBulk] at h1
  omega
end Go.Proofs.YtllhlmdhnmdihaaDoor
