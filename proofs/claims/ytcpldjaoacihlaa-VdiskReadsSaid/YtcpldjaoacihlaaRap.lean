/- the reference's disk: Append. -/
import Derived.Test.YtcpldjaoacihlaaRcr
import Derived.Deep.RegionHeld3
import Derived.Deep.DeepCutAuto
import Derived.Deep.CutBlock
namespace Go.Proofs.Ytcpldjaoacihlaa
open Go.RowKit
set_option linter.unusedVariables false

set_option maxRecDepth 100000 in
set_option maxHeartbeats 4000000 in
theorem append_r {w : World} {q : Option Addr} {s : DS} {m bb : List Nat} (h : RDisk w q s m bb) (hl : s.fs.length ≤ 1000000) (n : ByteArray) (hn : n.size ≤ 9223372036854775807) (v : Value) (b : List UInt8) (hv : Rd w v b) (hap : 0 < b.length → ∀ g, v.ownBlock = some g → g ∉ m) (hb : b.length ≤ 140737488355328) :
    Calls Try.prog 33 #[.pointer q, .string n, v] w fun e w' => e = .returned (.int .i64 (s.append n.data.toList b).1) ∧ RAfter w q (s.append n.data.toList b).2 m bb w' := by
  have HD := Lib.hid h
  obtain ⟨qb, lv, G, rfl, hc, rfl, rfl, hq, hbb⟩ := h.parts
  have HN := Lib.hid hn
  have HC := Lib.hid hc
  have HQ := Lib.hid (And.intro hq hbb)
  have hlG : G.length ≤ 1000000 := by rw [← hc.len]; exact hl
  have HL := Lib.hid hlG
  have hltq := hc.ltq
  have hqb : qb ∉ bblks G := fun hm => (hbb qb hm).1 rfl
  have HQB := Lib.hid hqb
  have HO := Lib.hid (hc.ok.append n.data.toList b)
  have HV := Lib.hid hv
  have HAP := Lib.hid (show 0 < b.length → ∀ g, v.ownBlock = some g → g ≠ qb from fun h0 g hg e => hap h0 g hg (by simp [e]))
  obtain ⟨bp, bc, rfl, b1, b2, _, _⟩ := hv
  unfold maxLen at b2
  obtain ⟨c0, c1, c2, c3, cf⟩ := cells4 hc.blk
  cases hnm : namok n.data.toList with
  | false =>
    have HX := Lib.hid (show s.append n.data.toList b = (1, s) from by unfold DS.append DS.rdy; rw [hnm]; simp)
    have HM := Lib.hid hnm
    clear h hl hn hap hb hc hq hbb hlG hqb c0 c1 c2 c3 cf hnm
    go_enter Try.func33, Try.ntmps33
    go_wp2_with fail
    refine (named_r _ n HN.out).mono ?_
    rintro e w' ⟨rfl, rfl⟩
    rw [HM.out]
    go_wp2_with fail
    go_ret
    rw [HX.out]
    exact ⟨rfl, rafter_same HD.out (Below.refl _ _)⟩
  | true =>
  cases hdd : s.dead with
  | true =>
    have HX := Lib.hid (show s.append n.data.toList b = (70, s) from by unfold DS.append DS.rdy; rw [hnm, hdd]; simp)
    have HM := Lib.hid hnm
    rw [hdd] at c3
    clear h hl hn hap hb hc hq hbb hlG hqb c0 c1 c2 cf hnm hdd
    go_enter Try.func33, Try.ntmps33
    go_wp2_with fail
    refine (named_r _ n HN.out).mono ?_
    rintro e w' ⟨rfl, rfl⟩
    rw [HM.out]
    go_wp2_with fail
    go_ret
    rw [HX.out]
    exact ⟨rfl, rafter_same HD.out (Below.refl _ _)⟩
  | false =>
  rw [hdd] at c3
  have HM := Lib.hid (And.intro hnm (show s.rdy (namok n.data.toList) = 0 from by unfold DS.rdy; rw [hnm, hdd]; simp))
  obtain ⟨FU, hFU⟩ : ∃ x : Bool, x = decide (0 < b.length ∧ s.room - total s.fs < b.length) := ⟨_, rfl⟩
  have HFU := Lib.hid hFU
  have r0 := hc.ok.room0
  have r1 := hc.ok.room1
  have r2 := hc.ok.tot
  have r3 : b.length ≤ 9223372036854775807 := by omega
  have X1 := Lib.hid (show IntKind.i64.wrap (s.room - (total s.fs : Int)) = s.room - (total s.fs : Int) from IntWalk.i64_in _ (by omega))
  have HB0 := Lib.hid hb
  have KEEP : ∀ w', Below w.heap.size w w' → w'.cell? ⟨qb, 1, none⟩ = some (.int .i64 s.room) ∧ Below w.heap.size w w' := fun w' hb => ⟨by rw [hb.cell (by simp; omega)]; exact c1, hb⟩
  have HKP := Lib.hid KEEP
  have HR2 := Lib.hid (And.intro r0 (And.intro r1 r2))
  clear h hl hn hap hb hc hq hbb hlG hqb c0 c2 cf hnm hdd hFU KEEP
  go_enter Try.func33, Try.ntmps33
  go_wp2_with fail
  refine (named_r _ n HN.out).mono ?_
  rintro e w' ⟨rfl, rfl⟩
  rw [HM.out.1]
  go_wp2_with fail
  go_cut [32] (fun c wx => c = .bool FU ∧ Below w.heap.size w wx)
  case first =>
    by_cases f1 : 0 < b.length
    · have x1 := X1.out
      have t1 : decide (0 < b.length) = true := decide_eq_true f1
      go_region_held3 (fun w' => w'.cell? ⟨qb, 1, none⟩ = some (.int .i64 s.room) ∧ Below w.heap.size w w')
        (first
          | exact HKP.out _ (Below.refl _ _)
          | exact HKP.out _ ((Below.refl _ _).drew)
          | (refine HKP.out _ ?_; assumption)
          | (refine HKP.out _ (Below.drew ?_); assumption))
        (first
          | (go_split_ands; go_at_call 43; refine (used_r (HC.out.below ?_)).mono ?_
             · assumption
             rintro e w2 ⟨rfl, hB2⟩
             have hB3 : Below w.heap.size w w2 := Below.trans (by assumption) (hB2.mono (Below.size (by assumption))))
          | fail "no arm")
      all_goals
        go_wp2_with fail
        go_meet
        refine ⟨?_, by assumption⟩
        rw [HFU.out]
        simp [f1]
    · have t1 : decide (0 < b.length) = false := decide_eq_false f1
      go_quiet (fail)
      go_wp2_with fail
      go_meet
      refine ⟨?_, below_drewN (Below.refl _ _) _⟩
      rw [HFU.out]
      simp [f1]
  case rest =>
  obtain ⟨rfl, hB⟩ := hcut
  have HB := Lib.hid hB
  have hszx := hB.size
  clear hB
  cases FU with
  | true =>
    have hF : 0 < b.length ∧ s.room - total s.fs < b.length := of_decide_eq_true HFU.out.symm
    have HX := Lib.hid (show s.append n.data.toList b = (71, s) from by unfold DS.append; rw [HM.out.2, if_neg (by simp), if_pos hF])
    clear hF
    go_wp2_with fail
    go_ret
    rw [HX.out]
    exact ⟨rfl, rafter_same HD.out HB.out⟩
  | false =>
  have hF : ¬ (0 < b.length ∧ s.room - total s.fs < b.length) := of_decide_eq_false HFU.out.symm
  have HF := Lib.hid hF
  have HBL := Lib.hid (show b.length ≤ 4194304 from by have := HR2.out; omega)
  clear hF
  go_wp2_with fail
  refine (burn_r (HC.out.below HB.out) HQ.out.1 HQB.out).mono ?_
  rintro e w2 ⟨rfl, hc2, hg2⟩
  by_cases hz : s.fuse = 0
  · have HX := Lib.hid (show s.append n.data.toList b = (70, s.burn) from by unfold DS.append; rw [HM.out.2, if_neg (by simp), if_neg HF.out, if_pos hz])
    rw [if_pos hz]
    have HC2 := Lib.hid (And.intro hc2 hg2)
    clear hz hc2 hg2
    go_wp2_with fail
    go_ret
    rw [HX.out]
    exact ⟨rfl, rafter_mk HC2.out.1 hltq HQ.out.1 (.inl rfl) (fun i hi => .inl hi) HQ.out.2 (((Chg.of_below HB.out).trans HC2.out.2).mono (by simp))⟩
  · rw [if_neg hz]
    have HC2 := Lib.hid (And.intro hc2 ((Chg.of_below HB.out).trans hg2))
    have hlt2 : qb < w2.heap.size := hc2.ltq
    have hsz2 : w.heap.size ≤ w2.heap.size := ((Chg.of_below (S := [qb]) HB.out).trans hg2).size
    have HZ := Lib.hid hz
    clear hz hc2 hg2
    obtain ⟨i0, hi, hz0, hz1, hz2⟩ := info_parts infoU8
    obtain ⟨D0, hD0⟩ : ∃ x, x = (fileA n.data.toList s.fs).data := ⟨_, rfl⟩
    obtain ⟨sy0, hsy0⟩ : ∃ x, x = (fileA n.data.toList s.fs).sy := ⟨_, rfl⟩
    obtain ⟨zs, hzs⟩ : ∃ zs, zs = D0 ++ b := ⟨_, rfl⟩
    have HZS := Lib.hid hzs
    have HX := Lib.hid (show s.append n.data.toList b = (0, { s.burn with fs := putA n.data.toList ⟨zs, sy0⟩ s.fs }) from by
      unfold DS.append; rw [HM.out.2, if_neg (by simp), if_neg HF.out, if_neg HZ.out, hzs, hD0, hsy0])
    have HDL := Lib.hid (show D0.length ≤ 4194304 from by have := fileA_tot n.data.toList HC.out.ok.ris; rw [← hD0] at this; have := HC.out.ok.tot; omega)
    have HD0 := Lib.hid (And.intro hD0 hsy0)
    clear hzs hD0 hsy0
    go_wp2_with fail
    refine (place_r (HC2.out.1.alloc _) n HN.out).mono ?_
    rintro e w' ⟨rfl, k, rfl⟩
    obtain ⟨FD, hFD⟩ : ∃ x, x = (getA n.data.toList G).isSome := ⟨_, rfl⟩
    obtain ⟨K, hK⟩ : ∃ K, K = posA n.data.toList G := ⟨_, rfl⟩
    rw [← hFD, ← hK]
    have HFD := Lib.hid hFD
    have HK := Lib.hid hK
    clear hFD hK
    go_upto_if 46 with fail
    go_cut [8] (fun b8 wx => ∃ bv0 : Value, b8 = .pointer (some ⟨w2.heap.size, 0, none⟩) ∧ wx.heap[w2.heap.size]? = some (.cells #[.string n, bv0, .int .i64 sy0] 69 (0, 0)) ∧ Chg [w2.heap.size] (w2.alloc (.cells #[.string n, .slice none 0 0, .int .i64 0] 69)) wx ∧ wx.heap.size = w2.heap.size + 1 ∧
      (∀ W : World, (∀ g ∈ bblks G, W.heap[g]? = w.heap[g]?) → Rd W bv0 D0))
    case first =>
      cases FD with
      | false =>
        have hg : getA n.data.toList G = none := by
          have := HFD.out
          cases h : getA n.data.toList G with
          | none => rfl
          | some x => rw [h] at this; cases this
        have HE := Lib.hid (show D0 = [] ∧ sy0 = 0 from by
          have hfl : fileA n.data.toList s.fs = Fl.none := by rw [HC.out.fs, fils_get, hg]; rfl
          rw [HD0.out.1, HD0.out.2, hfl]; exact ⟨rfl, rfl⟩)
        clear hg
        go_wp2_with fail
        go_meet
        refine ⟨.slice none 0 0, rfl, ?_, (Chg.refl _ _).drewN _, by simp, fun W _ => by rw [HE.out.1]; exact Rd.nil W⟩
        rw [HE.out.2]
        exact heap_alloc_new w2 _
      | true =>
        obtain ⟨x, hg⟩ := Option.isSome_iff_exists.1 HFD.out.symm
        obtain ⟨v1, f⟩ := x
        have hfl : fileA n.data.toList s.fs = f := by
          rw [HC.out.fs, fils_get, hg]; rfl
        have hmem := getA_mem hg
        have hrd := HC.out.rd _ hmem
        obtain ⟨fp, fc, hv1, k1, k2, _, _⟩ := id hrd
        simp only at hv1 k1 k2
        subst hv1
        have HRD := Lib.hid (show ∀ W : World, (∀ g ∈ bblks G, W.heap[g]? = w.heap[g]?) → Rd W (.slice fp f.data.length fc) D0 from fun W hW => by
          rw [HD0.out.1, hfl]; exact Rd.keep' hrd fun g h1 h2 => hW g (mem_bblks hmem h1 h2))
        have HSY := Lib.hid (show sy0 = f.sy from by rw [HD0.out.2, hfl])
        obtain ⟨hlt, hsp⟩ := getA_split HC.out.risG hg
        have hel : G[posA n.data.toList G] = (n.data.toList, (Value.slice fp f.data.length fc, f)) := by
          have h1 := getA_of_mem HC.out.risG (show (G[posA n.data.toList G].1, G[posA n.data.toList G].2) ∈ G from List.getElem_mem hlt)
          have hf := posA_found HC.out.risG hlt rfl
          rw [hg] at hf
          have hnn : G[posA n.data.toList G].1 = n.data.toList := by simpa using hf.symm
          rw [hnn, hg] at h1
          exact Prod.ext hnn (by simpa using h1.symm)
        obtain ⟨g, off, c, hlv, n1, n2, n3⟩ := HC2.out.1.ent hlt
        rw [hel] at n1 n2 n3
        subst hlv
        have d0 := (cells4 HC2.out.1.blk).1
        have hKo := HK.out
        simp only [← hKo] at n1 n2 n3 hlt
        simp only [show (⟨n.data.toList.toArray⟩ : ByteArray) = n from by simp] at n1
        have hltg := World.block_lt_of_cell? w2 _ n1
        have hcl := HC.out.row.form
        have hlc : G.length ≤ c := by obtain ⟨_, _, e, h1, _⟩ := hcl; simp only [Value.slice.injEq, true_and] at e; omega
        have hcm : c ≤ 9223372036854775807 := by obtain ⟨_, _, e, _, h1, _⟩ := hcl; simp only [Value.slice.injEq, true_and] at e; unfold maxLen at h1; omega
        clear hg hfl hmem hrd k1 k2 hsp hel hcl hKo
        go_wp2_with fail
        go_meet
        refine ⟨.slice fp f.data.length fc, rfl, ?_, (((((Chg.refl _ _).drewN _).set' _ _ _ (by simp)).set' _ _ _ (by simp)).set' _ _ _ (by simp)), by simp [World.size_setCell], HRD.out⟩
        rw [HSY.out]
        exact (heap_mod (heap_mod (heap_mod (heap_alloc_new w2 _)))).trans rfl
    case rest =>
    obtain ⟨bv0, rfl, hbx, hgx, hsx, hrx⟩ := hcut
    have hr0 := hrx w (fun _ _ => rfl)
    obtain ⟨fp, fc, rfl, _⟩ := hr0
    have HCX := Lib.hid (show Chg [qb] w wc from (HC2.out.2.alloc' _).then hgx (by simp; omega))
    have HRX := Lib.hid (hrx wc (fun g hg => HCX.out.block g (HC.out.ltb g hg) (by simp only [List.mem_singleton]; exact (HQ.out.2 g hg).1)))
    have HBX := Lib.hid hbx
    have HGX := Lib.hid (show ∀ i, i < w2.heap.size → wc.heap[i]? = w2.heap[i]? from fun i h1 => (hgx.block i (by simp; omega) (by simp; omega)).trans (Below.heap_alloc _ _ _ h1))
    have HS := Lib.hid (show ∀ W, Rd W (.slice fp D0.length fc) D0 → Src Try.prog 1 31 (.slice fp D0.length fc) D0.length (bcells D0) W from fun W hW => hW.src Try.underlying31)
    obtain ⟨x0, x1, x2, xf⟩ := cells3 hbx
    have hs1 : w2.heap.size < wc.heap.size := Nat.le_of_eq hsx.symm
    have hs2 : wc.heap.size ≤ w2.heap.size + 1 := Nat.le_of_eq hsx
    clear hbx hgx hrx hsx
    go_wp2_with (first
      | (at_builtin; refine wpList_append_srcA rfl (Operand.tmp 54) (Operand.tmp 56) 31 31 (by rfl) (w2.heap.size + 1) 5 i0 (.int .u8 0) 1 Try.underlying31 hi hz0 hz1 hz2 rfl (.slice (some ⟨wc.heap.size, 0, none⟩) 0 0) 0 [] (by rfl) (own_row0 (heap_new _ _ (by simp)) (by omega)) (.slice fp D0.length fc) D0.length (bcells D0) (by rfl) (HS.out _ (HRX.out.alloc _)) (by have := HDL.out; unfold maxLen; omega) (by have := HDL.out; omega) (by simp; omega) ?_; intro va wa howna hgrowa hloca; rw [Nat.zero_add, List.nil_append] at howna; have HOA := Lib.hid howna; have HGA := Lib.hid hgrowa; have HLA := Lib.hid hloca; clear howna hgrowa hloca; have HCA := Lib.hid (show Chg [qb] w wa from (HCX.out.alloc' _).then (T := [wc.heap.size]) (Chg.of_grown HGA.out (fun g hg => .inl (by have e' : wc.heap.size = g := Option.some.inj hg; simp [e']))) (by simp; omega)); have HBA := Lib.hid ((HGA.out.block w2.heap.size (by simp; omega) (fun e => by have e' : w2.heap.size = wc.heap.size := Option.some.inj e; omega)).trans ((Below.heap_alloc _ _ _ (by omega)).trans HBX.out)); have HFA := Lib.hid (show ∀ i, i < w2.heap.size → wa.heap[i]? = w2.heap[i]? from fun i h1 => (HGA.out.block i (by simp; omega) (fun e => by have e' : i = wc.heap.size := Option.some.inj e; omega)).trans ((Below.heap_alloc _ _ _ (by omega)).trans (HGX.out i h1))); obtain ⟨p0, p1, p2, pf⟩ := cells3 HBA.out; have hlwa : w2.heap.size < wa.heap.size := World.block_lt_of_cell? wa _ p0)
      | (at_builtin; go_must (refine wpList_append_srcA rfl (Operand.tmp 57) (Operand.tmp 58) 31 31 (by rfl) (w2.heap.size + 1) 5 i0 (.int .u8 0) 1 Try.underlying31 hi hz0 hz1 hz2 rfl va D0.length (bcells D0) (by rfl) HOA.out (.slice bp b.length bc) b.length (bcells b) (by rfl) ((Rd.keep' HV.out (fun g h1 h2 => HCA.out.block g (Rd.lt HV.out (by omega) g h2) (by simp only [List.mem_singleton]; exact HAP.out (by omega) g h2))).src Try.underlying31) (by have := HDL.out; have := HBL.out; unfold maxLen; omega) (by have := HDL.out; have := HBL.out; omega) (by omega) ?_); intro vb wb hownb hgrowb hlocb; rw [← bcells_append, ← HZS.out] at hownb; have HO2 := Lib.hid (own_bytes hownb rfl); have HGB := Lib.hid hgrowb; clear hownb hgrowb hlocb; obtain ⟨a2, cp2, hvb, v1, v2, v3⟩ := own_form HO2.out; subst hvb; have HBB := Lib.hid ((HGB.out.block w2.heap.size hlwa (fun e => by have := (HOA.out.lt _ e.symm).1; omega)).trans HBA.out); obtain ⟨y0, y1, y2, yf⟩ := cells3 HBB.out; have yf1 := yf 1))
    have HCB := Lib.hid (show Chg [qb] w wb from HCA.out.then (T := va.ownBlock.toList) (Chg.of_grown HGB.out (fun g hg => .inl (by simp [hg]))) (fun i hi => .inr (by have := (HOA.out.lt i (by simpa using hi)).1; omega)))
    have hg3 : Chg [qb] w (wb.setCell ⟨w2.heap.size, 1, none⟩ (.slice a2 zs.length cp2)) := HCB.out.set' _ _ _ (.inr hsz2)
    have hfar' : ∀ i, i < w2.heap.size → (wb.setCell ⟨w2.heap.size, 1, none⟩ (.slice a2 zs.length cp2)).heap[i]? = w2.heap[i]? := fun i h1 => (Below.heap_setCell _ _ _ _ (show i ≠ w2.heap.size by omega)).trans ((HGB.out.block i (by omega) (fun e => by have := (HOA.out.lt _ e.symm).1; omega)).trans (HFA.out i h1))
    have hc3 := HC2.out.1.keep (hfar' qb hlt2) (fun g hg => hfar' g (HC2.out.1.row.lt g hg)) (fun g hg => hfar' g (HC2.out.1.ltb g hg))
    have hown : ∀ g, (Value.slice a2 zs.length cp2).ownBlock = some g → w2.heap.size + 1 ≤ g ∧ g < wb.heap.size := fun g hg => HO2.out.lt g hg
    have hrd5 : Rd (wb.setCell ⟨w2.heap.size, 1, none⟩ (.slice a2 zs.length cp2)) (.slice a2 zs.length cp2) zs := Rd.keep' (Rd.of_own HO2.out) fun g _ hg => by
      have := (hown g hg).1
      exact Below.heap_setCell _ _ _ _ (show g ≠ w2.heap.size by omega)
    have HG3 := Lib.hid (And.intro hg3 (And.intro hc3 hown))
    refine (set_r hc3 HQ.out.1 HQ.out.2 HL.out n HN.out _ ⟨zs, sy0⟩ hrd5 (fun i h1 h2 => by
      have := (hown i h2).1
      refine ⟨by omega, fun e => ?_⟩
      have := HC.out.row.lt i e
      omega) (by have := HO.out; rw [HX.out] at this; rw [DS.burn_fs]; exact this)).mono ?_
    clear hg3 hc3 hfar' hown hrd5
    rintro e w5 ⟨rfl, hp5⟩
    have HP5 := Lib.hid hp5
    clear hp5
    go_wp2_with fail
    go_ret
    rw [HX.out]
    have hfin := rafter_set HC.out HQ.out.1 HQ.out.2 HG3.out.1 HP5.out (fun i h1 h2 => .inr (by
      have h3 := HG3.out.2.2 i h2
      exact ⟨by omega, by simpa using h3.2⟩))
    rw [DS.burn_fs] at hfin
    exact ⟨rfl, hfin⟩
end Go.Proofs.Ytcpldjaoacihlaa
