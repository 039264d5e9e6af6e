/- the reference's disk: Truncate. -/
import Derived.Test.YtcpldjaoacihlaaRn
namespace Go.Proofs.Ytcpldjaoacihlaa
open Go.RowKit
set_option linter.unusedVariables false

set_option maxRecDepth 100000 in
set_option maxHeartbeats 1000000 in
theorem trunc_r {w : World} {q : Option Addr} {s : DS} {m bb : List Nat} (h : RDisk w q s m bb) (hl : s.fs.length ≤ 1000000) (n : ByteArray) (hn : n.size ≤ 9223372036854775807) (k : Int) (hk : -9223372036854775808 ≤ k ∧ k ≤ 9223372036854775807) :
    Calls Try.prog 36 #[.pointer q, .string n, .int .i64 k] w fun e w' => e = .returned (.int .i64 (s.trunc n.data.toList k).1) ∧ RAfter w q (s.trunc n.data.toList k).2 m bb w' := by
  have HD := Lib.hid h
  obtain ⟨qb, lv, G, rfl, hc, rfl, rfl, hq, hbb⟩ := h.parts
  have HN := Lib.hid hn
  have HC := Lib.hid hc
  have HQ := Lib.hid (And.intro hq hbb)
  have hlG : G.length ≤ 1000000 := by rw [← hc.len]; exact hl
  have HL := Lib.hid hlG
  have hltq := hc.ltq
  have hqb : qb ∉ bblks G := fun hm => (hbb qb hm).1 rfl
  have HO := Lib.hid (hc.ok.trunc n.data.toList k)
  by_cases hk0 : k < 0
  · have HX := Lib.hid (show s.trunc n.data.toList k = (1, s) from by unfold DS.trunc DS.change DS.beg DS.aft DS.fnd DS.rdy; rw [show decide (0 ≤ k) = false from by simp; omega]; simp)
    clear h hc hq hbb hlG hl hn hqb
    go_enter Try.func36, Try.ntmps36
    go_wp2_with fail
    go_ret
    rw [HX.out]
    exact ⟨rfl, rafter_same HD.out (Below.refl _ _)⟩
  have hkk : 0 ≤ k := by omega
  have hkd : decide (0 ≤ k) = true := by simp [hkk]
  by_cases h0 : s.fnd n.data.toList true = 0
  · obtain ⟨hd, f, hf⟩ := fnd0 h0
    obtain ⟨v, hx⟩ := hc.getG hf
    have hmem := getA_mem hx
    have hrd := hc.rd _ hmem
    obtain ⟨bp, bc, hv, r1, r2, r3, r4⟩ := id hrd
    simp only at hv r1 r2
    subst hv
    have hbvb : ∀ i, f.data.length ≠ 0 → (Value.slice bp f.data.length bc).ownBlock = some i → i ∈ bblks G := fun i h1 h2 => mem_bblks hmem h1 h2
    by_cases hz : s.fuse = 0
    · have HX := Lib.hid (show s.trunc n.data.toList k = (70, s.burn) from by unfold DS.trunc DS.change DS.beg DS.aft; simp [h0, hz, hkd])
      have HI := Lib.hid (And.intro hd (And.intro hx (And.intro hz hqb)))
      clear h hc hq hbb hlG hl hn hqb h0 hk0 hkd hd hf hx hmem hrd hbvb r1 r2 r3 r4
      go_enter Try.func36, Try.ntmps36
      go_wp2_with fail
      refine (there_ok HC.out n HN.out HI.out.1 HI.out.2.1).mono ?_
      rintro e w1 ⟨rfl, hB1⟩
      have HB1 := Lib.hid hB1
      clear hB1
      go_wp2_with fail
      refine (burn_r (HC.out.below (HB1.out.alloc HB1.out.size _)) HQ.out.1 HI.out.2.2.2).mono ?_
      rintro e w2 ⟨rfl, hc2, hg2⟩
      rw [if_pos HI.out.2.2.1]
      go_wp2_with fail
      go_ret
      rw [HX.out]
      exact ⟨rfl, rafter_mk hc2 hltq HQ.out.1 (.inl rfl) (fun i hi => .inl hi) HQ.out.2 (((Chg.of_below (HB1.out.alloc HB1.out.size _)).trans hg2).mono (by simp))⟩
    · obtain ⟨M, hM⟩ : ∃ M, M = min k.toNat f.data.length := ⟨_, rfl⟩
      have HX := Lib.hid (show s.trunc n.data.toList k = (0, { s.burn with fs := putA n.data.toList ⟨f.data.take M, min M f.sy⟩ s.fs }) from by unfold DS.trunc DS.change DS.beg; simp [h0, hz, fileA, hf, hkd, Fl.cut, hM])
      have HI := Lib.hid (And.intro hd (And.intro hx (And.intro hz hqb)))
      have HR := Lib.hid (And.intro hrd hbvb)
      unfold maxLen at r2
      have r5 : f.data.length ≤ 9223372036854775807 := by omega
      have hML : M ≤ f.data.length := by omega
      have X1 : min k (f.data.length : Int) = (M : Int) := by omega
      have X2 : min (f.sy : Int) (M : Int) = ((min M f.sy : Nat) : Int) := by omega
      have i1 : (0 : Int) ≤ (M : Int) := by omega
      have i2 : (M : Int) ≤ (f.data.length : Int) := by omega
      have i3 : (M : Int) ≤ (bc : Int) := by omega
      have HMM := Lib.hid (And.intro hML (show f.data.length ≤ 4194304 from by have := total_mem (getA_mem hf); have := hc.ok.tot; omega))
      obtain ⟨i0, hi, hz0, hz1, hz2⟩ := info_parts infoU8
      clear h hc hq hbb hlG hl hn hqb h0 hk0 hkd hd hf hx hmem hrd hbvb r1 r2 r3 r4 hM
      go_enter Try.func36, Try.ntmps36
      go_wp2_with fail
      refine (there_ok HC.out n HN.out HI.out.1 HI.out.2.1).mono ?_
      rintro e w1 ⟨rfl, hB1⟩
      have HB1 := Lib.hid hB1
      have hsz1 := hB1.size
      clear hB1
      go_wp2_with fail
      refine (burn_r (HC.out.below (HB1.out.alloc HB1.out.size _)) HQ.out.1 HI.out.2.2.2).mono ?_
      rintro e w2 ⟨rfl, hc2, hg2⟩
      have HC2 := Lib.hid (And.intro hc2 hg2)
      have hbx := (hg2.block w1.heap.size (by simp) (by simp; omega)).trans (heap_alloc_new w1 _)
      obtain ⟨x0, x1, x2, xf⟩ := cells3 hbx
      have HBX := Lib.hid hbx
      clear hc2 hg2 hbx
      have xf2 := xf 2
      have hlt2 : w1.heap.size < w2.heap.size := World.block_lt_of_cell? w2 _ x0
      rw [if_neg HI.out.2.2.1]
      obtain ⟨T, hT⟩ : ∃ T, T = f.data.take M := ⟨_, rfl⟩
      have hTl : T.length = M := by rw [hT, List.length_take]; omega
      have HT := Lib.hid (And.intro hT hTl)
      have hrt : Rd w2 (.slice bp M bc) T := by rw [hT]; exact (HC2.out.1.rd _ (getA_mem HI.out.2.1)).to M hML
      have HRT := Lib.hid hrt
      have HS := Lib.hid (show ∀ W, Rd W (.slice bp M bc) T → Src Try.prog 1 31 (.slice bp M bc) M (bcells T) W from fun W hW => by have := hW.src Try.underlying31; rwa [hTl] at this)
      have hsz2 : w.heap.size ≤ w2.heap.size := by omega
      have HM := Lib.hid (World.ownsRow_made w2 #[] 0 (base := w2.heap.size) (e := 5) (size := 1) (Nat.le_refl _) (by unfold maxLen; omega) rfl)
      clear hT hTl hrt
      go_wp2_with (at_builtin; go_must (refine wpList_append_src rfl _ _ 31 31 rfl w2.heap.size 5 i0 (.int .u8 0) 1 Try.underlying31 hi hz0 hz1 hz2 rfl _ 0 [] rfl HM.out _ M (bcells T) rfl (HS.out _ (HRT.out.alloc _)) (by have := HMM.out; unfold maxLen; omega) (by have := HMM.out; omega) (by simp) ?_); intro v' w4 hown2 hgrow2; rw [Nat.zero_add, List.nil_append] at hown2; have HO2 := Lib.hid (own_bytes hown2 rfl); have HG := Lib.hid hgrow2; clear hown2 hgrow2; obtain ⟨a2, cp2, hv, v1, v2, v3⟩ := own_form HO2.out; rw [HT.out.2] at hv v1; subst hv; obtain ⟨y0, y1, y2, yf⟩ := cells3 ((HG.out.block w1.heap.size (by simp; omega) (fun e => by have e' : w1.heap.size = w2.heap.size := Option.some.inj e; omega)).trans ((Below.heap_alloc _ _ _ hlt2).trans HBX.out)); have yf1 := yf 1; have yf2 := yf 2)
      have hC4 : Chg [qb] w w4 := (((Chg.of_below (HB1.out.alloc HB1.out.size _)).trans HC2.out.2).alloc' _).then (T := [w2.heap.size]) (Chg.of_grown HG.out (fun g hg => .inl (by have e' : w2.heap.size = g := Option.some.inj hg; simp [e']))) (by simp; omega)
      have hg3 : Chg [qb] w ((w4.setCell ⟨w1.heap.size, 1, none⟩ (.slice a2 M cp2)).setCell ⟨w1.heap.size, 2, none⟩ (.int .i64 ((min M f.sy : Nat) : Int))) := (hC4.set' _ _ _ (.inr hsz1)).set' _ _ _ (.inr hsz1)
      have hfar : ∀ i, i < w.heap.size → ((w4.setCell ⟨w1.heap.size, 1, none⟩ (.slice a2 M cp2)).setCell ⟨w1.heap.size, 2, none⟩ (.int .i64 ((min M f.sy : Nat) : Int))).heap[i]? = w2.heap[i]? := fun i hi =>
        (Below.heap_setCell _ _ _ _ (show i ≠ w1.heap.size by omega)).trans ((Below.heap_setCell _ _ _ _ (show i ≠ w1.heap.size by omega)).trans ((HG.out.block i (by simp; omega) (fun e => by have e' : i = w2.heap.size := Option.some.inj e; omega)).trans (Below.heap_alloc _ _ _ (by omega))))
      have hc3 := HC2.out.1.keep (hfar qb hltq) (fun g hg => hfar g (HC.out.row.lt g hg)) (fun g hg => hfar g (HC.out.ltb g hg))
      have hown : ∀ g, (Value.slice a2 M cp2).ownBlock = some g → w2.heap.size ≤ g ∧ g < w4.heap.size := fun g hg => HO2.out.lt g hg
      have hrd5 : Rd ((w4.setCell ⟨w1.heap.size, 1, none⟩ (.slice a2 M cp2)).setCell ⟨w1.heap.size, 2, none⟩ (.int .i64 ((min M f.sy : Nat) : Int))) (.slice a2 M cp2) T := Rd.keep' (Rd.of_own HO2.out) fun g _ hg => by
        have := (hown g hg).1
        exact (Below.heap_setCell _ _ _ _ (show g ≠ w1.heap.size by omega)).trans (Below.heap_setCell _ _ _ _ (show g ≠ w1.heap.size by omega))
      rw [HT.out.1] at hrd5
      have HG3 := Lib.hid (And.intro hg3 (And.intro hc3 hown))
      refine (set_r hc3 HQ.out.1 HQ.out.2 HL.out n HN.out _ ⟨f.data.take M, min M f.sy⟩ hrd5 (fun i h1 h2 => by
        have := (hown i h2).1
        refine ⟨by omega, fun e => ?_⟩
        have := HC.out.row.lt i e
        omega) (by have := HO.out; rw [HX.out] at this; rw [DS.burn_fs]; exact this)).mono ?_
      clear hg3 hc3 hC4 hfar hown hrd5
      rintro e w5 ⟨rfl, hp5⟩
      have HP5 := Lib.hid hp5
      clear hp5
      go_wp2_with fail
      go_ret
      rw [HX.out]
      have hfin := rafter_set HC.out HQ.out.1 HQ.out.2 HG3.out.1 HP5.out (fun i h1 h2 => .inr (by
        have := HG3.out.2.2 i h2
        have h3 := this.1
        exact ⟨by omega, by simpa using this.2⟩))
      rw [DS.burn_fs] at hfin
      exact ⟨rfl, hfin⟩
  · have HX := Lib.hid (show s.trunc n.data.toList k = (s.fnd n.data.toList true, s) from by unfold DS.trunc DS.change DS.beg DS.aft; simp [h0, hkd])
    have HI := Lib.hid h0
    obtain ⟨E, hE⟩ : ∃ E, E = s.fnd n.data.toList true := ⟨_, rfl⟩
    have HE := Lib.hid hE
    have t : (E == 0) = false := by rw [hE]; simp [h0]
    clear h hc hq hbb hlG hl hn hqb h0 hE hk0 hkd
    go_enter Try.func36, Try.ntmps36
    go_wp2_with fail
    refine (there_no HC.out n HN.out HI.out).mono ?_
    rintro e w1 ⟨rfl, hB1⟩
    rw [← HE.out]
    go_wp2_with fail
    go_ret
    rw [HX.out]
    exact ⟨by rw [HE.out]; rfl, rafter_same HD.out (hB1.alloc hB1.size _)⟩
end Go.Proofs.Ytcpldjaoacihlaa
