/- the reference's disk: Rename. -/
import Derived.Test.YtcpldjaoacihlaaRq
namespace Go.Proofs.Ytcpldjaoacihlaa
open Go.RowKit
set_option linter.unusedVariables false

theorem rafter_set' {w w3 w4 : World} {qb : Nat} {s s1 : DS} {lv lv3 : Value} {G G3 : Ents} {n : List UInt8} {bv : Value} {f : Fl} (hc : RC w qb s lv G) (hq : lv.ownBlock ≠ some qb) (hbb : ∀ i ∈ bblks G, i ≠ qb ∧ lv.ownBlock ≠ some i)
    (hl3 : lv3.ownBlock = lv.ownBlock ∨ (∃ g, lv3.ownBlock = some g ∧ w.heap.size ≤ g) ∨ lv3.ownBlock = none) (hG3 : ∀ i ∈ bblks G3, i ∈ bblks G) (hg3 : Chg (qb :: lv.ownBlock.toList) w w3)
    (hp : SetPost w3 qb s1 lv3 G3 n bv f w4) (hb : ∀ i, f.data.length ≠ 0 → bv.ownBlock = some i → i ∈ bblks G ∨ (w.heap.size ≤ i ∧ i < w3.heap.size ∧ lv3.ownBlock ≠ some i)) :
    RAfter w (some ⟨qb, 0, none⟩) { s1 with fs := putA n f s1.fs } (qb :: lv.ownBlock.toList) (bblks G) w4 := by
  obtain ⟨lv', hc4, hl4, hg4⟩ := hp
  have hle := hg3.size
  have hltq := hc.ltq
  have hl : lv'.ownBlock = lv3.ownBlock ∨ ∃ g, lv'.ownBlock = some g ∧ w3.heap.size < g := hl4
  refine rafter_mk hc4 hltq hq ?_ (fun i hi => ?_) (fun i hi => ?_) (hg3.then hg4 ?_)
  · rcases hl with e | ⟨g, e, hge⟩
    · rw [e]; exact hl3
    · exact .inr (.inl ⟨g, e, by omega⟩)
  · rcases bblks_put i hi with hi | ⟨h1, h2⟩
    · exact .inl (hG3 i hi)
    · exact (hb i h1 h2).imp id (·.1)
  · have hold : ∀ i ∈ bblks G, i ≠ qb ∧ lv'.ownBlock ≠ some i := fun i hi => ⟨(hbb i hi).1, fun e => by
      have := hc.ltb i hi
      rcases hl with e' | ⟨g, e', hge⟩
      · rw [e'] at e
        rcases hl3 with e3 | ⟨g, e3, hge⟩ | e3
        · exact (hbb i hi).2 (by rw [← e3]; exact e)
        · rw [e3] at e; cases e; omega
        · rw [e3] at e; cases e
      · rw [e'] at e
        cases e
        omega⟩
    rcases bblks_put i hi with hi | ⟨h1, h2⟩
    · exact hold i (hG3 i hi)
    · rcases hb i h1 h2 with hi | ⟨h3, h4, h5⟩
      · exact hold i hi
      · refine ⟨by omega, fun e => ?_⟩
        rcases hl with e' | ⟨g, e', hge⟩
        · exact h5 (by rw [← e']; exact e)
        · rw [e'] at e
          cases e
          omega
  · intro i hi
    simp only [List.mem_cons, Option.mem_toList] at hi ⊢
    rcases hi with e | e
    · exact .inl (.inl e)
    · rcases hl3 with e3 | ⟨g, e3, hge⟩ | e3
      · exact .inl (.inr (by rw [← e3]; exact e))
      · rw [e3] at e; cases e; exact .inr hge
      · rw [e3] at e; cases e

set_option maxRecDepth 100000 in
set_option maxHeartbeats 1000000 in
theorem rename_r {w : World} {q : Option Addr} {s : DS} {m bb : List Nat} (h : RDisk w q s m bb) (hl : s.fs.length ≤ 1000000) (n : ByteArray) (hn : n.size ≤ 9223372036854775807) (k : ByteArray) (hk : k.size ≤ 9223372036854775807) :
    Calls Try.prog 35 #[.pointer q, .string n, .string k] w fun e w' => e = .returned (.int .i64 (s.rename n.data.toList k.data.toList).1) ∧ RAfter w q (s.rename n.data.toList k.data.toList).2 m bb w' := by
  have HD := Lib.hid h
  obtain ⟨qb, lv, G, rfl, hc, rfl, rfl, hq, hbb⟩ := h.parts
  have HN := Lib.hid hn
  have HK := Lib.hid hk
  have HC := Lib.hid hc
  have HQ := Lib.hid (And.intro hq hbb)
  have hlG : G.length ≤ 1000000 := by rw [← hc.len]; exact hl
  have HL := Lib.hid hlG
  have hltq := hc.ltq
  have hqb : qb ∉ bblks G := fun hm => (hbb qb hm).1 rfl
  have HO := Lib.hid (hc.ok.rename n.data.toList k.data.toList)
  cases hkk : namok k.data.toList with
  | false =>
    have HX := Lib.hid (show s.rename n.data.toList k.data.toList = (1, s) from by unfold DS.rename DS.change DS.beg DS.aft DS.fnd DS.rdy; simp [hkk])
    have HKK := Lib.hid hkk
    clear h hc hq hbb hlG hl hn hk hqb hkk
    go_enter Try.func35, Try.ntmps35
    go_wp2_with fail
    refine (named_r _ k HK.out).mono ?_
    rintro e w1 ⟨rfl, rfl⟩
    rw [HKK.out]
    go_wp2_with fail
    go_ret
    rw [HX.out]
    exact ⟨rfl, rafter_same HD.out (Below.refl _ _)⟩
  | true =>
  have HKK := Lib.hid hkk
  by_cases h0 : s.fnd n.data.toList true = 0
  · obtain ⟨hd, f, hf⟩ := fnd0 h0
    obtain ⟨v, hx⟩ := hc.getG hf
    have hmem := getA_mem hx
    have hrd := hc.rd _ hmem
    obtain ⟨bp, bc, hv, r1, r2, r3, r4⟩ := id hrd
    simp only at hv r1 r2
    subst hv
    have hbvb : ∀ i, f.data.length ≠ 0 → (Value.slice bp f.data.length bc).ownBlock = some i → i ∈ bblks G := fun i h1 h2 => mem_bblks hmem h1 h2
    by_cases hz : s.fuse = 0
    · have HX := Lib.hid (show s.rename n.data.toList k.data.toList = (70, s.burn) from by unfold DS.rename DS.change DS.beg DS.aft; simp [h0, hz, hkk])
      have HI := Lib.hid (And.intro hd (And.intro hx (And.intro hz hqb)))
      clear h hc hq hbb hlG hl hn hk hkk hqb h0 hd hf hx hmem hrd hbvb r1 r2 r3 r4
      go_enter Try.func35, Try.ntmps35
      go_wp2_with fail
      refine (named_r _ k HK.out).mono ?_
      rintro e w1 ⟨rfl, rfl⟩
      rw [HKK.out]
      go_wp2_with fail
      refine (there_ok HC.out n HN.out HI.out.1 HI.out.2.1).mono ?_
      rintro e w1 ⟨rfl, hB1⟩
      have HB1 := Lib.hid hB1
      clear hB1
      go_wp2_with fail
      refine (burn_r (HC.out.below (HB1.out.alloc HB1.out.size _)) HQ.out.1 HI.out.2.2.2).mono ?_
      rintro e w2 ⟨rfl, hc2, hg2⟩
      rw [if_pos HI.out.2.2.1]
      go_wp2_with fail
      go_ret
      rw [HX.out]
      exact ⟨rfl, rafter_mk hc2 hltq HQ.out.1 (.inl rfl) (fun i hi => .inl hi) HQ.out.2 (((Chg.of_below (HB1.out.alloc HB1.out.size _)).trans hg2).mono (by simp))⟩
    · have HX := Lib.hid (show s.rename n.data.toList k.data.toList = (0, { s.burn with fs := putA k.data.toList f (delA n.data.toList s.fs) }) from by unfold DS.rename DS.change DS.beg; simp [h0, hz, fileA, hf, hkk])
      have HI := Lib.hid (And.intro hd (And.intro hx (And.intro hz hqb)))
      have HR := Lib.hid (And.intro hrd hbvb)
      have HOD := Lib.hid (show ({ s.burn with fs := delA n.data.toList s.fs } : DS).Ok from by
        have := hc.ok.remove n.data.toList
        have e : s.remove n.data.toList = (0, { s.burn with fs := delA n.data.toList s.fs }) := by unfold DS.remove DS.change DS.beg; simp [h0, hz]
        rwa [e] at this)
      have HDL := Lib.hid (Nat.le_trans (show (delA n.data.toList G).length ≤ G.length from length_delA _ _) hlG)
      unfold maxLen at r2
      have r5 : f.data.length ≤ 9223372036854775807 := by omega
      clear h hc hq hbb hlG hl hn hk hkk hqb h0 hd hf hx hmem hrd hbvb r1 r2 r3 r4
      go_enter Try.func35, Try.ntmps35
      go_wp2_with fail
      refine (named_r _ k HK.out).mono ?_
      rintro e w1 ⟨rfl, rfl⟩
      rw [HKK.out]
      go_wp2_with fail
      refine (there_ok HC.out n HN.out HI.out.1 HI.out.2.1).mono ?_
      rintro e w1 ⟨rfl, hB1⟩
      have HB1 := Lib.hid hB1
      have hsz1 := hB1.size
      clear hB1
      go_wp2_with fail
      refine (burn_r (HC.out.below (HB1.out.alloc HB1.out.size _)) HQ.out.1 HI.out.2.2.2).mono ?_
      rintro e w2 ⟨rfl, hc2, hg2⟩
      have HC2 := Lib.hid (And.intro hc2 hg2)
      have hbx := (hg2.block w1.heap.size (by simp) (by simp; omega)).trans (heap_alloc_new w1 _)
      have HBX := Lib.hid hbx
      clear hc2 hg2 hbx
      rw [if_neg HI.out.2.2.1]
      go_wp2_with fail
      refine (cut_r HC2.out.1 HQ.out.1 HI.out.2.2.2 HL.out n HN.out HI.out.2.1 (by rw [DS.burn_fs]; exact HOD.out)).mono ?_
      rintro e w3 ⟨rfl, lv3, hc3, hl3, hg3⟩
      have hlt2 : w1.heap.size < w2.heap.size := lt_of_block HBX.out
      have hl3' : lv3.ownBlock = lv.ownBlock ∨ (∃ g, lv3.ownBlock = some g ∧ w2.heap.size ≤ g) ∨ lv3.ownBlock = none := hl3
      have hbx := (hg3.block w1.heap.size hlt2 (by
        simp only [List.mem_cons, Option.mem_toList, not_or]
        exact ⟨by omega, fun e => by have := HC.out.row.lt _ e; omega⟩)).trans HBX.out
      have hg3' : Chg (qb :: lv.ownBlock.toList) w w3 := (((Chg.of_below (HB1.out.alloc HB1.out.size _)).trans HC2.out.2).mono (by simp)).trans hg3
      have HC3 := Lib.hid (And.intro hc3 (And.intro hl3' hg3'))
      obtain ⟨x0, x1, x2, xf⟩ := cells3 hbx
      have hltx := lt_of_block hbx
      have xf0 := xf 0
      clear hc3 hl3 hg3 hl3' hg3' hbx
      go_wp2_with fail
      have hsz2 : w.heap.size ≤ w2.heap.size := by omega
      have hb3 : ∀ i ∈ bblks G, i ≠ qb ∧ lv3.ownBlock ≠ some i := fun i hi => ⟨(HQ.out.2 i hi).1, fun e => by
        have := HC.out.ltb i hi
        rcases HC3.out.2.1 with e3 | ⟨g, e3, hge⟩ | e3
        · exact (HQ.out.2 i hi).2 (by rw [← e3]; exact e)
        · rw [e3] at e; cases e; omega
        · rw [e3] at e; cases e⟩
      have hq3 : lv3.ownBlock ≠ some qb := fun e => by
        rcases HC3.out.2.1 with e3 | ⟨g, e3, hge⟩ | e3
        · exact HQ.out.1 (by rw [← e3]; exact e)
        · rw [e3] at e; cases e; omega
        · rw [e3] at e; cases e
      have hx3 : lv3.ownBlock ≠ some w1.heap.size := fun e => by
        rcases HC3.out.2.1 with e3 | ⟨g, e3, hge⟩ | e3
        · have := HC.out.row.lt w1.heap.size (by rw [← e3]; exact e)
          omega
        · rw [e3] at e; cases e; omega
        · rw [e3] at e; cases e
      have hg4 : Chg (qb :: lv.ownBlock.toList) w (w3.setCell ⟨w1.heap.size, 0, none⟩ (.string k)) := HC3.out.2.2.set' _ _ _ (.inr hsz1)
      have hc4 := HC3.out.1.keep (w' := w3.setCell ⟨w1.heap.size, 0, none⟩ (.string k)) (Below.heap_setCell _ _ _ _ (show qb ≠ w1.heap.size by omega)) (fun g hg => Below.heap_setCell _ _ _ _ (show g ≠ w1.heap.size from fun e => hx3 (by rw [← e]; exact hg))) (fun g hg => Below.heap_setCell _ _ _ _ (show g ≠ w1.heap.size by have := HC.out.ltb g (bblks_del g hg); omega))
      have hrd4 : Rd (w3.setCell ⟨w1.heap.size, 0, none⟩ (.string k)) (.slice bp f.data.length bc) f.data := Rd.keep' HR.out.1 fun g h1 h2 => hg4.block g (HC.out.ltb g (HR.out.2 g h1 h2)) (by
        have := HQ.out.2 g (HR.out.2 g h1 h2)
        simp only [List.mem_cons, Option.mem_toList, not_or]
        exact this)
      have HG4 := Lib.hid hg4
      have HB3 := Lib.hid hb3
      refine (set_r hc4 hq3 (fun i hi => hb3 i (bblks_del i hi)) HDL.out k HK.out _ f hrd4 (fun i h1 h2 => hb3 i (HR.out.2 i h1 h2)) (by have := HO.out; rw [HX.out] at this; rw [DS.burn_fs]; exact this)).mono ?_
      clear hg4 hc4 hrd4 hb3 hq3 hx3
      rintro e w4 ⟨rfl, hp4⟩
      have HP4 := Lib.hid hp4
      clear hp4
      go_wp2_with fail
      go_ret
      rw [HX.out]
      have hfin := rafter_set' HC.out HQ.out.1 HQ.out.2 (HC3.out.2.1.imp id (fun h => h.imp (fun ⟨g, e, hge⟩ => ⟨g, e, by omega⟩) id)) (fun i hi => bblks_del i hi) HG4.out HP4.out (fun i h1 h2 => .inl (HR.out.2 i h1 h2))
      rw [DS.burn_fs] at hfin
      exact ⟨rfl, hfin⟩
  · have HX := Lib.hid (show s.rename n.data.toList k.data.toList = (s.fnd n.data.toList true, s) from by unfold DS.rename DS.change DS.beg DS.aft; simp [h0, hkk])
    have HI := Lib.hid h0
    obtain ⟨E, hE⟩ : ∃ E, E = s.fnd n.data.toList true := ⟨_, rfl⟩
    have HE := Lib.hid hE
    have t : (E == 0) = false := by rw [hE]; simp [h0]
    clear h hc hq hbb hlG hl hn hk hkk hqb h0 hE
    go_enter Try.func35, Try.ntmps35
    go_wp2_with fail
    refine (named_r _ k HK.out).mono ?_
    rintro e w1 ⟨rfl, rfl⟩
    rw [HKK.out]
    go_wp2_with fail
    refine (there_no HC.out n HN.out HI.out).mono ?_
    rintro e w1 ⟨rfl, hB1⟩
    rw [← HE.out]
    go_wp2_with fail
    go_ret
    rw [HX.out]
    exact ⟨by rw [HE.out]; rfl, rafter_same HD.out (hB1.alloc hB1.size _)⟩
end Go.Proofs.Ytcpldjaoacihlaa
