/- the reference's disk: Sync. -/
import Derived.Test.YtcpldjaoacihlaaRz
namespace Go.Proofs.Ytcpldjaoacihlaa
open Go.RowKit
set_option linter.unusedVariables false

theorem cells3 {w : World} {b : Nat} {c0 c1 c2 : Value} {T : TypeId} (h : w.heap[b]? = some (.cells #[c0, c1, c2] T (0, 0))) :
    w.cell? ⟨b, 0, none⟩ = some c0 ∧ w.cell? ⟨b, 1, none⟩ = some c1 ∧ w.cell? ⟨b, 2, none⟩ = some c2 ∧ (∀ o, w.frozen? ⟨b, o, none⟩ = false) := by
  refine ⟨?_, ?_, ?_, fun o => ?_⟩ <;> simp [World.cell?, World.frozen?, h]
theorem bblks_put {G : Ents} {n : List UInt8} {bv : Value} {f : Fl} : ∀ i ∈ bblks (putA n (bv, f) G), i ∈ bblks G ∨ (f.data.length ≠ 0 ∧ bv.ownBlock = some i) := by
  intro i hi
  unfold bblks at hi ⊢
  rw [List.mem_filterMap] at hi ⊢
  obtain ⟨p, hp, e⟩ := hi
  rcases mem_putA.1 hp with rfl | ⟨hp, _⟩
  · simp only at e
    split at e
    · cases e
    · exact .inr ⟨by assumption, e⟩
  · exact .inl ⟨p, hp, e⟩

theorem rafter_set {w w3 w4 : World} {qb : Nat} {s s1 : DS} {lv : Value} {G : Ents} {n : List UInt8} {bv : Value} {f : Fl} (hc : RC w qb s lv G) (hq : lv.ownBlock ≠ some qb) (hbb : ∀ i ∈ bblks G, i ≠ qb ∧ lv.ownBlock ≠ some i) (hg3 : Chg [qb] w w3)
    (hp : SetPost w3 qb s1 lv G n bv f w4) (hb : ∀ i, f.data.length ≠ 0 → bv.ownBlock = some i → i ∈ bblks G ∨ (w.heap.size ≤ i ∧ i < w3.heap.size)) :
    RAfter w (some ⟨qb, 0, none⟩) { s1 with fs := putA n f s1.fs } (qb :: lv.ownBlock.toList) (bblks G) w4 := by
  obtain ⟨lv', hc4, hl4, hg4⟩ := hp
  have hle := hg3.size
  have hltq := hc.ltq
  refine rafter_mk hc4 hltq hq ?_ (fun i hi => ?_) (fun i hi => ?_) ((hg3.mono (by simp)).trans hg4)
  · rcases hl4 with e | ⟨g, e, hge⟩
    · exact .inl e
    · exact .inr (.inl ⟨g, e, by omega⟩)
  · rcases bblks_put i hi with hi | ⟨h1, h2⟩
    · exact .inl hi
    · exact (hb i h1 h2).imp id (·.1)
  · have hold : ∀ i ∈ bblks G, i ≠ qb ∧ lv'.ownBlock ≠ some i := fun i hi => ⟨(hbb i hi).1, fun e => by
      rcases hl4 with e' | ⟨g, e', hge⟩
      · exact (hbb i hi).2 (by rw [← e']; exact e)
      · rw [e'] at e
        cases e
        have := hc.ltb i hi
        omega⟩
    rcases bblks_put i hi with hi | ⟨h1, h2⟩
    · exact hold i hi
    · rcases hb i h1 h2 with hi | ⟨h3, h4⟩
      · exact hold i hi
      · refine ⟨by omega, fun e => ?_⟩
        rcases hl4 with e' | ⟨g, e', hge⟩
        · rw [e'] at e
          have := hc.row.lt i e
          omega
        · rw [e'] at e
          cases e
          omega

set_option maxRecDepth 100000 in
set_option maxHeartbeats 1000000 in
theorem sync_r {w : World} {q : Option Addr} {s : DS} {m bb : List Nat} (h : RDisk w q s m bb) (hl : s.fs.length ≤ 1000000) (n : ByteArray) (hn : n.size ≤ 9223372036854775807) :
    Calls Try.prog 34 #[.pointer q, .string n] w fun e w' => e = .returned (.int .i64 (s.sync n.data.toList).1) ∧ RAfter w q (s.sync n.data.toList).2 m bb w' := by
  have HD := Lib.hid h
  obtain ⟨qb, lv, G, rfl, hc, rfl, rfl, hq, hbb⟩ := h.parts
  have HN := Lib.hid hn
  have HC := Lib.hid hc
  have HQ := Lib.hid (And.intro hq hbb)
  have hlG : G.length ≤ 1000000 := by rw [← hc.len]; exact hl
  have HL := Lib.hid hlG
  have hltq := hc.ltq
  have hqb : qb ∉ bblks G := fun hm => (hbb qb hm).1 rfl
  have HO := Lib.hid (hc.ok.sync n.data.toList)
  by_cases h0 : s.fnd n.data.toList true = 0
  · obtain ⟨hd, f, hf⟩ := fnd0 h0
    obtain ⟨v, hx⟩ := hc.getG hf
    have hmem := getA_mem hx
    have hrd := hc.rd _ hmem
    obtain ⟨bp, bc, hv, r1, r2, r3, r4⟩ := id hrd
    simp only at hv r1 r2
    subst hv
    have hbvb : ∀ i, f.data.length ≠ 0 → (Value.slice bp f.data.length bc).ownBlock = some i → i ∈ bblks G := fun i h1 h2 => mem_bblks hmem h1 h2
    by_cases hz : s.fuse = 0
    · have HX := Lib.hid (show s.sync n.data.toList = (70, s.burn) from by unfold DS.sync DS.change DS.beg DS.aft; simp [h0, hz])
      have HI := Lib.hid (And.intro hd (And.intro hx (And.intro hz hqb)))
      clear h hc hq hbb hlG hl hn hqb h0 hd hf hx hmem hrd hbvb r1 r2 r3 r4
      go_enter Try.func34, Try.ntmps34
      go_wp2_with fail
      refine (there_ok HC.out n HN.out HI.out.1 HI.out.2.1).mono ?_
      rintro e w1 ⟨rfl, hB1⟩
      have HB1 := Lib.hid hB1
      clear hB1
      go_wp2_with fail
      refine (burn_r (HC.out.below (HB1.out.alloc HB1.out.size _)) HQ.out.1 HI.out.2.2.2).mono ?_
      rintro e w2 ⟨rfl, hc2, hg2⟩
      rw [if_pos HI.out.2.2.1]
      go_wp2_with fail
      go_ret
      rw [HX.out]
      exact ⟨rfl, rafter_mk hc2 hltq HQ.out.1 (.inl rfl) (fun i hi => .inl hi) HQ.out.2 (((Chg.of_below (HB1.out.alloc HB1.out.size _)).trans hg2).mono (by simp))⟩
    · have HX := Lib.hid (show s.sync n.data.toList = (0, { s.burn with fs := putA n.data.toList ⟨f.data, f.data.length⟩ s.fs }) from by unfold DS.sync DS.change DS.beg; simp [h0, hz, fileA, hf])
      have HI := Lib.hid (And.intro hd (And.intro hx (And.intro hz hqb)))
      have HR := Lib.hid (And.intro hrd hbvb)
      unfold maxLen at r2
      have r5 : f.data.length ≤ 9223372036854775807 := by omega
      clear h hc hq hbb hlG hl hn hqb h0 hd hf hx hmem hrd hbvb r1 r2 r3 r4
      go_enter Try.func34, Try.ntmps34
      go_wp2_with fail
      refine (there_ok HC.out n HN.out HI.out.1 HI.out.2.1).mono ?_
      rintro e w1 ⟨rfl, hB1⟩
      have HB1 := Lib.hid hB1
      have hsz1 := hB1.size
      clear hB1
      go_wp2_with fail
      refine (burn_r (HC.out.below (HB1.out.alloc HB1.out.size _)) HQ.out.1 HI.out.2.2.2).mono ?_
      rintro e w2 ⟨rfl, hc2, hg2⟩
      have HC2 := Lib.hid (And.intro hc2 hg2)
      have hbx := (hg2.block w1.heap.size (by simp) (by simp; omega)).trans (heap_alloc_new w1 _)
      obtain ⟨x0, x1, x2, xf⟩ := cells3 hbx
      have HBX := Lib.hid hbx
      clear hc2 hg2 hbx
      have xf2 := xf 2
      have hlt2 := World.block_lt_of_cell? w2 _ x0
      rw [if_neg HI.out.2.2.1]
      go_wp2_with fail
      have hg3 : Chg [qb] w (w2.setCell ⟨w1.heap.size, 2, none⟩ (.int .i64 f.data.length)) := ((Chg.of_below (HB1.out.alloc HB1.out.size _)).trans HC2.out.2).set' _ _ _ (.inr hsz1)
      have hc3 : RC (w2.setCell ⟨w1.heap.size, 2, none⟩ (.int .i64 f.data.length)) qb s.burn lv G := HC2.out.1.keep (Below.heap_setCell _ _ _ _ (show qb ≠ w1.heap.size by omega)) (fun g hg => Below.heap_setCell _ _ _ _ (show g ≠ w1.heap.size by have := HC.out.row.lt g hg; omega)) (fun g hg => Below.heap_setCell _ _ _ _ (show g ≠ w1.heap.size by have := HC.out.ltb g hg; omega))
      have HG3 := Lib.hid (And.intro hg3 hc3)
      refine (set_r hc3 HQ.out.1 HQ.out.2 HL.out n HN.out _ ⟨f.data, f.data.length⟩ (hc3.rd _ (getA_mem HI.out.2.1)) (fun i h1 h2 => HQ.out.2 i (HR.out.2 i h1 h2)) (by have := HO.out; rw [HX.out] at this; rw [DS.burn_fs]; exact this)).mono ?_
      clear hg3 hc3
      rintro e w4 ⟨rfl, hp4⟩
      have HP4 := Lib.hid hp4
      clear hp4
      go_wp2_with fail
      go_ret
      rw [HX.out]
      have hfin := rafter_set HC.out HQ.out.1 HQ.out.2 HG3.out.1 HP4.out (fun i h1 h2 => .inl (HR.out.2 i h1 h2))
      rw [DS.burn_fs] at hfin
      exact ⟨rfl, hfin⟩
  · have HX := Lib.hid (show s.sync n.data.toList = (s.fnd n.data.toList true, s) from by unfold DS.sync DS.change DS.beg DS.aft; simp [h0])
    have HI := Lib.hid h0
    obtain ⟨E, hE⟩ : ∃ E, E = s.fnd n.data.toList true := ⟨_, rfl⟩
    have HE := Lib.hid hE
    have t : (E == 0) = false := by rw [hE]; simp [h0]
    clear h hc hq hbb hlG hl hn hqb h0 hE
    go_enter Try.func34, Try.ntmps34
    go_wp2_with fail
    refine (there_no HC.out n HN.out HI.out).mono ?_
    rintro e w1 ⟨rfl, hB1⟩
    rw [← HE.out]
    go_wp2_with fail
    go_ret
    rw [HX.out]
    exact ⟨by rw [HE.out]; rfl, rafter_same HD.out (hB1.alloc hB1.size _)⟩
end Go.Proofs.Ytcpldjaoacihlaa
