/- the reference's disk: Remove. -/
import Derived.Test.YtcpldjaoacihlaaRy
namespace Go.Proofs.Ytcpldjaoacihlaa
open Go.RowKit
set_option linter.unusedVariables false

theorem RDisk.parts {w : World} {q : Option Addr} {s : DS} {m bb : List Nat} (h : RDisk w q s m bb) : ∃ qb lv G, q = some ⟨qb, 0, none⟩ ∧ RC w qb s lv G ∧ m = qb :: lv.ownBlock.toList ∧ bb = bblks G ∧ lv.ownBlock ≠ some qb ∧ ∀ i ∈ bblks G, i ≠ qb ∧ lv.ownBlock ≠ some i := by
  obtain ⟨qb, lv, G, rfl, hc, rfl, hn, rfl, hd⟩ := h
  refine ⟨qb, lv, G, rfl, hc, rfl, rfl, fun e => ?_, fun i hi => ⟨fun e => ?_, fun e => ?_⟩⟩
  · rw [e] at hn; simp at hn
  · exact hd i hi (by simp [e])
  · exact hd i hi (by simp [e])
theorem rafter_mk {w w' : World} {qb : Nat} {s' : DS} {lv lv' : Value} {G G' : Ents} (hc : RC w' qb s' lv' G') (hlt : qb < w.heap.size) (hq : lv.ownBlock ≠ some qb) (hl : lv'.ownBlock = lv.ownBlock ∨ (∃ g, lv'.ownBlock = some g ∧ w.heap.size ≤ g) ∨ lv'.ownBlock = none)
    (hb : ∀ i ∈ bblks G', i ∈ bblks G ∨ w.heap.size ≤ i) (hd : ∀ i ∈ bblks G', i ≠ qb ∧ lv'.ownBlock ≠ some i) (hg : Chg (qb :: lv.ownBlock.toList) w w') : RAfter w (some ⟨qb, 0, none⟩) s' (qb :: lv.ownBlock.toList) (bblks G) w' := by
  refine ⟨qb :: lv'.ownBlock.toList, bblks G', ⟨qb, lv', G', rfl, hc, rfl, ?_, rfl, fun i hi hm => ?_⟩, fun i hi => ?_, hb, hg⟩
  · rcases hl with e | ⟨g, e, hge⟩ | e
    · rw [e]
      cases ho : lv.ownBlock with
      | none => simp
      | some g => simp; rintro rfl; exact hq ho
    · rw [e]; simp; omega
    · rw [e]; simp
  · simp only [List.mem_cons, Option.mem_toList] at hm
    rcases hm with e | e
    · exact (hd i hi).1 e
    · exact (hd i hi).2 e
  · simp only [List.mem_cons, Option.mem_toList] at hi ⊢
    rcases hi with e | e
    · exact .inl (.inl e)
    · rcases hl with e' | ⟨g, e', hge⟩ | e'
      · exact .inl (.inr (by rw [← e']; exact e))
      · rw [e'] at e; cases e; exact .inr hge
      · rw [e'] at e; cases e
theorem rafter_same {w w' : World} {q : Option Addr} {s : DS} {m bb : List Nat} (h : RDisk w q s m bb) (hb : Below w.heap.size w w') : RAfter w q s m bb w' :=
  ⟨m, bb, h.keep (fun i hi => hb.block i (h.lt.1 i hi)) (fun i hi => hb.block i (h.lt.2 i hi)), fun i hi => .inl hi, fun i hi => .inl hi, Chg.of_below hb⟩
theorem bblks_del {G : Ents} {n : List UInt8} : ∀ i ∈ bblks (delA n G), i ∈ bblks G := by
  intro i hi
  unfold bblks at hi ⊢
  rw [List.mem_filterMap] at hi ⊢
  obtain ⟨p, hp, e⟩ := hi
  exact ⟨p, (mem_delA.1 hp).1, e⟩

theorem fnd0 {s : DS} {n : List UInt8} (h : s.fnd n true = 0) : s.dead = false ∧ ∃ f, getA n s.fs = some f := by
  obtain ⟨h1, h2⟩ := DS.fnd_ok h
  exact ⟨(DS.rdy_ok h1).2, Option.isSome_iff_exists.1 h2⟩
theorem RC.getG {w : World} {qb : Nat} {s : DS} {lv : Value} {G : Ents} (h : RC w qb s lv G) {n : List UInt8} {f : Fl} (hf : getA n s.fs = some f) : ∃ v, getA n G = some (v, f) := by
  rw [h.fs] at hf
  unfold fils at hf
  rw [mapA_getA] at hf
  cases hg : getA n G with
  | none => rw [hg] at hf; cases hf
  | some x =>
    rw [hg] at hf
    simp only [Option.map_some, Option.some.injEq] at hf
    exact ⟨x.1, by rw [← hf]⟩

set_option maxRecDepth 100000 in
set_option maxHeartbeats 1000000 in
theorem remove_r {w : World} {q : Option Addr} {s : DS} {m bb : List Nat} (h : RDisk w q s m bb) (hl : s.fs.length ≤ 1000000) (n : ByteArray) (hn : n.size ≤ 9223372036854775807) :
    Calls Try.prog 37 #[.pointer q, .string n] w fun e w' => e = .returned (.int .i64 (s.remove n.data.toList).1) ∧ RAfter w q (s.remove n.data.toList).2 m bb w' := by
  have HD := Lib.hid h
  obtain ⟨qb, lv, G, rfl, hc, rfl, rfl, hq, hbb⟩ := h.parts
  have HN := Lib.hid hn
  have HC := Lib.hid hc
  have HQ := Lib.hid (And.intro hq hbb)
  have hlG : G.length ≤ 1000000 := by rw [← hc.len]; exact hl
  have HL := Lib.hid hlG
  have hltq := hc.ltq
  have hqb : qb ∉ bblks G := fun hm => (hbb qb hm).1 rfl
  have HO := Lib.hid (h.parts.elim fun _ h => h.elim fun _ h => h.elim fun _ h => h.2.1.ok.remove n.data.toList)
  by_cases h0 : s.fnd n.data.toList true = 0
  · obtain ⟨hd, f, hf⟩ := fnd0 h0
    obtain ⟨v, hx⟩ := hc.getG hf
    obtain ⟨bp, bc, hv, _⟩ := hc.rd _ (getA_mem hx)
    simp only at hv
    subst hv
    by_cases hz : s.fuse = 0
    · have HX := Lib.hid (show s.remove n.data.toList = (70, s.burn) from by unfold DS.remove DS.change DS.beg DS.aft; simp [h0, hz])
      have HI := Lib.hid (And.intro hd (And.intro hx (And.intro hz hqb)))
      clear h hc hq hbb hlG hl hn hqb h0 hd hf hx
      go_enter Try.func37, Try.ntmps37
      go_wp2_with fail
      refine (there_ok HC.out n HN.out HI.out.1 HI.out.2.1).mono ?_
      rintro e w1 ⟨rfl, hB1⟩
      have HB1 := Lib.hid hB1
      clear hB1
      go_wp2_with fail
      refine (burn_r (HC.out.below (HB1.out.alloc HB1.out.size _)) HQ.out.1 HI.out.2.2.2).mono ?_
      rintro e w2 ⟨rfl, hc2, hg2⟩
      rw [if_pos HI.out.2.2.1]
      go_wp2_with fail
      go_ret
      rw [HX.out]
      exact ⟨rfl, rafter_mk hc2 hltq HQ.out.1 (.inl rfl) (fun i hi => .inl hi) HQ.out.2 (((Chg.of_below (HB1.out.alloc HB1.out.size _)).trans hg2).mono (by simp))⟩
    · have HX := Lib.hid (show s.remove n.data.toList = (0, { s.burn with fs := delA n.data.toList s.fs }) from by unfold DS.remove DS.change DS.beg; simp [h0, hz])
      have HI := Lib.hid (And.intro hd (And.intro hx (And.intro hz hqb)))
      clear h hc hq hbb hlG hl hn hqb h0 hd hf hx
      go_enter Try.func37, Try.ntmps37
      go_wp2_with fail
      refine (there_ok HC.out n HN.out HI.out.1 HI.out.2.1).mono ?_
      rintro e w1 ⟨rfl, hB1⟩
      have HB1 := Lib.hid hB1
      clear hB1
      go_wp2_with fail
      refine (burn_r (HC.out.below (HB1.out.alloc HB1.out.size _)) HQ.out.1 HI.out.2.2.2).mono ?_
      rintro e w2 ⟨rfl, hc2, hg2⟩
      have HC2 := Lib.hid (And.intro hc2 hg2)
      clear hc2 hg2
      rw [if_neg HI.out.2.2.1]
      go_wp2_with fail
      refine (cut_r HC2.out.1 HQ.out.1 HI.out.2.2.2 HL.out n HN.out HI.out.2.1 (by have := HO.out; rw [HX.out] at this; rw [DS.burn_fs]; exact this)).mono ?_
      rintro e w3 ⟨rfl, lv', hc3, hl3, hg3⟩
      have HC3 := Lib.hid (And.intro hc3 (And.intro hl3 hg3))
      clear hc3 hl3 hg3
      go_wp2_with fail
      go_ret
      rw [HX.out]
      have hle : w.heap.size ≤ w2.heap.size := Nat.le_trans HB1.out.size (by have := HC2.out.2.size; simp at this; omega)
      refine ⟨rfl, rafter_mk (by have := HC3.out.1; rwa [DS.burn_fs] at this) hltq HQ.out.1 ?_ (fun i hi => .inl (bblks_del i hi)) (fun i hi => ⟨(HQ.out.2 i (bblks_del i hi)).1, fun e => ?_⟩) ?_⟩
      · rcases HC3.out.2.1 with e | ⟨g, e, hge⟩ | e
        · exact .inl e
        · exact .inr (.inl ⟨g, e, by omega⟩)
        · exact .inr (.inr e)
      · rcases HC3.out.2.1 with e' | ⟨g, e', hge⟩ | e'
        · exact (HQ.out.2 i (bblks_del i hi)).2 (by rw [← e']; exact e)
        · rw [e'] at e
          cases e
          have := HC2.out.1.ltb i (bblks_del i hi)
          omega
        · rw [e'] at e; cases e
      · exact (((Chg.of_below (HB1.out.alloc HB1.out.size _)).trans HC2.out.2).mono (by simp)).trans HC3.out.2.2
  · have HX := Lib.hid (show s.remove n.data.toList = (s.fnd n.data.toList true, s) from by unfold DS.remove DS.change DS.beg DS.aft; simp [h0])
    have HI := Lib.hid h0
    obtain ⟨E, hE⟩ : ∃ E, E = s.fnd n.data.toList true := ⟨_, rfl⟩
    have HE := Lib.hid hE
    have t : (E == 0) = false := by rw [hE]; simp [h0]
    clear h hc hq hbb hlG hl hn hqb h0 hE
    go_enter Try.func37, Try.ntmps37
    go_wp2_with fail
    refine (there_no HC.out n HN.out HI.out).mono ?_
    rintro e w1 ⟨rfl, hB1⟩
    rw [← HE.out]
    go_wp2_with fail
    go_ret
    rw [HX.out]
    exact ⟨by rw [HE.out]; rfl, rafter_same HD.out (hB1.alloc hB1.size _)⟩
end Go.Proofs.Ytcpldjaoacihlaa
