/- journal: Compact. -/
import Derived.Test.YtfljpnfjndjhpaaJa
namespace Go.Proofs.Ytfljpnfjndjhpaa
open Go.RowKit
set_option linter.unusedVariables false

def JS.cmp (j : JS) (s : DS) (b : List UInt8) : Int × JS × DS :=
  let r1 := s.append draN (frameB b)
  let r2 := if r1.1 = 0 then r1.2.sync draN else r1
  let r3 := if r2.1 = 0 then r2.2.rename draN curN else r2
  if j.rdy (decide (b.length ≤ 4194304)) ≠ 0 then (j.rdy (decide (b.length ≤ 4194304)), j, s)
  else if r3.1 ≠ 0 then (r3.1, j.fail r3.1, r3.2) else (0, { j with snap := b, recs := [] }, r3.2)

section
variable {w : World} {jb : Nat} {a : Addr} {foot : List Nat} {j : JS} {sv rv : Value} {vs : List Value} {s : DS}

theorem DS.change_len (s : DS) (n : List UInt8) (v : Bool) (g : Fl → Fs) (h : ∀ f, (g f).length ≤ s.fs.length + 1) : (s.change n v g).2.fs.length ≤ s.fs.length + 1 := by
  unfold DS.change
  split
  · exact h _
  · unfold DS.aft
    split
    · simp [DS.burn_fs]
    · simp
theorem DS.sync_len (s : DS) (n : List UInt8) : (s.sync n).2.fs.length ≤ s.fs.length + 1 := s.change_len n true _ fun _ => length_putA _ _ _

/-- The journal behind a compaction. -/
theorem jafter_cmp {p : Option Addr} {w4 w5 : World} {foot4 : List Nat} {s' : DS} {b : List UInt8} {a5 : Option Addr} {cp5 : Nat} (hj : Jr w4 jb p foot4 j sv rv vs) (hd : Disk w4 p s' foot4) (hf : ∀ i ∈ foot4, i ∈ foot ∨ w.heap.size ≤ i) (hc : Chg foot w w4)
    (hB5 : Below w4.heap.size w4 w5) (ho5 : w5.ownsRow w4.heap.size 5 1 (.slice a5 b.length cp5) b.length (bcells b)) :
    JAfter w jb p foot rv s' { j with snap := b, recs := [] } ((w5.setCell ⟨jb, 1, none⟩ (.slice a5 b.length cp5)).setCell ⟨jb, 2, none⟩ (.slice none 0 0)) := by
  have hs5 := hB5.size
  have hjl := hj.lt
  have hset : Chg [jb] w5 ((w5.setCell ⟨jb, 1, none⟩ (.slice a5 b.length cp5)).setCell ⟨jb, 2, none⟩ (.slice none 0 0)) := ⟨rfl, rfl, rfl, by simp, fun i hi hn => (Below.heap_setCell _ _ _ _ (by simpa using hn)).trans (Below.heap_setCell _ _ _ _ (by simpa using hn))⟩
  have h4 : Chg [jb] w4 ((w5.setCell ⟨jb, 1, none⟩ (.slice a5 b.length cp5)).setCell ⟨jb, 2, none⟩ (.slice none 0 0)) := (Chg.of_below hB5).trans hset
  have hjb5 : w5.heap[jb]? = some (.cells #[.pointer p, sv, rv, .bool j.stop] 51 (0, 0)) := (hB5.block jb hjl).trans hj.blk
  have h5b : ∀ g, (Value.slice a5 b.length cp5).ownBlock = some g → w4.heap.size ≤ g ∧ g < w5.heap.size := by
    intro g hg
    rcases ho5.2 with ⟨h, _⟩ | ⟨g', cap, cur, k1, k2, k3, _⟩
    · rw [h] at hg; cases hg
    · rw [k1] at hg
      simp only [Value.ownBlock, Option.some.injEq] at hg
      subst hg
      exact ⟨k2, lt_of_block k3⟩
  refine ⟨foot4, .slice a5 b.length cp5, .slice none 0 0, [], hd.chg h4 (fun i hi hm => by simp only [List.mem_singleton] at hm; subst hm; exact hj.jf hi), ⟨heap_mod (heap_mod hjb5), ?_, World.ownsRow_nil _ _ _ _, rfl, by simp, hj.jf, ?_, by simp [Value.ownBlock], by simp⟩, hf, by simp [Value.ownBlock], ?_⟩
  · exact (Rd.of_own ho5).chg hset fun _ g hg => by have := h5b g hg; simp; omega
  · intro g hg
    have h := h5b g hg
    refine ⟨by simp; omega, fun hm => by have := hd.lt _ hm; omega, by omega, by simp [Value.ownBlock]⟩
  · refine (hc.more (by simp; intro i h; exact .inr (.inr h))).trans (h4.more (by simp))

set_option maxRecDepth 100000 in
set_option maxHeartbeats 4000000 in
theorem jcmp_c (hj : Jr w jb (some a) foot j sv rv vs) (hd : Disk w (some a) s foot) (hl : s.fs.length ≤ 999999997) (v : Value) (b : List UInt8) (hv : Rd w v b) (hvf : 0 < b.length → ∀ g, v.ownBlock = some g → g ∉ foot) (h4 : b.length ≤ 4194304) (hst : j.stop = false) :
    Calls Try.prog 10 #[.pointer (some ⟨jb, 0, none⟩), v] w fun e w' => e = .returned (.int .i64 (j.cmp s b).1) ∧ JAfter w jb (some a) foot rv (j.cmp s b).2.2 (j.cmp s b).2.1 w' := by
  have HJ := Lib.hid hj
  have HD := Lib.hid hd
  have HV := Lib.hid hv
  have HVF := Lib.hid hvf
  have HL := Lib.hid hl
  have HS := Lib.hid hst
  have KP : ∀ w' : World, Below w.heap.size w w' → w'.cell? ⟨jb, 0, none⟩ = some (.pointer (some a)) := fun w' hb => (cells4 (hj.below hb).blk).1
  have HKP := Lib.hid KP
  obtain ⟨p, c, rfl, l1, l2, _⟩ := hv
  unfold maxLen at l2
  obtain ⟨E1, hE1⟩ : ∃ E, E = (s.append draN (frameB b)).1 := ⟨_, rfl⟩
  have HE := Lib.hid hE1
  clear hj hd hvf hl hst hE1 KP
  go_enter Try.func10, Try.ntmps10
  go_wp2_with (go_at_call 20; refine (jready_c HJ.out _).mono ?_; rintro e w1 ⟨rfl, rfl⟩; rw [show j.rdy (decide ((b.length : Int) ≤ 4194304)) = 0 from by simp [JS.rdy, HS.out]; omega])
  go_region_held3 (fun w' => w'.cell? ⟨jb, 0, none⟩ = some (.pointer (some a)))
    (first
      | exact HKP.out _ (Below.refl _ _)
      | exact HKP.out _ ((Below.refl _ _).drew)
      | (refine HKP.out _ ?_; assumption)
      | (refine HKP.out _ (Below.drew ?_); assumption)
      | (refine HKP.out _ (below_drewN ?_ _); assumption)
      | exact (cells4 HJ3.out.blk).1)
    (first
      | (go_at_call 22; refine (frame_c _ _ b (HV.out.below ?_) (by omega)).mono ?_
         · first | exact Below.refl _ _ | exact (Below.refl _ _).drew | exact (Below.refl _ _).drew.drew | exact below_drewN (Below.refl _ _) _
         rintro e w2 ⟨r, rfl, hr, hb, hg⟩
         have HG2 := Lib.hid (show ∀ g, r.ownBlock = some g → w.heap.size ≤ g from by intro g h; have := hg g h; simpa using this)
         have HR2 := Lib.hid hr
         have hB2 : Below w.heap.size w w2 := by first | exact hb | exact (Below.refl _ _).drew.trans hb | exact (Below.refl _ _).drew.drew.trans hb | exact (below_drewN (Below.refl _ _) _).trans hb
         clear hr hb hg)
      | (go_at_call 21; refine (append_c (HD.out.below ?_) draB (by decide) (by have := HL.out; omega) r (frameB b) (HR2.out.below ?_) (fun _ g hg hm => ?_) (by rw [frameB_length]; omega)).mono ?_
         · first | assumption | exact Below.drew (by assumption) | exact below_drewN (by assumption) _
         · first | exact Below.refl _ _ | exact (Below.refl _ _).drew | exact (Below.refl _ _).drew.drew | exact below_drewN (Below.refl _ _) _
         · have h1 := HG2.out g hg
           have h2 := HD.out.lt g hm
           omega
         rintro e w3 ⟨rfl, foot3, hd3, hf3, hc3⟩
         rw [show (s.append draB.data.toList (frameB b)).fst = E1 from HE.out.symm]
         have HJ3 := Lib.hid (Jr.chg (HJ.out.below (by first | assumption | exact Below.drew (by assumption) | exact below_drewN (by assumption) _)) hc3 hf3)
         have HD3 := Lib.hid (show Disk w3 (some a) (s.append draN (frameB b)).2 foot3 from hd3)
         have HF3 := Lib.hid (show (∀ i ∈ foot3, i ∈ foot ∨ w.heap.size ≤ i) ∧ Chg foot w w3 from ⟨fun i hi => (hf3 i hi).imp id fun h => Nat.le_trans (Below.size (by first | assumption | exact Below.drew (by assumption) | exact below_drewN (by assumption) _)) h, (Chg.of_below (by first | assumption | exact Below.drew (by assumption) | exact below_drewN (by assumption) _)).trans hc3⟩)
         clear hd3 hf3 hc3)
      | fail "no arm")
  by_cases h1 : E1 = 0
  · subst h1
    obtain ⟨E2, hE2⟩ : ∃ E, E = ((s.append draN (frameB b)).2.sync draN).1 := ⟨_, rfl⟩
    have HE2 := Lib.hid hE2
    clear hE2
    have k0 := (cells4 HJ3.out.blk).1
    go_wp2_with (go_at_call 23; refine (sync_c HD3.out draB (by decide) (by have := DS.append_len s draN (frameB b); have := HL.out; omega)).mono ?_; rintro e w4 ⟨rfl, foot4, hd4, hf4, hc4⟩; rw [show ((s.append draN (frameB b)).2.sync draB.data.toList).1 = E2 from HE2.out.symm]; have HJ4 := Lib.hid (HJ3.out.chg hc4 hf4); have HF4 := Lib.hid (show (∀ i ∈ foot4, i ∈ foot ∨ w.heap.size ≤ i) ∧ Chg foot w w4 from ⟨fun i hi => (hf4 i hi).elim (HF3.out.1 i) fun h => .inr (Nat.le_trans HF3.out.2.size h), HF3.out.2.then hc4 HF3.out.1⟩); have HD4 := Lib.hid (show Disk w4 (some a) ((s.append draN (frameB b)).2.sync draN).2 foot4 from hd4); clear hd4 hf4 hc4 k0; obtain ⟨E3, hE3⟩ : ∃ E, E = (((s.append draN (frameB b)).2.sync draN).2.rename draN curN).1 := ⟨_, rfl⟩; have HE3 := Lib.hid hE3; clear hE3; have k4 := (cells4 HJ4.out.blk).1; by_cases h2 : E2 = 0)
    · subst h2
      go_wp2_with (go_at_call 28; refine (rename_c HD4.out draB curB (by decide) (by decide) (by have := DS.append_len s draN (frameB b); have := DS.sync_len (s.append draN (frameB b)).2 draN; have := HL.out; omega)).mono ?_; rintro e w6 ⟨rfl, foot6, hd6, hf6, hc6⟩; rw [show (((s.append draN (frameB b)).2.sync draN).2.rename draB.data.toList curB.data.toList).1 = E3 from HE3.out.symm]; have HJ6 := Lib.hid (HJ4.out.chg hc6 hf6); have HF6 := Lib.hid (show (∀ i ∈ foot6, i ∈ foot ∨ w.heap.size ≤ i) ∧ Chg foot w w6 from ⟨fun i hi => (hf6 i hi).elim (HF4.out.1 i) fun h => .inr (Nat.le_trans HF4.out.2.size h), HF4.out.2.then hc6 HF4.out.1⟩); have HD6 := Lib.hid (show Disk w6 (some a) (((s.append draN (frameB b)).2.sync draN).2.rename draN curN).2 foot6 from hd6); clear hd6 hf6 hc6 k4; by_cases h3 : E3 = 0)
      · subst h3
        have HX := Lib.hid (show j.cmp s b = (0, { j with snap := b, recs := [] }, (((s.append draN (frameB b)).2.sync draN).2.rename draN curN).2) from by
          have e1 := HE.out
          have e2 := HE2.out
          have e3 := HE3.out
          unfold JS.cmp
          simp only [h4, decide_true, JS.rdy, HS.out, if_true, Bool.false_eq_true, if_false, ← e1, ← e2, ← e3, ne_eq, not_true_eq_false])
        have HV6 := Lib.hid (HV.out.chg HF6.out.2 HVF.out)
        go_wp2_with (go_at_call 25; refine (clone_c _ _ b HV6.out (by omega)).mono ?_; rintro e w7 ⟨v7, rfl, ho7, hb7⟩; obtain ⟨a7, cp7, rfl, _, _, _⟩ := own_form ho7; have HP7 := Lib.hid (jafter_cmp HJ6.out HD6.out HF6.out.1 HF6.out.2 hb7 ho7); obtain ⟨_, m1, m2, _, mf⟩ := cells4 (HJ6.out.below hb7).blk; have mf1 := mf 1; have mf2 := mf 2; clear ho7 hb7 mf)
        go_ret
        rw [HX.out]
        exact ⟨rfl, HP7.out⟩
      · have HX := Lib.hid (show j.cmp s b = (E3, j.fail E3, (((s.append draN (frameB b)).2.sync draN).2.rename draN curN).2) from by
          have e1 := HE.out
          have e2 := HE2.out
          have e3 := HE3.out
          unfold JS.cmp
          simp only [h4, decide_true, JS.rdy, HS.out, if_true, Bool.false_eq_true, if_false, ← e1, ← e2, ← e3, h3, ne_eq, not_true_eq_false, not_false_eq_true])
        go_wp2_with (go_at_call 24; refine (jfail_c HJ6.out E3).mono ?_; rintro e w9 ⟨rfl, hw9⟩; have HW9 := Lib.hid hw9; clear hw9)
        go_ret
        rw [HX.out]
        exact ⟨rfl, jafter_fail HJ.out.lt HJ6.out HD6.out HF6.out.1 HF6.out.2 E3 HW9.out⟩
    · have HX := Lib.hid (show j.cmp s b = (E2, j.fail E2, ((s.append draN (frameB b)).2.sync draN).2) from by
        have e1 := HE.out
        have e2 := HE2.out
        unfold JS.cmp
        simp only [h4, decide_true, JS.rdy, HS.out, if_true, Bool.false_eq_true, if_false, ← e1, ← e2, h2, ne_eq, not_true_eq_false, not_false_eq_true])
      go_wp2_with (go_at_call 24; refine (jfail_c HJ4.out E2).mono ?_; rintro e w9 ⟨rfl, hw9⟩; have HW9 := Lib.hid hw9; clear hw9)
      go_ret
      rw [HX.out]
      exact ⟨rfl, jafter_fail HJ.out.lt HJ4.out HD4.out HF4.out.1 HF4.out.2 E2 HW9.out⟩
  · have HX := Lib.hid (show j.cmp s b = (E1, j.fail E1, (s.append draN (frameB b)).2) from by
      have := HE.out
      unfold JS.cmp
      simp only [h4, decide_true, JS.rdy, HS.out, if_true, Bool.false_eq_true, if_false, ← this, h1, ne_eq, not_true_eq_false, not_false_eq_true])
    go_wp2_with (go_at_call 24; refine (jfail_c HJ3.out E1).mono ?_; rintro e w9 ⟨rfl, hw9⟩; have HW9 := Lib.hid hw9; clear hw9)
    go_ret
    rw [HX.out]
    exact ⟨rfl, jafter_fail HJ.out.lt HJ3.out HD3.out HF3.out.1 HF3.out.2 E1 HW9.out⟩
end
end Go.Proofs.Ytfljpnfjndjhpaa
