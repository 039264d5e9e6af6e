/- journal: Append. -/
import Derived.Test.YtfljpnfjndjhpaaJm
import Derived.Deep.RegionHeld3
import Derived.Deep.AppendLies
import Derived.Deep.RegionLaw
namespace Go.Proofs.Ytfljpnfjndjhpaa
open Go.RowKit
set_option linter.unusedVariables false

section
variable {w : World} {jb : Nat} {a : Addr} {foot : List Nat} {j : JS} {sv rv : Value} {vs : List Value} {s : DS}

theorem frameB_length (b : List UInt8) : (frameB b).length = 8 + b.length := by simp [frameB, headB, be4]; omega

/-- Append: the part that goes to the disk. -/
def JAfter (w : World) (jb : Nat) (p : Option Addr) (foot : List Nat) (rv : Value) (s' : DS) (j' : JS) (w' : World) : Prop :=
  ∃ foot' sv' rv' vs', Disk w' p s' foot' ∧ Jr w' jb p foot' j' sv' rv' vs' ∧ (∀ i ∈ foot', i ∈ foot ∨ w.heap.size ≤ i) ∧ (∀ g, rv'.ownBlock = some g → rv.ownBlock = some g ∨ w.heap.size ≤ g) ∧ Chg (jb :: (rv.ownBlock.toList ++ foot)) w w'

theorem jblk_set3 {w : World} {jb : Nat} {c0 c1 c2 c3 u : Value} {T : TypeId} (h : w.heap[jb]? = some (.cells #[c0, c1, c2, c3] T (0, 0))) : (w.setCell ⟨jb, 3, none⟩ u).heap[jb]? = some (.cells #[c0, c1, c2, u] T (0, 0)) := heap_mod h

theorem Jr.setStop {p : Option Addr} (h : Jr w jb p foot j sv rv vs) : Jr (w.setCell ⟨jb, 3, none⟩ (.bool true)) jb p foot { j with stop := true } sv rv vs := by
  have hc : Chg [jb] w (w.setCell ⟨jb, 3, none⟩ (.bool true)) := ⟨rfl, rfl, rfl, by simp, fun i hi hn => Below.heap_setCell _ _ _ _ (by simpa using hn)⟩
  have hs : (w.setCell ⟨jb, 3, none⟩ (.bool true)).heap.size = w.heap.size := by simp
  refine ⟨jblk_set3 h.blk, h.sn.chg hc fun _ g hg => by simpa using (h.sf g hg).2.2.1, ?_, h.len, fun i v r h1 h2 => (h.rs i v r h1 h2).chg hc fun _ g hg => by simpa using (h.vf v (List.mem_of_getElem? h1) g hg).2.2.1, h.jf, ?_, ?_, ?_⟩
  · refine ⟨h.row.1, h.row.2.imp id ?_⟩
    rintro ⟨g, cap, cur, k1, k2, k3, k4⟩
    have := h.rf g (by rw [k1]; rfl)
    exact ⟨g, cap, cur, k1, k2, (hc.block g this.1 (by simpa using this.2.2)).trans k3, k4⟩
  · intro g hg; have := h.sf g hg; exact ⟨by rw [hs]; exact this.1, this.2⟩
  · intro g hg; have := h.rf g hg; exact ⟨by rw [hs]; exact this.1, this.2⟩
  · intro v hv g hg; have := h.vf v hv g hg; exact ⟨by rw [hs]; exact this.1, this.2⟩
theorem jafter_fail {p : Option Addr} {w3 w4 : World} {foot3 : List Nat} {s' : DS} (hlt : jb < w.heap.size) (hj : Jr w3 jb p foot3 j sv rv vs) (hd : Disk w3 p s' foot3) (hf : ∀ i ∈ foot3, i ∈ foot ∨ w.heap.size ≤ i) (hc : Chg foot w w3) (x : Int) (hw : w4 = if x = 71 then w3 else w3.setCell ⟨jb, 3, none⟩ (.bool true)) :
    JAfter w jb p foot rv s' (j.fail x) w4 := by
  have h1 : Chg (jb :: (rv.ownBlock.toList ++ foot)) w w3 := ⟨hc.os, hc.tape, hc.output, hc.size, fun i hi hn => hc.block i hi fun h => hn (by simp [h])⟩
  subst hw
  unfold JS.fail
  by_cases hx : x = 71
  · rw [if_pos hx, if_pos hx]
    exact ⟨foot3, sv, rv, vs, hd, hj, hf, fun g h => .inl h, h1⟩
  · rw [if_neg hx, if_neg hx]
    have hc2 : Chg [jb] w3 (w3.setCell ⟨jb, 3, none⟩ (.bool true)) := ⟨rfl, rfl, rfl, by simp, fun i hi hn => Below.heap_setCell _ _ _ _ (by simpa using hn)⟩
    exact ⟨foot3, sv, rv, vs, hd.chg hc2 (fun i hi hm => by simp only [List.mem_singleton] at hm; subst hm; exact hj.jf hi), hj.setStop, hf, fun g h => .inl h, h1.then hc2 fun i hi => .inl (by simp only [List.mem_singleton] at hi; simp [hi])⟩

theorem infoB : (Try.prog.info? 23).map (fun i => (i.zero, i.size, i.bytes)) = some (some (.slice none 0 0), 1, 24) := by kernel_rfl
theorem DS.append_len (s : DS) (n b : List UInt8) : (s.append n b).2.fs.length ≤ s.fs.length + 1 := by
  unfold DS.append
  split
  · simp
  · split
    · simp
    · split
      · simp [DS.burn_fs]
      · exact length_putA _ _ _

theorem Chg.more {S T : List Nat} {w w' : World} (h : Chg S w w') (hs : ∀ i ∈ S, i ∈ T) : Chg T w w' := ⟨h.os, h.tape, h.output, h.size, fun i hi hn => h.block i hi fun hm => hn (hs i hm)⟩

theorem jafter_push {p : Option Addr} {w4 w5 w6 : World} {foot4 : List Nat} {s' : DS} {b : List UInt8} {a5 : Option Addr} {cp5 g6 cap6 : Nat} (hj : Jr w4 jb p foot4 j sv rv vs) (hd : Disk w4 p s' foot4) (hf : ∀ i ∈ foot4, i ∈ foot ∨ w.heap.size ≤ i) (hc : Chg foot w w4)
    (hB5 : Below w4.heap.size w4 w5) (ho5 : w5.ownsRow w4.heap.size 5 1 (.slice a5 b.length cp5) b.length (bcells b))
    (hown6 : w6.ownsRow 0 23 1 (.slice (some ⟨g6, 0, none⟩) (vs.length + 1) cap6) (vs.length + 1) (vs ++ [.slice a5 b.length cp5])) (hgrow6 : (w5.alloc (.cells #[.slice a5 b.length cp5] 23 (0, 0))).grownBy w6 rv.ownBlock) (hat6 : rv.ownBlock = some g6 ∨ g6 = w5.heap.size + 1) (hlt6 : g6 < w6.heap.size) :
    JAfter w jb p foot rv s' { j with recs := j.recs ++ [b] } (w6.setCell ⟨jb, 2, none⟩ (.slice (some ⟨g6, 0, none⟩) (vs.length + 1) cap6)) := by
  have hs5 := hB5.size
  have hjl := hj.lt
  have hgb : ∀ g, rv.ownBlock = some g → g < w4.heap.size := fun g hg => (hj.rf g hg).1
  have hset : Chg [jb] w6 (w6.setCell ⟨jb, 2, none⟩ (.slice (some ⟨g6, 0, none⟩) (vs.length + 1) cap6)) := ⟨rfl, rfl, rfl, by simp, fun i hi hn => Below.heap_setCell _ _ _ _ (by simpa using hn)⟩
  have h56 : Chg (jb :: rv.ownBlock.toList) w5 w6 := (Chg.alloc _ w5 _).trans (Chg.of_grown hgrow6 fun g hg => .inl (by simp [hg]))
  have h57 : Chg (jb :: rv.ownBlock.toList) w5 (w6.setCell ⟨jb, 2, none⟩ (.slice (some ⟨g6, 0, none⟩) (vs.length + 1) cap6)) := h56.trans (hset.more (by simp))
  have h47 : Chg (jb :: rv.ownBlock.toList) w4 (w6.setCell ⟨jb, 2, none⟩ (.slice (some ⟨g6, 0, none⟩) (vs.length + 1) cap6)) := (Chg.of_below hB5).trans h57
  have hs7 : (w6.setCell ⟨jb, 2, none⟩ (.slice (some ⟨g6, 0, none⟩) (vs.length + 1) cap6)).heap.size = w6.heap.size := by simp
  have hs6 : w5.heap.size + 1 ≤ w6.heap.size := by simpa using hgrow6.size
  have hg6 : ∀ g, g < w4.heap.size → rv.ownBlock ≠ some g → g ≠ g6 := fun g h1 h2 e => hat6.elim (fun h => h2 (by rw [h, e])) fun h => by omega
  have h6j : g6 ≠ jb := fun e => hg6 jb hjl (fun h => (hj.rf jb h).2.2 rfl) e.symm
  have hjb6 : w6.heap[jb]? = some (.cells #[.pointer p, sv, rv, .bool j.stop] 51 (0, 0)) := by
    refine (hgrow6.block jb (by simp; omega) (fun e => (hj.rf jb e.symm).2.2 rfl)).trans ?_
    exact (Below.heap_alloc w5 _ jb (by omega)).trans ((hB5.block jb hjl).trans hj.blk)
  have h5b : ∀ g, (Value.slice a5 b.length cp5).ownBlock = some g → w4.heap.size ≤ g ∧ g < w5.heap.size := by
    intro g hg
    rcases ho5.2 with ⟨h, _⟩ | ⟨g', cap, cur, k1, k2, k3, _⟩
    · rw [h] at hg; cases hg
    · rw [k1] at hg
      simp only [Value.ownBlock, Option.some.injEq] at hg
      subst hg
      exact ⟨k2, lt_of_block k3⟩
  have hno : ∀ g, g ≠ jb → rv.ownBlock ≠ some g → g ∉ jb :: rv.ownBlock.toList := by
    intro g h1 h2 h3
    simp only [List.mem_cons, Option.mem_toList] at h3
    exact h3.elim h1 h2
  refine ⟨foot4, sv, _, vs ++ [.slice a5 b.length cp5], hd.chg h47 (fun i hi hm => ?_), ⟨heap_mod hjb6, ?_, ?_, ?_, ?_, hj.jf, ?_, ?_, ?_⟩, hf, ?_, ?_⟩
  · simp only [List.mem_cons, Option.mem_toList] at hm
    rcases hm with rfl | hm
    · exact hj.jf hi
    · exact (hj.rf i hm).2.1 hi
  · exact hj.sn.chg h47 fun _ g hg => hno g (hj.sf g hg).2.2.1 (hj.sf g hg).2.2.2
  · simp only [List.length_append, List.length_cons, List.length_nil, Nat.zero_add]
    refine ⟨hown6.1, hown6.2.imp id ?_⟩
    rintro ⟨g, cap, cur, k1, k2, k3, k4⟩
    have : g = g6 := by simp only [Value.slice.injEq, Option.some.injEq, Addr.mk.injEq] at k1; exact k1.1.1.symm
    exact ⟨g, cap, cur, k1, k2, (Below.heap_setCell _ _ _ _ (by rw [this]; exact h6j)).trans k3, k4⟩
  · simp [hj.len]
  · intro i v r h1 h2
    rcases Nat.lt_or_ge i vs.length with hi | hi
    · rw [List.getElem?_append_left hi] at h1
      rw [List.getElem?_append_left (by rw [← hj.len]; exact hi)] at h2
      exact (hj.rs i v r h1 h2).chg h47 fun _ g hg => hno g (hj.vf v (List.mem_of_getElem? h1) g hg).2.2.1 (hj.vf v (List.mem_of_getElem? h1) g hg).2.2.2
    · rw [List.getElem?_append_right hi] at h1
      rw [List.getElem?_append_right (by rw [← hj.len]; exact hi), ← hj.len] at h2
      have h0 : i - vs.length = 0 := by
        rcases Nat.eq_zero_or_pos (i - vs.length) with h | h
        · exact h
        · rw [List.getElem?_eq_none (by simp; omega)] at h1; cases h1
      rw [h0] at h1 h2
      simp only [List.getElem?_cons_zero, Option.some.injEq] at h1 h2
      subst h1 h2
      exact (Rd.of_own ho5).chg h57 fun _ g hg => hno g (by have := h5b g hg; omega) (fun h => by have := h5b g hg; have := hgb g h; omega)
  · intro g hg
    have h := hj.sf g hg
    exact ⟨by rw [hs7]; omega, h.2.1, h.2.2.1, by simp only [Value.ownBlock, ne_eq, Option.some.injEq]; exact fun e => hg6 g h.1 h.2.2.2 e.symm⟩
  · intro g hg
    simp only [Value.ownBlock, Option.some.injEq] at hg
    subst hg
    refine ⟨by rw [hs7]; exact hlt6, fun hm => ?_, h6j⟩
    rcases hat6 with h | h
    · exact (hj.rf _ h).2.1 hm
    · have := hd.lt _ hm; omega
  · intro v hv g hg
    simp only [List.mem_append, List.mem_singleton] at hv
    rcases hv with hv | rfl
    · have h := hj.vf v hv g hg
      exact ⟨by rw [hs7]; omega, h.2.1, h.2.2.1, by simp only [Value.ownBlock, ne_eq, Option.some.injEq]; exact fun e => hg6 g h.1 h.2.2.2 e.symm⟩
    · have h := h5b g hg
      refine ⟨by rw [hs7]; omega, fun hm => by have := hd.lt _ hm; omega, by omega, ?_⟩
      simp only [Value.ownBlock, ne_eq, Option.some.injEq]
      rcases hat6 with h' | h'
      · have := hgb _ h'; omega
      · omega
  · intro g hg
    simp only [Value.ownBlock, Option.some.injEq] at hg
    subst hg
    exact hat6.imp id fun h => by have := hc.size; omega
  · refine (hc.more (by simp; intro i h; exact .inr (.inr h))).trans (h47.more ?_)
    intro i hi
    simp only [List.mem_cons, List.mem_append] at hi ⊢
    exact hi.imp id .inl

set_option maxRecDepth 100000 in
set_option maxHeartbeats 4000000 in
theorem japp_c (hj : Jr w jb (some a) foot j sv rv vs) (hd : Disk w (some a) s foot) (hl : s.fs.length ≤ 999999999) (v : Value) (b : List UInt8) (hv : Rd w v b) (hvf : 0 < b.length → ∀ g, v.ownBlock = some g → g ∉ foot) (h0 : 0 < b.length) (h4 : b.length ≤ 4194304) (hst : j.stop = false) (hrc : j.recs.length ≤ 4194304) :
    Calls Try.prog 6 #[.pointer (some ⟨jb, 0, none⟩), v] w fun e w' => e = .returned (.int .i64 (j.app s b).1) ∧ JAfter w jb (some a) foot rv (j.app s b).2.2 (j.app s b).2.1 w' := by
  have HJ := Lib.hid hj
  have HD := Lib.hid hd
  have HV := Lib.hid hv
  have HVF := Lib.hid hvf
  have HL := Lib.hid hl
  have HS := Lib.hid hst
  have HRC := Lib.hid hrc
  have KP : ∀ w' : World, Below w.heap.size w w' → w'.cell? ⟨jb, 0, none⟩ = some (.pointer (some a)) := fun w' hb => (cells4 (hj.below hb).blk).1
  have HKP := Lib.hid KP
  obtain ⟨p, c, rfl, l1, l2, _⟩ := hv
  unfold maxLen at l2
  obtain ⟨E1, hE1⟩ : ∃ E, E = (s.append curN (frameB b)).1 := ⟨_, rfl⟩
  have HE := Lib.hid hE1
  clear hj hd hvf hl hst hE1 KP hrc
  go_enter Try.func6, Try.ntmps6
  go_wp2_with (go_at_call 20; refine (jready_c HJ.out _).mono ?_; rintro e w1 ⟨rfl, rfl⟩; rw [show j.rdy (decide ((b.length : Int) ≤ 4194304)) = 0 from by simp [JS.rdy, HS.out]; omega])
  go_region_held3 (fun w' => w'.cell? ⟨jb, 0, none⟩ = some (.pointer (some a)))
    (first
      | exact HKP.out _ (Below.refl _ _)
      | exact HKP.out _ ((Below.refl _ _).drew)
      | (refine HKP.out _ ?_; assumption)
      | (refine HKP.out _ (Below.drew ?_); assumption)
      | (refine HKP.out _ (below_drewN ?_ _); assumption)
      | exact (cells4 HJ3.out.blk).1)
    (first
      | (go_at_call 22; refine (frame_c _ _ b (HV.out.below ?_) (by omega)).mono ?_
         · first | exact Below.refl _ _ | exact (Below.refl _ _).drew | exact (Below.refl _ _).drew.drew | exact below_drewN (Below.refl _ _) _
         rintro e w2 ⟨r, rfl, hr, hb, hg⟩
         have HG2 := Lib.hid (show ∀ g, r.ownBlock = some g → w.heap.size ≤ g from by intro g h; have := hg g h; simpa using this)
         have HR2 := Lib.hid hr
         have hB2 : Below w.heap.size w w2 := by first | exact hb | exact (Below.refl _ _).drew.trans hb | exact (Below.refl _ _).drew.drew.trans hb | exact (below_drewN (Below.refl _ _) _).trans hb
         clear hr hb hg)
      | (go_at_call 21; refine (append_c (HD.out.below ?_) curB (by decide) (by have := HL.out; omega) r (frameB b) (HR2.out.below ?_) (fun _ g hg hm => ?_) (by rw [frameB_length]; omega)).mono ?_
         · first | assumption | exact Below.drew (by assumption) | exact below_drewN (by assumption) _
         · first | exact Below.refl _ _ | exact (Below.refl _ _).drew | exact (Below.refl _ _).drew.drew | exact below_drewN (Below.refl _ _) _
         · have h1 := HG2.out g hg
           have h2 := HD.out.lt g hm
           omega
         rintro e w3 ⟨rfl, foot3, hd3, hf3, hc3⟩
         rw [show (s.append curB.data.toList (frameB b)).fst = E1 from HE.out.symm]
         have HJ3 := Lib.hid (Jr.chg (HJ.out.below (by first | assumption | exact Below.drew (by assumption) | exact below_drewN (by assumption) _)) hc3 hf3)
         have HD3 := Lib.hid (show Disk w3 (some a) (s.append curN (frameB b)).2 foot3 from hd3)
         have HF3 := Lib.hid (show (∀ i ∈ foot3, i ∈ foot ∨ w.heap.size ≤ i) ∧ Chg foot w w3 from ⟨fun i hi => (hf3 i hi).imp id fun h => Nat.le_trans (Below.size (by first | assumption | exact Below.drew (by assumption) | exact below_drewN (by assumption) _)) h, (Chg.of_below (by first | assumption | exact Below.drew (by assumption) | exact below_drewN (by assumption) _)).trans hc3⟩)
         clear hd3 hf3 hc3)
      | fail "no arm")
  by_cases h1 : E1 = 0
  · subst h1
    obtain ⟨E2, hE2⟩ : ∃ E, E = ((s.append curN (frameB b)).2.sync curN).1 := ⟨_, rfl⟩
    have HE2 := Lib.hid hE2
    clear hE2
    have k0 := (cells4 HJ3.out.blk).1
    go_wp2_with (go_at_call 23; refine (sync_c HD3.out curB (by decide) (by have := DS.append_len s curN (frameB b); have := HL.out; omega)).mono ?_; rintro e w4 ⟨rfl, foot4, hd4, hf4, hc4⟩; rw [show ((s.append curN (frameB b)).2.sync curB.data.toList).1 = E2 from HE2.out.symm]; have HJ4 := Lib.hid (HJ3.out.chg hc4 hf4); have HF4 := Lib.hid (show (∀ i ∈ foot4, i ∈ foot ∨ w.heap.size ≤ i) ∧ Chg foot w w4 from ⟨fun i hi => (hf4 i hi).elim (HF3.out.1 i) fun h => .inr (Nat.le_trans HF3.out.2.size h), HF3.out.2.then hc4 HF3.out.1⟩); have HD4 := Lib.hid (show Disk w4 (some a) ((s.append curN (frameB b)).2.sync curN).2 foot4 from hd4); clear hd4 hf4 hc4 k0; by_cases h2 : E2 = 0)
    · subst h2
      obtain ⟨i0, hi, hz0, hz1, hz2⟩ := info_parts infoB
      have HX := Lib.hid (show j.app s b = (0, { j with recs := j.recs ++ [b] }, ((s.append curN (frameB b)).2.sync curN).2) from by
        have e1 := HE.out
        have e2 := HE2.out
        unfold JS.app
        simp only [h0, h4, decide_true, Bool.and_self, JS.rdy, HS.out, if_true, Bool.false_eq_true, if_false, ← e1, ← e2, ne_eq, not_true_eq_false])
      have KP4 : ∀ w' : World, Below w4.heap.size w4 w' → w'.cell? ⟨jb, 2, none⟩ = some rv ∧ w'.frozen? ⟨jb, 2, none⟩ = false := fun w' hb => ⟨(cells4 (HJ4.out.below hb).blk).2.2.1, (cells4 (HJ4.out.below hb).blk).2.2.2.2 2⟩
      have HKP4 := Lib.hid KP4
      have HRL := Lib.hid (show vs.length ≤ 4194304 from by rw [HJ.out.len]; exact HRC.out)
      have HV4 := Lib.hid (HV.out.chg HF4.out.2 HVF.out)
      clear KP4
      obtain ⟨q2, qf2⟩ := HKP4.out _ (Below.refl _ _)
      go_region_law (first
          | (go_simp; go_at_call 25; refine (clone_c _ _ b (HV4.out.below ?_) (by omega)).mono ?_
             · first | exact Below.refl _ _ | exact (Below.refl _ _).drew | exact (Below.refl _ _).drew.drew | exact below_drewN (Below.refl _ _) _
             rintro e w5 ⟨v5, rfl, ho5, hb5⟩
             obtain ⟨a5, cp5, rfl, u1, u2, u3⟩ := own_form ho5
             have HO5 := Lib.hid (show w5.ownsRow w4.heap.size 5 1 (.slice a5 b.length cp5) b.length (bcells b) from by simpa using ho5)
             have hB5 : Below w4.heap.size w4 w5 := by first | exact hb5 | exact (Below.refl _ _).drew.trans hb5 | exact (Below.refl _ _).drew.drew.trans hb5 | exact (below_drewN (Below.refl _ _) _).trans hb5
             obtain ⟨r2, rf2⟩ := HKP4.out _ hB5
             have r3 := (HKP4.out _ (hB5.alloc hB5.size (.cells #[.slice a5 b.length cp5] 23 (0, 0)))).1
             clear ho5 hb5)
          | ((refine step_append_lies _ (by rfl) _ _ _ (by rfl) 0 23 i0 (.slice none 0 0) 1 24 Try.underlying22 hi hz0 hz1 hz2 rfl (by omega) rv vs.length vs (by rfl) ((HJ4.out.below (by first | exact hB5.alloc hB5.size _ | exact (hB5.alloc hB5.size _).drew | exact below_drewN (hB5.alloc hB5.size _) _)).row) ⟨w5.heap.size, 0, none⟩ 1 1 [.slice a5 b.length cp5] (by rfl) (by simp) (World.news_of_block (heap_alloc_new w5 _)) (by simp [Value.oneCell']) (by omega) (by have := HRL.out; unfold maxLen; omega) (by have := HRL.out; omega) (Nat.zero_le _) (w5.heap.size + 1) (by simp) ?_); intro g6 cap6 w6 hown6 hgrow6 hat6 hlt6; have HJB6 := Lib.hid ((hgrow6.block jb (by have := HJ4.out.lt; have := hB5.size; simp; omega) (fun e => (HJ4.out.rf jb e.symm).2.2 rfl)).trans (HJ4.out.below (by first | exact hB5.alloc hB5.size _ | exact (hB5.alloc hB5.size _).drew | exact below_drewN (hB5.alloc hB5.size _) _)).blk); obtain ⟨_, _, p2, _, pf⟩ := cells4 HJB6.out; have pf2 := pf 2; clear pf)
          | fail "no arm")
      all_goals
        have HP6 := Lib.hid (jafter_push HJ4.out HD4.out HF4.out.1 HF4.out.2 hB5 HO5.out hown6 hgrow6 hat6 hlt6)
        clear hown6 hgrow6 hat6 hlt6
        go_wp2_with fail
        go_ret
        rw [HX.out]
        exact ⟨rfl, HP6.out⟩
    · have HX := Lib.hid (show j.app s b = (E2, j.fail E2, ((s.append curN (frameB b)).2.sync curN).2) from by
        have e1 := HE.out
        have e2 := HE2.out
        unfold JS.app
        simp only [h0, h4, decide_true, Bool.and_self, JS.rdy, HS.out, if_true, Bool.false_eq_true, if_false, ← e1, ← e2, h2, ne_eq, not_true_eq_false, not_false_eq_true])
      go_wp2_with (go_at_call 24; refine (jfail_c HJ4.out E2).mono ?_; rintro e w5 ⟨rfl, hw5⟩; have HW5 := Lib.hid hw5; clear hw5)
      go_ret
      rw [HX.out]
      exact ⟨rfl, jafter_fail HJ.out.lt HJ4.out HD4.out HF4.out.1 HF4.out.2 E2 HW5.out⟩
  · have HX := Lib.hid (show j.app s b = (E1, j.fail E1, (s.append curN (frameB b)).2) from by
      have := HE.out
      unfold JS.app
      simp only [h0, h4, decide_true, Bool.and_self, JS.rdy, HS.out, if_true, Bool.false_eq_true, if_false, ← this, h1, ne_eq, not_true_eq_false, not_false_eq_true])
    go_wp2_with (go_at_call 24; refine (jfail_c HJ3.out E1).mono ?_; rintro e w4 ⟨rfl, hw4⟩; have HW4 := Lib.hid hw4; clear hw4)
    go_ret
    rw [HX.out]
    exact ⟨rfl, jafter_fail HJ.out.lt HJ3.out HD3.out HF3.out.1 HF3.out.2 E1 HW4.out⟩

/-- Append that does not begin. -/
theorem japp_bad (hj : Jr w jb (some a) foot j sv rv vs) (hd : Disk w (some a) s foot) (v : Value) (b : List UInt8) (hv : Rd w v b) (hb : j.rdy (decide (0 < b.length) && decide (b.length ≤ 4194304)) ≠ 0) :
    Calls Try.prog 6 #[.pointer (some ⟨jb, 0, none⟩), v] w fun e w' => e = .returned (.int .i64 (j.app s b).1) ∧ (j.app s b).2 = (j, s) ∧ w = w' := by
  have HJ := Lib.hid hj
  have HX := Lib.hid (show j.app s b = (j.rdy (decide (0 < b.length) && decide (b.length ≤ 4194304)), j, s) from by unfold JS.app; rw [if_pos hb])
  obtain ⟨p, c, rfl, l1, l2, _⟩ := hv
  unfold maxLen at l2
  by_cases h0 : 0 < b.length
  · obtain ⟨X, hX⟩ : ∃ X, X = j.rdy (decide ((b.length : Int) ≤ 4194304)) := ⟨_, rfl⟩
    have e1 : decide ((b.length : Int) ≤ 4194304) = decide (b.length ≤ 4194304) := by congr 1; simp; omega
    have hX0 : X ≠ 0 := by rw [hX, e1]; simpa [h0] using hb
    have HXX := Lib.hid hX
    clear hb hX hj hd e1
    go_enter Try.func6, Try.ntmps6
    go_wp2_with (go_at_call 20; refine (jready_c HJ.out _).mono ?_; rintro e w1 ⟨rfl, rfl⟩; rw [← HXX.out])
    go_ret
    have e1 : decide ((b.length : Int) ≤ 4194304) = decide (b.length ≤ 4194304) := by congr 1; simp; omega
    refine ⟨?_, by rw [HX.out], rfl⟩
    rw [HX.out, HXX.out, e1]
    simp [h0]
  · obtain ⟨X, hX⟩ : ∃ X, X = j.rdy false := ⟨_, rfl⟩
    have hX0 : X ≠ 0 := by rw [hX]; simp [JS.rdy]
    have HXX := Lib.hid hX
    clear hb hX hj hd
    go_enter Try.func6, Try.ntmps6
    go_wp2_with (go_at_call 20; refine (jready_c HJ.out _).mono ?_; rintro e w1 ⟨rfl, rfl⟩; rw [← HXX.out])
    go_ret
    refine ⟨?_, by rw [HX.out], rfl⟩
    rw [HX.out, HXX.out]
    simp [h0]
end
end Go.Proofs.Ytfljpnfjndjhpaa
