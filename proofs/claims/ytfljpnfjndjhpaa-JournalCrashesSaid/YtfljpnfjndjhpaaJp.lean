/- journal: create, Open where there is no journal. -/
import Derived.Test.YtfljpnfjndjhpaaJo
namespace Go.Proofs.Ytfljpnfjndjhpaa
open Go.RowKit
set_option linter.unusedVariables false

section
variable {w : World} {jb : Nat} {a : Addr} {foot : List Nat} {j : JS} {sv rv : Value} {vs : List Value} {s : DS}

theorem jafter_same {p : Option Addr} (hj : Jr w jb p foot j sv rv vs) (hd : Disk w p s foot) : JAfter w jb p foot rv s j w :=
  ⟨foot, sv, rv, vs, hd, hj, fun i hi => .inl hi, fun g hg => .inl hg, Chg.refl _ _⟩

theorem JS.rdy_ok {j : JS} {v : Bool} (h : j.rdy v = 0) : v = true ∧ j.stop = false := by
  unfold JS.rdy at h
  cases v <;> cases hs : j.stop <;> simp_all

theorem jcmp_all (hj : Jr w jb (some a) foot j sv rv vs) (hd : Disk w (some a) s foot) (hl : s.fs.length ≤ 999999997) (v : Value) (b : List UInt8) (hv : Rd w v b) (hvf : 0 < b.length → ∀ g, v.ownBlock = some g → g ∉ foot) :
    Calls Try.prog 10 #[.pointer (some ⟨jb, 0, none⟩), v] w fun e w' => e = .returned (.int .i64 (j.cmp s b).1) ∧ JAfter w jb (some a) foot rv (j.cmp s b).2.2 (j.cmp s b).2.1 w' := by
  by_cases hb : j.rdy (decide (b.length ≤ 4194304)) = 0
  · have h := JS.rdy_ok hb
    exact jcmp_c hj hd hl v b hv hvf (by simpa using h.1) h.2
  · refine (jcmp_bad (s := s) hj v b hv hb).mono ?_
    rintro e w' ⟨h1, h2, rfl⟩
    exact ⟨h1, by rw [h2]; exact jafter_same hj hd⟩

theorem japp_all (hj : Jr w jb (some a) foot j sv rv vs) (hd : Disk w (some a) s foot) (hl : s.fs.length ≤ 999999999) (v : Value) (b : List UInt8) (hv : Rd w v b) (hvf : 0 < b.length → ∀ g, v.ownBlock = some g → g ∉ foot) (hrc : j.recs.length ≤ 4194304) :
    Calls Try.prog 6 #[.pointer (some ⟨jb, 0, none⟩), v] w fun e w' => e = .returned (.int .i64 (j.app s b).1) ∧ JAfter w jb (some a) foot rv (j.app s b).2.2 (j.app s b).2.1 w' := by
  by_cases hb : j.rdy (decide (0 < b.length) && decide (b.length ≤ 4194304)) = 0
  · have h := JS.rdy_ok hb
    simp only [Bool.and_eq_true, decide_eq_true_eq] at h
    exact japp_c hj hd hl v b hv hvf h.1.1 h.1.2 h.2 hrc
  · refine (japp_bad hj hd v b hv hb).mono ?_
    rintro e w' ⟨h1, h2, rfl⟩
    exact ⟨h1, by rw [h2]; exact jafter_same hj hd⟩

def JS.new : JS := ⟨[], [], false⟩

/-- What create leaves. -/
def Made (w : World) (a : Addr) (foot : List Nat) (E : Int) (s' : DS) (j' : JS) (e : Ending) (w' : World) : Prop := if E = 0
      then (∃ jb foot' sv' rv' vs', e = .returned (.tuple #[.pointer (some ⟨jb, 0, none⟩), .int .i64 0]) ∧ Disk w' (some a) s' foot' ∧ Jr w' jb (some a) foot' j' sv' rv' vs' ∧ w.heap.size ≤ jb ∧ (∀ i ∈ foot', i ∈ foot ∨ w.heap.size ≤ i) ∧ (∀ g, rv'.ownBlock = some g → w.heap.size ≤ g) ∧ Chg foot w w')
      else e = .returned (.tuple #[.pointer none, .int .i64 E]) ∧ After w (some a) s' foot w'
theorem Made.form {w w' : World} {a : Addr} {foot : List Nat} {E : Int} {s' : DS} {j' : JS} {e : Ending} (h : Made w a foot E s' j' e w') : ∃ q, e = .returned (.tuple #[.pointer q, .int .i64 E]) := by
  unfold Made at h
  split at h
  · obtain ⟨jb, _, _, _, _, h, _⟩ := h
    exact ⟨some ⟨jb, 0, none⟩, by rw [h]; simp [*]⟩
  · exact ⟨_, h.1⟩
theorem Made.first {w w1 w' : World} {a : Addr} {foot foot1 : List Nat} {E : Int} {s' : DS} {j' : JS} {e : Ending} (h : Made w1 a foot1 E s' j' e w') (hf : ∀ i ∈ foot1, i ∈ foot ∨ w.heap.size ≤ i) (hc : Chg foot w w1) : Made w a foot E s' j' e w' := by
  have hs := hc.size
  unfold Made at h ⊢
  split at h
  · rename_i hE
    rw [if_pos hE]
    obtain ⟨jb, f, sv, rv, vs, k1, k2, k3, k4, k5, k6, k7⟩ := h
    exact ⟨jb, f, sv, rv, vs, k1, k2, k3, by omega, fun i hi => (k5 i hi).elim (hf i) fun h => .inr (by omega), fun g hg => Nat.le_trans hs (k6 g hg), hc.then k7 hf⟩
  · rename_i hE
    rw [if_neg hE]
    obtain ⟨k1, f, k2, k3, k4⟩ := h
    exact ⟨k1, f, k2, fun i hi => (k3 i hi).elim (hf i) fun h => .inr (by omega), hc.then k4 hf⟩
theorem jr_new {w : World} {p : Option Addr} {foot : List Nat} (hd : Disk w p s foot) : Jr (w.alloc (.cells #[.pointer p, .slice none 0 0, .slice none 0 0, .bool false] 51 (0, 0))) w.heap.size p foot JS.new (.slice none 0 0) (.slice none 0 0) [] :=
  ⟨heap_alloc_new w _, Rd.nil _, World.ownsRow_nil _ _ _ _, rfl, by simp, fun h => by have := hd.lt _ h; omega, by simp [Value.ownBlock], by simp [Value.ownBlock], by simp⟩

set_option maxRecDepth 100000 in
set_option maxHeartbeats 4000000 in
theorem create_c (hd : Disk w (some a) s foot) (hl : s.fs.length ≤ 999999997) (v : Value) (b : List UInt8) (hv : Rd w v b) (hvf : 0 < b.length → ∀ g, v.ownBlock = some g → g ∉ foot) :
    Calls Try.prog 18 #[.pointer (some a), v] w fun e w' => Made w a foot (JS.new.cmp s b).1 (JS.new.cmp s b).2.2 (JS.new.cmp s b).2.1 e w' := by
  have HD := Lib.hid hd
  have HV := Lib.hid hv
  have HVF := Lib.hid hvf
  have HL := Lib.hid hl
  obtain ⟨p, c, rfl, l1, l2, _⟩ := hv
  unfold maxLen at l2
  obtain ⟨E1, hE1⟩ : ∃ E, E = (JS.new.cmp s b).1 := ⟨_, rfl⟩
  have HE := Lib.hid hE1
  rw [← hE1]
  clear hd hvf hl hE1
  go_enter Try.func18, Try.ntmps18
  by_cases h1 : E1 = 0
  · subst h1
    go_wp2_with (go_at_call 10; refine (jcmp_all (jr_new HD.out) (HD.out.below ((Below.refl _ _).alloc (Nat.le_refl _) _)) HL.out _ b (HV.out.alloc _) HVF.out).mono ?_; rintro e w1 ⟨rfl, ha⟩; rw [← HE.out]; have HA := Lib.hid ha; clear ha)
    refine bodyPost_ret (v := .tuple #[.pointer (some ⟨w.heap.size, 0, none⟩), .int .i64 0]) (by simp [results, Try.results18, go_sem]) rfl ?_
    unfold Made
    rw [if_pos rfl]
    obtain ⟨foot', sv', rv', vs', k1, k2, k3, k4, k5⟩ := HA.out
    refine ⟨w.heap.size, foot', sv', rv', vs', rfl, k1, k2, Nat.le_refl _, fun i hi => (k3 i hi).imp id fun h => by simp at h; omega, fun g hg => (k4 g hg).elim (fun h => by simp [Value.ownBlock] at h) fun h => by simp at h; omega, (Chg.alloc foot w _).then k5 fun i hi => ?_⟩
    simp only [Value.ownBlock, Option.toList_none, List.nil_append, List.mem_cons] at hi
    exact hi.elim (fun h => .inr (by omega)) .inl
  · go_wp2_with (go_at_call 10; refine (jcmp_all (jr_new HD.out) (HD.out.below ((Below.refl _ _).alloc (Nat.le_refl _) _)) HL.out _ b (HV.out.alloc _) HVF.out).mono ?_; rintro e w1 ⟨rfl, ha⟩; rw [← HE.out]; have HA := Lib.hid ha; clear ha)
    refine bodyPost_ret (v := .tuple #[.pointer none, .int .i64 E1]) (by simp [results, Try.results18, go_sem]) rfl ?_
    unfold Made
    rw [if_neg h1]
    obtain ⟨foot', sv', rv', vs', k1, k2, k3, k4, k5⟩ := HA.out
    refine ⟨rfl, foot', k1, fun i hi => (k3 i hi).imp id fun h => by simp at h; omega, (Chg.alloc foot w _).then k5 fun i hi => ?_⟩
    simp only [Value.ownBlock, Option.toList_none, List.nil_append, List.mem_cons] at hi
    exact hi.elim (fun h => .inr (by omega)) .inl

/-- Open where there is no journal. -/
def DS.open0 (s : DS) (b : List UInt8) : Int × JS × DS := JS.new.cmp (s.disc draN).2 b

set_option maxRecDepth 100000 in
set_option maxHeartbeats 4000000 in
theorem open_new (hd : Disk w (some a) s foot) (hl : (s.disc draN).2.fs.length ≤ 999999997) (v : Value) (b : List UInt8) (hv : Rd w v b) (hvf : ∀ g, v.ownBlock = some g → g < w.heap.size ∧ g ∉ foot) (h1 : (s.disc draN).1 = 0) (h2 : ((s.disc draN).2.read curN).2 = 33) :
    Calls Try.prog 5 #[.pointer (some a), v] w fun e w' => Made w a foot (s.open0 b).1 (s.open0 b).2.2 (s.open0 b).2.1 e w' := by
  have HD := Lib.hid hd
  have HV := Lib.hid hv
  have HVF := Lib.hid hvf
  have HL := Lib.hid hl
  have H1 := Lib.hid h1
  have H2 := Lib.hid h2
  obtain ⟨p, c, rfl, l1, l2, _⟩ := hv
  unfold maxLen at l2
  clear hd hvf hl h1 h2
  go_enter Try.func5, Try.ntmps5
  go_wp2_with (first
    | (go_at_call 16; refine (discard_c HD.out draB (by decide)).mono ?_; rintro e w1 ⟨rfl, foot1, hd1, hf1, hc1⟩; rw [show (s.disc draB.data.toList).1 = 0 from H1.out]; have HD1 := Lib.hid (show Disk w1 (some a) (s.disc draN).2 foot1 from hd1); have HF1 := Lib.hid (And.intro hf1 hc1); have HV1 := Lib.hid (HV.out.chg hc1 fun _ g hg => (HVF.out g hg).2); clear hd1 hf1 hc1)
    | (go_at_call 17; refine (read_c HD1.out curB (by decide)).mono ?_; rintro e w2 ⟨v2, rfl, _, hb2⟩; rw [show ((s.disc draN).2.read curB.data.toList).2 = 33 from H2.out]; have HB2 := Lib.hid hb2; clear hb2)
    | (go_at_call 18; refine (create_c (HD1.out.below HB2.out) HL.out _ b (HV1.out.below HB2.out) (fun _ g hg hm => (HF1.out.1 g hm).elim (HVF.out g hg).2 fun h => absurd (HVF.out g hg).1 (by omega))).mono ?_; rintro e w3 hm; obtain ⟨q, rfl⟩ := hm.form; have HM := Lib.hid (Made.first hm HF1.out.1 (HF1.out.2.trans (Chg.of_below HB2.out))); clear hm))
  exact bodyPost_ret (v := .tuple #[.pointer q, .int .i64 (s.open0 b).1]) (by simp [results, Try.results5, go_sem, DS.open0]) rfl HM.out
end
end Go.Proofs.Ytfljpnfjndjhpaa
