/- journal: SameTexts; a journal that lives, its appends. -/
import Derived.Test.YtfljpnfjndjhpaaJz
import Derived.Test.YtfljpnfjndjhpaaVw
namespace Go.Proofs.Ytfljpnfjndjhpaa
open Go Go.RowKit Go.Deep
set_option linter.unusedVariables false
set_option linter.unusedSimpArgs false

set_option maxRecDepth 100000 in
set_option maxHeartbeats 2000000 in
theorem equalF_c (w : World) (v1 v2 : Value) (l1 l2 : List (List UInt8)) (h1 : RdRows w v1 l1) (h2 : RdRows w v2 l2) :
    Calls Try.prog 32 #[v1, v2, .func (.func 12) #[] #[]] w fun e w' => e = .returned (.bool (decide (l1 = l2))) ∧ w = w' := by
  have H1 := Lib.hid h1
  have H2 := Lib.hid h2
  have hE := enters_of Try.func12 (by kernel_rfl) rfl
  obtain ⟨a1, c1, hv1, m1, n1⟩ := h1.form
  obtain ⟨a2, c2, hv2, m2, n2⟩ := h2.form
  subst hv1 hv2
  have hn : l1.length ≤ 9223372036854775807 := by unfold maxLen at n1; omega
  clear h1 h2 m1 n1 m2 n2
  by_cases hlen : l1.length = l2.length
  · have HLE := Lib.hid hlen
    rw [← hlen] at H2 ⊢
    have hq : (((l1.length : Nat) : Int) == ((l1.length : Nat) : Int)) = true := by simp
    clear hlen
    go_enter Try.func32, Try.ntmps32
    go_wp2_with fail
    go_loopw [17] (fun i wr => ∃ k : Nat, k ≤ l1.length ∧ i = .int .i64 k ∧ w = wr ∧ l1.take k = l2.take k) (fun i _ => l1.length - (intOf i).toNat)
    case atStart => exact ⟨0, by omega, rfl, rfl, by simp⟩
    case round =>
      obtain ⟨k, hk, rfl, rfl, htk⟩ := hrel
      have HTK := Lib.hid htk
      clear htk
      by_cases hlt : k < l1.length
      · have hlt2 : k < l2.length := by rw [← HLE.out]; exact hlt
        have hd : decide ((k : Int) < (l1.length : Int)) = true := decide_eq_true (by omega)
        obtain ⟨g, o, a', c', rfl, hg, hc1, hr1⟩ := H1.out.at k hlt
        have H2' : RdRows w (.slice a2 l2.length c2) l2 := by have := H2.out; rwa [HLE.out] at this
        obtain ⟨g2, o2, a2', c2', rfl, hg2, hc2, hr2⟩ := H2'.at k hlt2
        obtain ⟨x, hx⟩ : ∃ x, x = l1[k] := ⟨_, rfl⟩
        obtain ⟨y, hy⟩ : ∃ y, y = l2[k] := ⟨_, rfl⟩
        rw [← hx] at hc1 hr1
        rw [← hy] at hc2 hr2
        have HXY := Lib.hid (And.intro hx hy)
        have HEQ := Lib.hid (equal_c w _ _ x y hr1 hr2)
        obtain ⟨q, hq2⟩ : ∃ q, q = (x == y) := ⟨_, rfl⟩
        rw [← hq2] at HEQ
        have HQ2 := Lib.hid hq2
        clear hr1 hr2 hx hy hq2 H2'
        go_wp2_with fail
        refine HEQ.out.mono ?_
        rintro e w' ⟨rfl, rfl⟩
        cases q with
        | true =>
          go_wp2_with fail
          go_roundw
          case rel =>
            refine ⟨k + 1, by omega, by go_num, by trivial, ?_⟩
            rw [List.take_succ_eq_append_getElem hlt, List.take_succ_eq_append_getElem hlt2, HTK.out, ← HXY.out.1, ← HXY.out.2]
            have : x = y := by have := HQ2.out; simpa using this.symm
            rw [this]
          case measure => simp [intOf]; omega
        | false =>
          go_wp2_with fail
          go_ret
          have hne : l1 ≠ l2 := fun h => by
            subst h
            have : x ≠ y := by have := HQ2.out; simpa using this.symm
            exact this (by rw [HXY.out.1, HXY.out.2])
          exact ⟨by rw [decide_eq_false hne]; rfl, rfl⟩
      · have hd : decide ((k : Int) < (l1.length : Int)) = false := decide_eq_false (by omega)
        go_wp2_with fail
        go_ret
        have : l1 = l2 := by
          have := HTK.out
          rw [List.take_of_length_le (by omega), List.take_of_length_le (by rw [← HLE.out]; omega)] at this
          exact this
        exact ⟨by rw [decide_eq_true this]; rfl, rfl⟩
  · have hq : (((l1.length : Nat) : Int) == ((l2.length : Nat) : Int)) = false := beq_eq_false_iff_ne.2 (by omega)
    have hne : l1 ≠ l2 := fun h => hlen (by rw [h])
    have hdn : decide (l1 = l2) = false := decide_eq_false hne
    rw [hdn]
    clear hne hdn
    go_enter Try.func32, Try.ntmps32
    go_wp2_with fail
    go_ret
    exact ⟨by rfl, rfl⟩
theorem same_c (w : World) (v1 v2 : Value) (l1 l2 : List (List UInt8)) (h1 : RdRows w v1 l1) (h2 : RdRows w v2 l2) :
    Calls Try.prog 13 #[v1, v2] w fun e w' => e = .returned (.bool (decide (l1 = l2))) ∧ w = w' := by
  have HC := Lib.hid (equalF_c w v1 v2 l1 l2 h1 h2)
  obtain ⟨a1, c1, hv1, _⟩ := h1.form
  obtain ⟨a2, c2, hv2, _⟩ := h2.form
  subst hv1 hv2
  clear h1 h2
  obtain ⟨q, hq⟩ : ∃ q, q = decide (l1 = l2) := ⟨_, rfl⟩
  rw [← hq] at HC ⊢
  clear hq
  go_enter Try.func13, Try.ntmps13
  go_wp2_with fail
  refine HC.out.mono ?_
  rintro e w' ⟨rfl, rfl⟩
  go_wp2_with fail
  go_ret
  exact ⟨by rfl, rfl⟩

/-- A journal that lives on a disk: both made behind w0. -/
def Live (w0 w : World) (a : Addr) (s : DS) (j : JS) (jb : Nat) : Prop :=
  ∃ foot sv rv vs, Disk w (some a) s foot ∧ Jr w jb (some a) foot j sv rv vs ∧ (∀ i ∈ foot, w0.heap.size ≤ i) ∧ w0.heap.size ≤ jb ∧ (∀ g, rv.ownBlock = some g → w0.heap.size ≤ g) ∧ Below w0.heap.size w0 w
theorem Live.after {w0 w w' : World} {a : Addr} {s' : DS} {j' : JS} {jb : Nat} {foot : List Nat} {rv : Value} (hf : ∀ i ∈ foot, w0.heap.size ≤ i) (hjb : w0.heap.size ≤ jb) (hrv : ∀ g, rv.ownBlock = some g → w0.heap.size ≤ g) (hb : Below w0.heap.size w0 w) (h : JAfter w jb (some a) foot rv s' j' w') : Live w0 w' a s' j' jb := by
  obtain ⟨f, sv, rv', vs, k1, k2, k3, k4, k5⟩ := h
  have hs := hb.size
  refine ⟨f, sv, rv', vs, k1, k2, fun i hi => (k3 i hi).elim (hf i) fun h => by omega, hjb, fun g hg => (k4 g hg).elim (hrv g) fun h => by omega, ?_⟩
  refine ⟨k5.os.trans hb.os, k5.tape.trans hb.tape, k5.output.trans hb.output, Nat.le_trans hs k5.size, fun i hi => (k5.block i (by omega) (fun hm => ?_)).trans (hb.block i hi)⟩
  rcases List.mem_cons.1 hm with h | h
  · omega
  · rcases List.mem_append.1 h with h | h
    · have := hrv i (by simpa using h)
      omega
    · have := hf i h
      omega
theorem Live.below {w0 w w' : World} {a : Addr} {s : DS} {j : JS} {jb : Nat} (h : Live w0 w a s j jb) (hb : Below w.heap.size w w') : Live w0 w' a s j jb := by
  obtain ⟨f, sv, rv, vs, k1, k2, k3, k4, k5, k6⟩ := h
  exact ⟨f, sv, rv, vs, k1.below hb, k2.below hb, k3, k4, k5, k6.trans (hb.mono k6.size)⟩
theorem live_app {w0 w : World} {a : Addr} {s : DS} {j : JS} {jb : Nat} (h : Live w0 w a s j jb) (hl : s.fs.length ≤ 999999997) (hrc : j.recs.length ≤ 4194304) (v : Value) (b : List UInt8) (hv : Rd w0 v b) :
    Calls Try.prog 6 #[.pointer (some ⟨jb, 0, none⟩), v] w fun e w' => e = .returned (.int .i64 (j.app s b).1) ∧ Live w0 w' a (j.app s b).2.2 (j.app s b).2.1 jb := by
  obtain ⟨f, sv, rv, vs, k1, k2, k3, k4, k5, k6⟩ := h
  refine (japp_all k2 k1 (by omega) v b (hv.below k6) (fun h0 g hg hm => by have h1 := Rd.lt hv h0 g hg; have h2 := k3 g hm; omega) hrc).mono ?_
  rintro e w' ⟨rfl, ha⟩
  exact ⟨rfl, Live.after k3 k4 k5 k6 ha⟩
theorem live_cmp {w0 w : World} {a : Addr} {s : DS} {j : JS} {jb : Nat} (h : Live w0 w a s j jb) (hl : s.fs.length ≤ 999999997) (v : Value) (b : List UInt8) (hv : Rd w0 v b) :
    Calls Try.prog 10 #[.pointer (some ⟨jb, 0, none⟩), v] w fun e w' => e = .returned (.int .i64 (j.cmp s b).1) ∧ Live w0 w' a (j.cmp s b).2.2 (j.cmp s b).2.1 jb := by
  obtain ⟨f, sv, rv, vs, k1, k2, k3, k4, k5, k6⟩ := h
  refine (jcmp_all k2 k1 hl v b (hv.below k6) (fun h0 g hg hm => by have h1 := Rd.lt hv h0 g hg; have h2 := k3 g hm; omega)).mono ?_
  rintro e w' ⟨rfl, ha⟩
  exact ⟨rfl, Live.after k3 k4 k5 k6 ha⟩
end Go.Proofs.Ytfljpnfjndjhpaa
