/- journal: discard, create, Snapshot. -/
import Derived.Test.YtfljpnfjndjhpaaJc
namespace Go.Proofs.Ytfljpnfjndjhpaa
open Go.RowKit
set_option linter.unusedVariables false

def DS.disc (s : DS) (n : List UInt8) : Int × DS := if (s.read n).2 = 33 then (0, s) else if (s.read n).2 ≠ 0 then ((s.read n).2, s) else s.remove n

section
variable {w : World} {jb : Nat} {a : Addr} {foot : List Nat} {j : JS} {sv rv : Value} {vs : List Value} {s : DS}

theorem After.ofBelow {p : Option Addr} {w' : World} (h : Disk w p s foot) (hb : Below w.heap.size w w') : After w p s foot w' := ⟨foot, h.below hb, fun i hi => .inl hi, Chg.of_below hb⟩
theorem After.first {p : Option Addr} {s' : DS} {w1 w' : World} (hb : Below w.heap.size w w1) (h : After w1 p s' foot w') : After w p s' foot w' := by
  obtain ⟨f, hd, hf, hc⟩ := h
  exact ⟨f, hd, fun i hi => (hf i hi).imp id fun h => Nat.le_trans hb.size h, (Chg.of_below hb).trans hc⟩

theorem discard_c {p : Option Addr} (h : Disk w p s foot) (n : ByteArray) (hn : n.size ≤ 9223372036854775807) :
    Calls Try.prog 16 #[.pointer p, .string n] w fun e w' => e = .returned (.int .i64 (s.disc n.data.toList).1) ∧ After w p (s.disc n.data.toList).2 foot w' := by
  have HD := Lib.hid h
  have HN := Lib.hid hn
  obtain ⟨E1, hE1⟩ : ∃ E, E = (s.read n.data.toList).2 := ⟨_, rfl⟩
  have HE := Lib.hid hE1
  clear hE1 h hn
  by_cases h1 : E1 = 33
  · subst h1
    have HX := Lib.hid (show s.disc n.data.toList = (0, s) from by have := HE.out; unfold DS.disc; simp [← this])
    go_enter Try.func16, Try.ntmps16
    go_wp2_with (go_at_call 17; refine (read_c HD.out n HN.out).mono ?_; rintro e w1 ⟨v, rfl, _, hb⟩; rw [← HE.out]; have HB := Lib.hid hb; clear hb)
    go_ret
    rw [HX.out]
    exact ⟨rfl, After.ofBelow HD.out HB.out⟩
  · by_cases h2 : E1 = 0
    · subst h2
      have HX := Lib.hid (show s.disc n.data.toList = s.remove n.data.toList from by have := HE.out; unfold DS.disc; simp [← this])
      go_enter Try.func16, Try.ntmps16
      go_wp2_with (first
        | (go_at_call 17; refine (read_c HD.out n HN.out).mono ?_; rintro e w1 ⟨v, rfl, _, hb⟩; rw [← HE.out]; have HB := Lib.hid hb; clear hb)
        | (go_at_call 33; refine (remove_c (HD.out.below HB.out) n HN.out).mono ?_; rintro e w2 ⟨rfl, ha⟩; have HA := Lib.hid ha; clear ha))
      go_ret
      rw [HX.out]
      exact ⟨rfl, After.first HB.out HA.out⟩
    · have HX := Lib.hid (show s.disc n.data.toList = (E1, s) from by have := HE.out; unfold DS.disc; simp [← this, h1, h2])
      go_enter Try.func16, Try.ntmps16
      go_wp2_with (go_at_call 17; refine (read_c HD.out n HN.out).mono ?_; rintro e w1 ⟨v, rfl, _, hb⟩; rw [← HE.out]; have HB := Lib.hid hb; clear hb)
      go_ret
      rw [HX.out]
      exact ⟨rfl, After.ofBelow HD.out HB.out⟩

/-- Snapshot: a copy. -/
theorem jsnap_c (hj : Jr w jb (some a) foot j sv rv vs) (hn : j.snap.length ≤ 140737488355328) :
    Calls Try.prog 8 #[.pointer (some ⟨jb, 0, none⟩)] w fun e w' => ∃ v', e = .returned v' ∧ w'.ownsRow w.heap.size 5 1 v' j.snap.length (bcells j.snap) ∧ Below w.heap.size w w' := by
  have HJ := Lib.hid hj
  obtain ⟨c0, c1, c2, c3, cf⟩ := cells4 hj.blk
  obtain ⟨p, c, hsv, l1, l2, _⟩ := hj.sn
  subst hsv
  clear hj c0 c2 c3 cf
  go_enter Try.func8, Try.ntmps8
  go_wp2_with (first
    | (go_at_call 26; refine (jmade_c HJ.out).mono ?_; rintro e w' ⟨rfl, rfl⟩)
    | (go_at_call 25; refine (clone_c _ _ _ HJ.out.sn hn).mono ?_; rintro e w1 ⟨v1, rfl, ho, hb⟩; obtain ⟨a7, cp7, rfl, _, _, _⟩ := own_form ho; have HO := Lib.hid ho; have HB := Lib.hid hb; clear ho hb))
  go_ret
  exact ⟨_, rfl, HO.out, HB.out⟩

/-- Compact that does not begin. -/
theorem jcmp_bad (hj : Jr w jb (some a) foot j sv rv vs) (v : Value) (b : List UInt8) (hv : Rd w v b) (hb : j.rdy (decide (b.length ≤ 4194304)) ≠ 0) :
    Calls Try.prog 10 #[.pointer (some ⟨jb, 0, none⟩), v] w fun e w' => e = .returned (.int .i64 (j.cmp s b).1) ∧ (j.cmp s b).2 = (j, s) ∧ w = w' := by
  have HJ := Lib.hid hj
  have HX := Lib.hid (show j.cmp s b = (j.rdy (decide (b.length ≤ 4194304)), j, s) from by unfold JS.cmp; rw [if_pos hb])
  obtain ⟨p, c, rfl, l1, l2, _⟩ := hv
  unfold maxLen at l2
  obtain ⟨X, hX⟩ : ∃ X, X = j.rdy (decide ((b.length : Int) ≤ 4194304)) := ⟨_, rfl⟩
  have e1 : decide ((b.length : Int) ≤ 4194304) = decide (b.length ≤ 4194304) := by congr 1; simp; omega
  have hX0 : X ≠ 0 := by rw [hX, e1]; exact hb
  have HXX := Lib.hid hX
  clear hb hX hj e1
  go_enter Try.func10, Try.ntmps10
  go_wp2_with (go_at_call 20; refine (jready_c HJ.out _).mono ?_; rintro e w1 ⟨rfl, rfl⟩; rw [← HXX.out])
  go_ret
  have e1 : decide ((b.length : Int) ≤ 4194304) = decide (b.length ≤ 4194304) := by congr 1; simp; omega
  refine ⟨?_, by rw [HX.out], rfl⟩
  rw [HX.out, HXX.out, e1]
  rfl
end
end Go.Proofs.Ytfljpnfjndjhpaa
