/- journal: Open of a disk that holds a journal. -/
import Derived.Test.YtfljpnfjndjhpaaJy
namespace Go.Proofs.Ytfljpnfjndjhpaa
open Go Go.RowKit Go.Deep
set_option linter.unusedVariables false
set_option linter.unusedSimpArgs false

section
variable {w : World} {a : Addr} {s : DS} {foot : List Nat}
theorem RstE.first {w1 w' : World} {foot1 : List Nat} {E : Int} {l : List (List UInt8)} {s' : DS} {e : Ending} (h : RstE w1 a foot1 E l s' e w') (hf : ∀ i ∈ foot1, i ∈ foot ∨ w.heap.size ≤ i) (hc : Chg foot w w1) : RstE w a foot E l s' e w' := by
  obtain ⟨⟨f, k1, k2, k3⟩, h2, h3⟩ := h
  have hs := hc.size
  exact ⟨⟨f, k1, fun i hi => (k2 i hi).elim (hf i) fun h => .inr (by omega), hc.then k3 hf⟩, h2, h3⟩
theorem RstE.form {w' : World} {E : Int} {l : List (List UInt8)} {s' : DS} {e : Ending} (h : RstE w a foot E l s' e w') : ∃ q, e = .returned (.tuple #[.pointer q, .int .i64 E]) := by
  by_cases hE : E = 0
  · obtain ⟨jb, sv, rv, he, _⟩ := h.2.1 hE
    exact ⟨some ⟨jb, 0, none⟩, by rw [he, hE]⟩
  · exact ⟨_, h.2.2 hE⟩

set_option maxRecDepth 100000 in
set_option maxHeartbeats 4000000 in
theorem open_has (hd : Disk w (some a) s foot) (hl : (s.disc draN).2.fs.length ≤ 999999999) (v : Value) (h33 : (s.disc draN).1 = 0 → ((s.disc draN).2.read curN).2 ≠ 33) (hb : (s.disc draN).1 = 0 → ((s.disc draN).2.read curN).2 = 0 → 0 < ((s.disc draN).2.read curN).1.length ∧ ((s.disc draN).2.read curN).1.length ≤ 4294967295) :
    Calls Try.prog 5 #[.pointer (some a), v] w (RstE w a foot s.opn.1 s.opn.2.1 s.opn.2.2) := by
  have HD := Lib.hid hd
  have HL := Lib.hid hl
  have H33 := Lib.hid h33
  have HB := Lib.hid hb
  obtain ⟨E1, hE1⟩ : ∃ E1, E1 = (s.disc draN).1 := ⟨_, rfl⟩
  obtain ⟨E2, hE2⟩ : ∃ E2, E2 = ((s.disc draN).2.read curN).2 := ⟨_, rfl⟩
  have HE1 := Lib.hid hE1
  have HE2 := Lib.hid hE2
  clear hd hl h33 hb hE1 hE2
  go_enter Try.func5, Try.ntmps5
  go_wp2_with fail
  refine (discard_c HD.out draB (by decide)).mono ?_
  rintro e w1 ⟨rfl, foot1, hd1, hf1, hc1⟩
  rw [show (s.disc draB.data.toList).1 = E1 from HE1.out.symm]
  have HD1 := Lib.hid (show Disk w1 (some a) (s.disc draN).2 foot1 from hd1)
  have HF1 := Lib.hid (And.intro hf1 hc1)
  clear hd1 hf1 hc1
  by_cases h1 : E1 = 0
  · have HZ1 := Lib.hid (show (s.disc draN).1 = 0 from by rw [← HE1.out]; exact h1)
    subst h1
    go_wp2_with fail
    refine (read_c HD1.out curB (by decide)).mono ?_
    rintro e w2 ⟨v2, rfl, ho2, hb2⟩
    rw [show ((s.disc draN).2.read curB.data.toList).2 = E2 from HE2.out.symm]
    obtain ⟨p2, c2, rfl, hr2, hg2⟩ := own_rdJ ho2
    have HR2 := Lib.hid (And.intro hr2 (And.intro hg2 hb2))
    have HFW := Lib.hid (show (∀ i ∈ foot1, i ∈ foot ∨ w.heap.size ≤ i) ∧ Chg foot w w2 from ⟨HF1.out.1, HF1.out.2.trans (Chg.of_below hb2)⟩)
    clear ho2 hr2 hg2 hb2
    by_cases h2 : E2 = 0
    · have HZ2 := Lib.hid (show ((s.disc draN).2.read curN).2 = 0 from by rw [← HE2.out]; exact h2)
      subst h2
      have hlen := HB.out HZ1.out HZ2.out
      have hopn : s.opn = (s.disc draN).2.rst ((s.disc draN).2.read curN).1 := by
        unfold DS.opn DS.rst
        rw [if_neg (by rw [HZ1.out]; decide)]
        simp only []
        rw [if_neg (by rw [HZ2.out]; decide)]
      have HO := Lib.hid hopn
      clear hopn
      go_wp2_with fail
      refine (restore_c (HD1.out.below HR2.out.2.2) HL.out _ _ HR2.out.1 hlen.1 hlen.2 (fun g hg => ⟨Rd.lt HR2.out.1 hlen.1 g hg, fun hm => by have h1 := HR2.out.2.1 g hg; have h2 := HD1.out.lt _ hm; omega⟩)).mono ?_
      rintro e w3 hm
      have hm2 := RstE.first (foot := foot) (w := w) hm HFW.out.1 HFW.out.2
      obtain ⟨q, rfl⟩ := hm2.form
      have HM := Lib.hid hm2
      clear hm hm2
      go_wp2_with fail
      refine bodyPost_ret (v := .tuple #[.pointer q, .int .i64 _]) (by simp [results, Try.results5, go_sem]; rfl) rfl ?_
      rw [HO.out]
      exact HM.out
    · have hz2 : (E2 == 0) = false := beq_eq_false_iff_ne.2 h2
      have hz3 : (E2 == 33) = false := beq_eq_false_iff_ne.2 (by rw [HE2.out]; exact H33.out HZ1.out)
      go_wp2_with fail
      refine bodyPost_ret (v := .tuple #[.pointer none, .int .i64 E2]) (by simp [results, Try.results5, go_sem]) rfl ?_
      have hopn : s.opn = (E2, [], (s.disc draN).2) := by
        unfold DS.opn
        rw [if_neg (by rw [HZ1.out]; decide)]
        simp only []
        rw [if_pos (by rw [← HE2.out]; exact h2), ← HE2.out]
      rw [hopn]
      exact ⟨⟨foot1, HD1.out.below HR2.out.2.2, HF1.out.1, HFW.out.2⟩, fun h => absurd h h2, fun _ => rfl⟩
  · have hz1 : (E1 == 0) = false := beq_eq_false_iff_ne.2 h1
    go_wp2_with fail
    refine bodyPost_ret (v := .tuple #[.pointer none, .int .i64 E1]) (by simp [results, Try.results5, go_sem]) rfl ?_
    have hopn : s.opn = (E1, [], (s.disc draN).2) := by
      unfold DS.opn
      rw [if_pos (by rw [← HE1.out]; exact h1), ← HE1.out]
    rw [hopn]
    exact ⟨⟨foot1, HD1.out, HF1.out.1, HF1.out.2⟩, fun h => absurd h h1, fun _ => rfl⟩
end
end Go.Proofs.Ytfljpnfjndjhpaa
