/- Cases: the number of a further instance (the reference's). Written by tools/genyr.py. -/
import Derived.Test.YtncloiimbclklaaYq
namespace Go.Proofs.Ytncloiimbclklaa
open Go Go.RowKit Go.Shelf
set_option linter.unusedVariables false
set_option linter.unusedSimpArgs false

set_option maxRecDepth 100000 in
set_option maxHeartbeats 2000000 in
theorem rnext_c (w : World) (c : CV) (h : CVok w c) (u item : ByteArray) (hs : ∀ x ∈ c.insts, x.ls.length ≤ 40) (hps : ∀ x ∈ c.insts, x.path.size ≤ 400) (huu : u.size ≤ 140737488355328) (hc4 : c.insts.length ≤ 40) : Calls Try.prog 17 #[c.val, .string u, .string item] w fun e w' => e = .returned (.int .i64 (min (nxt u item c.insts) 4611686018427387903 + 1)) ∧ Below w.heap.size w w' := by
  have HK := Lib.hid (fun (W : World) (hb : Below w.heap.size w W) => rkids_c W c (h.below hb) u hs hps huu hc4)
  have HB0 := Lib.hid (fun o => box_bel' w o)
  have HIV := Lib.hid h.insts.2
  have HPS := Lib.hid hps
  have HC4 := Lib.hid hc4
  have hl := h.insts.1
  obtain ⟨id, mo, iv, dv, cl, is, ds⟩ := c
  dsimp only at HK HIV HPS HC4 hl ⊢
  obtain ⟨a, ca, hiv, _⟩ := hl
  subst hiv
  obtain ⟨R, hR⟩ : ∃ R, R = nxt u item is := ⟨_, rfl⟩
  have HR := Lib.hid hR
  rw [← hR]
  unfold CV.val at HK ⊢
  dsimp only at HK ⊢
  clear h hs hps hc4 hR huu
  go_enter Try.func17, Try.ntmps17
  go_wp2_with fail
  refine (HK.out _ (HB0.out _)).mono ?_
  rintro e w1 ⟨v, rfl, ho, hb⟩
  obtain ⟨l', hli, hbare⟩ := ho.is (w0 := w) (fun x hx => HIV.out x (List.mem_filter.1 hx).1)
  have HLI := Lib.hid hli
  have HB1 := Lib.hid ((HB0.out _).trans (hb.mono (HB0.out _).size))
  have HRN := Lib.hid (rnxt_eq u item is l' hbare)
  have HLP := Lib.hid (show ∀ x ∈ l', x.path.size ≤ 400 from fun x hx => by
    have : x.bare ∈ (is.filter (kidP u)).map IV.bare := by rw [← hbare]; exact List.mem_map.2 ⟨x, hx, rfl⟩
    obtain ⟨y, hy, he⟩ := List.mem_map.1 this
    have h1 := HPS.out y (List.mem_filter.1 hy).1
    have h3 : y.bare.path = x.bare.path := by rw [he]
    have h2 : y.path = x.path := h3
    rwa [h2] at h1)
  obtain ⟨a2, ca2, hv, hn1, hn2, _, _⟩ := hli.1
  subst hv
  have hn : l'.length ≤ 9223372036854775807 := by unfold maxLen at hn2; omega
  clear ho hli hb hbare hn1 hn2
  go_wp2_with fail
  go_loopw [7, 16] (fun nv i wr => ∃ k : Nat, k ≤ l'.length ∧ i = .int .i64 k ∧ nv = .int .i64 (rnxt item (l'.take k)) ∧ Below w1.heap.size w1 wr) (fun _ i _ => l'.length - (intOf i).toNat)
  case atStart => exact ⟨0, by omega, rfl, rfl, Below.refl _ _⟩
  case round =>
    obtain ⟨k, hk, rfl, rfl, hbr⟩ := hrel
    have HBR := Lib.hid hbr
    clear hbr
    have HN0 := Lib.hid (fold_pos (rstepN_pos item) (l'.take k) 0 (Int.le_refl 0))
    by_cases hlt : k < l'.length
    · obtain ⟨x, hx⟩ : ∃ x, x = l'[k] := ⟨_, rfl⟩
      have HN := Lib.hid (show rnxt item (l'.take (k + 1)) = rstepN item (rnxt item (l'.take k)) x from by rw [hx]; exact fold_take hlt)
      have hrow : rowI l' k = x.cells := by unfold rowI; rw [List.getElem?_eq_getElem hlt, ← hx]; rfl
      have hxo := HLI.out.2 x (by rw [hx]; exact List.getElem_mem hlt)
      have HXP := Lib.hid (HLP.out x (by rw [hx]; exact List.getElem_mem hlt))
      obtain ⟨pl, cp, hlv⟩ := hxo.rl.form
      obtain ⟨path, it, st, bf, lv, ls, due⟩ := x
      dsimp only at hlv HXP
      subst hlv
      obtain ⟨g, o, ha, hg, c0, c1, c2, c3, c4, c5⟩ := (HLI.out.1.below HBR.out).row hlt hrow
      subst ha
      have HL := Lib.hid (fun W => rlastT_c W path (by have := HXP.out; omega))
      have HBX := Lib.hid (fun o => box_bel' wr o)
      obtain ⟨n, hnn⟩ : ∃ n, rnxt item (l'.take k) = n := ⟨_, rfl⟩
      rw [hnn] at HN ⊢
      clear hnn HN0
      have HN2 := Lib.hid (show rnxt item (l'.take (k + 1)) = if decide (0 < (lastB path).2) && (((⟨(lastB path).1.toArray⟩ : ByteArray)).toList == item.toList) then max n (lastB path).2 else n from HN.out)
      clear HN hrow hxo hx
      unfold pairV at HL
      obtain ⟨z, hz⟩ : ∃ z, (lastB path).2 = z := ⟨_, rfl⟩
      obtain ⟨t, ht⟩ : ∃ t : ByteArray, (⟨(lastB path).1.toArray⟩ : ByteArray) = t := ⟨_, rfl⟩
      rw [hz, ht] at HN2
      simp only [hz, ht] at HL
      clear hz ht
      obtain ⟨q1, hq1⟩ : ∃ q, decide (0 < z) = q := ⟨_, rfl⟩
      obtain ⟨q2, hq2⟩ : ∃ q, (t.toList == item.toList) = q := ⟨_, rfl⟩
      rw [hq1, hq2] at HN2
      cases q1
      all_goals
        cases q2
        all_goals
          have HN3 := Lib.hid (show rnxt item (l'.take (k + 1)) = _ from HN2.out)
          simp only [Bool.false_and, Bool.true_and, Bool.and_false, Bool.false_eq_true, if_false, if_true, ite_true, ite_false] at HN3
          clear HN2
          go_wp2_with fail
          refine (HL.out _).mono ?_
          rintro e w2 ⟨rfl, hb2⟩
          have HB2 := Lib.hid ((HBX.out _).trans (hb2.mono (HBX.out _).size))
          clear hb2 c0 c1 c2 c3 c4 c5
          go_wp2_with fail
          go_roundw
          case rel => exact ⟨k + 1, by omega, by go_num, by rw [HN3.out], HBR.out.trans (HB2.out.mono HBR.out.size)⟩
          case measure => simp [intOf]; omega
    · have HE := Lib.hid (show rnxt item (l'.take k) = R from by rw [HR.out, ← HRN.out, List.take_of_length_le (by omega)])
      have h0 : 0 ≤ rnxt item (l'.take k) := HN0.out
      rw [HE.out] at h0 ⊢
      clear HN0
      obtain ⟨m, hm⟩ : ∃ m, min R 4611686018427387903 = m := ⟨_, rfl⟩
      have hm0 : 0 ≤ m := by omega
      have hm1 : m ≤ 4611686018427387903 := by omega
      have HM := Lib.hid hm
      go_wp2_with fail
      go_ret
      exact ⟨by rw [HM.out]; rfl, HB1.out.trans (HBR.out.mono HB1.out.size)⟩
end Go.Proofs.Ytncloiimbclklaa
