/- Cases: the number of a further instance. Written by tools/genyq.py. -/
import Derived.Test.YtncloiimbclklaaYp
namespace Go.Proofs.Ytncloiimbclklaa
open Go Go.RowKit Go.Shelf
set_option linter.unusedVariables false
set_option linter.unusedSimpArgs false

def iB (x : IV) : ByteArray := ⟨(lastB x.path).1.toArray⟩
def iN (x : IV) : Int := (lastB x.path).2
theorem lastP_zero (l : List UInt8) : (lastP l).2 = 0 ∨ 1 ≤ (lastP l).2 := by
  unfold lastP
  dsimp only
  split
  · exact .inl rfl
  · split
    · exact .inl rfl
    · rename_i h
      exact .inr (by omega)
theorem iN_zero (x : IV) : iN x = 0 ∨ 1 ≤ iN x := lastP_zero _
def stepN (u item : ByteArray) (n : Int) (x : IV) : Int := if ((iB x).toList == item.toList) && kidP u x then max n (iN x) else n
def rstepN (item : ByteArray) (n : Int) (x : IV) : Int := if decide (0 < iN x) && ((iB x).toList == item.toList) then max n (iN x) else n
def nxt (u item : ByteArray) (l : List IV) : Int := l.foldl (stepN u item) 0
def rnxt (item : ByteArray) (l : List IV) : Int := l.foldl (rstepN item) 0
theorem stepN_pos (u item : ByteArray) (n : Int) (x : IV) (h : 0 ≤ n) : 0 ≤ stepN u item n x := by unfold stepN; split <;> omega
theorem rstepN_pos (item : ByteArray) (n : Int) (x : IV) (h : 0 ≤ n) : 0 ≤ rstepN item n x := by unfold rstepN; split <;> omega
theorem fold_pos {f : Int → IV → Int} (hf : ∀ n x, 0 ≤ n → 0 ≤ f n x) : ∀ (l : List IV) (n : Int), 0 ≤ n → 0 ≤ l.foldl f n
  | [], _, h => h
  | x :: r, n, h => fold_pos hf r _ (hf n x h)
theorem nxt_fold (u item : ByteArray) : ∀ (l : List IV) (n : Int), 0 ≤ n → (l.filter (kidP u)).foldl (rstepN item) n = l.foldl (stepN u item) n
  | [], _, _ => rfl
  | x :: r, n, h => by
    by_cases hk : kidP u x = true
    · rw [List.filter_cons_of_pos hk]
      show (r.filter (kidP u)).foldl (rstepN item) (rstepN item n x) = r.foldl (stepN u item) (stepN u item n x)
      rw [nxt_fold u item r _ (rstepN_pos item n x h)]
      congr 1
      unfold rstepN stepN
      rw [hk]
      rcases iN_zero x with e | e
      · rw [e]
        cases ((iB x).toList == item.toList)
        · simp
        · simp; omega
      · rw [decide_eq_true (show 0 < iN x by omega)]
        simp
    · rw [List.filter_cons_of_neg hk]
      show (r.filter (kidP u)).foldl (rstepN item) n = r.foldl (stepN u item) (stepN u item n x)
      rw [show stepN u item n x = n from by unfold stepN; rw [show kidP u x = false from by simpa using hk]; simp]
      exact nxt_fold u item r n h
theorem rstepN_bare (item : ByteArray) (n : Int) (x : IV) : rstepN item n x.bare = rstepN item n x := rfl
theorem rnxt_bare (item : ByteArray) (l : List IV) : ∀ n, (l.map IV.bare).foldl (rstepN item) n = l.foldl (rstepN item) n := by
  induction l with
  | nil => intro n; rfl
  | cons x r ih => intro n; exact ih _
theorem rnxt_eq (u item : ByteArray) (l l' : List IV) (h : l'.map IV.bare = (l.filter (kidP u)).map IV.bare) : rnxt item l' = nxt u item l := by
  unfold rnxt nxt
  rw [← rnxt_bare item l', h, rnxt_bare, nxt_fold u item l 0 (Int.le_refl 0)]
theorem fold_take {f : Int → IV → Int} {l : List IV} {k : Nat} (h : k < l.length) : (l.take (k + 1)).foldl f 0 = f ((l.take k).foldl f 0) l[k] := by
  rw [List.take_succ_eq_append_getElem h, List.foldl_append]
  rfl

set_option maxRecDepth 100000 in
set_option maxHeartbeats 2000000 in
theorem next_c (w : World) (c : CV) (h : CVok w c) (u item : ByteArray) (hps : ∀ x ∈ c.insts, x.path.size ≤ 400) : Calls Try.prog 16 #[c.val, .string u, .string item] w fun e w' => e = .returned (.int .i64 (min (nxt u item c.insts) 4611686018427387903 + 1)) ∧ Below w.heap.size w w' := by
  have HI := Lib.hid h.insts
  have hl := h.insts.1
  have HPS := Lib.hid hps
  obtain ⟨id, mo, iv, dv, cl, is, ds⟩ := c
  dsimp only at HI HPS hl ⊢
  obtain ⟨a, ca, hiv, hn1, hn2, _, _⟩ := hl
  subst hiv
  have hn : is.length ≤ 9223372036854775807 := by unfold maxLen at hn2; omega
  obtain ⟨R, hR⟩ : ∃ R, R = nxt u item is := ⟨_, rfl⟩
  have HR := Lib.hid hR
  rw [← hR]
  unfold CV.val
  dsimp only
  obtain ⟨w0, hw0⟩ : ∃ x, x = w.alloc (.cells #[.int .i64 id, .string mo, .slice a is.length ca, dv, .int .i64 cl] 25) := ⟨_, rfl⟩
  have HBW := Lib.hid (show Below w.heap.size w w0 from by rw [hw0]; exact box_bel' w _)
  have HW0 := Lib.hid hw0
  clear h hps hn1 hn2 hw0 hR
  go_enter Try.func16, Try.ntmps16
  go_wp2_with fail
  rw [← HW0.out]
  go_loopw [7, 15] (fun nv i wr => ∃ k : Nat, k ≤ is.length ∧ i = .int .i64 k ∧ nv = .int .i64 (nxt u item (is.take k)) ∧ Below w0.heap.size w0 wr) (fun _ i _ => is.length - (intOf i).toNat)
  case atStart => exact ⟨0, by omega, rfl, rfl, Below.refl _ _⟩
  case round =>
    obtain ⟨k, hk, rfl, rfl, hbr⟩ := hrel
    have HBR := Lib.hid hbr
    clear hbr
    have HN0 := Lib.hid (fold_pos (stepN_pos u item) (is.take k) 0 (Int.le_refl 0))
    by_cases hlt : k < is.length
    · obtain ⟨x, hx⟩ : ∃ x, x = is[k] := ⟨_, rfl⟩
      have HN := Lib.hid (show nxt u item (is.take (k + 1)) = stepN u item (nxt u item (is.take k)) x from by rw [hx]; exact fold_take hlt)
      have hrow : rowI is k = x.cells := by unfold rowI; rw [List.getElem?_eq_getElem hlt, ← hx]; rfl
      have hxo := HI.out.2 x (by rw [hx]; exact List.getElem_mem hlt)
      have HXP := Lib.hid (HPS.out x (by rw [hx]; exact List.getElem_mem hlt))
      obtain ⟨pl, cp, hlv⟩ := hxo.rl.form
      obtain ⟨path, it, st, bf, lv, ls, due⟩ := x
      dsimp only at hlv HXP
      subst hlv
      obtain ⟨g, o, ha, hg, c0, c1, c2, c3, c4, c5⟩ := ((HI.out.1.below HBW.out).below HBR.out).row hlt hrow
      subst ha
      have HL := Lib.hid (fun W => lastT_c W path (by have := HXP.out; omega))
      have HT := Lib.hid (fun W => upT_c W path (by have := HXP.out; omega))
      have HBX := Lib.hid (fun o => box_bel' wr o)
      obtain ⟨n, hnn⟩ : ∃ n, nxt u item (is.take k) = n := ⟨_, rfl⟩
      rw [hnn] at HN ⊢
      clear hnn HN0
      have HN2 := Lib.hid (show nxt u item (is.take (k + 1)) = if (((⟨(lastB path).1.toArray⟩ : ByteArray)).toList == item.toList) && ((upB path).toList == u.toList) then max n (lastB path).2 else n from HN.out)
      clear HN hrow hxo hx
      unfold pairV at HL
      obtain ⟨z, hz⟩ : ∃ z, (lastB path).2 = z := ⟨_, rfl⟩
      obtain ⟨t, ht⟩ : ∃ t : ByteArray, (⟨(lastB path).1.toArray⟩ : ByteArray) = t := ⟨_, rfl⟩
      obtain ⟨up, hu⟩ : ∃ up, upB path = up := ⟨_, rfl⟩
      rw [hz, ht, hu] at HN2
      simp only [hz, ht] at HL
      rw [hu] at HT
      clear hz ht hu
      obtain ⟨q1, hq1⟩ : ∃ q, (t.toList == item.toList) = q := ⟨_, rfl⟩
      obtain ⟨q2, hq2⟩ : ∃ q, (up.toList == u.toList) = q := ⟨_, rfl⟩
      rw [hq1, hq2] at HN2
      cases q1
      all_goals
        cases q2
        all_goals
          have HN3 := Lib.hid (show nxt u item (is.take (k + 1)) = _ from HN2.out)
          simp only [Bool.false_and, Bool.true_and, Bool.and_false, Bool.false_eq_true, if_false, if_true, ite_true, ite_false] at HN3
          clear HN2
          go_wp2_with fail
          refine (HL.out _).mono ?_
          rintro e w2 ⟨rfl, hb2⟩
          have hx2 := (hb2.block wr.heap.size (by simp)).trans (heap_alloc_new wr _)
          have HB2 := Lib.hid ((HBX.out _).trans (hb2.mono (HBX.out _).size))
          clear hb2 c0 c1 c2 c3 c4 c5
          obtain ⟨c0, c1, c2, c3, c4, c5, cz⟩ := cells6 hx2
          clear hx2
          go_wp2_with (go_at_call 28; refine (HT.out _).mono ?_; rintro e w' ⟨rfl, rfl⟩)
          go_roundw
          case rel => exact ⟨k + 1, by omega, by go_num, by rw [HN3.out], HBR.out.trans (HB2.out.mono HBR.out.size)⟩
          case measure => simp [intOf]; omega
    · have HE := Lib.hid (show nxt u item (is.take k) = R from by rw [HR.out, List.take_of_length_le (by omega)])
      have h0 : 0 ≤ nxt u item (is.take k) := HN0.out
      rw [HE.out] at h0 ⊢
      clear HN0
      obtain ⟨m, hm⟩ : ∃ m, min R 4611686018427387903 = m := ⟨_, rfl⟩
      have hm0 : 0 ≤ m := by omega
      have hm1 : m ≤ 4611686018427387903 := by omega
      have HM := Lib.hid hm
      go_wp2_with fail
      go_ret
      exact ⟨by rw [HM.out]; rfl, HBW.out.trans (HBR.out.mono HBW.out.size)⟩
end Go.Proofs.Ytncloiimbclklaa
