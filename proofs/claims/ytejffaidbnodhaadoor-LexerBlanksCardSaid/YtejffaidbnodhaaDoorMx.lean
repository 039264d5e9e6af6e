/- The plain side of lexer: how long a spelled text may be. -/
import Derived.Test.YtejffaidbnodhaaDoorMw
namespace Go.Proofs.YtejffaidbnodhaaDoor
set_option linter.unusedVariables false

theorem escL_len (t : List UInt8) : (escL t).length ≤ 2 * t.length := by
  induction t with
  | nil => simp [escL]
  | cons c t ih =>
    unfold escL
    split
    · simp only [List.length_cons]; omega
    · simp only [List.length_cons]; omega
theorem wordF_len (l : List UInt8) (h : (wordF l).2 ≠ 0) : (spellW (wordF l).1).length ≤ 2 * (wordF l).2 + 30 := by
  cases l with
  | nil => simp [wordF] at h
  | cons c r =>
    by_cases h1 : letB c = true
    · have e : wordF (c :: r) = (⟨1, (c :: r).take (runN nameB (c :: r)), 0⟩, runN nameB (c :: r)) := by simp only [wordF]; rw [if_pos h1]
      rw [e]
      show ((c :: r).take (runN nameB (c :: r))).length ≤ 2 * runN nameB (c :: r) + 30
      rw [List.length_take]
      omega
    · by_cases h2 : isDig c = true
      · by_cases h3 : (num ((c :: r).take (runN isDig (c :: r)))).2 = 0
        · have e : wordF (c :: r) = (⟨2, [], (num ((c :: r).take (runN isDig (c :: r)))).1⟩, runN isDig (c :: r)) := by simp only [wordF]; rw [if_neg h1, if_pos h2, if_pos h3]
          rw [e]
          have := num_ok _ (runN_take isDig (c :: r)) h3
          have h5 := txt_size 0 (num ((c :: r).take (runN isDig (c :: r)))).1 (by omega) this.2
          show (txt (num ((c :: r).take (runN isDig (c :: r)))).1).length ≤ 2 * runN isDig (c :: r) + 30
          omega
        · have e : wordF (c :: r) = (noW, 0) := by simp only [wordF]; rw [if_neg h1, if_pos h2, if_neg h3]
          rw [e] at h
          exact absurd rfl h
      · by_cases h3 : c.toNat = 34
        · have e : wordF (c :: r) = litF r := by simp only [wordF]; rw [if_neg h1, if_neg h2, if_pos h3]
          rw [e] at h ⊢
          unfold litF at h ⊢
          cases hl : litU false r with
          | none => rw [hl] at h; exact absurd rfl h
          | some p =>
            obtain ⟨t, n⟩ := p
            rw [hl] at h
            simp only at h ⊢
            by_cases hc : t.length ≤ 256 ∧ wrong (t.length + 1) t 0 < 0
            · rw [if_pos hc]
              have h5 := (litU_le _ _ _ _ hl).2
              have h6 := escL_len t
              show (34 :: (escL t ++ [34])).length ≤ 2 * (n + 1) + 30
              rw [List.length_cons, List.length_append, List.length_singleton]
              omega
            · rw [if_neg hc] at h
              exact absurd rfl h
        · by_cases h4 : signN (c :: r) = 0
          · have e : wordF (c :: r) = (noW, 0) := by simp only [wordF]; rw [if_neg h1, if_neg h2, if_neg h3, if_pos h4]
            rw [e] at h
            exact absurd rfl h
          · have e : wordF (c :: r) = (⟨4, (c :: r).take (signN (c :: r)), 0⟩, signN (c :: r)) := by simp only [wordF]; rw [if_neg h1, if_neg h2, if_neg h3, if_neg h4]
            rw [e]
            show ((c :: r).take (signN (c :: r))).length ≤ 2 * signN (c :: r) + 30
            rw [List.length_take]
            omega
theorem wordsF_len : ∀ (f : Nat) (l : List UInt8) (k : Nat) (acc M : List Wd), (tailL acc).length ≤ 2 * k + 31 * acc.length → acc.length ≤ k → k ≤ l.length → wordsF f l k acc = (M ++ [noW], 0, 0) → M.length ≤ l.length ∧ (tailL M).length ≤ 33 * l.length := by
  intro f
  induction f with
  | zero => intro l k acc M _ _ _ h; simp [wordsF] at h
  | succ f ih =>
    intro l k acc M h1 h2 h3 h
    by_cases c1 : l.length ≤ k + runN blB (l.drop k)
    · rw [wordsF_end c1] at h
      simp only [Prod.mk.injEq, and_true] at h
      have h4 : acc = M := (List.append_inj' h rfl).1
      subst h4
      omega
    · by_cases c2 : (wordF (l.drop (k + runN blB (l.drop k)))).2 = 0
      · rw [wordsF_bad c1 c2] at h
        simp at h
      · rw [wordsF_next c1 c2] at h
        have h4 := wordF_len _ c2
        have h5 := wordF_le (l.drop (k + runN blB (l.drop k)))
        rw [List.length_drop] at h5
        refine ih l _ _ M ?_ ?_ ?_ h
        · have e : tailL (acc ++ [(wordF (l.drop (k + runN blB (l.drop k)))).1]) = tailL acc ++ 32 :: spellW (wordF (l.drop (k + runN blB (l.drop k)))).1 := by simp [tailL]
          rw [e, List.length_append, List.length_cons, List.length_append, List.length_singleton]
          omega
        · rw [List.length_append, List.length_singleton]
          omega
        · omega
theorem joinM_len (M : List Wd) : (joinM M).length ≤ (tailL M).length := by
  cases M with
  | nil => exact Nat.le_refl _
  | cons x M =>
    show (spellW x ++ tailL M).length ≤ (32 :: spellW x ++ tailL M).length
    simp
/-- What is known of a text that has words. -/
theorem wordsOf_ok (l : List UInt8) (L : List Wd) (n : Nat) (h : wordsOf l = (L, n, 0)) : ∃ M, L = M ++ [noW] ∧ n = 0 ∧ (∀ x ∈ M, OkW x) ∧ M.length ≤ 400 ∧ (joinM M).length ≤ 13200 := by
  unfold wordsOf at h
  by_cases hl : 400 < l.length
  · rw [if_pos hl] at h
    simp at h
  · rw [if_neg hl] at h
    obtain ⟨M, h1, h2⟩ := wordsF_ok (l.length + 1) l 0 [] (by omega) (by rw [h]) (by simp)
    have h3 := wordsF_len (l.length + 1) l 0 [] M (by simp [tailL]) (by simp) (by omega) h1
    rw [h1] at h
    simp only [Prod.mk.injEq, and_true] at h
    have h4 := joinM_len M
    exact ⟨M, h.1.symm, h.2.symm, h2, by omega, by omega⟩
theorem wordsOf_join (pre tr : List UInt8) (hp : pre.all blB = true) (ht : tr.all blB = true) (M : List Wd) (hx : ∀ x ∈ M, OkW x) :
    wordsOf (pre ++ (joinM M ++ tr)) = if 400 < (pre ++ (joinM M ++ tr)).length then ([], 0, 4) else (M ++ [noW], 0, 0) := by
  unfold wordsOf
  by_cases hl : 400 < (pre ++ (joinM M ++ tr)).length
  · rw [if_pos hl, if_pos hl]
  · rw [if_neg hl, if_neg hl]
    exact wordsF_join pre tr hp ht M hx
end Go.Proofs.YtejffaidbnodhaaDoor
