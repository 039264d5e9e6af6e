/- The plain side of lexer: a spelled text's words. -/
import Derived.Test.YtikofngogkchfaaDoorLo
import Derived.Test.YtikofngogkchfaaDoorLe
namespace Go.Proofs.YtikofngogkchfaaDoor
set_option linter.unusedVariables false

def tailL (M : List Wd) : List UInt8 := M.flatMap fun x => 32 :: spellW x
/-- Words as a text. -/
def joinM : List Wd → List UInt8
  | [] => []
  | x :: M => spellW x ++ tailL M

theorem runN_front (p : UInt8 → Bool) (t r : List UInt8) (h : t.all p = true) : runN p (t ++ r) = t.length + runN p r := by
  induction t with
  | nil => simp
  | cons c t ih =>
    simp only [List.all_cons, Bool.and_eq_true] at h
    rw [List.cons_append, runN_yes h.1, ih h.2, List.length_cons]
    omega
theorem runN_end (p : UInt8 → Bool) (t : List UInt8) (h : t.all p = true) : runN p t = t.length := by
  have := runN_front p t [] h
  simpa [runN] using this

theorem wordsF_one (f : Nat) (l : List UInt8) (k : Nat) (acc : List Wd) (x : Wd) (pre R : List UInt8) (hd : l.drop k = pre ++ (spellW x ++ R)) (hp : pre.all blB = true) (hx : OkW x) (hR : Blk R) :
    wordsF (f + 1) l k acc = wordsF f l (k + pre.length + (spellW x).length) (acc ++ [x]) ∧ l.drop (k + pre.length + (spellW x).length) = R ∧ (spellW x).length ≠ 0 := by
  obtain ⟨h1, h2, c, q, h3, h4⟩ := wordF_spell x R hx hR
  have hrun : runN blB (l.drop k) = pre.length := by
    rw [hd, runN_front _ _ _ hp, h3, runN_no (by simp [h4])]
    omega
  have hd2 : l.drop (k + pre.length) = spellW x ++ R := by
    rw [← List.drop_drop, hd, List.drop_left]
  have hd3 : l.drop (k + pre.length + (spellW x).length) = R := by
    rw [← List.drop_drop, hd2, List.drop_left]
  have hlen : ¬ l.length ≤ k + pre.length := by
    intro hh
    rw [List.drop_eq_nil_of_le hh] at hd2
    have := congrArg List.length hd2
    rw [List.length_append, List.length_nil] at this
    omega
  refine ⟨?_, hd3, h2⟩
  rw [wordsF_next (by rw [hrun]; exact hlen) (by rw [hrun, hd2, h1]; exact h2), hrun, hd2, h1]
theorem tail_blk (M : List Wd) (tr : List UInt8) (ht : tr.all blB = true) : Blk (tailL M ++ tr) := by
  cases M with
  | nil =>
    cases tr with
    | nil => exact True.intro
    | cons c q =>
      simp only [List.all_cons, Bool.and_eq_true] at ht
      exact ht.1
  | cons x M => exact (by decide : blB 32 = true)
theorem wordsF_tail (tr : List UInt8) (ht : tr.all blB = true) : ∀ (M : List Wd) (f : Nat) (l : List UInt8) (k : Nat) (acc : List Wd), (∀ x ∈ M, OkW x) → l.drop k = tailL M ++ tr → l.length - k < f → wordsF f l k acc = (acc ++ M ++ [noW], 0, 0) := by
  intro M
  induction M with
  | nil =>
    intro f l k acc _ hd hf
    obtain ⟨f, rfl⟩ : ∃ g, f = g + 1 := ⟨f - 1, by omega⟩
    have hd' : l.drop k = tr := hd
    rw [wordsF_end]
    · simp
    · rw [hd', runN_end _ _ ht]
      have := congrArg List.length hd'
      rw [List.length_drop] at this
      omega
  | cons x M ih =>
    intro f l k acc hx hd hf
    obtain ⟨f, rfl⟩ : ∃ g, f = g + 1 := ⟨f - 1, by omega⟩
    have hd' : l.drop k = [32] ++ (spellW x ++ (tailL M ++ tr)) := by
      rw [hd]
      simp [tailL]
    obtain ⟨h1, h2, h3⟩ := wordsF_one f l k acc x [32] (tailL M ++ tr) hd' (by decide) (hx x (by simp)) (tail_blk M tr ht)
    have hkl : k < l.length := by
      have := congrArg List.length hd'
      rw [List.length_drop, List.length_append, List.length_singleton] at this
      omega
    rw [h1, ih f l _ _ (fun y hy => hx y (by simp [hy])) h2 (by simp only [List.length_singleton]; omega)]
    simp
/-- The words of a spelled text are the words, whatever blanks stand ahead and behind. -/
theorem wordsF_join (pre tr : List UInt8) (hp : pre.all blB = true) (ht : tr.all blB = true) (M : List Wd) (hx : ∀ x ∈ M, OkW x) :
    wordsF ((pre ++ (joinM M ++ tr)).length + 1) (pre ++ (joinM M ++ tr)) 0 [] = (M ++ [noW], 0, 0) := by
  cases M with
  | nil =>
    refine wordsF_end ?_
    have : (pre ++ ([] ++ tr)).all blB = true := by simp only [List.nil_append, List.all_append, hp, ht, Bool.and_self]
    rw [List.drop_zero, show joinM [] = [] from rfl, runN_end _ _ this]
    omega
  | cons x M =>
    generalize hl : pre ++ (joinM (x :: M) ++ tr) = l
    have hd : l.drop 0 = pre ++ (spellW x ++ (tailL M ++ tr)) := by
      rw [List.drop_zero, ← hl]
      simp [joinM]
    obtain ⟨h1, h2, h3⟩ := wordsF_one l.length l 0 [] x pre (tailL M ++ tr) hd hp (hx x (by simp)) (tail_blk M tr ht)
    rw [h1, wordsF_tail tr ht M _ _ _ _ (fun y hy => hx y (by simp [hy])) h2]
    · simp
    · have hle : pre.length + (spellW x).length ≤ l.length := by
        have := congrArg List.length hd
        rw [List.drop_zero, List.length_append, List.length_append] at this
        omega
      omega

/-! ### The words of a text may all be -/
theorem runN_take (p : UInt8 → Bool) (l : List UInt8) : (l.take (runN p l)).all p = true := by
  induction l with
  | nil => rfl
  | cons c r ih =>
    by_cases h : p c = true
    · rw [runN_yes h, List.take_succ_cons, List.all_cons, h, ih]
      rfl
    · rw [runN_no h]
      rfl
theorem sign_in (c : UInt8) (r : List UInt8) (h : signN (c :: r) ≠ 0) : (c :: r).take (signN (c :: r)) ∈ signs := by
  have h8 := c.toNat_lt
  have hc : c = UInt8.ofNat c.toNat := by simp
  by_cases h2 : eqB r = true ∧ (c.toNat = 33 ∨ c.toNat = 60 ∨ c.toNat = 62)
  · rw [signN_X, h2.1, signX_two _ h2.2]
    cases r with
    | nil => simp [eqB] at h2
    | cons d q =>
      have hd : d = 61 := by
        have := h2.1
        unfold eqB at this
        exact UInt8.toNat_inj.1 (by simpa using this)
      subst hd
      rw [hc]
      rcases h2.2 with h | h | h <;> rw [h] <;> simp [signs]
  · rw [signN_X] at h ⊢
    have h1 := signX_one ⟨c.toNat, h8⟩ (eqB r) (by
      by_cases he : eqB r = true
      · right
        simp only
        refine ⟨fun e => h2 ⟨he, Or.inl e⟩, fun e => h2 ⟨he, Or.inr (Or.inl e)⟩, fun e => h2 ⟨he, Or.inr (Or.inr e)⟩⟩
      · left
        simpa using he)
    simp only at h1
    rw [h1] at h ⊢
    by_cases hm : c.toNat ∈ sgN
    · rw [if_pos hm, List.take_succ_cons, List.take_zero]
      rw [hc]
      simp only [sgN, List.mem_cons, List.not_mem_nil, or_false] at hm
      rcases hm with h | h | h | h | h | h | h | h | h | h | h | h <;> rw [h] <;> simp [signs]
    · rw [if_neg hm] at h
      exact absurd rfl h
theorem num_ok (d : List UInt8) (hd : d.all isDig = true) (h : (num d).2 = 0) : 0 ≤ (num d).1 ∧ (num d).1 ≤ 9223372036854775807 := by
  have hm : isM d = false := by
    unfold isM
    cases d with
    | nil => rfl
    | cons c r =>
      simp only [List.all_cons, Bool.and_eq_true] at hd
      have h1 := hd.1
      unfold isDig at h1
      simp at h1
      simp
      intro hc
      rw [hc] at h1
      simp at h1
  unfold num stripM at h ⊢
  rw [hm] at h ⊢
  simp only [Bool.false_eq_true, if_false] at h ⊢
  unfold numD at h ⊢
  by_cases c1 : (!numeral d || (false && d == [48])) = true
  · rw [if_pos c1] at h
    simp at h
  · rw [if_neg c1, if_neg (by simp)] at h ⊢
    by_cases c2 : val 0 d ≤ 9223372036854775807
    · rw [if_pos c2]
      simp only
      omega
    · rw [if_neg c2] at h
      simp at h
theorem wordF_ok (l : List UInt8) (h : (wordF l).2 ≠ 0) : OkW (wordF l).1 := by
  cases l with
  | nil => simp [wordF] at h
  | cons c r =>
    by_cases h1 : letB c = true
    · have e : wordF (c :: r) = (⟨1, (c :: r).take (runN nameB (c :: r)), 0⟩, runN nameB (c :: r)) := by simp only [wordF]; rw [if_pos h1]
      rw [e]
      have hn : nameB c = true := by unfold nameB; rw [h1]; rfl
      left
      refine ⟨rfl, rfl, c, r.take (runN nameB r), by rw [runN_yes hn]; rfl, h1, ?_⟩
      have := runN_take nameB (c :: r)
      rw [runN_yes hn, List.take_succ_cons] at this
      exact this
    · by_cases h2 : isDig c = true
      · by_cases h3 : (num ((c :: r).take (runN isDig (c :: r)))).2 = 0
        · have e : wordF (c :: r) = (⟨2, [], (num ((c :: r).take (runN isDig (c :: r)))).1⟩, runN isDig (c :: r)) := by simp only [wordF]; rw [if_neg h1, if_pos h2, if_pos h3]
          rw [e]
          right; left
          have := num_ok _ (runN_take isDig (c :: r)) h3
          exact ⟨rfl, rfl, this.1, this.2⟩
        · have e : wordF (c :: r) = (noW, 0) := by simp only [wordF]; rw [if_neg h1, if_pos h2, if_neg h3]
          rw [e] at h
          exact absurd rfl h
      · by_cases h3 : c.toNat = 34
        · have e : wordF (c :: r) = litF r := by simp only [wordF]; rw [if_neg h1, if_neg h2, if_pos h3]
          rw [e] at h ⊢
          unfold litF at h ⊢
          cases hl : litU false r with
          | none => rw [hl] at h; exact absurd rfl h
          | some p =>
            obtain ⟨t, n⟩ := p
            rw [hl] at h
            simp only at h ⊢
            by_cases hc : t.length ≤ 256 ∧ wrong (t.length + 1) t 0 < 0
            · rw [if_pos hc]
              right; right; left
              exact ⟨rfl, rfl, hc.1, (valid_iff t).1 hc.2⟩
            · rw [if_neg hc] at h
              exact absurd rfl h
        · by_cases h4 : signN (c :: r) = 0
          · have e : wordF (c :: r) = (noW, 0) := by simp only [wordF]; rw [if_neg h1, if_neg h2, if_neg h3, if_pos h4]
            rw [e] at h
            exact absurd rfl h
          · have e : wordF (c :: r) = (⟨4, (c :: r).take (signN (c :: r)), 0⟩, signN (c :: r)) := by simp only [wordF]; rw [if_neg h1, if_neg h2, if_neg h3, if_neg h4]
            rw [e]
            right; right; right
            exact ⟨rfl, rfl, sign_in c r h4⟩
theorem wordsF_ok : ∀ (f : Nat) (l : List UInt8) (k : Nat) (acc : List Wd), l.length - k < f → (wordsF f l k acc).2.2 = 0 → (∀ x ∈ acc, OkW x) → ∃ M, wordsF f l k acc = (M ++ [noW], 0, 0) ∧ (∀ x ∈ M, OkW x) := by
  intro f
  induction f with
  | zero => intro l k acc h; omega
  | succ f ih =>
    intro l k acc hf he ha
    by_cases h1 : l.length ≤ k + runN blB (l.drop k)
    · exact ⟨acc, wordsF_end h1, ha⟩
    · by_cases h2 : (wordF (l.drop (k + runN blB (l.drop k)))).2 = 0
      · rw [wordsF_bad h1 h2] at he
        simp at he
      · rw [wordsF_next h1 h2] at he ⊢
        refine ih l _ _ (by omega) he ?_
        intro x hx
        simp only [List.mem_append, List.mem_singleton] at hx
        rcases hx with hx | rfl
        · exact ha x hx
        · exact wordF_ok _ h2
end Go.Proofs.YtikofngogkchfaaDoor
