/- The plain side of lexer: words spelled and read again. -/
import Derived.Test.YtikofngogkchfaaDoorLh
import Derived.Test.YtikofngogkchfaaDoorLf
namespace Go.Proofs.YtikofngogkchfaaDoor
set_option linter.unusedVariables false

def escL : List UInt8 → List UInt8
  | [] => []
  | c :: t => if c.toNat = 34 ∨ c.toNat = 92 then 92 :: c :: escL t else c :: escL t
/-- A word as a text. -/
def spellW (x : Wd) : List UInt8 := if x.k = 2 then txt x.n else if x.k = 3 then 34 :: (escL x.t ++ [34]) else x.t
def signs : List (List UInt8) := [[60, 61], [62, 61], [33, 61], [40], [41], [46], [44], [43], [45], [42], [47], [37], [60], [62], [61]]
/-- A word that may be. -/
def OkW (x : Wd) : Prop :=
  (x.k = 1 ∧ x.n = 0 ∧ ∃ c r, x.t = c :: r ∧ letB c = true ∧ (c :: r).all nameB = true) ∨ (x.k = 2 ∧ x.t = [] ∧ 0 ≤ x.n ∧ x.n ≤ 9223372036854775807)
  ∨ (x.k = 3 ∧ x.n = 0 ∧ x.t.length ≤ 256 ∧ valid x.t = true) ∨ (x.k = 4 ∧ x.n = 0 ∧ x.t ∈ signs)
/-- Nothing follows, or a blank. -/
def Blk : List UInt8 → Prop
  | [] => True
  | c :: _ => blB c = true

theorem litU_esc (t r : List UInt8) : litU false (escL t ++ 34 :: r) = some (t, (escL t).length + 1) := by
  induction t with
  | nil => simp [escL, litU]
  | cons c t ih =>
    by_cases h : c.toNat = 34 ∨ c.toNat = 92
    · have e : escL (c :: t) = 92 :: c :: escL t := by conv => lhs; unfold escL; rw [if_pos h]
      rw [e, List.cons_append, List.cons_append]
      conv => lhs; unfold litU
      rw [if_neg (by decide), if_pos (by decide)]
      conv => lhs; arg 2; unfold litU
      rw [if_pos h, ih]
      simp
    · have e : escL (c :: t) = c :: escL t := by conv => lhs; unfold escL; rw [if_neg h]
      rw [e, List.cons_append, litU_plain c _ (by omega) (by omega), ih]
      simp
theorem runN_all (p : UInt8 → Bool) (t r : List UInt8) (h : t.all p = true) (hr : ∀ c q, r = c :: q → p c = false) : runN p (t ++ r) = t.length := by
  induction t with
  | nil =>
    cases r with
    | nil => rfl
    | cons c q => rw [List.nil_append, runN_no (by rw [hr c q rfl]; simp)]; rfl
  | cons c t ih =>
    simp only [List.all_cons, Bool.and_eq_true] at h
    rw [List.cons_append, runN_yes h.1, ih h.2, List.length_cons]
theorem bl_cases {c : UInt8} (h : blB c = true) : c.toNat = 9 ∨ c.toNat = 10 ∨ c.toNat = 13 ∨ c.toNat = 32 := by
  unfold blB spaceB at h
  simp at h
  omega
theorem bl_no {c : UInt8} (h : blB c = true) : nameB c = false ∧ isDig c = false ∧ c.toNat ≠ 61 := by
  have := bl_cases h
  unfold nameB letB isDig
  simp
  omega
theorem blk_name {r : List UInt8} (h : Blk r) : ∀ c q, r = c :: q → nameB c = false := by
  rintro c q rfl
  exact (bl_no h).1
theorem blk_dig {r : List UInt8} (h : Blk r) : ∀ c q, r = c :: q → isDig c = false := by
  rintro c q rfl
  exact (bl_no h).2.1
theorem blk_eq {r : List UInt8} (h : Blk r) : eqB r = false := by
  cases r with
  | nil => rfl
  | cons c q => unfold eqB; simp; exact (bl_no h).2.2
theorem txt_nat (n : Int) (h0 : 0 ≤ n) (h1 : n ≤ 9223372036854775807) : (txt n).all isDig = true ∧ num (txt n) = (n, 0) ∧ txt n ≠ [] := by
  have e : txt n = ds n.toNat := by unfold txt; rw [if_neg (by omega)]
  have hn : numeral (ds n.toNat) = true := ds_numeral _ (by omega)
  have hv : val 0 (ds n.toNat) = n.toNat := ds_val _ (by omega)
  have ha : (ds n.toNat).all isDig = true := by
    unfold numeral at hn
    simp only [Bool.and_eq_true] at hn
    exact hn.1
  have hne : ds n.toNat ≠ [] := by
    intro h
    rw [h] at hn
    simp [numeral] at hn
  have hm : isM (ds n.toNat) = false := by
    unfold isM
    cases hd : ds n.toNat with
    | nil => rfl
    | cons c r =>
      rw [hd] at ha
      simp only [List.all_cons, Bool.and_eq_true] at ha
      have h1 := ha.1
      unfold isDig at h1
      simp at h1
      simp
      intro hc
      rw [hc] at h1
      simp at h1
  rw [e]
  refine ⟨ha, ?_, hne⟩
  unfold num stripM
  rw [hm]
  simp only [Bool.false_eq_true, if_false]
  rw [numD_plus _ hn (by rw [hv]; omega), hv]
  simp only [Prod.mk.injEq, and_true]
  omega

theorem signs_ok (t r : List UInt8) (h : t ∈ signs) (hr : Blk r) : ∃ c q, t ++ r = c :: q ∧ letB c = false ∧ isDig c = false ∧ c.toNat ≠ 34 ∧ signN (t ++ r) = t.length ∧ t.length ≠ 0 ∧ blB c = false := by
  have he := blk_eq hr
  simp only [signs, List.mem_cons, List.not_mem_nil, or_false] at h
  rcases h with rfl | rfl | rfl | rfl | rfl | rfl | rfl | rfl | rfl | rfl | rfl | rfl | rfl | rfl | rfl
  all_goals
    refine ⟨_, _, rfl, by decide, by decide, by decide, ?_, by decide, by decide⟩
    first
      | rfl
      | (rw [List.cons_append, List.nil_append, signN_X, he]; rfl)

/-- A word spelled is read again, if nothing follows it or a blank. -/
theorem wordF_spell (x : Wd) (r : List UInt8) (h : OkW x) (hr : Blk r) : wordF (spellW x ++ r) = (x, (spellW x).length) ∧ (spellW x).length ≠ 0 ∧ ∃ c q, spellW x ++ r = c :: q ∧ blB c = false := by
  obtain ⟨xk, xt, xn⟩ := x
  unfold OkW at h
  simp only at h
  rcases h with ⟨rfl, rfl, c, q, rfl, hl, ha⟩ | ⟨rfl, rfl, h0, h1⟩ | ⟨rfl, rfl, h0, h1⟩ | ⟨rfl, rfl, h0⟩
  · have e : spellW ⟨1, c :: q, 0⟩ = c :: q := rfl
    rw [e]
    have hrun := runN_all nameB (c :: q) r ha (blk_name hr)
    refine ⟨?_, by simp, c, q ++ r, rfl, ?_⟩
    · rw [List.cons_append] at hrun ⊢
      simp only [wordF]
      rw [if_pos hl, hrun, ← List.cons_append, List.take_left]
    · cases hb : blB c with
      | false => rfl
      | true =>
        have := (bl_no hb).1
        unfold nameB at this
        rw [hl] at this
        cases this
  · have e : spellW ⟨2, [], xn⟩ = txt xn := rfl
    rw [e]
    obtain ⟨ha, hn, hne⟩ := txt_nat xn h0 h1
    have hrun := runN_all isDig (txt xn) r ha (blk_dig hr)
    generalize txt xn = d at *
    cases d with
    | nil => exact absurd rfl hne
    | cons c q =>
      have hc : isDig c = true := by
        simp only [List.all_cons, Bool.and_eq_true] at ha
        exact ha.1
      refine ⟨?_, by simp, c, q ++ r, rfl, ?_⟩
      · rw [List.cons_append] at hrun ⊢
        simp only [wordF]
        rw [if_neg (by unfold isDig at hc; unfold letB; simp at hc ⊢; omega), if_pos hc, hrun, ← List.cons_append, List.take_left, hn, if_pos rfl]
      · cases hb : blB c with
        | false => rfl
        | true =>
          have := (bl_no hb).2.1
          rw [hc] at this
          cases this
  · have e : spellW ⟨3, xt, 0⟩ = 34 :: (escL xt ++ [34]) := rfl
    rw [e]
    refine ⟨?_, by simp, 34, escL xt ++ [34] ++ r, rfl, by decide⟩
    rw [List.cons_append, List.append_assoc, List.singleton_append]
    simp only [wordF]
    rw [if_neg (by decide), if_neg (by decide), if_pos (by decide)]
    unfold litF
    rw [litU_esc]
    simp only
    rw [if_pos ⟨h0, (valid_iff xt).2 h1⟩]
    simp
  · have e : spellW ⟨4, xt, 0⟩ = xt := rfl
    rw [e]
    obtain ⟨c, q, hc, h1, h2, h3, h4, h5, h6⟩ := signs_ok xt r h0 hr
    refine ⟨?_, h5, c, q, hc, h6⟩
    have ht : (c :: q).take xt.length = xt := by rw [← hc, List.take_left]
    rw [hc] at h4 ⊢
    simp only [wordF]
    rw [if_neg (by simp [h1]), if_neg (by simp [h2]), if_neg h3, h4, if_neg h5, ht]
end Go.Proofs.YtikofngogkchfaaDoor
