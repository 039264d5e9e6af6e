/- The plain side of value: values, kinds, what an operator makes. -/
import Derived.Test.YtjablobdiglnpaaDoorCc
import Derived.Test.YtjablobdiglnpaaDoorKi
import Derived.Lib.Bytealg
import Derived.Lib.Small
namespace Go.Proofs.YtjablobdiglnpaaDoor
open Go.RowKit
set_option linter.unusedVariables false

/-- Whether a text may be. -/
def textB (s : ByteArray) : Bool := decide (s.size ≤ 256) && decide (wrong (s.data.toList.length + 1) s.data.toList 0 < 0)
/-- Whether a value may be. -/
def canB (v : Vl) : Bool :=
  if v.k = 0 then sameB v noV
  else if v.k = 1 then sameB v (intV v.n)
  else if v.k = 2 then sameB v (boolV v.y)
  else if v.k = 3 then sameB v (textV v.s) && textB v.s
  else false
def cmpV (a b : Vl) : Int := if a.k = 1 then Lib.compareInt a.n b.n else Lib.compareBytes a.s.data.toList b.s.data.toList
def ordB (op c : Int) : Bool := if op = 12 then decide (c < 0) else if op = 13 then decide (c ≤ 0) else if op = 14 then decide (0 < c) else decide (0 ≤ c)
/-- What an operator makes of two values, where they may be and fit. -/
def makeF (op : Int) (a b : Vl) : Vl × Bool :=
  if classF op = 1 then (boolV (!a.y), true)
  else if classF op = 2 then calcV (intF 11 0 a.n)
  else if classF op = 3 then calcV (intF op a.n b.n)
  else if classF op = 4 then (boolV (ordB op (cmpV a b)), true)
  else if classF op = 5 then (boolV (sameB a b == (op == 16)), true)
  else if classF op = 6 then (boolV (if op = 18 then a.y && b.y else a.y || b.y), true)
  else (noV, false)
def doF (op : Int) (a b : Vl) : Vl × Bool :=
  if (kindF op a.k b.k).2 = true ∧ canB a = true ∧ canB b = true then makeF op a b else (noV, false)

theorem fits_in (z : Int) (h : (fits z).2 = true) : -9223372036854775808 ≤ (fits z).1 ∧ (fits z).1 ≤ 9223372036854775807 := by
  unfold fits at h ⊢
  split at h
  · next hz => rw [if_pos hz]; exact hz
  · cases h
theorem calc_kind (p : Int × Bool) (h : (calcV p).2 = true) : calcV p = (intV p.1, true) := by
  unfold calcV at h ⊢
  split at h
  · next hp => rw [if_pos hp]
  · cases h
theorem can_int (n : Int) : canB (intV n) = true := by simp [canB, intV, (sameB_iff _ _).2 rfl]
theorem can_bool (y : Bool) : canB (boolV y) = true := by simp [canB, boolV, (sameB_iff _ _).2 rfl]

/-- P7.4 on the plain side. -/
theorem doF_kind (op : Int) (a b : Vl) : ((doF op a b).2 = false ∧ (doF op a b).1 = noV) ∨ ((doF op a b).2 = true ∧ (kindF op a.k b.k).2 = true ∧ (doF op a b).1.k = (kindF op a.k b.k).1 ∧ canB (doF op a b).1 = true) := by
  unfold doF
  by_cases h : (kindF op a.k b.k).2 = true ∧ canB a = true ∧ canB b = true
  · rw [if_pos h]
    have h1 := h.1
    unfold kindF kindC at h1 ⊢
    have key : ∀ p : Int × Bool, ((calcV p).2 = false ∧ (calcV p).1 = noV) ∨ ((calcV p).2 = true ∧ (calcV p).1.k = 1 ∧ canB (calcV p).1 = true) := by
      intro p
      unfold calcV
      split
      · exact .inr ⟨rfl, rfl, can_int _⟩
      · exact .inl ⟨rfl, rfl⟩
    unfold makeF
    by_cases c1 : classF op = 1
    · simp only [if_pos c1] at h1 ⊢
      split at h1
      · next hk => rw [if_pos hk]; exact .inr ⟨by trivial, by trivial, by trivial, can_bool _⟩
      · cases h1
    · simp only [if_neg c1] at h1 ⊢
      by_cases c2 : classF op = 2
      · simp only [if_pos c2] at h1 ⊢
        split at h1
        · next hk =>
          rw [if_pos hk]
          rcases key (intF 11 0 a.n) with h | h
          · exact .inl h
          · exact .inr ⟨h.1, rfl, h.2.1, h.2.2⟩
        · cases h1
      · simp only [if_neg c2] at h1 ⊢
        by_cases c3 : classF op = 3
        · simp only [if_pos c3] at h1 ⊢
          split at h1
          · next hk =>
            rw [if_pos hk]
            rcases key (intF op a.n b.n) with h | h
            · exact .inl h
            · exact .inr ⟨h.1, rfl, h.2.1, h.2.2⟩
          · cases h1
        · simp only [if_neg c3] at h1 ⊢
          by_cases c4 : classF op = 4
          · simp only [if_pos c4] at h1 ⊢
            split at h1
            · next hk => rw [if_pos hk]; exact .inr ⟨by trivial, by trivial, by trivial, can_bool _⟩
            · cases h1
          · simp only [if_neg c4] at h1 ⊢
            by_cases c5 : classF op = 5
            · simp only [if_pos c5] at h1 ⊢
              split at h1
              · next hk => rw [if_pos hk]; exact .inr ⟨by trivial, by trivial, by trivial, can_bool _⟩
              · cases h1
            · simp only [if_neg c5] at h1 ⊢
              by_cases c6 : classF op = 6
              · simp only [if_pos c6] at h1 ⊢
                split at h1
                · next hk => rw [if_pos hk]; exact .inr ⟨by trivial, by trivial, by trivial, can_bool _⟩
                · cases h1
              · simp only [if_neg c6] at h1
                cases h1
  · rw [if_neg h]
    exact .inl ⟨rfl, rfl⟩

end Go.Proofs.YtjablobdiglnpaaDoor
