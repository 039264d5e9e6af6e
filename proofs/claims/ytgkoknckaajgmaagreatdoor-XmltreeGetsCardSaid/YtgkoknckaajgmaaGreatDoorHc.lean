/- xmllex: both ways to look at a tag come to the same. -/
import Derived.Test.YtgkoknckaajgmaaGreatDoorHb
namespace Go.Proofs.YtgkoknckaajgmaaGreatDoor
open Go.RowKit
set_option linter.unusedVariables false

theorem blN_le : ∀ r, blN r ≤ r.length
  | [] => Nat.le_refl _
  | c :: r => by
    have := blN_le r
    rw [blN]
    split <;> simp <;> omega
theorem blN_at : ∀ (r : List UInt8) (j : Nat), j < blN r → ∃ c, r[j]? = some c ∧ spaceB (c.toNat : Int) = true
  | [], j, h => by simp [blN] at h
  | c :: r, j, h => by
    rw [blN] at h
    split at h
    · rename_i hc
      cases j with
      | zero => exact ⟨c, rfl, hc⟩
      | succ j =>
        obtain ⟨d, h1, h2⟩ := blN_at r j (by omega)
        exact ⟨d, by simpa using h1, h2⟩
    · omega
theorem pre_head {r : List UInt8} {c : UInt8} {t : List UInt8} (h : Lib.hasPrefix r (c :: t) = true) : ∃ s, r = c :: s := by
  unfold Lib.hasPrefix at h
  cases r with
  | nil => simp [List.isPrefixOf] at h
  | cons a s =>
    simp only [List.isPrefixOf, Bool.and_eq_true, beq_iff_eq] at h
    exact ⟨s, by rw [h.1]⟩
theorem blN_zero {r : List UInt8} {c : UInt8} {s : List UInt8} (h : r = c :: s) (hc : spaceB (c.toNat : Int) = false) : blN r = 0 := by
  rw [h, blN, hc]
  rfl
theorem pre_not {c d : UInt8} {s t : List UInt8} (h : c ≠ d) : Lib.hasPrefix (c :: s) (d :: t) = false := by
  unfold Lib.hasPrefix
  simp [List.isPrefixOf, Ne.symm h]
theorem idx_pre {r m : List UInt8} (h : Lib.hasPrefix r m = true) : Lib.index r m = 0 := by
  unfold Lib.hasPrefix at h
  cases r with
  | nil =>
    cases m with
    | nil => rfl
    | cons a t => simp [List.isPrefixOf] at h
  | cons a s => unfold Lib.index; rw [if_pos h]
/-- Blanks ahead play no part where a mark is looked for. -/
theorem idx_blanks (r : List UInt8) (c : UInt8) (t : List UInt8) (hc : spaceB (c.toNat : Int) = false) :
    Lib.index r (c :: t) = if Lib.index (r.drop (blN r)) (c :: t) < 0 then -1 else Lib.index (r.drop (blN r)) (c :: t) + blN r := by
  have hno : Lib.NoOcc r (c :: t) (blN r) := fun j hj => by
    obtain ⟨d, h1, h2⟩ := blN_at r j hj
    cases ho : Lib.occAt r (c :: t) j with
    | false => rfl
    | true =>
      have := Lib.occAt_head rfl ho
      rw [h1] at this
      simp only [Option.some.injEq] at this
      rw [this, hc] at h2
      simp at h2
  rw [Lib.index_drop hno (blN_le r)]
  have := Lib.index_ge (r.drop (blN r)) (c :: t)
  by_cases h : Lib.index (r.drop (blN r)) (c :: t) = -1
  · rw [h]; rfl
  · rw [if_neg (by simpa using h), if_neg (by omega)]
theorem ins_eq (t : List UInt8) : insP t = insR t := by
  unfold insP insR
  by_cases h0 : nameAt t = 0
  · rw [if_pos h0, if_pos (.inl h0)]
  · rw [if_neg h0]
    obtain ⟨u, hu⟩ : ∃ u, u = t.drop (nameAt t) := ⟨_, rfl⟩
    rw [← hu]
    cases hp : Lib.hasPrefix u [63, 62] with
    | true =>
      rw [if_pos rfl, if_neg (by simp [h0]), idx_pre hp, if_neg (by omega)]
      simp
    | false =>
      rw [if_neg (by simp)]
      by_cases hb : blN u = 0
      · rw [if_pos hb, if_pos (.inr ⟨rfl, hb⟩)]
      · rw [if_neg hb, if_neg (show ¬ (nameAt t = 0 ∨ (false = false ∧ blN u = 0)) from by simp [h0, hb])]
        have hi := idx_blanks u 63 [62] (by decide)
        have hd : t.drop (nameAt t + blN u) = u.drop (blN u) := by rw [hu, List.drop_drop]
        rw [hd]
        obtain ⟨i, he⟩ : ∃ i, i = Lib.index (u.drop (blN u)) [63, 62] := ⟨_, rfl⟩
        rw [← he] at hi ⊢
        rw [hi]
        by_cases h : i < 0
        · rw [if_pos h, if_pos h, if_pos (by omega)]
        · rw [if_neg h, if_neg h, if_neg (by omega)]
          congr 1
          omega
theorem tag_some {r : List UInt8} {n : Nat} (h : tagP r = some n) : tagR r = n ∧ n ≠ 0 := by
  unfold tagP at h
  unfold tagR
  by_cases h0 : nameAt r = 0
  · rw [if_pos h0] at h; simp at h
  · rw [if_neg h0] at h
    cases hp : Lib.hasPrefix (r.drop (nameAt r)) [58] with
    | false =>
      rw [hp] at h
      simp at h
      rw [if_pos (.inr rfl)]
      omega
    | true =>
      rw [hp, if_pos rfl] at h
      rw [if_neg (by simp [h0])]
      by_cases h1 : nameAt (r.drop (nameAt r + 1)) = 0
      · rw [if_pos h1] at h; simp at h
      · rw [if_neg h1] at h ⊢
        simp at h
        omega
theorem tag_none {r : List UInt8} (h : tagP r = none) : tagR r = 0 ∨ ∃ s, r.drop (tagR r) = 58 :: s := by
  unfold tagP at h
  unfold tagR
  by_cases h0 : nameAt r = 0
  · rw [if_pos (.inl h0)]
    exact .inl h0
  · rw [if_neg h0] at h
    cases hp : Lib.hasPrefix (r.drop (nameAt r)) [58] with
    | false => rw [hp] at h; simp at h
    | true =>
      rw [hp, if_pos rfl] at h
      rw [if_neg (by simp [h0])]
      by_cases h1 : nameAt (r.drop (nameAt r + 1)) = 0
      · rw [if_pos h1]
        exact .inr (pre_head hp)
      · rw [if_neg h1] at h; simp at h
theorem clo_eq (t : List UInt8) : cloP t = cloR t := by
  unfold cloP cloR
  cases h : tagP t with
  | some n =>
    obtain ⟨h1, h2⟩ := tag_some h
    rw [h1]
    cases hp : Lib.hasPrefix (t.drop (n + blN (t.drop n))) [62] with
    | true => simp [h2, hp]
    | false => simp [h2, hp]
  | none =>
    rcases tag_none h with h0 | ⟨s, hs⟩
    · rw [if_pos (.inl h0)]
    · have hb : blN (t.drop (tagR t)) = 0 := blN_zero hs (by decide)
      rw [if_pos (.inr (by rw [hb, Nat.add_zero, hs]; rfl))]

/-- One byte, first. -/
theorem idx1_nil (q : UInt8) : Lib.index [] [q] = -1 := rfl
theorem idx1_cons (c : UInt8) (r : List UInt8) (q : UInt8) : Lib.index (c :: r) [q] = if c = q then 0 else if Lib.index r [q] < 0 then -1 else Lib.index r [q] + 1 := by
  have hg := Lib.index_ge r [q]
  rw [Lib.index]
  by_cases h : c = q
  · rw [if_pos h, if_pos (by simp [List.isPrefixOf, h])]
  · rw [if_neg h, if_neg (by simp [List.isPrefixOf, Ne.symm h])]
    by_cases h1 : Lib.index r [q] = -1
    · rw [h1]; rfl
    · rw [if_neg (by simpa using h1), if_neg (by omega)]
theorem idx1_ne {c q : UInt8} (h : c ≠ q) (r : List UInt8) : Lib.index (c :: r) [q] = if Lib.index r [q] < 0 then -1 else Lib.index r [q] + 1 := by rw [idx1_cons, if_neg h]
theorem idx1_lt : ∀ (t : List UInt8) (q : UInt8), Lib.index t [q] < t.length ∨ (t = [] ∧ Lib.index t [q] = -1)
  | [], q => .inr ⟨rfl, rfl⟩
  | c :: r, q => by
    left
    have := idx1_lt r q
    rw [idx1_cons, List.length_cons]
    split
    · omega
    · split
      · omega
      · rcases this with h | ⟨_, h⟩ <;> omega
theorem idx1_take : ∀ (t : List UInt8) (q : UInt8) (k : Nat), (0 ≤ Lib.index (t.take k) [q] ↔ (0 ≤ Lib.index t [q] ∧ Lib.index t [q] < k))
  | [], q, k => by simp [idx1_nil]
  | c :: r, q, 0 => by
    have := Lib.index_ge (c :: r) [q]
    simp [idx1_nil]
  | c :: r, q, k + 1 => by
    have ih := idx1_take r q k
    have hg := Lib.index_ge r [q]
    have hg2 := Lib.index_ge (r.take k) [q]
    rw [List.take_succ_cons, idx1_cons, idx1_cons]
    by_cases h : c = q
    · rw [if_pos h, if_pos h]; omega
    · rw [if_neg h, if_neg h]
      split <;> split <;> omega
theorem idx1_split : ∀ (t : List UInt8) (q : UInt8) (i : Nat), Lib.index t [q] = i → t = t.take i ++ q :: t.drop (i + 1) ∧ (∀ x ∈ t.take i, x ≠ q) ∧ i < t.length
  | [], q, i, h => by rw [idx1_nil] at h; omega
  | c :: r, q, i, h => by
    rw [idx1_cons] at h
    by_cases hc : c = q
    · rw [if_pos hc] at h
      obtain rfl : i = 0 := by omega
      exact ⟨by simp [hc], by simp, by simp⟩
    · rw [if_neg hc] at h
      have hg := Lib.index_ge r [q]
      by_cases h1 : Lib.index r [q] < 0
      · rw [if_pos h1] at h; omega
      · rw [if_neg h1] at h
        obtain ⟨j, rfl⟩ : ∃ j, i = j + 1 := ⟨i - 1, by omega⟩
        obtain ⟨e1, e2, e3⟩ := idx1_split r q j (by omega)
        refine ⟨?_, ?_, by simp; omega⟩
        · simp only [List.take_succ_cons, List.drop_succ_cons, List.cons_append]
          rw [← e1]
        · intro x hx
          rw [List.take_succ_cons, List.mem_cons] at hx
          rcases hx with rfl | hx
          · exact hc
          · exact e2 x hx
theorem idx1_none : ∀ (t : List UInt8) (q : UInt8), (Lib.index t [q] < 0 ↔ ∀ x ∈ t, x ≠ q)
  | [], q => by simp [idx1_nil]
  | c :: r, q => by
    have ih := idx1_none r q
    have hg := Lib.index_ge r [q]
    rw [idx1_cons]
    by_cases hc : c = q
    · rw [if_pos hc]
      constructor
      · intro h; omega
      · intro h; exact absurd hc (h c (by simp))
    · rw [if_neg hc]
      constructor
      · intro h x hx
        rcases List.mem_cons.1 hx with rfl | hx
        · exact hc
        · exact ih.1 (by split at h <;> omega) x hx
      · intro h
        rw [if_pos (ih.2 fun x hx => h x (by simp [hx]))]
        omega
theorem idx1_app : ∀ (p s : List UInt8) (q : UInt8), (∀ x ∈ p, x ≠ q) → Lib.index (p ++ q :: s) [q] = p.length
  | [], s, q, _ => by rw [List.nil_append, idx1_cons, if_pos rfl]; rfl
  | c :: p, s, q, h => by
    have ih := idx1_app p s q fun x hx => h x (by simp [hx])
    rw [List.cons_append, idx1_cons, if_neg (h c (by simp)), ih, if_neg (by omega)]
    simp
end Go.Proofs.YtgkoknckaajgmaaGreatDoor
