/- The plain side of lexer: a text literal read character by character. -/
import Derived.Test.YtikofngogkchfaaDoorLc
namespace Go.Proofs.YtikofngogkchfaaDoor
set_option linter.unusedVariables false

/-! ### What a character hangs on -/
theorem at8_take (l l' : List UInt8) (n i : Nat) (h : l'.take n = l.take n) (hi : i < n) : at8 l' i = at8 l i := by
  unfold at8
  have h1 : l'[i]? = l[i]? := by
    have := congrArg (·[i]?) h
    simpa [List.getElem?_take, hi] using this
  simp only [List.getD, h1]
theorem D_frame (l l' : List UInt8) (x n : Nat) (h : D l = (x, n)) (hn : n ≠ 0) (hl : n ≤ l.length) (hl' : n ≤ l'.length) (ht : l'.take n = l.take n) : D l' = (x, n) := by
  have hl0 : l.length ≠ 0 := by omega
  have hl0' : l'.length ≠ 0 := by omega
  have e0 := at8_take l l' n 0 ht (by omega)
  have b0 := at8_lt l 0
  by_cases c1 : at8 l 0 < 128
  · rw [D_one l hl0 c1] at h
    rw [D_one l' hl0' (by omega), e0]
    exact h
  by_cases c2 : at8 l 0 < 192
  · rw [D_cont l hl0 (by omega) c2] at h
    simp only [Prod.mk.injEq] at h
    omega
  by_cases c3 : at8 l 0 < 224
  · by_cases hb : l.length < 2 ∨ at8 l 1 < 128 ∨ 192 ≤ at8 l 1
    · rw [D_two_bad l hl0 (by omega) c3 hb] at h
      simp only [Prod.mk.injEq] at h
      omega
    · have hd := D_two l (by omega) (by omega) c3 (by omega) (by omega)
      rw [hd] at h
      have hn2 : n = 2 := by
        split at h
        · simp only [Prod.mk.injEq] at h; omega
        · simp only [Prod.mk.injEq] at h; omega
      have e1 := at8_take l l' n 1 ht (by omega)
      rw [D_two l' (by omega) (by omega) (by omega) (by omega) (by omega), e0, e1]
      exact h
  by_cases c4 : at8 l 0 < 240
  · by_cases hb : l.length < 3 ∨ (at8 l 1 < 128 ∨ 192 ≤ at8 l 1) ∨ at8 l 2 < 128 ∨ 192 ≤ at8 l 2
    · rw [D_three_bad l hl0 (by omega) c4 hb] at h
      simp only [Prod.mk.injEq] at h
      omega
    · have hd := D_three l (by omega) (by omega) c4 (by omega) (by omega) (by omega) (by omega) _ rfl
      rw [hd] at h
      have hn3 : n = 3 := by
        split at h
        · simp only [Prod.mk.injEq] at h; omega
        · simp only [Prod.mk.injEq] at h; omega
      have e1 := at8_take l l' n 1 ht (by omega)
      have e2 := at8_take l l' n 2 ht (by omega)
      rw [D_three l' (by omega) (by omega) (by omega) (by omega) (by omega) (by omega) (by omega) _ rfl, e0, e1, e2]
      exact h
  · by_cases hb : l.length < 4 ∨ (at8 l 1 < 128 ∨ 192 ≤ at8 l 1) ∨ (at8 l 2 < 128 ∨ 192 ≤ at8 l 2) ∨ at8 l 3 < 128 ∨ 192 ≤ at8 l 3
    · rw [D_four_bad l hl0 (by omega) hb] at h
      simp only [Prod.mk.injEq] at h
      omega
    · have hd := D_four l (by omega) (by omega) (by omega) (by omega) (by omega) (by omega) (by omega) (by omega) _ rfl
      rw [hd] at h
      have hn4 : n = 4 := by
        split at h
        · simp only [Prod.mk.injEq] at h; omega
        · simp only [Prod.mk.injEq] at h; omega
      have e1 := at8_take l l' n 1 ht (by omega)
      have e2 := at8_take l l' n 2 ht (by omega)
      have e3 := at8_take l l' n 3 ht (by omega)
      rw [D_four l' (by omega) (by omega) (by omega) (by omega) (by omega) (by omega) (by omega) (by omega) _ rfl, e0, e1, e2, e3]
      exact h
/-- The later bytes of a character are above 127. -/
theorem D_later (l : List UInt8) (x n i : Nat) (h : D l = (x, n)) (h0 : 0 < i) (hi : i < n) : 128 ≤ at8 l i := by
  have hle := D_le l
  rw [h] at hle
  simp only at hle
  have hl0 : l.length ≠ 0 := by omega
  have b0 := at8_lt l 0
  by_cases c1 : at8 l 0 < 128
  · rw [D_one l hl0 c1] at h
    simp only [Prod.mk.injEq] at h
    omega
  by_cases c2 : at8 l 0 < 192
  · rw [D_cont l hl0 (by omega) c2] at h
    simp only [Prod.mk.injEq] at h
    omega
  by_cases c3 : at8 l 0 < 224
  · by_cases hb : l.length < 2 ∨ at8 l 1 < 128 ∨ 192 ≤ at8 l 1
    · rw [D_two_bad l hl0 (by omega) c3 hb] at h
      simp only [Prod.mk.injEq] at h
      omega
    · rw [D_two l (by omega) (by omega) c3 (by omega) (by omega)] at h
      have hn2 : n = 2 := by
        split at h
        · simp only [Prod.mk.injEq] at h; omega
        · simp only [Prod.mk.injEq] at h; omega
      obtain rfl : i = 1 := by omega
      omega
  by_cases c4 : at8 l 0 < 240
  · by_cases hb : l.length < 3 ∨ (at8 l 1 < 128 ∨ 192 ≤ at8 l 1) ∨ at8 l 2 < 128 ∨ 192 ≤ at8 l 2
    · rw [D_three_bad l hl0 (by omega) c4 hb] at h
      simp only [Prod.mk.injEq] at h
      omega
    · rw [D_three l (by omega) (by omega) c4 (by omega) (by omega) (by omega) (by omega) _ rfl] at h
      have hn3 : n = 3 := by
        split at h
        · simp only [Prod.mk.injEq] at h; omega
        · simp only [Prod.mk.injEq] at h; omega
      rcases (by omega : i = 1 ∨ i = 2) with rfl | rfl <;> omega
  · by_cases hb : l.length < 4 ∨ (at8 l 1 < 128 ∨ 192 ≤ at8 l 1) ∨ (at8 l 2 < 128 ∨ 192 ≤ at8 l 2) ∨ at8 l 3 < 128 ∨ 192 ≤ at8 l 3
    · rw [D_four_bad l hl0 (by omega) hb] at h
      simp only [Prod.mk.injEq] at h
      omega
    · rw [D_four l (by omega) (by omega) (by omega) (by omega) (by omega) (by omega) (by omega) (by omega) _ rfl] at h
      have hn4 : n = 4 := by
        split at h
        · simp only [Prod.mk.injEq] at h; omega
        · simp only [Prod.mk.injEq] at h; omega
      rcases (by omega : i = 1 ∨ i = 2 ∨ i = 3) with rfl | rfl | rfl <;> omega

/-! ### A text that may be -/
def okF : Nat → List UInt8 → Bool
  | 0, _ => true
  | f + 1, l => if l = [] then true else if (D l).2 = 0 ∨ xmlB (D l).1 = false then false else okF f (l.drop (D l).2)
def valid (l : List UInt8) : Bool := okF (l.length + 1) l
theorem okF_fuel : ∀ (f g : Nat) (l : List UInt8), l.length < f → l.length < g → okF f l = okF g l := by
  intro f
  induction f with
  | zero => intro g l h; omega
  | succ f ih =>
    intro g l h1 h2
    obtain ⟨g, rfl⟩ : ∃ g', g = g' + 1 := ⟨g - 1, by omega⟩
    unfold okF
    by_cases hl : l = []
    · rw [if_pos hl, if_pos hl]
    · rw [if_neg hl, if_neg hl]
      by_cases hb : (D l).2 = 0 ∨ xmlB (D l).1 = false
      · rw [if_pos hb, if_pos hb]
      · rw [if_neg hb, if_neg hb]
        have hlen : 0 < l.length := List.length_pos_iff.2 hl
        exact ih g _ (by rw [List.length_drop]; omega) (by rw [List.length_drop]; omega)
theorem wrong_okF : ∀ (f : Nat) (l : List UInt8) (k : Nat), (wrong f l k < 0 ↔ okF f (l.drop k) = true) := by
  intro f
  induction f with
  | zero => intro l k; simp [wrong, okF]
  | succ f ih =>
    intro l k
    unfold wrong
    conv => rhs; lhs; unfold okF
    by_cases hk : k < l.length
    · have hne : l.drop k ≠ [] := by
        intro h
        have := congrArg List.length h
        rw [List.length_drop, List.length_nil] at this
        omega
      rw [if_pos hk, if_neg hne]
      by_cases hb : (D (l.drop k)).2 = 0 ∨ xmlB (D (l.drop k)).1 = false
      · rw [if_pos hb, if_pos hb]
        simp
      · rw [if_neg hb, if_neg hb, ih, List.drop_drop]
    · rw [if_neg hk, if_pos (List.drop_eq_nil_of_le (by omega))]
      simp
theorem valid_iff (t : List UInt8) : (wrong (t.length + 1) t 0 < 0) ↔ valid t = true := by
  have := wrong_okF (t.length + 1) t 0
  rw [List.drop_zero] at this
  exact this
theorem valid_nil : valid [] = true := rfl
theorem valid_bad (t : List UInt8) (hne : t ≠ []) (h : (D t).2 = 0 ∨ xmlB (D t).1 = false) : valid t = false := by
  unfold valid okF
  rw [if_neg hne, if_pos h]
theorem valid_char (x t : List UInt8) (r : Nat) (hx : x ≠ []) (hD : D (x ++ t) = (r, x.length)) (hr : xmlB r = true) : valid (x ++ t) = valid t := by
  have hl : 0 < x.length := List.length_pos_iff.2 hx
  have e : valid (x ++ t) = okF (x ++ t).length ((x ++ t).drop x.length) := by
    conv => lhs; unfold valid okF
    rw [if_neg (by simp [hx]), hD, if_neg (by simp [hr, hx])]
  rw [e, List.drop_left]
  exact okF_fuel _ _ _ (by rw [List.length_append]; omega) (by omega)

/-! ### A character of the source is one of the text -/
theorem litU_plain (c : UInt8) (r : List UInt8) (h1 : c.toNat ≠ 34) (h2 : c.toNat ≠ 92) : litU false (c :: r) = (litU false r).map fun p => (c :: p.1, p.2 + 1) := by
  conv => lhs; unfold litU
  rw [if_neg h1, if_neg h2]
/-- Bytes above 127, or a first one that is no quote and no stroke, stand for themselves. -/
theorem litU_block : ∀ (x r : List UInt8), (∀ b ∈ x, b.toNat ≠ 34 ∧ b.toNat ≠ 92) → litU false (x ++ r) = (litU false r).map fun p => (x ++ p.1, x.length + p.2)
  | [], r, _ => by
    simp only [List.nil_append, List.length_nil, Nat.zero_add]
    cases litU false r <;> simp
  | c :: x, r, h => by
    rw [List.cons_append, litU_plain c _ (h c (by simp)).1 (h c (by simp)).2, litU_block x r (fun b hb => h b (by simp [hb]))]
    cases litU false r with
    | none => rfl
    | some p => simp; omega
/-- What is read begins with the bytes of the source up to the first quote or stroke. -/
theorem litU_front : ∀ (n : Nat) (l t : List UInt8) (m : Nat), litU false l = some (t, m) → n ≤ t.length → (∀ i, i < n → at8 t i ≠ 34 ∧ at8 t i ≠ 92) → l.take n = t.take n
  | 0, _, _, _, _, _, _ => by simp
  | n + 1, [], t, m, h, _, _ => by simp [litU] at h
  | n + 1, c :: r, t, m, h, hn, hb => by
    by_cases h1 : c.toNat = 34
    · unfold litU at h
      rw [if_pos h1] at h
      simp only [Option.some.injEq, Prod.mk.injEq] at h
      obtain ⟨rfl, rfl⟩ := h
      simp at hn
    · by_cases h2 : c.toNat = 92
      · exfalso
        unfold litU at h
        rw [if_neg h1, if_pos h2] at h
        simp only [Option.map_eq_some_iff, Prod.mk.injEq, Prod.exists] at h
        obtain ⟨t', m', h3, rfl, rfl⟩ := h
        cases r with
        | nil => simp [litU] at h3
        | cons d r' =>
          unfold litU at h3
          by_cases h4 : d.toNat = 34 ∨ d.toNat = 92
          · rw [if_pos h4] at h3
            simp only [Option.map_eq_some_iff, Prod.mk.injEq, Prod.exists] at h3
            obtain ⟨t2, m2, h5, rfl, rfl⟩ := h3
            have := hb 0 (by omega)
            simp only [at8, List.getD, List.getElem?_cons_zero, Option.getD_some] at this
            omega
          · rw [if_neg h4] at h3
            cases h3
      · rw [litU_plain c r h1 h2] at h
        simp only [Option.map_eq_some_iff, Prod.mk.injEq, Prod.exists] at h
        obtain ⟨t', m', h3, rfl, rfl⟩ := h
        have := litU_front n r t' m' h3 (by simpa using hn) (fun i hi => by
          have := hb (i + 1) (by omega)
          simpa [at8, List.getD] using this)
        simp [this]

/-- Where the source's character is none, the text may not be. -/
theorem lit_bad (c : UInt8) (r t : List UInt8) (m : Nat) (h1 : c.toNat ≠ 34) (h2 : c.toNat ≠ 92) (h : litU false (c :: r) = some (t, m)) (hb : (D (c :: r)).2 = 0 ∨ xmlB (D (c :: r)).1 = false) : valid t = false := by
  have hne : t ≠ [] := by
    rw [litU_plain c r h1 h2] at h
    simp only [Option.map_eq_some_iff, Prod.mk.injEq, Prod.exists] at h
    obtain ⟨t', m', h3, rfl, rfl⟩ := h
    simp
  apply valid_bad t hne
  obtain ⟨⟨x, n⟩, hD⟩ : ∃ p, D t = p := ⟨_, rfl⟩
  rw [hD]
  by_cases hn : n = 0
  · left; exact hn
  right
  have hle := D_le t
  rw [hD] at hle
  simp only at hle
  have hlm := litU_le _ _ _ _ h
  have ht0 : at8 t 0 = c.toNat := by
    rw [litU_plain c r h1 h2] at h
    simp only [Option.map_eq_some_iff, Prod.mk.injEq, Prod.exists] at h
    obtain ⟨t', m', h3, rfl, rfl⟩ := h
    rfl
  have hf := litU_front n (c :: r) t m h hle.2.2 (fun i hi => by
    by_cases h0 : i = 0
    · subst h0; rw [ht0]; exact ⟨h1, h2⟩
    · have := D_later t x n i hD (by omega) hi
      omega)
  have hD2 := D_frame t (c :: r) x n hD hn hle.2.2 (by omega) hf
  rw [hD2] at hb
  simp only at hb
  rcases hb with hb | hb
  · omega
  · exact hb
/-- A character of the source stands for itself. -/
theorem lit_char (c : UInt8) (r : List UInt8) (x n : Nat) (h1 : c.toNat ≠ 34) (h2 : c.toNat ≠ 92) (hD : D (c :: r) = (x, n)) (hn : n ≠ 0) :
    litU false (c :: r) = (litU false ((c :: r).drop n)).map fun p => ((c :: r).take n ++ p.1, n + p.2) := by
  have hle := D_le (c :: r)
  rw [hD] at hle
  simp only at hle
  have hlen : ((c :: r).take n).length = n := by rw [List.length_take]; omega
  have := litU_block ((c :: r).take n) ((c :: r).drop n) (fun b hb => by
    obtain ⟨i, hi, rfl⟩ := List.getElem_of_mem hb
    rw [hlen] at hi
    by_cases h0 : i = 0
    · subst h0
      simp only [List.getElem_take, List.getElem_cons_zero]
      exact ⟨h1, h2⟩
    · have h3 := D_later (c :: r) x n i hD (by omega) hi
      have h4 : at8 (c :: r) i = ((c :: r).take n)[i].toNat := by
        simp only [at8, List.getD, List.getElem_take]
        rw [List.getElem?_eq_getElem (by omega)]
        rfl
      omega)
  rw [List.take_append_drop, hlen] at this
  exact this
end Go.Proofs.YtikofngogkchfaaDoor
