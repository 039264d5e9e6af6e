/- chars: names, the plain side. -/
import Derived.Test.YtpcajjbdlfookaaGreatDoorCn
import Derived.Test.YtpcajjbdlfookaaGreatDoorCv
import Derived.Lib.ValidLaws
namespace Go.Proofs.YtpcajjbdlfookaaGreatDoor
open Go.RowKit Go.Lib
set_option linter.unusedVariables false

/-- How far the name at a beginning goes, from k on. -/
def later : Nat → List UInt8 → Nat → Nat
  | 0, _, k => k
  | f + 1, xs, k => if (D (xs.drop k)).2 = 0 ∨ laterB (D (xs.drop k)).1 = false then k else later f xs (k + (D (xs.drop k)).2)
def nameAt (xs : List UInt8) : Nat := if (D xs).2 = 0 ∨ firstB (D xs).1 = false then 0 else later (xs.length + 1) xs (D xs).2

/-- Whether the characters from k on are those of a name. -/
def goP : Nat → List UInt8 → Nat → Bool
  | 0, _, _ => true
  | f + 1, xs, k => if k < xs.length then (if (k = 0 ∧ firstB (decodeL (xs.drop k)).1 = false) ∨ laterB (decodeL (xs.drop k)).1 = false then false else goP f xs (k + (decodeL (xs.drop k)).2)) else true

theorem goP_bad {f : Nat} {xs : List UInt8} {k : Nat} {T : Bool} {r n : Nat} (hk : k < xs.length) (hf : xs.length - k < f) (hd : decodeL (xs.drop k) = (r, n)) (h : (k = 0 ∧ firstB r = false) ∨ laterB r = false) (hw : goP f xs k = T) : T = false := by
  obtain ⟨g, rfl⟩ : ∃ g, f = g + 1 := ⟨f - 1, by omega⟩
  rw [← hw, goP, if_pos hk, hd, if_pos h]
theorem goP_step {f : Nat} {xs : List UInt8} {k : Nat} {T : Bool} {r n : Nat} (hk : k < xs.length) (hf : xs.length - k < f) (hd : decodeL (xs.drop k) = (r, n)) (h : ¬ ((k = 0 ∧ firstB r = false) ∨ laterB r = false)) (hw : goP f xs k = T) :
    ∃ g, xs.length - (k + n) < g ∧ goP g xs (k + n) = T := by
  obtain ⟨g, rfl⟩ : ∃ g, f = g + 1 := ⟨f - 1, by omega⟩
  have := decodeL_width (xs.drop k)
  rw [hd] at this
  simp only at this
  refine ⟨g, by omega, ?_⟩
  rw [← hw, goP, if_pos hk, hd, if_neg h]
theorem goP_end {f : Nat} {xs : List UInt8} {k : Nat} {T : Bool} (hk : ¬ k < xs.length) (hw : goP f xs k = T) : T = true := by
  cases f with
  | zero => exact hw.symm
  | succ g => rw [← hw, goP, if_neg hk]

theorem goP_fuel : ∀ (f g : Nat) (xs : List UInt8) (k : Nat), xs.length - k < f → xs.length - k < g → goP f xs k = goP g xs k
  | 0, _, _, _, h, _ => by omega
  | _, 0, _, _, _, h => by omega
  | f + 1, g + 1, xs, k, h, h' => by
    rw [goP, goP]
    have := decodeL_width (xs.drop k)
    by_cases hk : k < xs.length
    · rw [if_pos hk, if_pos hk, goP_fuel f g xs (k + (decodeL (xs.drop k)).2) (by omega) (by omega)]
    · rw [if_neg hk, if_neg hk]

theorem later_stop {f : Nat} {xs : List UInt8} {k T r n : Nat} (hf : xs.length - k < f) (hd : D (xs.drop k) = (r, n)) (h : n = 0 ∨ laterB r = false) (hw : later f xs k = T) : T = k := by
  obtain ⟨g, rfl⟩ : ∃ g, f = g + 1 := ⟨f - 1, by omega⟩
  rw [← hw, later, hd, if_pos h]
theorem later_step {f : Nat} {xs : List UInt8} {k T r n : Nat} (hk : k ≤ xs.length) (hf : xs.length - k < f) (hd : D (xs.drop k) = (r, n)) (h1 : n ≠ 0) (h2 : laterB r = true) (hw : later f xs k = T) :
    k + n ≤ xs.length ∧ ∃ g, xs.length - (k + n) < g ∧ later g xs (k + n) = T := by
  obtain ⟨g, rfl⟩ : ∃ g, f = g + 1 := ⟨f - 1, by omega⟩
  have := (D_le (xs.drop k)).2.2
  rw [hd, List.length_drop] at this
  simp only at this
  refine ⟨by omega, g, by omega, ?_⟩
  rw [← hw, later, hd, if_neg (by simp [h1, h2])]

theorem decodeL_G (l : List UInt8) (h : l ≠ []) : decodeL l = G l := by
  have : l.length ≠ 0 := by simpa using h
  rw [decodeL_N, G, if_neg this]
  rfl

set_option maxHeartbeats 1000000 in
theorem decodeN_wide (n b0 b1 b2 b3 : Nat) (h : b0 < 256) (h1 : b1 < 256) (h2 : b2 < 256) (h3 : b3 < 256) (hr : (decodeN n b0 b1 b2 b3).1 = 65533) : (decodeN n b0 b1 b2 b3).2 = 1 ∨ (decodeN n b0 b1 b2 b3).2 = 3 := by
  revert hr
  unfold decodeN
  repeat' split
  all_goals
    intro hr
    dsimp only at hr ⊢
    omega

theorem D_dec (l : List UInt8) (h : l ≠ []) : D l = if (decodeL l).1 = 65533 ∧ (decodeL l).2 = 1 then (0, 0) else decodeL l := by
  have hG := decodeL_G l h
  have hl : l.length ≠ 0 := by simpa using h
  unfold D
  rw [hG]
  have hw : (G l).1 = 65533 → (G l).2 = 1 ∨ (G l).2 = 3 := by
    unfold G
    rw [if_neg hl]
    exact decodeN_wide _ _ _ _ _ (at8_lt _ _) (at8_lt _ _) (at8_lt _ _) (at8_lt _ _)
  by_cases h1 : (G l).1 = 65533 ∧ (G l).2 = 1
  · rw [if_pos h1, if_pos ⟨h1.1, by omega⟩]
  · rw [if_neg h1, if_neg (by intro hh; have := hw hh.1; omega)]

theorem first_later (r : Int) (h : firstB r = true) : laterB r = true := by unfold laterB; rw [h]; rfl

/-- Both ways to look at the rest of a name. -/
theorem later_go : ∀ (f : Nat) (xs : List UInt8) (k : Nat), 0 < k → k ≤ xs.length → xs.length - k < f → decide (later f xs k = xs.length) = (validD (xs.drop k) && goP f xs k)
  | 0, xs, k, _, _, hf => by omega
  | f + 1, xs, k, h0, hk, hf => by
    by_cases he : k = xs.length
    · have hd : xs.drop k = [] := by rw [he]; simp
      have hD : D [] = (0, 0) := by decide
      rw [later, goP, hd, hD, if_pos (.inl rfl), if_neg (by omega)]
      simp [he, validD_nil]
    · have hlt : k < xs.length := by omega
      have hne : xs.drop k ≠ [] := by
        intro hh
        have := congrArg List.length hh
        simp at this
        omega
      have hD := D_dec _ hne
      have hw := decodeL_width (xs.drop k)
      have hL := decodeL_le _ hne
      rw [List.length_drop] at hL
      rw [later, goP, if_pos hlt, validD_step _ hne, hD]
      by_cases hb : (decodeL (xs.drop k)).1 = 65533 ∧ (decodeL (xs.drop k)).2 = 1
      · rw [if_pos hb, if_pos hb, if_pos (.inl rfl)]
        simp [he]
      · rw [if_neg hb, if_neg hb]
        by_cases hl : laterB (decodeL (xs.drop k)).1 = false
        · rw [if_pos (.inr hl), if_pos (.inr hl)]
          simp [he]
        · rw [if_neg (by rintro (h | h) <;> first | omega | exact hl h), if_neg (by rintro (⟨h, _⟩ | h) <;> first | omega | exact hl h), List.drop_drop]
          exact later_go f xs _ (by omega) (by omega) (by omega)

def nameP (xs : List UInt8) : Bool := validD xs && goP (xs.length + 1) xs 0
theorem nameAt_eq (xs : List UInt8) (h : xs ≠ []) : decide (nameAt xs = xs.length) = nameP xs := by
  have hD := D_dec _ h
  have hw := decodeL_width xs
  have hL := decodeL_le _ h
  have hl : 0 < xs.length := List.length_pos_iff.2 h
  unfold nameAt nameP
  rw [goP, if_pos hl, List.drop_zero, validD_step _ h, hD]
  by_cases hb : (decodeL xs).1 = 65533 ∧ (decodeL xs).2 = 1
  · rw [if_pos hb, if_pos hb, if_pos (.inl rfl)]
    simp
    omega
  · rw [if_neg hb, if_neg hb]
    by_cases hf : firstB (decodeL xs).1 = false
    · rw [if_pos (.inr hf), if_pos (.inl ⟨rfl, hf⟩)]
      simp
      omega
    · have hf' : firstB (decodeL xs).1 = true := by simpa using hf
      have hl' := first_later _ hf'
      rw [if_neg (by rintro (h | h) <;> first | omega | exact hf h), if_neg (by rw [hf', hl']; simp), Nat.zero_add]
      rw [later_go _ _ _ (by omega) hL (by omega)]
      congr 1
      exact goP_fuel _ _ _ _ (by omega) (by omega)
end Go.Proofs.YtpcajjbdlfookaaGreatDoor
