/- xmllex: a text as it is written is read as the text. -/
import Derived.Test.YtelemkiaepemjaaDoorIf
namespace Go.Proofs.YtelemkiaepemjaaDoor
open Go.RowKit
set_option linter.unusedVariables false

theorem lns_ix : ∀ p : List UInt8, (∀ x ∈ p, x ≠ 38 ∧ x ≠ 13) → lns p = p
  | [], _ => rfl
  | c :: r, h => by
    rw [lns, if_neg (h c (by simp)).2, lns_ix r fun x hx => h x (by simp [hx])]
theorem u8_ex {x y : UInt8} (h : x.toNat = y.toNat) : x = y := UInt8.toNat_inj.1 h
/-- A byte is written as it is, or as a reference to it. -/
theorem esc_cases (x : UInt8) : (escB x = [x] ∧ x ≠ 38 ∧ x ≠ 13) ∨ (∃ u, escB x = 38 :: u ∧ E (x.toNat : Int) = [x] ∧ ∀ T, refA (38 :: (u ++ T)) = some (x.toNat, u.length + 1)) := by
  by_cases h1 : x.toNat = 38
  · obtain rfl : x = 38 := u8_ex h1
    refine .inr ⟨[97, 109, 112, 59], by decide, by decide, fun T => ?_⟩
    have hi : Lib.index (38 :: ([97, 109, 112, 59] ++ T)) [59] = 4 := by simp [idx1_cons]
    unfold refA
    rw [hi]
    rfl
  by_cases h2 : x.toNat = 60
  · obtain rfl : x = 60 := u8_ex h2
    refine .inr ⟨[108, 116, 59], by decide, by decide, fun T => ?_⟩
    have hi : Lib.index (38 :: ([108, 116, 59] ++ T)) [59] = 3 := by simp [idx1_cons]
    unfold refA
    rw [hi]
    rfl
  by_cases h3 : x.toNat = 62
  · obtain rfl : x = 62 := u8_ex h3
    refine .inr ⟨[103, 116, 59], by decide, by decide, fun T => ?_⟩
    have hi : Lib.index (38 :: ([103, 116, 59] ++ T)) [59] = 3 := by simp [idx1_cons]
    unfold refA
    rw [hi]
    rfl
  by_cases h4 : x.toNat = 34
  · obtain rfl : x = 34 := u8_ex h4
    refine .inr ⟨[113, 117, 111, 116, 59], by decide, by decide, fun T => ?_⟩
    have hi : Lib.index (38 :: ([113, 117, 111, 116, 59] ++ T)) [59] = 5 := by simp [idx1_cons]
    unfold refA
    rw [hi]
    rfl
  by_cases h5 : x.toNat = 9
  · obtain rfl : x = 9 := u8_ex h5
    refine .inr ⟨[35, 57, 59], by decide, by decide, fun T => ?_⟩
    have hi : Lib.index (38 :: ([35, 57, 59] ++ T)) [59] = 3 := by simp [idx1_cons]
    unfold refA
    rw [hi]
    rfl
  by_cases h6 : x.toNat = 10
  · obtain rfl : x = 10 := u8_ex h6
    refine .inr ⟨[35, 49, 48, 59], by decide, by decide, fun T => ?_⟩
    have hi : Lib.index (38 :: ([35, 49, 48, 59] ++ T)) [59] = 4 := by simp [idx1_cons]
    unfold refA
    rw [hi]
    rfl
  by_cases h7 : x.toNat = 13
  · obtain rfl : x = 13 := u8_ex h7
    refine .inr ⟨[35, 49, 51, 59], by decide, by decide, fun T => ?_⟩
    have hi : Lib.index (38 :: ([35, 49, 51, 59] ++ T)) [59] = 4 := by simp [idx1_cons]
    unfold refA
    rw [hi]
    rfl
  refine .inl ⟨?_, ?_, ?_⟩
  · unfold escB
    rw [if_neg h1, if_neg h2, if_neg h3, if_neg h4, if_neg h5, if_neg h6, if_neg h7]
  · rintro rfl
    exact h1 rfl
  · rintro rfl
    exact h7 rfl
theorem escF_cons (x : UInt8) (t : List UInt8) : escF (x :: t) = escB x ++ escF t := by unfold escF; rw [List.flatMap_cons]
theorem rs_esc : ∀ (s p : List UInt8) (f a : Nat) (out : List UInt8), (∀ x ∈ p, x ≠ 38 ∧ x ≠ 13) → (p ++ escF s).length < f → rsF f false (p ++ escF s) a out = .ok (out ++ p ++ s)
  | [], p, f, a, out, hp, hf => by
    have h0 : escF [] = [] := rfl
    rw [h0, List.append_nil] at hf ⊢
    rw [rs_miss ((idx1_none p 38).2 fun x hx => (hp x hx).1) hf, List.append_nil]
    show Except.ok (out ++ lns p) = _
    rw [lns_ix p hp]
  | x :: t, p, f, a, out, hp, hf => by
    rw [escF_cons] at hf ⊢
    rcases esc_cases x with ⟨h1, h2, h3⟩ | ⟨u, h1, h2, h3⟩
    · rw [h1] at hf ⊢
      have e : p ++ ([x] ++ escF t) = (p ++ [x]) ++ escF t := by simp
      rw [e] at hf ⊢
      rw [rs_esc t (p ++ [x]) f a out (fun y hy => by
        rcases List.mem_append.1 hy with h | h
        · exact hp y h
        · obtain rfl : y = x := by simpa using h
          exact ⟨h2, h3⟩) hf]
      simp
    · rw [h1] at hf ⊢
      have e : p ++ (38 :: u ++ escF t) = p ++ 38 :: (u ++ escF t) := by simp
      rw [e] at hf ⊢
      have hi := idx1_app p (u ++ escF t) 38 (fun y hy => (hp y hy).1)
      obtain ⟨g, hg, hr⟩ := rs_upto (v := false) (a := a) (out := out) hi hf
      rw [hr]
      rw [List.drop_left] at hg ⊢
      rw [List.take_left]
      obtain ⟨g2, hg2, hr2⟩ := rs_good (v := false) (a := a + p.length) (out := out ++ pl false p) (h3 (escF t)) hg
      rw [hr2]
      have hd : (38 :: (u ++ escF t)).drop (u.length + 1) = escF t := by rw [List.drop_succ_cons, List.drop_left]
      rw [hd] at hg2 ⊢
      have ih := rs_esc t [] g2 (a + p.length + (u.length + 1)) (out ++ pl false p ++ E (x.toNat : Int)) (fun y hy => by cases hy) (by simpa using hg2)
      rw [List.nil_append, List.append_nil] at ih
      rw [ih, h2]
      show Except.ok (out ++ lns p ++ [x] ++ t) = _
      rw [lns_ix p hp]
      simp
theorem rsT_esc (s : List UInt8) : rsT false (escF s) = .ok s := by
  have := rs_esc s [] ((escF s).length + 1) 0 [] (fun y hy => by cases hy) (by simp)
  simpa [rsT] using this
end Go.Proofs.YtelemkiaepemjaaDoor
