/- The plain side of lexer: words. -/
import Derived.Test.YthkkoippagocpaaGreatDoorCc
import Derived.Test.YthkkoippagocpaaGreatDoorNo
namespace Go.Proofs.YthkkoippagocpaaGreatDoor
set_option linter.unusedVariables false

/-- A word: kind, text, number. -/
structure Wd where
  k : Int
  t : List UInt8
  n : Int
def noW : Wd := ⟨0, [], 0⟩
def letB (c : UInt8) : Bool := (decide (65 ≤ c.toNat) && decide (c.toNat ≤ 90)) || ((decide (97 ≤ c.toNat) && decide (c.toNat ≤ 122)) || decide (c.toNat = 95))
def nameB (c : UInt8) : Bool := letB c || isDig c
def blB (c : UInt8) : Bool := spaceB (c.toNat : Int)
/-- How many bytes at the start are of a class. -/
def runN (p : UInt8 → Bool) : List UInt8 → Nat
  | [] => 0
  | c :: r => if p c = true then runN p r + 1 else 0
def oneB (c : UInt8) : Bool := decide (c.toNat ∈ [40, 41, 46, 44, 43, 45, 42, 47, 37, 61])
def eqB : List UInt8 → Bool
  | c :: _ => decide (c.toNat = 61)
  | [] => false
/-- The length of the sign at the start. -/
def signN : List UInt8 → Nat
  | [] => 0
  | c :: r => if c.toNat = 33 then (if eqB r = true then 2 else 0)
    else if c.toNat = 60 ∨ c.toNat = 62 then (if eqB r = true then 2 else 1)
    else if oneB c = true then 1 else 0
/-- What stands up to the closing quote, and how many bytes with it. -/
def litU : Bool → List UInt8 → Option (List UInt8 × Nat)
  | _, [] => none
  | false, c :: r =>
    if c.toNat = 34 then some ([], 1)
    else if c.toNat = 92 then (litU true r).map fun p => (p.1, p.2 + 1)
    else (litU false r).map fun p => (c :: p.1, p.2 + 1)
  | true, c :: r => if c.toNat = 34 ∨ c.toNat = 92 then (litU false r).map fun p => (c :: p.1, p.2 + 1) else none
/-- A text literal behind its opening quote. -/
def litF (r : List UInt8) : Wd × Nat :=
  match litU false r with
  | some (t, n) => if t.length ≤ 256 ∧ wrong (t.length + 1) t 0 < 0 then (⟨3, t, 0⟩, n + 1) else (noW, 0)
  | none => (noW, 0)
/-- The word at the start, and its length; 0: there is none. -/
def wordF : List UInt8 → Wd × Nat
  | [] => (noW, 0)
  | c :: r =>
    if letB c = true then (⟨1, (c :: r).take (runN nameB (c :: r)), 0⟩, runN nameB (c :: r))
    else if isDig c = true then (if (num ((c :: r).take (runN isDig (c :: r)))).2 = 0 then (⟨2, [], (num ((c :: r).take (runN isDig (c :: r)))).1⟩, runN isDig (c :: r)) else (noW, 0))
    else if c.toNat = 34 then litF r
    else if signN (c :: r) = 0 then (noW, 0) else (⟨4, (c :: r).take (signN (c :: r)), 0⟩, signN (c :: r))
/-- All words from an offset on, by fuel. -/
def wordsF : Nat → List UInt8 → Nat → List Wd → List Wd × Nat × Int
  | 0, _, _, _ => ([], 0, 0)
  | f + 1, l, k, acc =>
    if l.length ≤ k + runN blB (l.drop k) then (acc ++ [noW], 0, 0)
    else if (wordF (l.drop (k + runN blB (l.drop k)))).2 = 0 then ([], k + runN blB (l.drop k), 20)
    else wordsF f l (k + runN blB (l.drop k) + (wordF (l.drop (k + runN blB (l.drop k)))).2) (acc ++ [(wordF (l.drop (k + runN blB (l.drop k)))).1])
def wordsOf (l : List UInt8) : List Wd × Nat × Int := if 400 < l.length then ([], 0, 4) else wordsF (l.length + 1) l 0 []

theorem runN_le (p : UInt8 → Bool) (l : List UInt8) : runN p l ≤ l.length := by
  induction l with
  | nil => simp [runN]
  | cons c r ih => unfold runN; split <;> simp <;> omega
theorem eqB_len {r : List UInt8} (h : eqB r = true) : 1 ≤ r.length := by
  cases r with
  | nil => simp [eqB] at h
  | cons d t => simp
theorem signN_le (l : List UInt8) : signN l ≤ l.length := by
  cases l with
  | nil => simp [signN]
  | cons c r =>
    unfold signN
    by_cases he : eqB r = true
    · have := eqB_len he
      simp only [he, if_true, List.length_cons]
      repeat' split
      all_goals omega
    · rw [Bool.not_eq_true] at he
      simp only [he, Bool.false_eq_true, if_false, List.length_cons]
      repeat' split
      all_goals omega
theorem litU_le (l : List UInt8) : ∀ (q : Bool) (t : List UInt8) (n : Nat), litU q l = some (t, n) → n ≤ l.length ∧ t.length ≤ n := by
  induction l with
  | nil => intro q t n h; cases q <;> simp [litU] at h
  | cons c r ih =>
    intro q t n h
    cases q with
    | false =>
      unfold litU at h
      by_cases h1 : c.toNat = 34
      · rw [if_pos h1] at h
        simp only [Option.some.injEq, Prod.mk.injEq] at h
        obtain ⟨rfl, rfl⟩ := h
        simp
      · rw [if_neg h1] at h
        by_cases h2 : c.toNat = 92
        · rw [if_pos h2] at h
          simp only [Option.map_eq_some_iff, Prod.mk.injEq, Prod.exists] at h
          obtain ⟨t', n', h3, rfl, rfl⟩ := h
          have := ih _ _ _ h3
          simp only [List.length_cons]
          omega
        · rw [if_neg h2] at h
          simp only [Option.map_eq_some_iff, Prod.mk.injEq, Prod.exists] at h
          obtain ⟨t', n', h3, rfl, rfl⟩ := h
          have := ih _ _ _ h3
          simp only [List.length_cons]
          omega
    | true =>
      unfold litU at h
      by_cases h1 : c.toNat = 34 ∨ c.toNat = 92
      · rw [if_pos h1] at h
        simp only [Option.map_eq_some_iff, Prod.mk.injEq, Prod.exists] at h
        obtain ⟨t', n', h3, rfl, rfl⟩ := h
        have := ih _ _ _ h3
        simp only [List.length_cons]
        omega
      · rw [if_neg h1] at h
        cases h
theorem wordF_le (l : List UInt8) : (wordF l).2 ≤ l.length := by
  cases l with
  | nil => simp [wordF]
  | cons c r =>
    have h1 := runN_le nameB (c :: r)
    have h2 := runN_le isDig (c :: r)
    have h3 := signN_le (c :: r)
    simp only [wordF]
    split
    · exact h1
    · split
      · split
        · exact h2
        · simp
      · split
        · unfold litF
          split
          · next t n h =>
            have := litU_le _ _ _ _ h
            split
            · simp only [List.length_cons]; omega
            · simp
          · simp
        · split
          · simp
          · exact h3
end Go.Proofs.YthkkoippagocpaaGreatDoor
