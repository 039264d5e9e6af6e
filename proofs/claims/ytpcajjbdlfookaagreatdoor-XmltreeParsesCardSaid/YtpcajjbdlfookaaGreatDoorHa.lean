/- xmllex: the plain model: line ends, references, text resolved; both ways to look at it. -/
import Derived.Test.YtpcajjbdlfookaaGreatDoorNa
import Derived.Lib.IndexMore
import Derived.Lib.IndexLaws
import Derived.Lib.Replace
namespace Go.Proofs.YtpcajjbdlfookaaGreatDoor
open Go.RowKit
set_option linter.unusedVariables false

/-- A d, with an a behind it or not, is an a. -/
def lns : List UInt8 → List UInt8
  | [] => []
  | c :: r => if c = 13 then (if r.head? = some 10 then lns r else 10 :: lns r) else c :: lns r
/-- Blanks in values. -/
def tr (c : UInt8) : UInt8 := if c = 9 ∨ c = 10 then 32 else c
def pl (v : Bool) (xs : List UInt8) : List UInt8 := if v then (lns xs).map tr else lns xs
/-- The text of crlf made lf. -/
def crlf : List UInt8 → List UInt8
  | [] => []
  | c :: r => if c = 13 ∧ r.head? = some 10 then crlf r else c :: crlf r
def cr (c : UInt8) : UInt8 := if c = 13 then 10 else c

theorem lns_crlf : ∀ xs, lns xs = (crlf xs).map cr
  | [] => rfl
  | c :: r => by
    have ih := lns_crlf r
    rw [lns, crlf]
    by_cases h : c = 13
    · by_cases h2 : r.head? = some 10
      · rw [if_pos h, if_pos h2, if_pos ⟨h, h2⟩, ih]
      · rw [if_pos h, if_neg h2, if_neg (fun q => h2 q.2), List.map_cons, ih, cr, if_pos h]
    · rw [if_neg h, if_neg (fun q => h q.1), List.map_cons, ih, cr, if_neg h]
theorem lns_len : ∀ xs, (lns xs).length ≤ xs.length
  | [] => Nat.le_refl _
  | c :: r => by
    have ih := lns_len r
    rw [lns]
    split
    · split
      · simp; omega
      · simp; omega
    · simp; omega
theorem crlf_len : ∀ xs, (crlf xs).length ≤ xs.length
  | [] => Nat.le_refl _
  | c :: r => by
    have ih := crlf_len r
    rw [crlf]
    split <;> simp <;> omega
/-- Where no d with an a behind it stands. -/
theorem crlf_miss : ∀ xs, Lib.index xs [13, 10] = -1 → crlf xs = xs
  | [], _ => rfl
  | c :: r, h => by
    unfold Lib.index at h
    have hp : ¬ (c = 13 ∧ r.head? = some 10) := by
      rintro ⟨rfl, h2⟩
      obtain ⟨t, rfl⟩ : ∃ t, r = 10 :: t := by cases r with
        | nil => simp at h2
        | cons a t => simp at h2; exact ⟨t, by rw [h2]⟩
      simp [List.isPrefixOf] at h
    rw [crlf, if_neg hp]
    have hr : Lib.index r [13, 10] = -1 := by
      split at h
      · omega
      · split at h
        · rename_i h3; exact beq_iff_eq.1 h3
        · have := Lib.index_ge r [13, 10]; omega
    rw [crlf_miss r hr]
theorem crlf_hit : ∀ (xs : List UInt8) (i : Nat), Lib.index xs [13, 10] = i → crlf xs = xs.take i ++ 10 :: crlf (xs.drop (i + 2))
  | [], i, h => by
    unfold Lib.index at h
    simp at h
  | c :: r, i, h => by
    unfold Lib.index at h
    by_cases hp : ([13, 10] : List UInt8).isPrefixOf (c :: r) = true
    · rw [if_pos hp] at h
      obtain rfl : i = 0 := by omega
      cases r with
      | nil => simp [List.isPrefixOf] at hp
      | cons a t =>
        simp [List.isPrefixOf] at hp
        obtain ⟨rfl, rfl⟩ := hp
        rw [crlf, if_pos (by simp)]
        rw [crlf, if_neg (by simp)]
        rfl
    · rw [if_neg hp] at h
      have hq : ¬ (c = 13 ∧ r.head? = some 10) := by
        rintro ⟨rfl, h2⟩
        obtain ⟨t, rfl⟩ : ∃ t, r = 10 :: t := by cases r with
          | nil => simp at h2
          | cons a t => simp at h2; exact ⟨t, by rw [h2]⟩
        simp [List.isPrefixOf] at hp
      have hg := Lib.index_ge r [13, 10]
      split at h
      · omega
      · rename_i hne
        have hne' := mt beq_iff_eq.2 hne
        obtain ⟨j, rfl⟩ : ∃ j, i = j + 1 := ⟨i - 1, by omega⟩
        rw [crlf, if_neg hq, crlf_hit r j (by omega)]
        rfl
/-- One byte for another. -/
theorem cr_miss : ∀ xs, Lib.index xs [13] = -1 → xs.map cr = xs
  | [], _ => rfl
  | c :: r, h => by
    unfold Lib.index at h
    have hc : c ≠ 13 := by
      rintro rfl
      simp [List.isPrefixOf] at h
    have hr : Lib.index r [13] = -1 := by
      split at h
      · omega
      · split at h
        · rename_i h3; exact beq_iff_eq.1 h3
        · have := Lib.index_ge r [13]; omega
    rw [List.map_cons, cr, if_neg hc, cr_miss r hr]
theorem cr_hit : ∀ (xs : List UInt8) (i : Nat), Lib.index xs [13] = i → xs.map cr = xs.take i ++ 10 :: (xs.drop (i + 1)).map cr
  | [], i, h => by
    unfold Lib.index at h
    simp at h
  | c :: r, i, h => by
    unfold Lib.index at h
    by_cases hp : ([13] : List UInt8).isPrefixOf (c :: r) = true
    · rw [if_pos hp] at h
      obtain rfl : i = 0 := by omega
      simp [List.isPrefixOf] at hp
      subst hp
      rfl
    · rw [if_neg hp] at h
      have hc : c ≠ 13 := by
        rintro rfl
        simp [List.isPrefixOf] at hp
      have hg := Lib.index_ge r [13]
      split at h
      · omega
      · rename_i hne
        have hne' := mt beq_iff_eq.2 hne
        obtain ⟨j, rfl⟩ : ∃ j, i = j + 1 := ⟨i - 1, by omega⟩
        rw [List.map_cons, cr, if_neg hc, cr_hit r j (by omega)]
        rfl

/-- What bytes.Replace writes: so many instances. -/
theorem repl_crlf : ∀ (n : Nat) (xs : List UInt8), Lib.count xs [13, 10] = n → Lib.replaceK [13, 10] [10] n xs = crlf xs
  | 0, xs, h => by
    rw [crlf_miss]
    · rfl
    · rcases Lib.index_spec xs [13, 10] with h1 | ⟨i, h1, _⟩
      · exact h1.1
      · exfalso
        rw [Lib.count_hit (by simp) h1] at h
        omega
  | n + 1, xs, h => by
    rcases Lib.index_spec xs [13, 10] with h1 | ⟨i, h1, _⟩
    · rw [Lib.count_miss h1.1] at h
      omega
    · have hc := Lib.count_hit (by simp) h1
      rw [Lib.replaceK_hit _ _ _ _ i h1, crlf_hit xs i h1, repl_crlf n _ (by have e : ([13, 10] : List UInt8).length = 2 := rfl; omega)]
      simp
theorem repl_cr : ∀ (n : Nat) (xs : List UInt8), Lib.count xs [13] = n → Lib.replaceK [13] [10] n xs = xs.map cr
  | 0, xs, h => by
    rw [cr_miss]
    · rfl
    · rcases Lib.index_spec xs [13] with h1 | ⟨i, h1, _⟩
      · exact h1.1
      · exfalso
        rw [Lib.count_hit (by simp) h1] at h
        omega
  | n + 1, xs, h => by
    rcases Lib.index_spec xs [13] with h1 | ⟨i, h1, _⟩
    · rw [Lib.count_miss h1.1] at h
      omega
    · have hc := Lib.count_hit (by simp) h1
      rw [Lib.replaceK_hit _ _ _ _ i h1, cr_hit xs i h1, repl_cr n _ (by have e : ([13] : List UInt8).length = 1 := rfl; omega)]
      simp

/-- A digit's value in a base. -/
def dgt (base : Nat) (c : UInt8) : Option Nat :=
  let n := if 48 ≤ c.toNat ∧ c.toNat ≤ 57 then c.toNat - 48 else if 97 ≤ c.toNat ∧ c.toNat ≤ 102 then c.toNat - 87 else if 65 ≤ c.toNat ∧ c.toNat ≤ 70 then c.toNat - 55 else 99
  if n < base then some n else none
/-- The number of digits, at most so great. -/
def numB (base top : Nat) : Nat → List UInt8 → Option Nat
  | n, [] => some n
  | n, c :: r => match dgt base c with
    | none => none
    | some k => if top < n * base + k then none else numB base top (n * base + k) r
/-- The character that is named by number: its number. -/
def chNum (base : Nat) (r : List UInt8) : Option Nat :=
  if r = [] then none else match numB base 4294967295 0 r with
    | none => none
    | some n => if xmlB n then some n else none
/-- The character of a reference's body. -/
def refB (s : List UInt8) : Option Nat :=
  if s = [108, 116] then some 60 else if s = [103, 116] then some 62 else if s = [97, 109, 112] then some 38 else if s = [97, 112, 111, 115] then some 39 else if s = [113, 117, 111, 116] then some 34
  else if Lib.hasPrefix s [35, 120] then chNum 16 (s.drop 2) else if Lib.hasPrefix s [35] then chNum 10 (s.drop 1) else none
/-- The reference at a beginning: its character, and how many bytes it has. -/
def refA (r : List UInt8) : Option (Nat × Nat) :=
  if Lib.index r [59] < 0 then none else (refB ((r.drop 1).take ((Lib.index r [59]).toNat - 1))).map fun c => (c, (Lib.index r [59]).toNat + 1)
/-- How far it is to the next reference. -/
def upto (r : List UInt8) : Nat := if Lib.index r [38] < 0 then r.length else (Lib.index r [38]).toNat
/-- Text with its references resolved, from so far on; else where the wrong one stands. -/
def rsF : Nat → Bool → List UInt8 → Nat → List UInt8 → Except Nat (List UInt8)
  | 0, _, _, _, out => .ok out
  | f + 1, v, r, a, out => if r = [] then .ok out else if r.head? = some 38 then (match refA r with
      | none => .error a
      | some (c, n) => rsF f v (r.drop n) (a + n) (out ++ E c))
    else rsF f v (r.drop (upto r)) (a + upto r) (out ++ pl v (r.take (upto r)))
end Go.Proofs.YtpcajjbdlfookaaGreatDoor
