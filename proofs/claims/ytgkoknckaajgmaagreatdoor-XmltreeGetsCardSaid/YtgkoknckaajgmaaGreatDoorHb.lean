/- xmllex: the plain model of the scanner: the program's way, and the reference's. -/
import Derived.Test.YtgkoknckaajgmaaGreatDoorHa
namespace Go.Proofs.YtgkoknckaajgmaaGreatDoor
open Go.RowKit
set_option linter.unusedVariables false

/-- How many blanks there are at a beginning. -/
def blN : List UInt8 → Nat
  | [] => 0
  | c :: r => if spaceB (c.toNat : Int) then blN r + 1 else 0
/-- The name of a tag or an attribute, by the program. -/
def tagP (r : List UInt8) : Option Nat :=
  if nameAt r = 0 then none else if Lib.hasPrefix (r.drop (nameAt r)) [58] then (if nameAt (r.drop (nameAt r + 1)) = 0 then none else some (nameAt r + 1 + nameAt (r.drop (nameAt r + 1)))) else some (nameAt r)
/-- By the reference. -/
def tagR (r : List UInt8) : Nat :=
  if nameAt r = 0 ∨ Lib.hasPrefix (r.drop (nameAt r)) [58] = false then nameAt r else if nameAt (r.drop (nameAt r + 1)) = 0 then nameAt r else nameAt r + 1 + nameAt (r.drop (nameAt r + 1))
/-- An instruction behind its mark, by the program. -/
def insP (t : List UInt8) : Option Nat :=
  if nameAt t = 0 then none else if Lib.hasPrefix (t.drop (nameAt t)) [63, 62] then some (nameAt t + 2) else
    if blN (t.drop (nameAt t)) = 0 then none else if Lib.index (t.drop (nameAt t + blN (t.drop (nameAt t)))) [63, 62] < 0 then none
    else some (nameAt t + blN (t.drop (nameAt t)) + (Lib.index (t.drop (nameAt t + blN (t.drop (nameAt t)))) [63, 62]).toNat + 2)
def insR (t : List UInt8) : Option Nat :=
  if nameAt t = 0 ∨ (Lib.hasPrefix (t.drop (nameAt t)) [63, 62] = false ∧ blN (t.drop (nameAt t)) = 0) then none else
    if Lib.index (t.drop (nameAt t)) [63, 62] < 0 then none else some ((Lib.index (t.drop (nameAt t)) [63, 62]).toNat + nameAt t + 2)
/-- A comment behind its mark. -/
def comP (t : List UInt8) : Option Nat :=
  if Lib.index t [45, 45] < 0 then none else if Lib.hasPrefix (t.drop ((Lib.index t [45, 45]).toNat + 2)) [62] then some ((Lib.index t [45, 45]).toNat + 3) else none
/-- Behind comments and instructions: where, and whether all went well. -/
def skpF (ins : List UInt8 → Option Nat) : Nat → List UInt8 → Nat → Nat × Bool
  | 0, _, a => (a, true)
  | f + 1, r, a => if Lib.hasPrefix r [60, 33, 45, 45] then (match comP (r.drop 4) with
      | none => (a, false)
      | some n => skpF ins f (r.drop (4 + n)) (a + 4 + n))
    else if Lib.hasPrefix r [60, 63] then (match ins (r.drop 2) with
      | none => (a, false)
      | some n => skpF ins f (r.drop (2 + n)) (a + 2 + n))
    else (a, true)

structure Tk where
  kind : Nat
  name : List UInt8
  attrs : List (List UInt8 × List UInt8)
  empty : Bool
  text : List UInt8
def noT : Tk := ⟨0, [], [], false, []⟩

/-- Text with its references resolved, or nothing. -/
def rsT (v : Bool) (xs : List UInt8) : Except Nat (List UInt8) := rsF (xs.length + 1) v xs 0 []
/-- A value behind its quote q, by the program. -/
def valQ (q : UInt8) (t : List UInt8) : Except Nat (List UInt8 × Nat) :=
  if Lib.index t [q] < 0 then .error 11 else if 0 ≤ Lib.index (t.take (Lib.index t [q]).toNat) [60] then .error 11 else
    match rsT false (pl true (t.take (Lib.index t [q]).toNat)) with
    | .error _ => .error 13
    | .ok s => .ok (s, (Lib.index t [q]).toNat + 2)
def valP (r : List UInt8) : Except Nat (List UInt8 × Nat) :=
  if Lib.hasPrefix r [39] then valQ 39 (r.drop 1) else if Lib.hasPrefix r [34] then valQ 34 (r.drop 1) else .error 11
def attrP (r : List UInt8) : Except Nat ((List UInt8 × List UInt8) × Nat) :=
  match tagP r with
  | none => .error 11
  | some n => if Lib.hasPrefix (r.drop (n + blN (r.drop n))) [61] then
      (match valP (r.drop (n + blN (r.drop n) + 1 + blN (r.drop (n + blN (r.drop n) + 1)))) with
      | .error e => .error e
      | .ok (s, m) => .ok ((r.take n, s), n + blN (r.drop n) + 1 + blN (r.drop (n + blN (r.drop n) + 1)) + m))
    else .error 11
/-- By the reference. -/
def valR (q : UInt8) (t : List UInt8) : Except Nat (List UInt8 × Nat) :=
  if Lib.index t [q] < 0 ∨ (0 ≤ Lib.index t [60] ∧ Lib.index t [60] < Lib.index t [q]) then .error 11 else
    match rsT true (t.take (Lib.index t [q]).toNat) with
    | .error _ => .error 13
    | .ok s => .ok (s, (Lib.index t [q]).toNat + 2)
def attrR (r : List UInt8) : Except Nat ((List UInt8 × List UInt8) × Nat) :=
  if tagR r = 0 ∨ Lib.hasPrefix (r.drop (tagR r + blN (r.drop (tagR r)))) [61] = false then .error 11 else
    let at2 := tagR r + blN (r.drop (tagR r)) + 1 + blN (r.drop (tagR r + blN (r.drop (tagR r)) + 1))
    if Lib.hasPrefix (r.drop at2) [39] = false ∧ Lib.hasPrefix (r.drop at2) [34] = false then .error 11 else
      match valR ((r.drop at2).headD 0) (r.drop (at2 + 1)) with
      | .error e => .error e
      | .ok (s, m) => .ok ((r.take (tagR r), s), at2 + m)
/-- The attributes of a tag, and its end: how many bytes in all. -/
def opnF (att : List UInt8 → Except Nat ((List UInt8 × List UInt8) × Nat)) : Nat → List UInt8 → Nat → List (List UInt8 × List UInt8) → Except Nat ((List (List UInt8 × List UInt8) × Bool) × Nat)
  | 0, _, a, l => .error 11
  | f + 1, r, a, l => if Lib.hasPrefix (r.drop (blN r)) [62] then .ok ((l, false), a + blN r + 1) else if Lib.hasPrefix (r.drop (blN r)) [47, 62] then .ok ((l, true), a + blN r + 2) else
    if blN r = 0 then .error 11 else match att (r.drop (blN r)) with
      | .error e => .error e
      | .ok (x, m) => opnF att f (r.drop (blN r + m)) (a + blN r + m) (l ++ [x])
/-- What stands behind '<'. -/
def opnP (t : List UInt8) : Except Nat (Tk × Nat) :=
  match tagP t with
  | none => .error 11
  | some n => match opnF attrP (t.length + 1) (t.drop n) n [] with
    | .error e => .error e
    | .ok ((l, b), m) => .ok (⟨1, t.take n, l, b, []⟩, m)
def opnR (t : List UInt8) : Except Nat (Tk × Nat) :=
  if tagR t = 0 then .error 11 else match opnF attrR (t.length + 1) (t.drop (tagR t)) (tagR t) [] with
    | .error e => .error e
    | .ok ((l, b), m) => .ok (⟨1, t.take (tagR t), l, b, []⟩, m)
/-- What stands behind '</'. -/
def cloP (t : List UInt8) : Except Nat (Tk × Nat) :=
  match tagP t with
  | none => .error 11
  | some n => if Lib.hasPrefix (t.drop (n + blN (t.drop n))) [62] then .ok (⟨2, t.take n, [], false, []⟩, n + blN (t.drop n) + 1) else .error 11
def cloR (t : List UInt8) : Except Nat (Tk × Nat) :=
  if tagR t = 0 ∨ Lib.hasPrefix (t.drop (tagR t + blN (t.drop (tagR t)))) [62] = false then .error 11 else .ok (⟨2, t.take (tagR t), [], false, []⟩, tagR t + blN (t.drop (tagR t)) + 1)
/-- Character data. -/
def datP (r : List UInt8) : Except Nat (Tk × Nat) :=
  let n := if Lib.index r [60] < 0 then r.length else (Lib.index r [60]).toNat
  if 0 ≤ Lib.index (r.take n) [93, 93, 62] then .error 11 else match rsT false (r.take n) with
    | .error _ => .error 13
    | .ok s => .ok (⟨3, [], [], false, s⟩, n)
/-- The token at a beginning that is not the end. -/
def tokG (opn clo : List UInt8 → Except Nat (Tk × Nat)) (r : List UInt8) : Except Nat (Tk × Nat) :=
  let up (n : Nat) (x : Except Nat (Tk × Nat)) : Except Nat (Tk × Nat) := match x with
    | .error e => .error e
    | .ok (t, m) => .ok (t, n + m)
  if Lib.hasPrefix r [60, 33, 91, 67, 68, 65, 84, 65, 91] then (if Lib.index (r.drop 9) [93, 93, 62] < 0 then .error 11 else .ok (⟨3, [], [], false, lns ((r.drop 9).take (Lib.index (r.drop 9) [93, 93, 62]).toNat)⟩, (Lib.index (r.drop 9) [93, 93, 62]).toNat + 12))
  else if Lib.hasPrefix r [60, 33, 68, 79, 67, 84, 89, 80, 69] then .error 12
  else if Lib.hasPrefix r [60, 47] then up 2 (clo (r.drop 2))
  else if Lib.hasPrefix r [60] then up 1 (opn (r.drop 1))
  else datP r
/-- The token at an offset: the token, the offset, the error. -/
def nxt (ins : List UInt8 → Option Nat) (opn clo : List UInt8 → Except Nat (Tk × Nat)) (xs : List UInt8) (at_ : Int) : Tk × Nat × Nat :=
  if at_ < 0 ∨ (xs.length : Int) < at_ then (noT, 0, 1) else
    match skpF ins (xs.length + 1) (xs.drop at_.toNat) at_.toNat with
    | (a, false) => (noT, a, 11)
    | (a, true) => if xs.drop a = [] then (⟨0, [], [], false, []⟩, a, 0) else
      match tokG opn clo (xs.drop a) with
      | .error e => (noT, a, e)
      | .ok (t, n) => (t, a + n, 0)
end Go.Proofs.YtgkoknckaajgmaaGreatDoor
