/- xmllex: numbered, reference. -/
import Derived.Test.YtpcajjbdlfookaaGreatDoorMw08
import Derived.Test.YtpcajjbdlfookaaGreatDoorMw09
import Derived.Test.YtpcajjbdlfookaaGreatDoorMw07
namespace Go.Proofs.YtpcajjbdlfookaaGreatDoor
open Go.RowKit
set_option linter.unusedVariables false

/-- A character's bytes, with anything behind, begin with it. -/
theorem D_E (r : Int) (h : E r ≠ []) (rest : List UInt8) : D (E r ++ rest) = (r.toNat, (E r).length) ∧ 0 ≤ r ∧ r ≤ 1114111 := by
  by_cases hb : r < 0 ∨ 1114111 < r ∨ (55296 ≤ r ∧ r ≤ 57343)
  · exact absurd (by unfold E; rw [if_pos hb]) h
  · have h0 : 0 ≤ r := by omega
    refine ⟨?_, h0, by omega⟩
    have hu : ∀ z : Int, 0 ≤ z → z < 256 → (u8 z).toNat = z.toNat := fun z a b => by have := u8_toNat z a b; omega
    by_cases a : r < 128
    · have e : E r = [u8 r] := by unfold E; rw [if_neg hb, if_pos a]
      rw [e]
      have e0 : at8 ([u8 r] ++ rest) 0 = r.toNat := hu r h0 (by omega)
      rw [D_one _ (by simp) (by rw [e0]; omega), e0]
      rfl
    · by_cases b : r < 2048
      · have e : E r = [u8 (192 + r / 64), u8 (128 + r % 64)] := by unfold E; rw [if_neg hb, if_neg a, if_pos b]
        rw [e]
        have e0 : at8 ([u8 (192 + r / 64), u8 (128 + r % 64)] ++ rest) 0 = (192 + r / 64).toNat := hu _ (by omega) (by omega)
        have e1 : at8 ([u8 (192 + r / 64), u8 (128 + r % 64)] ++ rest) 1 = (128 + r % 64).toNat := hu _ (by omega) (by omega)
        rw [D_two _ (by simp) (by rw [e0]; omega) (by rw [e0]; omega) (by rw [e1]; omega) (by rw [e1]; omega), e0, e1, if_pos (by omega)]
        simp
        omega
      · by_cases c : r < 65536
        · have e : E r = [u8 (224 + r / 4096), u8 (128 + r / 64 % 64), u8 (128 + r % 64)] := by unfold E; rw [if_neg hb, if_neg a, if_neg b, if_pos c]
          rw [e]
          have e0 : at8 ([u8 (224 + r / 4096), u8 (128 + r / 64 % 64), u8 (128 + r % 64)] ++ rest) 0 = (224 + r / 4096).toNat := hu _ (by omega) (by omega)
          have e1 : at8 ([u8 (224 + r / 4096), u8 (128 + r / 64 % 64), u8 (128 + r % 64)] ++ rest) 1 = (128 + r / 64 % 64).toNat := hu _ (by omega) (by omega)
          have e2 : at8 ([u8 (224 + r / 4096), u8 (128 + r / 64 % 64), u8 (128 + r % 64)] ++ rest) 2 = (128 + r % 64).toNat := hu _ (by omega) (by omega)
          rw [D_three _ (by simp) (by rw [e0]; omega) (by rw [e0]; omega) (by rw [e1]; omega) (by rw [e1]; omega) (by rw [e2]; omega) (by rw [e2]; omega) r.toNat (by rw [e0, e1, e2]; omega), if_pos (by omega)]
          rfl
        · have e : E r = [u8 (240 + r / 262144), u8 (128 + r / 4096 % 64), u8 (128 + r / 64 % 64), u8 (128 + r % 64)] := by unfold E; rw [if_neg hb, if_neg a, if_neg b, if_neg c]
          rw [e]
          have e0 : at8 ([u8 (240 + r / 262144), u8 (128 + r / 4096 % 64), u8 (128 + r / 64 % 64), u8 (128 + r % 64)] ++ rest) 0 = (240 + r / 262144).toNat := hu _ (by omega) (by omega)
          have e1 : at8 ([u8 (240 + r / 262144), u8 (128 + r / 4096 % 64), u8 (128 + r / 64 % 64), u8 (128 + r % 64)] ++ rest) 1 = (128 + r / 4096 % 64).toNat := hu _ (by omega) (by omega)
          have e2 : at8 ([u8 (240 + r / 262144), u8 (128 + r / 4096 % 64), u8 (128 + r / 64 % 64), u8 (128 + r % 64)] ++ rest) 2 = (128 + r / 64 % 64).toNat := hu _ (by omega) (by omega)
          have e3 : at8 ([u8 (240 + r / 262144), u8 (128 + r / 4096 % 64), u8 (128 + r / 64 % 64), u8 (128 + r % 64)] ++ rest) 3 = (128 + r % 64).toNat := hu _ (by omega) (by omega)
          rw [D_four _ (by simp) (by rw [e0]; omega) (by rw [e1]; omega) (by rw [e1]; omega) (by rw [e2]; omega) (by rw [e2]; omega) (by rw [e3]; omega) (by rw [e3]; omega) r.toNat (by rw [e0, e1, e2, e3]; omega), if_pos (by omega)]
          rfl

/-- Some value of an error lies there. -/
def ErrAt (w : World) (g : Nat) : Prop := ∃ ev, w.cell? ⟨g, 0, none⟩ = some ev ∧ (ev = .nilIface ∨ ∃ te pe, ev = .iface te pe)
theorem ErrAt.below {w w' : World} {g : Nat} (h : ErrAt w g) (hb : Below w.heap.size w w') : ErrAt w' g := by
  obtain ⟨ev, h1, h2⟩ := h
  exact ⟨ev, by rw [hb.cell (World.block_lt_of_cell? w _ h1)]; exact h1, h2⟩
/-- What the scanner needs of the world. -/
structure BW (w : World) : Prop where
  tab : Tabs w
  mx : MX w
  es : ErrAt w 3
  er : ErrAt w 4
theorem BW.below {w w' : World} (h : BW w) (hb : Below w.heap.size w w') : BW w' := ⟨h.tab.below hb, h.mx.below hb, h.es.below hb, h.er.below hb⟩

def PUpub (R : Option Nat) (e : Ending) : Prop := match R with
  | some n => e = .returned (.tuple #[.int .u64 (n : Nat), .nilIface])
  | none => ∃ (m : Int) (N : Nat), e = .returned (.tuple #[.int .u64 m, .iface 200 (.pointer (some ⟨N, 0, none⟩))])
set_option maxRecDepth 100000 in
theorem parseUint_c (w : World) (hw : BW w) (B : Nat) (hB : B = 10 ∨ B = 16) (t : ByteArray) (hmax : t.size ≤ 16777216) :
    Calls Tryz.prog 161 #[.string t, .int .i64 (B : Nat), .int .i64 32] w fun e w' => PUpub (puN B t.data.toList) e ∧ Below w.heap.size w w' := by
  have HC := Lib.hid (puint_c w B hB t (by omega))
  have HW := Lib.hid hw
  cases hR : puN B t.data.toList with
  | some n =>
    rw [hR] at HC
    have HC2 := Lib.hid (show Calls Tryz.prog 163 #[.string t, .int .i64 (B : Nat), .int .i64 32] w fun e w' => e = .returned (.tuple #[.int .u64 (n : Nat), .nilIface]) ∧ Below w.heap.size w w' from HC.out)
    clear hR hw HC
    go_enter Tryz.func161, Tryz.ntmps161
    go_wp2_with (go_at_call 163; refine (HC2.out).mono ?_; rintro e w1 ⟨rfl, hb⟩; have HB := Lib.hid hb; clear hb)
    go_ret2
    exact ⟨rfl, HB.out⟩
  | none =>
    rw [hR] at HC
    have HC2 := Lib.hid (show Calls Tryz.prog 163 #[.string t, .int .i64 (B : Nat), .int .i64 32] w fun e w' => (∃ (m : Int) (k : Int), (k = 1 ∨ k = 2) ∧ e = .returned (.tuple #[.int .u64 m, .iface 198 (.int .i64 k)])) ∧ Below w.heap.size w w' from HC.out)
    have hs : t.size ≤ 281474976710656 := by omega
    clear hR hw HC
    go_enter Tryz.func161, Tryz.ntmps161
    go_wp2_with fail
    refine HC2.out.mono ?_
    rintro e w1 ⟨⟨m, k, hk, rfl⟩, hb⟩
    have HB := Lib.hid hb
    obtain ⟨e1, v1, q1⟩ := (HW.out.below hb).es
    obtain ⟨e2, v2, q2⟩ := (HW.out.below hb).er
    have HS := Lib.hid (fun fn => Tryz.strconv_toError_syntax fn t B 32 e1 w1 hs v1 q1)
    have HRr := Lib.hid (fun fn => Tryz.strconv_toError_range fn t B 32 e2 w1 hs v2 q2)
    clear hb v1 q1 v2 q2
    rcases hk with rfl | rfl
    · go_wp2_with (go_at_call 164; refine (HRr.out _).mono ?_; rintro e w2 ⟨N, rfl, _, _, hb⟩; have HB2 := Lib.hid (HB.out.trans (hb.mono HB.out.size)); clear hb)
      go_ret2
      exact ⟨⟨m, N, rfl⟩, HB2.out⟩
    · go_wp2_with (go_at_call 164; refine (HS.out _).mono ?_; rintro e w2 ⟨N, rfl, _, _, hb⟩; have HB2 := Lib.hid (HB.out.trans (hb.mono HB.out.size)); clear hb)
      go_ret2
      exact ⟨⟨m, N, rfl⟩, HB2.out⟩

theorem numB_le (B top : Nat) : ∀ (r : List UInt8) (n k : Nat), n ≤ top → numB B top n r = some k → k ≤ top
  | [], n, k, h, e => by simp [numB] at e; omega
  | c :: r, n, k, h, e => by
    rw [numB] at e
    cases hd : dgt B c with
    | none => rw [hd] at e; simp at e
    | some d =>
      rw [hd] at e
      dsimp only at e
      split at e
      · simp at e
      · exact numB_le B top r _ k (by omega) e
theorem puN_le {B : Nat} {r : List UInt8} {k : Nat} (e : puN B r = some k) : k ≤ 4294967295 := by
  unfold puN at e
  split at e
  · simp at e
  · exact numB_le B _ r 0 k (by omega) e
/-- The number that a body names, whatever the character. -/
def numV (l : List UInt8) : Option Nat := if Lib.hasPrefix l [35] then (if Lib.hasPrefix (l.drop 1) [120] then puN 16 (l.drop 2) else puN 10 (l.drop 1)) else none
def numE (l : List UInt8) : List UInt8 := match numV l with
  | none => []
  | some n => E n
theorem strOf (l : List UInt8) : (⟨l.toArray⟩ : ByteArray).data.toList = l := rfl
def NumAft (w : World) (l : List UInt8) (e : Ending) (w' : World) : Prop := ∃ v', e = .returned v' ∧ Rd w' v' l ∧ Below w.heap.size w w'
set_option maxRecDepth 100000 in
set_option maxHeartbeats 2000000 in
theorem numbered_c (w : World) (hw : BW w) (l : List UInt8) (hl : l.length ≤ 16777216) : Calls Tryz.prog 157 #[.string ⟨l.toArray⟩] w (NumAft w (numE l)) := by
  have HW := Lib.hid hw
  have HP1 := Lib.hid (fun w => Tryz.strings_CutPrefix ⟨l.toArray⟩ ⟨#[35]⟩ w)
  have e35 : (⟨#[35]⟩ : ByteArray).data.toList = [35] := rfl
  have e120 : (⟨#[120]⟩ : ByteArray).data.toList = [120] := rfl
  rw [strOf, e35] at HP1
  unfold numE numV
  by_cases h1 : Lib.hasPrefix l [35] = true
  · rw [if_pos h1]
    rw [show Lib.trimPrefix l [35] = l.drop 1 from by unfold Lib.trimPrefix; rw [if_pos h1]; rfl, h1] at HP1
    obtain ⟨d, hd⟩ : ∃ d, d = l.drop 1 := ⟨_, rfl⟩
    have hdl : d.length ≤ 16777216 := by rw [hd, List.length_drop]; omega
    rw [← hd] at HP1 ⊢
    have hd2 : l.drop 2 = d.drop 1 := by rw [hd, List.drop_drop]
    rw [hd2]
    have HP2 := Lib.hid (fun w => Tryz.strings_CutPrefix ⟨d.toArray⟩ ⟨#[120]⟩ w)
    rw [strOf, e120] at HP2
    by_cases h2 : Lib.hasPrefix d [120] = true
    · rw [if_pos h2]
      rw [show Lib.trimPrefix d [120] = d.drop 1 from by unfold Lib.trimPrefix; rw [if_pos h2]; rfl, h2] at HP2
      have hdl2 : (d.drop 1).length ≤ 16777216 := by rw [List.length_drop]; omega
      have HC := parseUint_c w hw 16 (.inr rfl) ⟨(d.drop 1).toArray⟩ (by show (d.drop 1).toArray.size ≤ _; simp; omega)
      rw [strOf] at HC
      obtain ⟨s2, hs2⟩ : ∃ s2, s2 = (⟨(d.drop 1).toArray⟩ : ByteArray) := ⟨_, rfl⟩
      rw [← hs2] at HC HP2
      clear hs2
      obtain ⟨R, hR⟩ : ∃ R, R = puN 16 (d.drop 1) := ⟨_, rfl⟩
      have hle := fun k (e : R = some k) => puN_le (hR ▸ e)
      rw [← hR] at HC ⊢
      clear hd hd2 hdl hdl2 h1 h2 hl hw hR e35 e120
      cases R with
      | none =>
        have HC2 := Lib.hid HC
        clear HC hle
        go_enter Tryz.func157, Tryz.ntmps157
        go_wp2_with fail
        refine (HP1.out _).mono ?_
        rintro e w1 ⟨rfl, rfl⟩
        go_wp2_with fail
        refine (HP2.out _).mono ?_
        rintro e w1 ⟨rfl, rfl⟩
        go_wp2_with fail
        refine HC2.out.mono ?_
        rintro e w2 ⟨⟨m, N, rfl⟩, hb⟩
        have HB := Lib.hid hb
        clear hb
        go_wp2_with fail
        go_ret
        exact ⟨_, rfl, Rd.nil _, HB.out⟩
      | some n =>
        have hn := hle n rfl
        have HC2 := Lib.hid HC
        have HE := Lib.hid (fun w => encode_c w (n : Int) (by omega) (by omega))
        clear HC hle
        go_enter Tryz.func157, Tryz.ntmps157
        go_wp2_with fail
        refine (HP1.out _).mono ?_
        rintro e w1 ⟨rfl, rfl⟩
        go_wp2_with fail
        refine (HP2.out _).mono ?_
        rintro e w1 ⟨rfl, rfl⟩
        go_wp2_with fail
        refine HC2.out.mono ?_
        rintro e w2 ⟨rfl, hb⟩
        have HB := Lib.hid hb
        clear hb
        go_wp2_with fail
        refine (HE.out _).mono ?_
        rintro e w3 ⟨v, rfl, hr, hb⟩
        have HF := Lib.hid (And.intro hr (HB.out.trans (hb.mono HB.out.size)))
        clear hr hb
        go_wp2_with fail
        go_ret
        exact ⟨_, rfl, HF.out.1, HF.out.2⟩
    · rw [if_neg h2]
      rw [show Lib.trimPrefix d [120] = d from by unfold Lib.trimPrefix; rw [if_neg h2], Bool.eq_false_iff.2 h2] at HP2
      have HC := parseUint_c w hw 10 (.inl rfl) ⟨d.toArray⟩ (by show d.toArray.size ≤ _; simp; omega)
      rw [strOf] at HC
      obtain ⟨R, hR⟩ : ∃ R, R = puN 10 d := ⟨_, rfl⟩
      have hle := fun k (e : R = some k) => puN_le (hR ▸ e)
      rw [← hR] at HC ⊢
      clear hd hd2 hdl h1 h2 hl hw hR e35 e120
      cases R with
      | none =>
        have HC2 := Lib.hid HC
        clear HC hle
        go_enter Tryz.func157, Tryz.ntmps157
        go_wp2_with fail
        refine (HP1.out _).mono ?_
        rintro e w1 ⟨rfl, rfl⟩
        go_wp2_with fail
        refine (HP2.out _).mono ?_
        rintro e w1 ⟨rfl, rfl⟩
        go_wp2_with fail
        refine HC2.out.mono ?_
        rintro e w2 ⟨⟨m, N, rfl⟩, hb⟩
        have HB := Lib.hid hb
        clear hb
        go_wp2_with fail
        go_ret
        exact ⟨_, rfl, Rd.nil _, HB.out⟩
      | some n =>
        have hn := hle n rfl
        have HC2 := Lib.hid HC
        have HE := Lib.hid (fun w => encode_c w (n : Int) (by omega) (by omega))
        clear HC hle
        go_enter Tryz.func157, Tryz.ntmps157
        go_wp2_with fail
        refine (HP1.out _).mono ?_
        rintro e w1 ⟨rfl, rfl⟩
        go_wp2_with fail
        refine (HP2.out _).mono ?_
        rintro e w1 ⟨rfl, rfl⟩
        go_wp2_with fail
        refine HC2.out.mono ?_
        rintro e w2 ⟨rfl, hb⟩
        have HB := Lib.hid hb
        clear hb
        go_wp2_with fail
        refine (HE.out _).mono ?_
        rintro e w3 ⟨v, rfl, hr, hb⟩
        have HF := Lib.hid (And.intro hr (HB.out.trans (hb.mono HB.out.size)))
        clear hr hb
        go_wp2_with fail
        go_ret
        exact ⟨_, rfl, HF.out.1, HF.out.2⟩
  · rw [if_neg h1]
    rw [show Lib.trimPrefix l [35] = l from by unfold Lib.trimPrefix; rw [if_neg h1], Bool.eq_false_iff.2 h1] at HP1
    clear h1 hl hw e35 e120
    go_enter Tryz.func157, Tryz.ntmps157
    go_wp2_with (go_at_call 115; refine (HP1.out _).mono ?_; rintro e w1 ⟨rfl, rfl⟩)
    go_ret
    exact ⟨_, rfl, Rd.nil _, Below.refl _ _⟩
end Go.Proofs.YtpcajjbdlfookaaGreatDoor

/- xmllex: the plain model of the scanner: the program's way, and the reference's. -/
namespace Go.Proofs.YtpcajjbdlfookaaGreatDoor
open Go.RowKit
set_option linter.unusedVariables false

/-- How many blanks there are at a beginning. -/
def blN : List UInt8 → Nat
  | [] => 0
  | c :: r => if spaceB (c.toNat : Int) then blN r + 1 else 0
/-- The name of a tag or an attribute, by the program. -/
def tagP (r : List UInt8) : Option Nat :=
  if nameAt r = 0 then none else if Lib.hasPrefix (r.drop (nameAt r)) [58] then (if nameAt (r.drop (nameAt r + 1)) = 0 then none else some (nameAt r + 1 + nameAt (r.drop (nameAt r + 1)))) else some (nameAt r)
/-- By the reference. -/
def tagR (r : List UInt8) : Nat :=
  if nameAt r = 0 ∨ Lib.hasPrefix (r.drop (nameAt r)) [58] = false then nameAt r else if nameAt (r.drop (nameAt r + 1)) = 0 then nameAt r else nameAt r + 1 + nameAt (r.drop (nameAt r + 1))
/-- An instruction behind its mark, by the program. -/
def insP (t : List UInt8) : Option Nat :=
  if nameAt t = 0 then none else if Lib.hasPrefix (t.drop (nameAt t)) [63, 62] then some (nameAt t + 2) else
    if blN (t.drop (nameAt t)) = 0 then none else if Lib.index (t.drop (nameAt t + blN (t.drop (nameAt t)))) [63, 62] < 0 then none
    else some (nameAt t + blN (t.drop (nameAt t)) + (Lib.index (t.drop (nameAt t + blN (t.drop (nameAt t)))) [63, 62]).toNat + 2)
def insR (t : List UInt8) : Option Nat :=
  if nameAt t = 0 ∨ (Lib.hasPrefix (t.drop (nameAt t)) [63, 62] = false ∧ blN (t.drop (nameAt t)) = 0) then none else
    if Lib.index (t.drop (nameAt t)) [63, 62] < 0 then none else some ((Lib.index (t.drop (nameAt t)) [63, 62]).toNat + nameAt t + 2)
/-- A comment behind its mark. -/
def comP (t : List UInt8) : Option Nat :=
  if Lib.index t [45, 45] < 0 then none else if Lib.hasPrefix (t.drop ((Lib.index t [45, 45]).toNat + 2)) [62] then some ((Lib.index t [45, 45]).toNat + 3) else none
/-- Behind comments and instructions: where, and whether all went well. -/
def skpF (ins : List UInt8 → Option Nat) : Nat → List UInt8 → Nat → Nat × Bool
  | 0, _, a => (a, true)
  | f + 1, r, a => if Lib.hasPrefix r [60, 33, 45, 45] then (match comP (r.drop 4) with
      | none => (a, false)
      | some n => skpF ins f (r.drop (4 + n)) (a + 4 + n))
    else if Lib.hasPrefix r [60, 63] then (match ins (r.drop 2) with
      | none => (a, false)
      | some n => skpF ins f (r.drop (2 + n)) (a + 2 + n))
    else (a, true)

structure Tk where
  kind : Nat
  name : List UInt8
  attrs : List (List UInt8 × List UInt8)
  empty : Bool
  text : List UInt8
def noT : Tk := ⟨0, [], [], false, []⟩

/-- Text with its references resolved, or nothing. -/
def rsT (v : Bool) (xs : List UInt8) : Except Nat (List UInt8) := rsF (xs.length + 1) v xs 0 []
/-- A value behind its quote q, by the program. -/
def valQ (q : UInt8) (t : List UInt8) : Except Nat (List UInt8 × Nat) :=
  if Lib.index t [q] < 0 then .error 11 else if 0 ≤ Lib.index (t.take (Lib.index t [q]).toNat) [60] then .error 11 else
    match rsT false (pl true (t.take (Lib.index t [q]).toNat)) with
    | .error _ => .error 13
    | .ok s => .ok (s, (Lib.index t [q]).toNat + 2)
def valP (r : List UInt8) : Except Nat (List UInt8 × Nat) :=
  if Lib.hasPrefix r [39] then valQ 39 (r.drop 1) else if Lib.hasPrefix r [34] then valQ 34 (r.drop 1) else .error 11
def attrP (r : List UInt8) : Except Nat ((List UInt8 × List UInt8) × Nat) :=
  match tagP r with
  | none => .error 11
  | some n => if Lib.hasPrefix (r.drop (n + blN (r.drop n))) [61] then
      (match valP (r.drop (n + blN (r.drop n) + 1 + blN (r.drop (n + blN (r.drop n) + 1)))) with
      | .error e => .error e
      | .ok (s, m) => .ok ((r.take n, s), n + blN (r.drop n) + 1 + blN (r.drop (n + blN (r.drop n) + 1)) + m))
    else .error 11
/-- By the reference. -/
def valR (q : UInt8) (t : List UInt8) : Except Nat (List UInt8 × Nat) :=
  if Lib.index t [q] < 0 ∨ (0 ≤ Lib.index t [60] ∧ Lib.index t [60] < Lib.index t [q]) then .error 11 else
    match rsT true (t.take (Lib.index t [q]).toNat) with
    | .error _ => .error 13
    | .ok s => .ok (s, (Lib.index t [q]).toNat + 2)
def attrR (r : List UInt8) : Except Nat ((List UInt8 × List UInt8) × Nat) :=
  if tagR r = 0 ∨ Lib.hasPrefix (r.drop (tagR r + blN (r.drop (tagR r)))) [61] = false then .error 11 else
    let at2 := tagR r + blN (r.drop (tagR r)) + 1 + blN (r.drop (tagR r + blN (r.drop (tagR r)) + 1))
    if Lib.hasPrefix (r.drop at2) [39] = false ∧ Lib.hasPrefix (r.drop at2) [34] = false then .error 11 else
      match valR ((r.drop at2).headD 0) (r.drop (at2 + 1)) with
      | .error e => .error e
      | .ok (s, m) => .ok ((r.take (tagR r), s), at2 + m)
/-- The attributes of a tag, and its end: how many bytes in all. -/
def opnF (att : List UInt8 → Except Nat ((List UInt8 × List UInt8) × Nat)) : Nat → List UInt8 → Nat → List (List UInt8 × List UInt8) → Except Nat ((List (List UInt8 × List UInt8) × Bool) × Nat)
  | 0, _, a, l => .error 11
  | f + 1, r, a, l => if Lib.hasPrefix (r.drop (blN r)) [62] then .ok ((l, false), a + blN r + 1) else if Lib.hasPrefix (r.drop (blN r)) [47, 62] then .ok ((l, true), a + blN r + 2) else
    if blN r = 0 then .error 11 else match att (r.drop (blN r)) with
      | .error e => .error e
      | .ok (x, m) => opnF att f (r.drop (blN r + m)) (a + blN r + m) (l ++ [x])
/-- What stands behind '<'. -/
def opnP (t : List UInt8) : Except Nat (Tk × Nat) :=
  match tagP t with
  | none => .error 11
  | some n => match opnF attrP (t.length + 1) (t.drop n) n [] with
    | .error e => .error e
    | .ok ((l, b), m) => .ok (⟨1, t.take n, l, b, []⟩, m)
def opnR (t : List UInt8) : Except Nat (Tk × Nat) :=
  if tagR t = 0 then .error 11 else match opnF attrR (t.length + 1) (t.drop (tagR t)) (tagR t) [] with
    | .error e => .error e
    | .ok ((l, b), m) => .ok (⟨1, t.take (tagR t), l, b, []⟩, m)
/-- What stands behind '</'. -/
def cloP (t : List UInt8) : Except Nat (Tk × Nat) :=
  match tagP t with
  | none => .error 11
  | some n => if Lib.hasPrefix (t.drop (n + blN (t.drop n))) [62] then .ok (⟨2, t.take n, [], false, []⟩, n + blN (t.drop n) + 1) else .error 11
def cloR (t : List UInt8) : Except Nat (Tk × Nat) :=
  if tagR t = 0 ∨ Lib.hasPrefix (t.drop (tagR t + blN (t.drop (tagR t)))) [62] = false then .error 11 else .ok (⟨2, t.take (tagR t), [], false, []⟩, tagR t + blN (t.drop (tagR t)) + 1)
/-- Character data. -/
def datP (r : List UInt8) : Except Nat (Tk × Nat) :=
  let n := if Lib.index r [60] < 0 then r.length else (Lib.index r [60]).toNat
  if 0 ≤ Lib.index (r.take n) [93, 93, 62] then .error 11 else match rsT false (r.take n) with
    | .error _ => .error 13
    | .ok s => .ok (⟨3, [], [], false, s⟩, n)
/-- The token at a beginning that is not the end. -/
def tokG (opn clo : List UInt8 → Except Nat (Tk × Nat)) (r : List UInt8) : Except Nat (Tk × Nat) :=
  let up (n : Nat) (x : Except Nat (Tk × Nat)) : Except Nat (Tk × Nat) := match x with
    | .error e => .error e
    | .ok (t, m) => .ok (t, n + m)
  if Lib.hasPrefix r [60, 33, 91, 67, 68, 65, 84, 65, 91] then (if Lib.index (r.drop 9) [93, 93, 62] < 0 then .error 11 else .ok (⟨3, [], [], false, lns ((r.drop 9).take (Lib.index (r.drop 9) [93, 93, 62]).toNat)⟩, (Lib.index (r.drop 9) [93, 93, 62]).toNat + 12))
  else if Lib.hasPrefix r [60, 33, 68, 79, 67, 84, 89, 80, 69] then .error 12
  else if Lib.hasPrefix r [60, 47] then up 2 (clo (r.drop 2))
  else if Lib.hasPrefix r [60] then up 1 (opn (r.drop 1))
  else datP r
/-- The token at an offset: the token, the offset, the error. -/
def nxt (ins : List UInt8 → Option Nat) (opn clo : List UInt8 → Except Nat (Tk × Nat)) (xs : List UInt8) (at_ : Int) : Tk × Nat × Nat :=
  if at_ < 0 ∨ (xs.length : Int) < at_ then (noT, 0, 1) else
    match skpF ins (xs.length + 1) (xs.drop at_.toNat) at_.toNat with
    | (a, false) => (noT, a, 11)
    | (a, true) => if xs.drop a = [] then (⟨0, [], [], false, []⟩, a, 0) else
      match tokG opn clo (xs.drop a) with
      | .error e => (noT, a, e)
      | .ok (t, n) => (t, a + n, 0)
end Go.Proofs.YtpcajjbdlfookaaGreatDoor
