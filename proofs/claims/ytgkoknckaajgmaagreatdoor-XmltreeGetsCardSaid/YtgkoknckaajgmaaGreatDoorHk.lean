/- xmllex: numbered, reference. -/
import Derived.Test.YtgkoknckaajgmaaGreatDoorHh
import Derived.Test.YtgkoknckaajgmaaGreatDoorHj
import Derived.Test.YtgkoknckaajgmaaGreatDoorShelk
import Derived.Test.YtgkoknckaajgmaaGreatDoorCv
namespace Go.Proofs.YtgkoknckaajgmaaGreatDoor
open Go.RowKit
set_option linter.unusedVariables false

/-- A character's bytes, with anything behind, begin with it. -/
theorem D_E (r : Int) (h : E r ≠ []) (rest : List UInt8) : D (E r ++ rest) = (r.toNat, (E r).length) ∧ 0 ≤ r ∧ r ≤ 1114111 := by
  by_cases hb : r < 0 ∨ 1114111 < r ∨ (55296 ≤ r ∧ r ≤ 57343)
  · exact absurd (by unfold E; rw [if_pos hb]) h
  · have h0 : 0 ≤ r := by omega
    refine ⟨?_, h0, by omega⟩
    have hu : ∀ z : Int, 0 ≤ z → z < 256 → (u8 z).toNat = z.toNat := fun z a b => by have := u8_toNat z a b; omega
    by_cases a : r < 128
    · have e : E r = [u8 r] := by unfold E; rw [if_neg hb, if_pos a]
      rw [e]
      have e0 : at8 ([u8 r] ++ rest) 0 = r.toNat := hu r h0 (by omega)
      rw [D_one _ (by simp) (by rw [e0]; omega), e0]
      rfl
    · by_cases b : r < 2048
      · have e : E r = [u8 (192 + r / 64), u8 (128 + r % 64)] := by unfold E; rw [if_neg hb, if_neg a, if_pos b]
        rw [e]
        have e0 : at8 ([u8 (192 + r / 64), u8 (128 + r % 64)] ++ rest) 0 = (192 + r / 64).toNat := hu _ (by omega) (by omega)
        have e1 : at8 ([u8 (192 + r / 64), u8 (128 + r % 64)] ++ rest) 1 = (128 + r % 64).toNat := hu _ (by omega) (by omega)
        rw [D_two _ (by simp) (by rw [e0]; omega) (by rw [e0]; omega) (by rw [e1]; omega) (by rw [e1]; omega), e0, e1, if_pos (by omega)]
        simp
        omega
      · by_cases c : r < 65536
        · have e : E r = [u8 (224 + r / 4096), u8 (128 + r / 64 % 64), u8 (128 + r % 64)] := by unfold E; rw [if_neg hb, if_neg a, if_neg b, if_pos c]
          rw [e]
          have e0 : at8 ([u8 (224 + r / 4096), u8 (128 + r / 64 % 64), u8 (128 + r % 64)] ++ rest) 0 = (224 + r / 4096).toNat := hu _ (by omega) (by omega)
          have e1 : at8 ([u8 (224 + r / 4096), u8 (128 + r / 64 % 64), u8 (128 + r % 64)] ++ rest) 1 = (128 + r / 64 % 64).toNat := hu _ (by omega) (by omega)
          have e2 : at8 ([u8 (224 + r / 4096), u8 (128 + r / 64 % 64), u8 (128 + r % 64)] ++ rest) 2 = (128 + r % 64).toNat := hu _ (by omega) (by omega)
          rw [D_three _ (by simp) (by rw [e0]; omega) (by rw [e0]; omega) (by rw [e1]; omega) (by rw [e1]; omega) (by rw [e2]; omega) (by rw [e2]; omega) r.toNat (by rw [e0, e1, e2]; omega), if_pos (by omega)]
          rfl
        · have e : E r = [u8 (240 + r / 262144), u8 (128 + r / 4096 % 64), u8 (128 + r / 64 % 64), u8 (128 + r % 64)] := by unfold E; rw [if_neg hb, if_neg a, if_neg b, if_neg c]
          rw [e]
          have e0 : at8 ([u8 (240 + r / 262144), u8 (128 + r / 4096 % 64), u8 (128 + r / 64 % 64), u8 (128 + r % 64)] ++ rest) 0 = (240 + r / 262144).toNat := hu _ (by omega) (by omega)
          have e1 : at8 ([u8 (240 + r / 262144), u8 (128 + r / 4096 % 64), u8 (128 + r / 64 % 64), u8 (128 + r % 64)] ++ rest) 1 = (128 + r / 4096 % 64).toNat := hu _ (by omega) (by omega)
          have e2 : at8 ([u8 (240 + r / 262144), u8 (128 + r / 4096 % 64), u8 (128 + r / 64 % 64), u8 (128 + r % 64)] ++ rest) 2 = (128 + r / 64 % 64).toNat := hu _ (by omega) (by omega)
          have e3 : at8 ([u8 (240 + r / 262144), u8 (128 + r / 4096 % 64), u8 (128 + r / 64 % 64), u8 (128 + r % 64)] ++ rest) 3 = (128 + r % 64).toNat := hu _ (by omega) (by omega)
          rw [D_four _ (by simp) (by rw [e0]; omega) (by rw [e1]; omega) (by rw [e1]; omega) (by rw [e2]; omega) (by rw [e2]; omega) (by rw [e3]; omega) (by rw [e3]; omega) r.toNat (by rw [e0, e1, e2, e3]; omega), if_pos (by omega)]
          rfl

/-- Some value of an error lies there. -/
def ErrAt (w : World) (g : Nat) : Prop := ∃ ev, w.cell? ⟨g, 0, none⟩ = some ev ∧ (ev = .nilIface ∨ ∃ te pe, ev = .iface te pe)
theorem ErrAt.below {w w' : World} {g : Nat} (h : ErrAt w g) (hb : Below w.heap.size w w') : ErrAt w' g := by
  obtain ⟨ev, h1, h2⟩ := h
  exact ⟨ev, by rw [hb.cell (World.block_lt_of_cell? w _ h1)]; exact h1, h2⟩
/-- What the scanner needs of the world. -/
structure BW (w : World) : Prop where
  tab : Tabs w
  mx : MX w
  es : ErrAt w 3
  er : ErrAt w 4
theorem BW.below {w w' : World} (h : BW w) (hb : Below w.heap.size w w') : BW w' := ⟨h.tab.below hb, h.mx.below hb, h.es.below hb, h.er.below hb⟩

def PUpub (R : Option Nat) (e : Ending) : Prop := match R with
  | some n => e = .returned (.tuple #[.int .u64 (n : Nat), .nilIface])
  | none => ∃ (m : Int) (N : Nat), e = .returned (.tuple #[.int .u64 m, .iface 207 (.pointer (some ⟨N, 0, none⟩))])
set_option maxRecDepth 100000 in
theorem parseUint_c (w : World) (hw : BW w) (B : Nat) (hB : B = 10 ∨ B = 16) (t : ByteArray) (hmax : t.size ≤ 16777216) :
    Calls Tryz.prog 171 #[.string t, .int .i64 (B : Nat), .int .i64 32] w fun e w' => PUpub (puN B t.data.toList) e ∧ Below w.heap.size w w' := by
  have HC := Lib.hid (puint_c w B hB t (by omega))
  have HW := Lib.hid hw
  cases hR : puN B t.data.toList with
  | some n =>
    rw [hR] at HC
    have HC2 := Lib.hid (show Calls Tryz.prog 173 #[.string t, .int .i64 (B : Nat), .int .i64 32] w fun e w' => e = .returned (.tuple #[.int .u64 (n : Nat), .nilIface]) ∧ Below w.heap.size w w' from HC.out)
    clear hR hw HC
    go_enter Tryz.func171, Tryz.ntmps171
    go_wp2_with (go_at_call 173; refine (HC2.out).mono ?_; rintro e w1 ⟨rfl, hb⟩; have HB := Lib.hid hb; clear hb)
    go_ret2
    exact ⟨rfl, HB.out⟩
  | none =>
    rw [hR] at HC
    have HC2 := Lib.hid (show Calls Tryz.prog 173 #[.string t, .int .i64 (B : Nat), .int .i64 32] w fun e w' => (∃ (m : Int) (k : Int), (k = 1 ∨ k = 2) ∧ e = .returned (.tuple #[.int .u64 m, .iface 205 (.int .i64 k)])) ∧ Below w.heap.size w w' from HC.out)
    have hs : t.size ≤ 281474976710656 := by omega
    clear hR hw HC
    go_enter Tryz.func171, Tryz.ntmps171
    go_wp2_with fail
    refine HC2.out.mono ?_
    rintro e w1 ⟨⟨m, k, hk, rfl⟩, hb⟩
    have HB := Lib.hid hb
    obtain ⟨e1, v1, q1⟩ := (HW.out.below hb).es
    obtain ⟨e2, v2, q2⟩ := (HW.out.below hb).er
    have HS := Lib.hid (fun fn => Tryz.strconv_toError_syntax fn t B 32 e1 w1 hs v1 q1)
    have HRr := Lib.hid (fun fn => Tryz.strconv_toError_range fn t B 32 e2 w1 hs v2 q2)
    clear hb v1 q1 v2 q2
    rcases hk with rfl | rfl
    · go_wp2_with (go_at_call 174; refine (HRr.out _).mono ?_; rintro e w2 ⟨N, rfl, _, _, hb⟩; have HB2 := Lib.hid (HB.out.trans (hb.mono HB.out.size)); clear hb)
      go_ret2
      exact ⟨⟨m, N, rfl⟩, HB2.out⟩
    · go_wp2_with (go_at_call 174; refine (HS.out _).mono ?_; rintro e w2 ⟨N, rfl, _, _, hb⟩; have HB2 := Lib.hid (HB.out.trans (hb.mono HB.out.size)); clear hb)
      go_ret2
      exact ⟨⟨m, N, rfl⟩, HB2.out⟩

theorem numB_le (B top : Nat) : ∀ (r : List UInt8) (n k : Nat), n ≤ top → numB B top n r = some k → k ≤ top
  | [], n, k, h, e => by simp [numB] at e; omega
  | c :: r, n, k, h, e => by
    rw [numB] at e
    cases hd : dgt B c with
    | none => rw [hd] at e; simp at e
    | some d =>
      rw [hd] at e
      dsimp only at e
      split at e
      · simp at e
      · exact numB_le B top r _ k (by omega) e
theorem puN_le {B : Nat} {r : List UInt8} {k : Nat} (e : puN B r = some k) : k ≤ 4294967295 := by
  unfold puN at e
  split at e
  · simp at e
  · exact numB_le B _ r 0 k (by omega) e
/-- The number that a body names, whatever the character. -/
def numV (l : List UInt8) : Option Nat := if Lib.hasPrefix l [35] then (if Lib.hasPrefix (l.drop 1) [120] then puN 16 (l.drop 2) else puN 10 (l.drop 1)) else none
def numE (l : List UInt8) : List UInt8 := match numV l with
  | none => []
  | some n => E n
theorem strOf (l : List UInt8) : (⟨l.toArray⟩ : ByteArray).data.toList = l := rfl
def NumAft (w : World) (l : List UInt8) (e : Ending) (w' : World) : Prop := ∃ v', e = .returned v' ∧ Rd w' v' l ∧ Below w.heap.size w w'
set_option maxRecDepth 100000 in
set_option maxHeartbeats 2000000 in
theorem numbered_c (w : World) (hw : BW w) (l : List UInt8) (hl : l.length ≤ 16777216) : Calls Tryz.prog 167 #[.string ⟨l.toArray⟩] w (NumAft w (numE l)) := by
  have HW := Lib.hid hw
  have HP1 := Lib.hid (fun w => Tryz.strings_CutPrefix ⟨l.toArray⟩ ⟨#[35]⟩ w)
  have e35 : (⟨#[35]⟩ : ByteArray).data.toList = [35] := rfl
  have e120 : (⟨#[120]⟩ : ByteArray).data.toList = [120] := rfl
  rw [strOf, e35] at HP1
  unfold numE numV
  by_cases h1 : Lib.hasPrefix l [35] = true
  · rw [if_pos h1]
    rw [show Lib.trimPrefix l [35] = l.drop 1 from by unfold Lib.trimPrefix; rw [if_pos h1]; rfl, h1] at HP1
    obtain ⟨d, hd⟩ : ∃ d, d = l.drop 1 := ⟨_, rfl⟩
    have hdl : d.length ≤ 16777216 := by rw [hd, List.length_drop]; omega
    rw [← hd] at HP1 ⊢
    have hd2 : l.drop 2 = d.drop 1 := by rw [hd, List.drop_drop]
    rw [hd2]
    have HP2 := Lib.hid (fun w => Tryz.strings_CutPrefix ⟨d.toArray⟩ ⟨#[120]⟩ w)
    rw [strOf, e120] at HP2
    by_cases h2 : Lib.hasPrefix d [120] = true
    · rw [if_pos h2]
      rw [show Lib.trimPrefix d [120] = d.drop 1 from by unfold Lib.trimPrefix; rw [if_pos h2]; rfl, h2] at HP2
      have hdl2 : (d.drop 1).length ≤ 16777216 := by rw [List.length_drop]; omega
      have HC := parseUint_c w hw 16 (.inr rfl) ⟨(d.drop 1).toArray⟩ (by show (d.drop 1).toArray.size ≤ _; simp; omega)
      rw [strOf] at HC
      obtain ⟨s2, hs2⟩ : ∃ s2, s2 = (⟨(d.drop 1).toArray⟩ : ByteArray) := ⟨_, rfl⟩
      rw [← hs2] at HC HP2
      clear hs2
      obtain ⟨R, hR⟩ : ∃ R, R = puN 16 (d.drop 1) := ⟨_, rfl⟩
      have hle := fun k (e : R = some k) => puN_le (hR ▸ e)
      rw [← hR] at HC ⊢
      clear hd hd2 hdl hdl2 h1 h2 hl hw hR e35 e120
      cases R with
      | none =>
        have HC2 := Lib.hid HC
        clear HC hle
        go_enter Tryz.func167, Tryz.ntmps167
        go_wp2_with fail
        refine (HP1.out _).mono ?_
        rintro e w1 ⟨rfl, rfl⟩
        go_wp2_with fail
        refine (HP2.out _).mono ?_
        rintro e w1 ⟨rfl, rfl⟩
        go_wp2_with fail
        refine HC2.out.mono ?_
        rintro e w2 ⟨⟨m, N, rfl⟩, hb⟩
        have HB := Lib.hid hb
        clear hb
        go_wp2_with fail
        go_ret
        exact ⟨_, rfl, Rd.nil _, HB.out⟩
      | some n =>
        have hn := hle n rfl
        have HC2 := Lib.hid HC
        have HE := Lib.hid (fun w => encode_c w (n : Int) (by omega) (by omega))
        clear HC hle
        go_enter Tryz.func167, Tryz.ntmps167
        go_wp2_with fail
        refine (HP1.out _).mono ?_
        rintro e w1 ⟨rfl, rfl⟩
        go_wp2_with fail
        refine (HP2.out _).mono ?_
        rintro e w1 ⟨rfl, rfl⟩
        go_wp2_with fail
        refine HC2.out.mono ?_
        rintro e w2 ⟨rfl, hb⟩
        have HB := Lib.hid hb
        clear hb
        go_wp2_with fail
        refine (HE.out _).mono ?_
        rintro e w3 ⟨v, rfl, hr, hb⟩
        have HF := Lib.hid (And.intro hr (HB.out.trans (hb.mono HB.out.size)))
        clear hr hb
        go_wp2_with fail
        go_ret
        exact ⟨_, rfl, HF.out.1, HF.out.2⟩
    · rw [if_neg h2]
      rw [show Lib.trimPrefix d [120] = d from by unfold Lib.trimPrefix; rw [if_neg h2], Bool.eq_false_iff.2 h2] at HP2
      have HC := parseUint_c w hw 10 (.inl rfl) ⟨d.toArray⟩ (by show d.toArray.size ≤ _; simp; omega)
      rw [strOf] at HC
      obtain ⟨R, hR⟩ : ∃ R, R = puN 10 d := ⟨_, rfl⟩
      have hle := fun k (e : R = some k) => puN_le (hR ▸ e)
      rw [← hR] at HC ⊢
      clear hd hd2 hdl h1 h2 hl hw hR e35 e120
      cases R with
      | none =>
        have HC2 := Lib.hid HC
        clear HC hle
        go_enter Tryz.func167, Tryz.ntmps167
        go_wp2_with fail
        refine (HP1.out _).mono ?_
        rintro e w1 ⟨rfl, rfl⟩
        go_wp2_with fail
        refine (HP2.out _).mono ?_
        rintro e w1 ⟨rfl, rfl⟩
        go_wp2_with fail
        refine HC2.out.mono ?_
        rintro e w2 ⟨⟨m, N, rfl⟩, hb⟩
        have HB := Lib.hid hb
        clear hb
        go_wp2_with fail
        go_ret
        exact ⟨_, rfl, Rd.nil _, HB.out⟩
      | some n =>
        have hn := hle n rfl
        have HC2 := Lib.hid HC
        have HE := Lib.hid (fun w => encode_c w (n : Int) (by omega) (by omega))
        clear HC hle
        go_enter Tryz.func167, Tryz.ntmps167
        go_wp2_with fail
        refine (HP1.out _).mono ?_
        rintro e w1 ⟨rfl, rfl⟩
        go_wp2_with fail
        refine (HP2.out _).mono ?_
        rintro e w1 ⟨rfl, rfl⟩
        go_wp2_with fail
        refine HC2.out.mono ?_
        rintro e w2 ⟨rfl, hb⟩
        have HB := Lib.hid hb
        clear hb
        go_wp2_with fail
        refine (HE.out _).mono ?_
        rintro e w3 ⟨v, rfl, hr, hb⟩
        have HF := Lib.hid (And.intro hr (HB.out.trans (hb.mono HB.out.size)))
        clear hr hb
        go_wp2_with fail
        go_ret
        exact ⟨_, rfl, HF.out.1, HF.out.2⟩
  · rw [if_neg h1]
    rw [show Lib.trimPrefix l [35] = l from by unfold Lib.trimPrefix; rw [if_neg h1], Bool.eq_false_iff.2 h1] at HP1
    clear h1 hl hw e35 e120
    go_enter Tryz.func167, Tryz.ntmps167
    go_wp2_with (go_at_call 125; refine (HP1.out _).mono ?_; rintro e w1 ⟨rfl, rfl⟩)
    go_ret
    exact ⟨_, rfl, Rd.nil _, Below.refl _ _⟩
end Go.Proofs.YtgkoknckaajgmaaGreatDoor
