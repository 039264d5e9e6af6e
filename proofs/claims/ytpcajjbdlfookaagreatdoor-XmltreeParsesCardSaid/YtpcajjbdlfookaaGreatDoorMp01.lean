/-
  DERIVED: THE SHELF's CONTRACTS AT THIS DUMP, IN PLAIN WORDS (tools/lay-plain.mjs out of 'YtpcajjbdlfookaaGreatDoorSk.lean', which tools/lay-shelf.mjs wrote): THE SAME DECLARATIONS UNDER THE SAME NAMES: 'import', 'namespace', 'open', 'def', 'theorem' AND NOTHING ELSE: no command of the shelf's: FOR A HAND-IN. Each laying: the table of numbers ('.._ren') and one theorem, a field a fact of the dump's own or the kernel's comparison; each contract: ONE APPLICATION.
-/
import Derived.Shelf.Strconv.ToError
import Derived.Shelf.Strconv.ToErrorRange
import Derived.Test.YtpcajjbdlfookaaGreatDoorProg
import Derived.Test.YtpcajjbdlfookaaGreatDoorHh
import Derived.Test.YtpcajjbdlfookaaGreatDoorHj
import Derived.Test.YtpcajjbdlfookaaGreatDoorCv
import Derived.Test.YtpcajjbdlfookaaGreatDoorHa
namespace Go.Proofs
open Go.Shelf
def Tryz.laysC245_ren : Go.Shelf.Ren := ⟨fun | 245 => 164 | 279 => 169 | 280 => 170 | 281 => 171 | 282 => 172 | 316 => 174 | 171 => 176 | 205 => 175 | 243 => 177 | 246 => 178 | 283 => 179 | 284 => 180 | 285 => 181 | 286 => 182 | 129 => 184 | 317 => 183 | 318 => 185 | 319 => 186 | 320 => 187 | 337 => 188 | 338 => 189 | n => n, fun | 9 => 9 | 3 => 3 | 75 => 133 | 167 => 198 | 4 => 4 | 168 => 200 | 210 => 204 | 37 => 22 | 0 => 0 | 127 => 161 | 145 => 208 | 143 => 206 | 2 => 2 | 171 => 210 | 53 => 144 | 5 => 5 | 173 => 213 | 212 => 216 | 51 => 188 | 20 => 20 | 213 => 217 | 46 => 137 | 232 => 220 | 233 => 221 | 80 => 136 | n => n, fun | 15 => 3 | 16 => 4 | 17 => 5 | 18 => 6 | 19 => 7 | n => n⟩
theorem Tryz.laysC245 : Go.Proofs.LaysC.n245 Tryz.prog Tryz.laysC245_ren := {
  mixed := by kernel_rfl
  f129 := Tryz.func184.trans (congrArg some (by kernel_rfl))
  f171 := Tryz.func176.trans (congrArg some (by kernel_rfl))
  f205 := Tryz.func175.trans (congrArg some (by kernel_rfl))
  f243 := Tryz.func177.trans (congrArg some (by kernel_rfl))
  f245 := Tryz.func164.trans (congrArg some (by kernel_rfl))
  f246 := Tryz.func178.trans (congrArg some (by kernel_rfl))
  f279 := Tryz.func169.trans (congrArg some (by kernel_rfl))
  f280 := Tryz.func170.trans (congrArg some (by kernel_rfl))
  f281 := Tryz.func171.trans (congrArg some (by kernel_rfl))
  f282 := Tryz.func172.trans (congrArg some (by kernel_rfl))
  f283 := Tryz.func179.trans (congrArg some (by kernel_rfl))
  f284 := Tryz.func180.trans (congrArg some (by kernel_rfl))
  f285 := Tryz.func181.trans (congrArg some (by kernel_rfl))
  f286 := Tryz.func182.trans (congrArg some (by kernel_rfl))
  f316 := Tryz.func174.trans (congrArg some (by kernel_rfl))
  f317 := Tryz.func183.trans (congrArg some (by kernel_rfl))
  f318 := Tryz.func185.trans (congrArg some (by kernel_rfl))
  f319 := Tryz.func186.trans (congrArg some (by kernel_rfl))
  f320 := Tryz.func187.trans (congrArg some (by kernel_rfl))
  f337 := Tryz.func188.trans (congrArg some (by kernel_rfl))
  f338 := Tryz.func189.trans (congrArg some (by kernel_rfl))
  t0 := Tryz.underlying0
  a0 := Tryz.isAgg0
  z0 := Tryz.sizeOf0
  v0 := Tryz.zeroValue0
  t2 := Tryz.underlying2
  a2 := Tryz.isAgg2
  z2 := Tryz.sizeOf2
  v2 := Tryz.zeroValue2
  t3 := Tryz.underlying3
  a3 := Tryz.isAgg3
  z3 := Tryz.sizeOf3
  v3 := Tryz.zeroValue3
  t4 := Tryz.underlying4
  a4 := Tryz.isAgg4
  z4 := Tryz.sizeOf4
  v4 := Tryz.zeroValue4
  t5 := Tryz.underlying5
  a5 := Tryz.isAgg5
  z5 := Tryz.sizeOf5
  v5 := Tryz.zeroValue5
  t9 := Tryz.underlying9
  a9 := Tryz.isAgg9
  z9 := Tryz.sizeOf9
  v9 := Tryz.zeroValue9
  t20 := Tryz.underlying20
  a20 := Tryz.isAgg20
  z20 := Tryz.sizeOf20
  v20 := Tryz.zeroValue20
  t37 := Tryz.underlying22
  a37 := Tryz.isAgg22
  z37 := Tryz.sizeOf22
  v37 := Tryz.zeroValue22
  t46 := Tryz.underlying137
  a46 := Tryz.isAgg137
  z46 := Tryz.sizeOf137
  v46 := Tryz.zeroValue137
  t51 := Tryz.underlying188
  a51 := Tryz.isAgg188
  z51 := Tryz.sizeOf188
  v51 := Tryz.zeroValue188
  t53 := Tryz.underlying144
  a53 := Tryz.isAgg144
  z53 := Tryz.sizeOf144
  v53 := Tryz.zeroValue144
  t75 := Tryz.underlying133
  a75 := Tryz.isAgg133
  z75 := Tryz.sizeOf133
  v75 := Tryz.zeroValue133
  t127 := Tryz.underlying161
  a127 := Tryz.isAgg161
  z127 := Tryz.sizeOf161
  v127 := Tryz.zeroValue161
  t143 := Tryz.underlying206
  a143 := Tryz.isAgg206
  z143 := Tryz.sizeOf206
  v143 := Tryz.zeroValue206
  t145 := Tryz.underlying208
  a145 := Tryz.isAgg208
  z145 := Tryz.sizeOf208
  v145 := Tryz.zeroValue208
  t167 := Tryz.underlying198
  a167 := Tryz.isAgg198
  z167 := Tryz.sizeOf198
  v167 := Tryz.zeroValue198
  t168 := Tryz.underlying200
  a168 := Tryz.isAgg200
  z168 := Tryz.sizeOf200
  v168 := Tryz.zeroValue200
  t171 := Tryz.underlying210
  a171 := Tryz.isAgg210
  z171 := Tryz.sizeOf210
  v171 := Tryz.zeroValue210
  t173 := Tryz.underlying213
  a173 := Tryz.isAgg213
  z173 := Tryz.sizeOf213
  v173 := Tryz.zeroValue213
  t210 := Tryz.underlying204
  a210 := Tryz.isAgg204
  z210 := Tryz.sizeOf204
  v210 := Tryz.zeroValue204
  t212 := Tryz.underlying216
  a212 := Tryz.isAgg216
  z212 := Tryz.sizeOf216
  v212 := Tryz.zeroValue216
  t213 := Tryz.underlying217
  a213 := Tryz.isAgg217
  z213 := Tryz.sizeOf217
  t232 := Tryz.underlying220
  a232 := Tryz.isAgg220
  z232 := Tryz.sizeOf220
  v232 := Tryz.zeroValue220
  t233 := Tryz.underlying221
  a233 := Tryz.isAgg221
  z233 := Tryz.sizeOf221
  v233 := Tryz.zeroValue221
  g15 := by kernel_rfl
  g16 := by kernel_rfl
  g17 := by kernel_rfl
  g18 := by kernel_rfl
  g19 := by kernel_rfl
  t80 := Tryz.underlying136
  a80 := Tryz.isAgg136
  z80 := Tryz.sizeOf136
  v80 := Tryz.zeroValue136
  i0 := by kernel_rfl
  i2 := by kernel_rfl
  i3 := by kernel_rfl
  i4 := by kernel_rfl
  i5 := by kernel_rfl
  i9 := by kernel_rfl
  i20 := by kernel_rfl
  i37 := by kernel_rfl
  i46 := by kernel_rfl
  i51 := by kernel_rfl
  i53 := by kernel_rfl
  i75 := by kernel_rfl
  i80 := by kernel_rfl
  i127 := by kernel_rfl
  i143 := by kernel_rfl
  i145 := by kernel_rfl
  i167 := by kernel_rfl
  i168 := by kernel_rfl
  i171 := by kernel_rfl
  i173 := by kernel_rfl
  i210 := by kernel_rfl
  i212 := by kernel_rfl
  i232 := by kernel_rfl
  i233 := by kernel_rfl
  m15 := by kernel_rfl
  m16 := by kernel_rfl
  m17 := by kernel_rfl
  m18 := by kernel_rfl
  m19 := by kernel_rfl
  c0 := by kernel_rfl
  c2 := by kernel_rfl
  c3 := by kernel_rfl
  c4 := by kernel_rfl
  c5 := by kernel_rfl
  c9 := by kernel_rfl
  c20 := by kernel_rfl
  c37 := by kernel_rfl
  c46 := by kernel_rfl
  c51 := by kernel_rfl
  c53 := by kernel_rfl
  c75 := by kernel_rfl
  c80 := by kernel_rfl
  c127 := by kernel_rfl
  c143 := by kernel_rfl
  c145 := by kernel_rfl
  c167 := by kernel_rfl
  c168 := by kernel_rfl
  c171 := by kernel_rfl
  c173 := by kernel_rfl
  c210 := by kernel_rfl
  c212 := by kernel_rfl
  c213 := by kernel_rfl
  c232 := by kernel_rfl
  c233 := by kernel_rfl }
theorem Tryz.strconv_toError_syntax (fn s : ByteArray) (base nbits : Int) (ev : Value) (w : World) (hlim : s.size ≤ 281474976710656) (hv : w.cell? ⟨3, 0, none⟩ = some ev) (hev : ev = .nilIface ∨ ∃ te pe, ev = .iface te pe) :
    Calls Tryz.prog 164 #[.string fn, .string s, .int .i64 base, .int .i64 nbits, .iface 198 (.int .i64 2)] w fun e w' => ∃ N, e = .returned (.iface 200 (.pointer (some ⟨N, 0, none⟩))) ∧ w.heap.size ≤ N ∧ w'.heap[N]? = some (.cells #[.string fn, .string s, ev] 204 (0, 0)) ∧ RowKit.Below w.heap.size w w' := Any.strconv_toError_syntax Tryz.laysC245 fn s base nbits ev w hlim hv hev
theorem Tryz.strconv_toError_range (fn s : ByteArray) (base nbits : Int) (ev : Value) (w : World) (hlim : s.size ≤ 281474976710656) (hv : w.cell? ⟨4, 0, none⟩ = some ev) (hev : ev = .nilIface ∨ ∃ te pe, ev = .iface te pe) :
    Calls Tryz.prog 164 #[.string fn, .string s, .int .i64 base, .int .i64 nbits, .iface 198 (.int .i64 1)] w fun e w' => ∃ N, e = .returned (.iface 200 (.pointer (some ⟨N, 0, none⟩))) ∧ w.heap.size ≤ N ∧ w'.heap[N]? = some (.cells #[.string fn, .string s, ev] 204 (0, 0)) ∧ RowKit.Below w.heap.size w w' := Any.strconv_toError_range Tryz.laysC245 fn s base nbits ev w hlim hv hev
end Go.Proofs

/- xmllex: numbered, reference. -/
namespace Go.Proofs.YtpcajjbdlfookaaGreatDoor
open Go.RowKit
set_option linter.unusedVariables false

/-- A character's bytes, with anything behind, begin with it. -/
theorem D_E (r : Int) (h : E r ≠ []) (rest : List UInt8) : D (E r ++ rest) = (r.toNat, (E r).length) ∧ 0 ≤ r ∧ r ≤ 1114111 := by
  by_cases hb : r < 0 ∨ 1114111 < r ∨ (55296 ≤ r ∧ r ≤ 57343)
  · exact absurd (by unfold E; rw [if_pos hb]) h
  · have h0 : 0 ≤ r := by omega
    refine ⟨?_, h0, by omega⟩
    have hu : ∀ z : Int, 0 ≤ z → z < 256 → (u8 z).toNat = z.toNat := fun z a b => by have := u8_toNat z a b; omega
    by_cases a : r < 128
    · have e : E r = [u8 r] := by unfold E; rw [if_neg hb, if_pos a]
      rw [e]
      have e0 : at8 ([u8 r] ++ rest) 0 = r.toNat := hu r h0 (by omega)
      rw [D_one _ (by simp) (by rw [e0]; omega), e0]
      rfl
    · by_cases b : r < 2048
      · have e : E r = [u8 (192 + r / 64), u8 (128 + r % 64)] := by unfold E; rw [if_neg hb, if_neg a, if_pos b]
        rw [e]
        have e0 : at8 ([u8 (192 + r / 64), u8 (128 + r % 64)] ++ rest) 0 = (192 + r / 64).toNat := hu _ (by omega) (by omega)
        have e1 : at8 ([u8 (192 + r / 64), u8 (128 + r % 64)] ++ rest) 1 = (128 + r % 64).toNat := hu _ (by omega) (by omega)
        rw [D_two _ (by simp) (by rw [e0]; omega) (by rw [e0]; omega) (by rw [e1]; omega) (by rw [e1]; omega), e0, e1, if_pos (by omega)]
        simp
        omega
      · by_cases c : r < 65536
        · have e : E r = [u8 (224 + r / 4096), u8 (128 + r / 64 % 64), u8 (128 + r % 64)] := by unfold E; rw [if_neg hb, if_neg a, if_neg b, if_pos c]
          rw [e]
          have e0 : at8 ([u8 (224 + r / 4096), u8 (128 + r / 64 % 64), u8 (128 + r % 64)] ++ rest) 0 = (224 + r / 4096).toNat := hu _ (by omega) (by omega)
          have e1 : at8 ([u8 (224 + r / 4096), u8 (128 + r / 64 % 64), u8 (128 + r % 64)] ++ rest) 1 = (128 + r / 64 % 64).toNat := hu _ (by omega) (by omega)
          have e2 : at8 ([u8 (224 + r / 4096), u8 (128 + r / 64 % 64), u8 (128 + r % 64)] ++ rest) 2 = (128 + r % 64).toNat := hu _ (by omega) (by omega)
          rw [D_three _ (by simp) (by rw [e0]; omega) (by rw [e0]; omega) (by rw [e1]; omega) (by rw [e1]; omega) (by rw [e2]; omega) (by rw [e2]; omega) r.toNat (by rw [e0, e1, e2]; omega), if_pos (by omega)]
          rfl
        · have e : E r = [u8 (240 + r / 262144), u8 (128 + r / 4096 % 64), u8 (128 + r / 64 % 64), u8 (128 + r % 64)] := by unfold E; rw [if_neg hb, if_neg a, if_neg b, if_neg c]
          rw [e]
          have e0 : at8 ([u8 (240 + r / 262144), u8 (128 + r / 4096 % 64), u8 (128 + r / 64 % 64), u8 (128 + r % 64)] ++ rest) 0 = (240 + r / 262144).toNat := hu _ (by omega) (by omega)
          have e1 : at8 ([u8 (240 + r / 262144), u8 (128 + r / 4096 % 64), u8 (128 + r / 64 % 64), u8 (128 + r % 64)] ++ rest) 1 = (128 + r / 4096 % 64).toNat := hu _ (by omega) (by omega)
          have e2 : at8 ([u8 (240 + r / 262144), u8 (128 + r / 4096 % 64), u8 (128 + r / 64 % 64), u8 (128 + r % 64)] ++ rest) 2 = (128 + r / 64 % 64).toNat := hu _ (by omega) (by omega)
          have e3 : at8 ([u8 (240 + r / 262144), u8 (128 + r / 4096 % 64), u8 (128 + r / 64 % 64), u8 (128 + r % 64)] ++ rest) 3 = (128 + r % 64).toNat := hu _ (by omega) (by omega)
          rw [D_four _ (by simp) (by rw [e0]; omega) (by rw [e1]; omega) (by rw [e1]; omega) (by rw [e2]; omega) (by rw [e2]; omega) (by rw [e3]; omega) (by rw [e3]; omega) r.toNat (by rw [e0, e1, e2, e3]; omega), if_pos (by omega)]
          rfl

/-- Some value of an error lies there. -/
def ErrAt (w : World) (g : Nat) : Prop := ∃ ev, w.cell? ⟨g, 0, none⟩ = some ev ∧ (ev = .nilIface ∨ ∃ te pe, ev = .iface te pe)
theorem ErrAt.below {w w' : World} {g : Nat} (h : ErrAt w g) (hb : Below w.heap.size w w') : ErrAt w' g := by
  obtain ⟨ev, h1, h2⟩ := h
  exact ⟨ev, by rw [hb.cell (World.block_lt_of_cell? w _ h1)]; exact h1, h2⟩
/-- What the scanner needs of the world. -/
structure BW (w : World) : Prop where
  tab : Tabs w
  mx : MX w
  es : ErrAt w 3
  er : ErrAt w 4
theorem BW.below {w w' : World} (h : BW w) (hb : Below w.heap.size w w') : BW w' := ⟨h.tab.below hb, h.mx.below hb, h.es.below hb, h.er.below hb⟩

def PUpub (R : Option Nat) (e : Ending) : Prop := match R with
  | some n => e = .returned (.tuple #[.int .u64 (n : Nat), .nilIface])
  | none => ∃ (m : Int) (N : Nat), e = .returned (.tuple #[.int .u64 m, .iface 200 (.pointer (some ⟨N, 0, none⟩))])
set_option maxRecDepth 100000 in
theorem parseUint_c (w : World) (hw : BW w) (B : Nat) (hB : B = 10 ∨ B = 16) (t : ByteArray) (hmax : t.size ≤ 16777216) :
    Calls Tryz.prog 161 #[.string t, .int .i64 (B : Nat), .int .i64 32] w fun e w' => PUpub (puN B t.data.toList) e ∧ Below w.heap.size w w' := by
  have HC := Lib.hid (puint_c w B hB t (by omega))
  have HW := Lib.hid hw
  cases hR : puN B t.data.toList with
  | some n =>
    rw [hR] at HC
    have HC2 := Lib.hid (show Calls Tryz.prog 163 #[.string t, .int .i64 (B : Nat), .int .i64 32] w fun e w' => e = .returned (.tuple #[.int .u64 (n : Nat), .nilIface]) ∧ Below w.heap.size w w' from HC.out)
    clear hR hw HC
    go_enter Tryz.func161, Tryz.ntmps161
    go_wp2_with (go_at_call 163; refine (HC2.out).mono ?_; rintro e w1 ⟨rfl, hb⟩; have HB := Lib.hid hb; clear hb)
    go_ret2
    exact ⟨rfl, HB.out⟩
  | none =>
    rw [hR] at HC
    have HC2 := Lib.hid (show Calls Tryz.prog 163 #[.string t, .int .i64 (B : Nat), .int .i64 32] w fun e w' => (∃ (m : Int) (k : Int), (k = 1 ∨ k = 2) ∧ e = .returned (.tuple #[.int .u64 m, .iface 198 (.int .i64 k)])) ∧ Below w.heap.size w w' from HC.out)
    have hs : t.size ≤ 281474976710656 := by omega
    clear hR hw HC
    go_enter Tryz.func161, Tryz.ntmps161
    go_wp2_with fail
    refine HC2.out.mono ?_
    rintro e w1 ⟨⟨m, k, hk, rfl⟩, hb⟩
    have HB := Lib.hid hb
    obtain ⟨e1, v1, q1⟩ := (HW.out.below hb).es
    obtain ⟨e2, v2, q2⟩ := (HW.out.below hb).er
    have HS := Lib.hid (fun fn => Tryz.strconv_toError_syntax fn t B 32 e1 w1 hs v1 q1)
    have HRr := Lib.hid (fun fn => Tryz.strconv_toError_range fn t B 32 e2 w1 hs v2 q2)
    clear hb v1 q1 v2 q2
    rcases hk with rfl | rfl
    · go_wp2_with (go_at_call 164; refine (HRr.out _).mono ?_; rintro e w2 ⟨N, rfl, _, _, hb⟩; have HB2 := Lib.hid (HB.out.trans (hb.mono HB.out.size)); clear hb)
      go_ret2
      exact ⟨⟨m, N, rfl⟩, HB2.out⟩
    · go_wp2_with (go_at_call 164; refine (HS.out _).mono ?_; rintro e w2 ⟨N, rfl, _, _, hb⟩; have HB2 := Lib.hid (HB.out.trans (hb.mono HB.out.size)); clear hb)
      go_ret2
      exact ⟨⟨m, N, rfl⟩, HB2.out⟩

theorem numB_le (B top : Nat) : ∀ (r : List UInt8) (n k : Nat), n ≤ top → numB B top n r = some k → k ≤ top
  | [], n, k, h, e => by simp [numB] at e; omega
  | c :: r, n, k, h, e => by
    rw [numB] at e
    cases hd : dgt B c with
    | none => rw [hd] at e; simp at e
    | some d =>
      rw [hd] at e
      dsimp only at e
      split at e
      · simp at e
      · exact numB_le B top r _ k (by omega) e
theorem puN_le {B : Nat} {r : List UInt8} {k : Nat} (e : puN B r = some k) : k ≤ 4294967295 := by
  unfold puN at e
  split at e
  · simp at e
  · exact numB_le B _ r 0 k (by omega) e
/-- The number that a body names, whatever the character. -/
def numV (l : List UInt8) : Option Nat := if Lib.hasPrefix l [35] then (if Lib.hasPrefix (l.drop 1) [120] then puN 16 (l.drop 2) else puN 10 (l.drop 1)) else none
def numE (l : List UInt8) : List UInt8 := match numV l with
  | none => []
  | some n => E n
theorem strOf (l : List UInt8) : (⟨l.toArray⟩ : ByteArray).data.toList = l := rfl
def NumAft (w : World) (l : List UInt8) (e : Ending) (w' : World) : Prop := ∃ v', e = .returned v' ∧ Rd w' v' l ∧ Below w.heap.size w w'
set_option maxRecDepth 100000 in
set_option maxHeartbeats 2000000 in
theorem numbered_c (w : World) (hw : BW w) (l : List UInt8) (hl : l.length ≤ 16777216) : Calls Tryz.prog 157 #[.string ⟨l.toArray⟩] w (NumAft w (numE l)) := by
  have HW := Lib.hid hw
  have HP1 := Lib.hid (fun w => Tryz.strings_CutPrefix ⟨l.toArray⟩ ⟨#[35]⟩ w)
  have e35 : (⟨#[35]⟩ : ByteArray).data.toList = [35] := rfl
  have e120 : (⟨#[120]⟩ : ByteArray).data.toList = [120] := rfl
  rw [strOf, e35] at HP1
  unfold numE numV
  by_cases h1 : Lib.hasPrefix l [35] = true
  · rw [if_pos h1]
    rw [show Lib.trimPrefix l [35] = l.drop 1 from by unfold Lib.trimPrefix; rw [if_pos h1]; rfl, h1] at HP1
    obtain ⟨d, hd⟩ : ∃ d, d = l.drop 1 := ⟨_, rfl⟩
    have hdl : d.length ≤ 16777216 := by rw [hd, List.length_drop]; omega
    rw [← hd] at HP1 ⊢
    have hd2 : l.drop 2 = d.drop 1 := by rw [hd, List.drop_drop]
    rw [hd2]
    have HP2 := Lib.hid (fun w => Tryz.strings_CutPrefix ⟨d.toArray⟩ ⟨#[120]⟩ w)
    rw [strOf, e120] at HP2
    by_cases h2 : Lib.hasPrefix d [120] = true
    · rw [if_pos h2]
      rw [show Lib.trimPrefix d [120] = d.drop 1 from by unfold Lib.trimPrefix; rw [if_pos h2]; rfl, h2] at HP2
      have hdl2 : (d.drop 1).length ≤ 16777216 := by rw [List.length_drop]; omega
      have HC := parseUint_c w hw 16 (.inr rfl) ⟨(d.drop 1).toArray⟩ (by show (d.drop 1).toArray.size ≤ _; simp; omega)
      rw [strOf] at HC
      obtain ⟨s2, hs2⟩ : ∃ s2, s2 = (⟨(d.drop 1).toArray⟩ : ByteArray) := ⟨_, rfl⟩
      rw [← hs2] at HC HP2
      clear hs2
      obtain ⟨R, hR⟩ : ∃ R, R = puN 16 (d.drop 1) := ⟨_, rfl⟩
      have hle := fun k (e : R = some k) => puN_le (hR ▸ e)
      rw [← hR] at HC ⊢
      clear hd hd2 hdl hdl2 h1 h2 hl hw hR e35 e120
      cases R with
      | none =>
        have HC2 := Lib.hid HC
        clear HC hle
        go_enter Tryz.func157, Tryz.ntmps157
        go_wp2_with fail
        refine (HP1.out _).mono ?_
        rintro e w1 ⟨rfl, rfl⟩
        go_wp2_with fail
        refine (HP2.out _).mono ?_
        rintro e w1 ⟨rfl, rfl⟩
        go_wp2_with fail
        refine HC2.out.mono ?_
        rintro e w2 ⟨⟨m, N, rfl⟩, hb⟩
        have HB := Lib.hid hb
        clear hb
        go_wp2_with fail
        go_ret
        exact ⟨_, rfl, Rd.nil _, HB.out⟩
      | some n =>
        have hn := hle n rfl
        have HC2 := Lib.hid HC
        have HE := Lib.hid (fun w => encode_c w (n : Int) (by omega) (by omega))
        clear HC hle
        go_enter Tryz.func157, Tryz.ntmps157
        go_wp2_with fail
        refine (HP1.out _).mono ?_
        rintro e w1 ⟨rfl, rfl⟩
        go_wp2_with fail
        refine (HP2.out _).mono ?_
        rintro e w1 ⟨rfl, rfl⟩
        go_wp2_with fail
        refine HC2.out.mono ?_
        rintro e w2 ⟨rfl, hb⟩
        have HB := Lib.hid hb
        clear hb
        go_wp2_with fail
        refine (HE.out _).mono ?_
        rintro e w3 ⟨v, rfl, hr, hb⟩
        have HF := Lib.hid (And.intro hr (HB.out.trans (hb.mono HB.out.size)))
        clear hr hb
        go_wp2_with fail
        go_ret
        exact ⟨_, rfl, HF.out.1, HF.out.2⟩
    · rw [if_neg h2]
      rw [show Lib.trimPrefix d [120] = d from by unfold Lib.trimPrefix; rw [if_neg h2], Bool.eq_false_iff.2 h2] at HP2
      have HC := parseUint_c w hw 10 (.inl rfl) ⟨d.toArray⟩ (by show d.toArray.size ≤ _; simp; omega)
      rw [strOf] at HC
      obtain ⟨R, hR⟩ : ∃ R, R = puN 10 d := ⟨_, rfl⟩
      have hle := fun k (e : R = some k) => puN_le (hR ▸ e)
      rw [← hR] at HC ⊢
      clear hd hd2 hdl h1 h2 hl hw hR e35 e120
      cases R with
      | none =>
        have HC2 := Lib.hid HC
        clear HC hle
        go_enter Tryz.func157, Tryz.ntmps157
        go_wp2_with fail
        refine (HP1.out _).mono ?_
        rintro e w1 ⟨rfl, rfl⟩
        go_wp2_with fail
        refine (HP2.out _).mono ?_
        rintro e w1 ⟨rfl, rfl⟩
        go_wp2_with fail
        refine HC2.out.mono ?_
        rintro e w2 ⟨⟨m, N, rfl⟩, hb⟩
        have HB := Lib.hid hb
        clear hb
        go_wp2_with fail
        go_ret
        exact ⟨_, rfl, Rd.nil _, HB.out⟩
      | some n =>
        have hn := hle n rfl
        have HC2 := Lib.hid HC
        have HE := Lib.hid (fun w => encode_c w (n : Int) (by omega) (by omega))
        clear HC hle
        go_enter Tryz.func157, Tryz.ntmps157
        go_wp2_with fail
        refine (HP1.out _).mono ?_
        rintro e w1 ⟨rfl, rfl⟩
        go_wp2_with fail
        refine (HP2.out _).mono ?_
        rintro e w1 ⟨rfl, rfl⟩
        go_wp2_with fail
        refine HC2.out.mono ?_
        rintro e w2 ⟨rfl, hb⟩
        have HB := Lib.hid hb
        clear hb
        go_wp2_with fail
        refine (HE.out _).mono ?_
        rintro e w3 ⟨v, rfl, hr, hb⟩
        have HF := Lib.hid (And.intro hr (HB.out.trans (hb.mono HB.out.size)))
        clear hr hb
        go_wp2_with fail
        go_ret
        exact ⟨_, rfl, HF.out.1, HF.out.2⟩
  · rw [if_neg h1]
    rw [show Lib.trimPrefix l [35] = l from by unfold Lib.trimPrefix; rw [if_neg h1], Bool.eq_false_iff.2 h1] at HP1
    clear h1 hl hw e35 e120
    go_enter Tryz.func157, Tryz.ntmps157
    go_wp2_with (go_at_call 115; refine (HP1.out _).mono ?_; rintro e w1 ⟨rfl, rfl⟩)
    go_ret
    exact ⟨_, rfl, Rd.nil _, Below.refl _ _⟩
end Go.Proofs.YtpcajjbdlfookaaGreatDoor

/- xmllex: the plain model of the scanner: the program's way, and the reference's. -/
namespace Go.Proofs.YtpcajjbdlfookaaGreatDoor
open Go.RowKit
set_option linter.unusedVariables false

/-- How many blanks there are at a beginning. -/
def blN : List UInt8 → Nat
  | [] => 0
  | c :: r => if spaceB (c.toNat : Int) then blN r + 1 else 0
/-- The name of a tag or an attribute, by the program. -/
def tagP (r : List UInt8) : Option Nat :=
  if nameAt r = 0 then none else if Lib.hasPrefix (r.drop (nameAt r)) [58] then (if nameAt (r.drop (nameAt r + 1)) = 0 then none else some (nameAt r + 1 + nameAt (r.drop (nameAt r + 1)))) else some (nameAt r)
/-- By the reference. -/
def tagR (r : List UInt8) : Nat :=
  if nameAt r = 0 ∨ Lib.hasPrefix (r.drop (nameAt r)) [58] = false then nameAt r else if nameAt (r.drop (nameAt r + 1)) = 0 then nameAt r else nameAt r + 1 + nameAt (r.drop (nameAt r + 1))
/-- An instruction behind its mark, by the program. -/
def insP (t : List UInt8) : Option Nat :=
  if nameAt t = 0 then none else if Lib.hasPrefix (t.drop (nameAt t)) [63, 62] then some (nameAt t + 2) else
    if blN (t.drop (nameAt t)) = 0 then none else if Lib.index (t.drop (nameAt t + blN (t.drop (nameAt t)))) [63, 62] < 0 then none
    else some (nameAt t + blN (t.drop (nameAt t)) + (Lib.index (t.drop (nameAt t + blN (t.drop (nameAt t)))) [63, 62]).toNat + 2)
def insR (t : List UInt8) : Option Nat :=
  if nameAt t = 0 ∨ (Lib.hasPrefix (t.drop (nameAt t)) [63, 62] = false ∧ blN (t.drop (nameAt t)) = 0) then none else
    if Lib.index (t.drop (nameAt t)) [63, 62] < 0 then none else some ((Lib.index (t.drop (nameAt t)) [63, 62]).toNat + nameAt t + 2)
/-- A comment behind its mark. -/
def comP (t : List UInt8) : Option Nat :=
  if Lib.index t [45, 45] < 0 then none else if Lib.hasPrefix (t.drop ((Lib.index t [45, 45]).toNat + 2)) [62] then some ((Lib.index t [45, 45]).toNat + 3) else none
/-- Behind comments and instructions: where, and whether all went well. -/
def skpF (ins : List UInt8 → Option Nat) : Nat → List UInt8 → Nat → Nat × Bool
  | 0, _, a => (a, true)
  | f + 1, r, a => if Lib.hasPrefix r [60, 33, 45, 45] then (match comP (r.drop 4) with
      | none => (a, false)
      | some n => skpF ins f (r.drop (4 + n)) (a + 4 + n))
    else if Lib.hasPrefix r [60, 63] then (match ins (r.drop 2) with
      | none => (a, false)
      | some n => skpF ins f (r.drop (2 + n)) (a + 2 + n))
    else (a, true)

structure Tk where
  kind : Nat
  name : List UInt8
  attrs : List (List UInt8 × List UInt8)
  empty : Bool
  text : List UInt8
def noT : Tk := ⟨0, [], [], false, []⟩

/-- Text with its references resolved, or nothing. -/
def rsT (v : Bool) (xs : List UInt8) : Except Nat (List UInt8) := rsF (xs.length + 1) v xs 0 []
/-- A value behind its quote q, by the program. -/
def valQ (q : UInt8) (t : List UInt8) : Except Nat (List UInt8 × Nat) :=
  if Lib.index t [q] < 0 then .error 11 else if 0 ≤ Lib.index (t.take (Lib.index t [q]).toNat) [60] then .error 11 else
    match rsT false (pl true (t.take (Lib.index t [q]).toNat)) with
    | .error _ => .error 13
    | .ok s => .ok (s, (Lib.index t [q]).toNat + 2)
def valP (r : List UInt8) : Except Nat (List UInt8 × Nat) :=
  if Lib.hasPrefix r [39] then valQ 39 (r.drop 1) else if Lib.hasPrefix r [34] then valQ 34 (r.drop 1) else .error 11
def attrP (r : List UInt8) : Except Nat ((List UInt8 × List UInt8) × Nat) :=
  match tagP r with
  | none => .error 11
  | some n => if Lib.hasPrefix (r.drop (n + blN (r.drop n))) [61] then
      (match valP (r.drop (n + blN (r.drop n) + 1 + blN (r.drop (n + blN (r.drop n) + 1)))) with
      | .error e => .error e
      | .ok (s, m) => .ok ((r.take n, s), n + blN (r.drop n) + 1 + blN (r.drop (n + blN (r.drop n) + 1)) + m))
    else .error 11
/-- By the reference. -/
def valR (q : UInt8) (t : List UInt8) : Except Nat (List UInt8 × Nat) :=
  if Lib.index t [q] < 0 ∨ (0 ≤ Lib.index t [60] ∧ Lib.index t [60] < Lib.index t [q]) then .error 11 else
    match rsT true (t.take (Lib.index t [q]).toNat) with
    | .error _ => .error 13
    | .ok s => .ok (s, (Lib.index t [q]).toNat + 2)
def attrR (r : List UInt8) : Except Nat ((List UInt8 × List UInt8) × Nat) :=
  if tagR r = 0 ∨ Lib.hasPrefix (r.drop (tagR r + blN (r.drop (tagR r)))) [61] = false then .error 11 else
    let at2 := tagR r + blN (r.drop (tagR r)) + 1 + blN (r.drop (tagR r + blN (r.drop (tagR r)) + 1))
    if Lib.hasPrefix (r.drop at2) [39] = false ∧ Lib.hasPrefix (r.drop at2) [34] = false then .error 11 else
      match valR ((r.drop at2).headD 0) (r.drop (at2 + 1)) with
      | .error e => .error e
      | .ok (s, m) => .ok ((r.take (tagR r), s), at2 + m)
/-- The attributes of a tag, and its end: how many bytes in all. -/
def opnF (att : List UInt8 → Except Nat ((List UInt8 × List UInt8) × Nat)) : Nat → List UInt8 → Nat → List (List UInt8 × List UInt8) → Except Nat ((List (List UInt8 × List UInt8) × Bool) × Nat)
  | 0, _, a, l => .error 11
  | f + 1, r, a, l => if Lib.hasPrefix (r.drop (blN r)) [62] then .ok ((l, false), a + blN r + 1) else if Lib.hasPrefix (r.drop (blN r)) [47, 62] then .ok ((l, true), a + blN r + 2) else
    if blN r = 0 then .error 11 else match att (r.drop (blN r)) with
      | .error e => .error e
      | .ok (x, m) => opnF att f (r.drop (blN r + m)) (a + blN r + m) (l ++ [x])
/-- What stands behind '<'. -/
def opnP (t : List UInt8) : Except Nat (Tk × Nat) :=
  match tagP t with
  | none => .error 11
  | some n => match opnF attrP (t.length + 1) (t.drop n) n [] with
    | .error e => .error e
    | .ok ((l, b), m) => .ok (⟨1, t.take n, l, b, []⟩, m)
def opnR (t : List UInt8) : Except Nat (Tk × Nat) :=
  if tagR t = 0 then .error 11 else match opnF attrR (t.length + 1) (t.drop (tagR t)) (tagR t) [] with
    | .error e => .error e
    | .ok ((l, b), m) => .ok (⟨1, t.take (tagR t), l, b, []⟩, m)
/-- What stands behind '</'. -/
def cloP (t : List UInt8) : Except Nat (Tk × Nat) :=
  match tagP t with
  | none => .error 11
  | some n => if Lib.hasPrefix (t.drop (n + blN (t.drop n))) [62] then .ok (⟨2, t.take n, [], false, []⟩, n + blN (t.drop n) + 1) else .error 11
def cloR (t : List UInt8) : Except Nat (Tk × Nat) :=
  if tagR t = 0 ∨ Lib.hasPrefix (t.drop (tagR t + blN (t.drop (tagR t)))) [62] = false then .error 11 else .ok (⟨2, t.take (tagR t), [], false, []⟩, tagR t + blN (t.drop (tagR t)) + 1)
/-- Character data. -/
def datP (r : List UInt8) : Except Nat (Tk × Nat) :=
  let n := if Lib.index r [60] < 0 then r.length else (Lib.index r [60]).toNat
  if 0 ≤ Lib.index (r.take n) [93, 93, 62] then .error 11 else match rsT false (r.take n) with
    | .error _ => .error 13
    | .ok s => .ok (⟨3, [], [], false, s⟩, n)
/-- The token at a beginning that is not the end. -/
def tokG (opn clo : List UInt8 → Except Nat (Tk × Nat)) (r : List UInt8) : Except Nat (Tk × Nat) :=
  let up (n : Nat) (x : Except Nat (Tk × Nat)) : Except Nat (Tk × Nat) := match x with
    | .error e => .error e
    | .ok (t, m) => .ok (t, n + m)
  if Lib.hasPrefix r [60, 33, 91, 67, 68, 65, 84, 65, 91] then (if Lib.index (r.drop 9) [93, 93, 62] < 0 then .error 11 else .ok (⟨3, [], [], false, lns ((r.drop 9).take (Lib.index (r.drop 9) [93, 93, 62]).toNat)⟩, (Lib.index (r.drop 9) [93, 93, 62]).toNat + 12))
  else if Lib.hasPrefix r [60, 33, 68, 79, 67, 84, 89, 80, 69] then .error 12
  else if Lib.hasPrefix r [60, 47] then up 2 (clo (r.drop 2))
  else if Lib.hasPrefix r [60] then up 1 (opn (r.drop 1))
  else datP r
/-- The token at an offset: the token, the offset, the error. -/
def nxt (ins : List UInt8 → Option Nat) (opn clo : List UInt8 → Except Nat (Tk × Nat)) (xs : List UInt8) (at_ : Int) : Tk × Nat × Nat :=
  if at_ < 0 ∨ (xs.length : Int) < at_ then (noT, 0, 1) else
    match skpF ins (xs.length + 1) (xs.drop at_.toNat) at_.toNat with
    | (a, false) => (noT, a, 11)
    | (a, true) => if xs.drop a = [] then (⟨0, [], [], false, []⟩, a, 0) else
      match tokG opn clo (xs.drop a) with
      | .error e => (noT, a, e)
      | .ok (t, n) => (t, a + n, 0)
end Go.Proofs.YtpcajjbdlfookaaGreatDoor

/- xmllex: both ways to look at a tag come to the same. -/
namespace Go.Proofs.YtpcajjbdlfookaaGreatDoor
open Go.RowKit
set_option linter.unusedVariables false

theorem blN_le : ∀ r, blN r ≤ r.length
  | [] => Nat.le_refl _
  | c :: r => by
    have := blN_le r
    rw [blN]
    split <;> simp <;> omega
theorem blN_at : ∀ (r : List UInt8) (j : Nat), j < blN r → ∃ c, r[j]? = some c ∧ spaceB (c.toNat : Int) = true
  | [], j, h => by simp [blN] at h
  | c :: r, j, h => by
    rw [blN] at h
    split at h
    · rename_i hc
      cases j with
      | zero => exact ⟨c, rfl, hc⟩
      | succ j =>
        obtain ⟨d, h1, h2⟩ := blN_at r j (by omega)
        exact ⟨d, by simpa using h1, h2⟩
    · omega
theorem pre_head {r : List UInt8} {c : UInt8} {t : List UInt8} (h : Lib.hasPrefix r (c :: t) = true) : ∃ s, r = c :: s := by
  unfold Lib.hasPrefix at h
  cases r with
  | nil => simp [List.isPrefixOf] at h
  | cons a s =>
    simp only [List.isPrefixOf, Bool.and_eq_true, beq_iff_eq] at h
    exact ⟨s, by rw [h.1]⟩
theorem blN_zero {r : List UInt8} {c : UInt8} {s : List UInt8} (h : r = c :: s) (hc : spaceB (c.toNat : Int) = false) : blN r = 0 := by
  rw [h, blN, hc]
  rfl
theorem pre_not {c d : UInt8} {s t : List UInt8} (h : c ≠ d) : Lib.hasPrefix (c :: s) (d :: t) = false := by
  unfold Lib.hasPrefix
  simp [List.isPrefixOf, Ne.symm h]
theorem idx_pre {r m : List UInt8} (h : Lib.hasPrefix r m = true) : Lib.index r m = 0 := by
  unfold Lib.hasPrefix at h
  cases r with
  | nil =>
    cases m with
    | nil => rfl
    | cons a t => simp [List.isPrefixOf] at h
  | cons a s => unfold Lib.index; rw [if_pos h]
/-- Blanks ahead play no part where a mark is looked for. -/
theorem idx_blanks (r : List UInt8) (c : UInt8) (t : List UInt8) (hc : spaceB (c.toNat : Int) = false) :
    Lib.index r (c :: t) = if Lib.index (r.drop (blN r)) (c :: t) < 0 then -1 else Lib.index (r.drop (blN r)) (c :: t) + blN r := by
  have hno : Lib.NoOcc r (c :: t) (blN r) := fun j hj => by
    obtain ⟨d, h1, h2⟩ := blN_at r j hj
    cases ho : Lib.occAt r (c :: t) j with
    | false => rfl
    | true =>
      have := Lib.occAt_head rfl ho
      rw [h1] at this
      simp only [Option.some.injEq] at this
      rw [this, hc] at h2
      simp at h2
  rw [Lib.index_drop hno (blN_le r)]
  have := Lib.index_ge (r.drop (blN r)) (c :: t)
  by_cases h : Lib.index (r.drop (blN r)) (c :: t) = -1
  · rw [h]; rfl
  · rw [if_neg (by simpa using h), if_neg (by omega)]
theorem ins_eq (t : List UInt8) : insP t = insR t := by
  unfold insP insR
  by_cases h0 : nameAt t = 0
  · rw [if_pos h0, if_pos (.inl h0)]
  · rw [if_neg h0]
    obtain ⟨u, hu⟩ : ∃ u, u = t.drop (nameAt t) := ⟨_, rfl⟩
    rw [← hu]
    cases hp : Lib.hasPrefix u [63, 62] with
    | true =>
      rw [if_pos rfl, if_neg (by simp [h0]), idx_pre hp, if_neg (by omega)]
      simp
    | false =>
      rw [if_neg (by simp)]
      by_cases hb : blN u = 0
      · rw [if_pos hb, if_pos (.inr ⟨rfl, hb⟩)]
      · rw [if_neg hb, if_neg (show ¬ (nameAt t = 0 ∨ (false = false ∧ blN u = 0)) from by simp [h0, hb])]
        have hi := idx_blanks u 63 [62] (by decide)
        have hd : t.drop (nameAt t + blN u) = u.drop (blN u) := by rw [hu, List.drop_drop]
        rw [hd]
        obtain ⟨i, he⟩ : ∃ i, i = Lib.index (u.drop (blN u)) [63, 62] := ⟨_, rfl⟩
        rw [← he] at hi ⊢
        rw [hi]
        by_cases h : i < 0
        · rw [if_pos h, if_pos h, if_pos (by omega)]
        · rw [if_neg h, if_neg h, if_neg (by omega)]
          congr 1
          omega
theorem tag_some {r : List UInt8} {n : Nat} (h : tagP r = some n) : tagR r = n ∧ n ≠ 0 := by
  unfold tagP at h
  unfold tagR
  by_cases h0 : nameAt r = 0
  · rw [if_pos h0] at h; simp at h
  · rw [if_neg h0] at h
    cases hp : Lib.hasPrefix (r.drop (nameAt r)) [58] with
    | false =>
      rw [hp] at h
      simp at h
      rw [if_pos (.inr rfl)]
      omega
    | true =>
      rw [hp, if_pos rfl] at h
      rw [if_neg (by simp [h0])]
      by_cases h1 : nameAt (r.drop (nameAt r + 1)) = 0
      · rw [if_pos h1] at h; simp at h
      · rw [if_neg h1] at h ⊢
        simp at h
        omega
theorem tag_none {r : List UInt8} (h : tagP r = none) : tagR r = 0 ∨ ∃ s, r.drop (tagR r) = 58 :: s := by
  unfold tagP at h
  unfold tagR
  by_cases h0 : nameAt r = 0
  · rw [if_pos (.inl h0)]
    exact .inl h0
  · rw [if_neg h0] at h
    cases hp : Lib.hasPrefix (r.drop (nameAt r)) [58] with
    | false => rw [hp] at h; simp at h
    | true =>
      rw [hp, if_pos rfl] at h
      rw [if_neg (by simp [h0])]
      by_cases h1 : nameAt (r.drop (nameAt r + 1)) = 0
      · rw [if_pos h1]
        exact .inr (pre_head hp)
      · rw [if_neg h1] at h; simp at h
theorem clo_eq (t : List UInt8) : cloP t = cloR t := by
  unfold cloP cloR
  cases h : tagP t with
  | some n =>
    obtain ⟨h1, h2⟩ := tag_some h
    rw [h1]
    cases hp : Lib.hasPrefix (t.drop (n + blN (t.drop n))) [62] with
    | true => simp [h2, hp]
    | false => simp [h2, hp]
  | none =>
    rcases tag_none h with h0 | ⟨s, hs⟩
    · rw [if_pos (.inl h0)]
    · have hb : blN (t.drop (tagR t)) = 0 := blN_zero hs (by decide)
      rw [if_pos (.inr (by rw [hb, Nat.add_zero, hs]; rfl))]

/-- One byte, first. -/
theorem idx1_nil (q : UInt8) : Lib.index [] [q] = -1 := rfl
theorem idx1_cons (c : UInt8) (r : List UInt8) (q : UInt8) : Lib.index (c :: r) [q] = if c = q then 0 else if Lib.index r [q] < 0 then -1 else Lib.index r [q] + 1 := by
  have hg := Lib.index_ge r [q]
  rw [Lib.index]
  by_cases h : c = q
  · rw [if_pos h, if_pos (by simp [List.isPrefixOf, h])]
  · rw [if_neg h, if_neg (by simp [List.isPrefixOf, Ne.symm h])]
    by_cases h1 : Lib.index r [q] = -1
    · rw [h1]; rfl
    · rw [if_neg (by simpa using h1), if_neg (by omega)]
theorem idx1_ne {c q : UInt8} (h : c ≠ q) (r : List UInt8) : Lib.index (c :: r) [q] = if Lib.index r [q] < 0 then -1 else Lib.index r [q] + 1 := by rw [idx1_cons, if_neg h]
theorem idx1_lt : ∀ (t : List UInt8) (q : UInt8), Lib.index t [q] < t.length ∨ (t = [] ∧ Lib.index t [q] = -1)
  | [], q => .inr ⟨rfl, rfl⟩
  | c :: r, q => by
    left
    have := idx1_lt r q
    rw [idx1_cons, List.length_cons]
    split
    · omega
    · split
      · omega
      · rcases this with h | ⟨_, h⟩ <;> omega
theorem idx1_take : ∀ (t : List UInt8) (q : UInt8) (k : Nat), (0 ≤ Lib.index (t.take k) [q] ↔ (0 ≤ Lib.index t [q] ∧ Lib.index t [q] < k))
  | [], q, k => by simp [idx1_nil]
  | c :: r, q, 0 => by
    have := Lib.index_ge (c :: r) [q]
    simp [idx1_nil]
  | c :: r, q, k + 1 => by
    have ih := idx1_take r q k
    have hg := Lib.index_ge r [q]
    have hg2 := Lib.index_ge (r.take k) [q]
    rw [List.take_succ_cons, idx1_cons, idx1_cons]
    by_cases h : c = q
    · rw [if_pos h, if_pos h]; omega
    · rw [if_neg h, if_neg h]
      split <;> split <;> omega
theorem idx1_split : ∀ (t : List UInt8) (q : UInt8) (i : Nat), Lib.index t [q] = i → t = t.take i ++ q :: t.drop (i + 1) ∧ (∀ x ∈ t.take i, x ≠ q) ∧ i < t.length
  | [], q, i, h => by rw [idx1_nil] at h; omega
  | c :: r, q, i, h => by
    rw [idx1_cons] at h
    by_cases hc : c = q
    · rw [if_pos hc] at h
      obtain rfl : i = 0 := by omega
      exact ⟨by simp [hc], by simp, by simp⟩
    · rw [if_neg hc] at h
      have hg := Lib.index_ge r [q]
      by_cases h1 : Lib.index r [q] < 0
      · rw [if_pos h1] at h; omega
      · rw [if_neg h1] at h
        obtain ⟨j, rfl⟩ : ∃ j, i = j + 1 := ⟨i - 1, by omega⟩
        obtain ⟨e1, e2, e3⟩ := idx1_split r q j (by omega)
        refine ⟨?_, ?_, by simp; omega⟩
        · simp only [List.take_succ_cons, List.drop_succ_cons, List.cons_append]
          rw [← e1]
        · intro x hx
          rw [List.take_succ_cons, List.mem_cons] at hx
          rcases hx with rfl | hx
          · exact hc
          · exact e2 x hx
theorem idx1_none : ∀ (t : List UInt8) (q : UInt8), (Lib.index t [q] < 0 ↔ ∀ x ∈ t, x ≠ q)
  | [], q => by simp [idx1_nil]
  | c :: r, q => by
    have ih := idx1_none r q
    have hg := Lib.index_ge r [q]
    rw [idx1_cons]
    by_cases hc : c = q
    · rw [if_pos hc]
      constructor
      · intro h; omega
      · intro h; exact absurd hc (h c (by simp))
    · rw [if_neg hc]
      constructor
      · intro h x hx
        rcases List.mem_cons.1 hx with rfl | hx
        · exact hc
        · exact ih.1 (by split at h <;> omega) x hx
      · intro h
        rw [if_pos (ih.2 fun x hx => h x (by simp [hx]))]
        omega
theorem idx1_app : ∀ (p s : List UInt8) (q : UInt8), (∀ x ∈ p, x ≠ q) → Lib.index (p ++ q :: s) [q] = p.length
  | [], s, q, _ => by rw [List.nil_append, idx1_cons, if_pos rfl]; rfl
  | c :: p, s, q, h => by
    have ih := idx1_app p s q fun x hx => h x (by simp [hx])
    rw [List.cons_append, idx1_cons, if_neg (h c (by simp)), ih, if_neg (by omega)]
    simp
end Go.Proofs.YtpcajjbdlfookaaGreatDoor
