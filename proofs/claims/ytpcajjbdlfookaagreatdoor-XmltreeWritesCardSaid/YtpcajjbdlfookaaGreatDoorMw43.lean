/- xmltree: Can and Write of the reference. -/
import Derived.Test.YtpcajjbdlfookaaGreatDoorMw37
import Derived.Test.YtpcajjbdlfookaaGreatDoorMw42
import Derived.Shelf.Small.Wraps
import Derived.Shelf.Small.Strs
import Derived.Shelf.Strings.Search2
import Derived.Test.YtpcajjbdlfookaaGreatDoorProg
import Derived.Test.YtpcajjbdlfookaaGreatDoorMw29
import Derived.Test.YtpcajjbdlfookaaGreatDoorMw02
namespace Go.Proofs.YtpcajjbdlfookaaGreatDoor
open Go Go.RowKit Go.Deep
set_option linter.unusedVariables false
set_option linter.unusedSimpArgs false

set_option maxRecDepth 100000 in
set_option maxHeartbeats 4000000 in
theorem rCan_c (W0 : World) (D : Nat) (w : World) (v : Value) (t : ET) (h : ElemD Any W0 D v t) (hs : smK D t) (hb : Below W0.heap.size W0 w) : Calls Tryz.prog 15 #[v] w fun e w' => e = .returned (.bool (canK 24 t)) ∧ Below w.heap.size w w' := by
  have h' := h
  obtain ⟨av, kv, rfl, hpr, hkd⟩ := h
  obtain ⟨pa, ca, hav, -⟩ := hpr.form
  obtain ⟨ka, kc, hkv, -⟩ := hkd.form
  subst hav hkv
  obtain ⟨N, hN⟩ : ∃ N, N = t.attrs.length := ⟨_, rfl⟩
  obtain ⟨M, hM⟩ : ∃ M, M = t.kids.length := ⟨_, rfl⟩
  obtain ⟨S1, hS1⟩ : ∃ S, S = t.space := ⟨_, rfl⟩
  obtain ⟨S2, hS2⟩ : ∃ S, S = t.name := ⟨_, rfl⟩
  obtain ⟨S3, hS3⟩ : ∃ S, S = t.text := ⟨_, rfl⟩
  rw [← hN, ← hM, ← hS1, ← hS2, ← hS3] at h' ⊢
  have HZ := Lib.hid (box_belT w (.cells #[.string S1, .string S2, .slice pa N ca, .slice ka M kc, .string S3] 27))
  have HC := Lib.hid (rcan_c W0 D _ _ t 1 h' hs (hb.trans (HZ.out.mono hb.size)) (by omega) (by omega))
  rw [show ((1 : Nat) : Int) = 1 from rfl, show 25 - 1 = 24 from rfl] at HC
  obtain ⟨q, hq⟩ : ∃ q, canK 24 t = q := ⟨_, rfl⟩
  rw [hq] at HC ⊢
  clear h' hs hb hq hpr hkd hN hM hS1 hS2 hS3
  go_enter Tryz.func15, Tryz.ntmps15
  go_wp2_with fail
  refine (HC.out).mono ?_
  rintro e w1 ⟨rfl, hb⟩
  have HB := Lib.hid (HZ.out.trans (hb.mono HZ.out.size))
  clear hb
  go_wp2_with fail
  go_ret
  exact ⟨rfl, HB.out⟩

theorem RT.long {x y : List UInt8} (h : RT x y) : x.length ≤ 65536 ↔ y.length ≤ 65536 := by
  rcases h with rfl | ⟨h1, h2⟩
  · exact Iff.rfl
  · omega
theorem RT.eq {x y : List UInt8} (h : RT x y) (hx : x.length ≤ 65536) : x = y := by
  rcases h with rfl | ⟨h1, h2⟩
  · rfl
  · omega
set_option maxRecDepth 100000 in
set_option maxHeartbeats 4000000 in
theorem rxwrite_c (W0 : World) (D : Nat) (w : World) (v : Value) (t : ET) (h : ElemD Any W0 D v t) (hs : smK D t) (hb : Below W0.heap.size W0 w) : Calls Tryz.prog 13 #[v] w fun e w' => WrE D t e w' ∧ Below w.heap.size w w' := by
  have h' := h
  obtain ⟨av, kv, rfl, hpr, hkd⟩ := h
  obtain ⟨pa, ca, hav, -⟩ := hpr.form
  obtain ⟨ka, kc, hkv, -⟩ := hkd.form
  subst hav hkv
  obtain ⟨N, hN⟩ : ∃ N, N = t.attrs.length := ⟨_, rfl⟩
  obtain ⟨M, hM⟩ : ∃ M, M = t.kids.length := ⟨_, rfl⟩
  obtain ⟨S1, hS1⟩ : ∃ S, S = t.space := ⟨_, rfl⟩
  obtain ⟨S2, hS2⟩ : ∃ S, S = t.name := ⟨_, rfl⟩
  obtain ⟨S3, hS3⟩ : ∃ S, S = t.text := ⟨_, rfl⟩
  rw [← hN, ← hM, ← hS1, ← hS2, ← hS3] at h' ⊢
  have HZ := Lib.hid (box_belT w (.cells #[.string S1, .string S2, .slice pa N ca, .slice ka M kc, .string S3] 27))
  have HC := Lib.hid (rCan_c W0 D _ _ t h' hs (hb.trans (HZ.out.mono hb.size)))
  have HEL := Lib.hid (fun (W : World) (hW : Below w.heap.size w W) (hc : canK 24 t = true) => rwritten_c W0 D W _ t ⟨#[]⟩ 24 h' hs hc (by omega) (hb.trans (hW.mono hb.size)))
  obtain ⟨LD, hLD⟩ : ∃ LD, docT D t ⟨#[]⟩ = LD := ⟨_, rfl⟩
  obtain ⟨q, hq⟩ : ∃ q, canK 24 t = q := ⟨_, rfl⟩
  have HW1 := Lib.hid (show wrCode D t = if q = true then if LD.length ≤ 65536 then 0 else 4 else 1 from by unfold wrCode; rw [hLD, hq])
  have HW2 := Lib.hid (show wrDoc D t = if q = true then if LD.length ≤ 65536 then LD else [] else [] from by unfold wrDoc; rw [hLD, hq])
  rw [hq] at HC HEL
  rw [hLD] at HEL
  clear h' hs hb hpr hkd hN hM hS1 hS2 hS3 hLD hq
  unfold WrE
  obtain ⟨RC, hRC⟩ : ∃ R, wrCode D t = R := ⟨_, rfl⟩
  obtain ⟨RD, hRD⟩ : ∃ R, wrDoc D t = R := ⟨_, rfl⟩
  rw [hRC] at HW1 ⊢
  rw [hRD] at HW2 ⊢
  clear hRC hRD
  go_enter Tryz.func13, Tryz.ntmps13
  go_wp2_with fail
  refine (HC.out).mono ?_
  rintro e w1 ⟨rfl, hb⟩
  have HB1 := Lib.hid (HZ.out.trans (hb.mono HZ.out.size))
  obtain ⟨c0, c1, c2, c3, c4, cz⟩ := box5 hb
  clear hb
  cases q
  · have HE1 := Lib.hid (show RC = 1 from HW1.out)
    have HE2 := Lib.hid (show RD = [] from HW2.out)
    go_wp2_with fail
    go_ret2
    exact ⟨⟨none, 0, 0, by rw [HE1.out]; rfl, by rw [HE2.out]; exact Rd.nil _⟩, HB1.out⟩
  have HEL2 := Lib.hid (HEL.out w1 HB1.out rfl)
  go_wp2_with fail
  refine (HEL2.out).mono ?_
  rintro e w2 ⟨⟨S, rfl, hrt, hss⟩, hb⟩
  have HB2 := Lib.hid (HB1.out.trans (hb.mono HB1.out.size))
  have HRT := Lib.hid hrt
  clear hb hrt c0 c1 c2 c3 c4 cz
  by_cases hlong : 65536 < S.size
  · have hql : decide ((65536 : Int) < (S.size : Int)) = true := decide_eq_true (by omega)
    have hgt : ¬ LD.length ≤ 65536 := by rw [← HRT.out.long, size_data]; omega
    have HE1 := Lib.hid (show RC = 4 from by rw [HW1.out, if_pos trivial, if_neg hgt])
    have HE2 := Lib.hid (show RD = [] from by rw [HW2.out, if_pos trivial, if_neg hgt])
    clear hgt hlong
    go_wp2_with fail
    go_ret2
    exact ⟨⟨none, 0, 0, by rw [HE1.out]; rfl, by rw [HE2.out]; exact Rd.nil _⟩, HB2.out⟩
  · have hql : decide ((65536 : Int) < (S.size : Int)) = false := decide_eq_false (by omega)
    have hle0 : S.data.toList.length ≤ 65536 := by rw [size_data]; omega
    have hle : LD.length ≤ 65536 := HRT.out.long.1 hle0
    have HE1 := Lib.hid (show RC = 0 from by rw [HW1.out, if_pos trivial, if_pos hle])
    have HE2 := Lib.hid (show RD = S.data.toList from by rw [HW2.out, if_pos trivial, if_pos hle, ← HRT.out.eq hle0])
    have hcv := run_bytes_of_string (P := Tryz.prog) w2 9 22 5 S (by kernel_rfl) (by kernel_rfl) (by kernel_rfl)
    have hg1 := grownCap_ge w2 S.size 0 5
    have hg2 := grownCap_le_maxLen w2 S.size 0 5 (by unfold maxLen; omega)
    generalize grownCap w2 S.size 0 5 = g at hcv hg1 hg2
    have HRD := Lib.hid (rd_bytes w2.drew S 5 g ((bytesRow S g).size, (bytesRow S g).size + 1) hg1 hg2)
    have HB := Lib.hid (show Below w.heap.size w (w2.drew.alloc (.cells (bytesRow S g) 5 ((bytesRow S g).size, (bytesRow S g).size + 1))) from (HB2.out.drew).alloc (HB2.out.size) _)
    clear hg1 hg2 hle hle0 hlong
    go_wp2_with fail
    go_ret2
    exact ⟨⟨_, _, _, by rw [HE1.out]; rfl, by rw [HE2.out]; exact HRD.out⟩, HB.out⟩
end Go.Proofs.YtpcajjbdlfookaaGreatDoor

/-
  DERIVED: THE SHELF's CONTRACTS AT THIS DUMP, IN PLAIN WORDS (tools/lay-plain.mjs out of 'YtpcajjbdlfookaaGreatDoorSn.lean', which tools/lay-shelf.mjs wrote): THE SAME DECLARATIONS UNDER THE SAME NAMES: 'import', 'namespace', 'open', 'def', 'theorem' AND NOTHING ELSE: no command of the shelf's: FOR A HAND-IN. Each laying: the table of numbers ('.._ren') and one theorem, a field a fact of the dump's own or the kernel's comparison; each contract: ONE APPLICATION.
-/
namespace Go.Proofs
open Go.Shelf
def Tryz.lays219_ren : Go.Shelf.Ren := ⟨fun | 219 => 140 | 217 => 150 | 225 => 151 | 224 => 144 | 267 => 152 | 266 => 158 | 314 => 159 | n => n, fun | 9 => 9 | 3 => 3 | 4 => 4 | 5 => 5 | 46 => 137 | 146 => 189 | 51 => 188 | n => n, fun | 1 => 2 | n => n⟩
theorem Tryz.lays219 : Go.Proofs.Lays.n219 Tryz.prog Tryz.lays219_ren := {
  mixed := by kernel_rfl
  f217 := Tryz.func150.trans (congrArg some (by kernel_rfl))
  f219 := Tryz.func140.trans (congrArg some (by kernel_rfl))
  f224 := Tryz.func144.trans (congrArg some (by kernel_rfl))
  f225 := Tryz.func151.trans (congrArg some (by kernel_rfl))
  f266 := Tryz.func158.trans (congrArg some (by kernel_rfl))
  f267 := Tryz.func152.trans (congrArg some (by kernel_rfl))
  f314 := Tryz.func159.trans (congrArg some (by kernel_rfl))
  t3 := Tryz.underlying3
  a3 := Tryz.isAgg3
  z3 := Tryz.sizeOf3
  v3 := Tryz.zeroValue3
  t4 := Tryz.underlying4
  a4 := Tryz.isAgg4
  z4 := Tryz.sizeOf4
  v4 := Tryz.zeroValue4
  t5 := Tryz.underlying5
  a5 := Tryz.isAgg5
  z5 := Tryz.sizeOf5
  v5 := Tryz.zeroValue5
  t9 := Tryz.underlying9
  a9 := Tryz.isAgg9
  z9 := Tryz.sizeOf9
  v9 := Tryz.zeroValue9
  t46 := Tryz.underlying137
  a46 := Tryz.isAgg137
  z46 := Tryz.sizeOf137
  v46 := Tryz.zeroValue137
  t51 := Tryz.underlying188
  a51 := Tryz.isAgg188
  z51 := Tryz.sizeOf188
  v51 := Tryz.zeroValue188
  t146 := Tryz.underlying189
  a146 := Tryz.isAgg189
  z146 := Tryz.sizeOf189
  v146 := Tryz.zeroValue189
  g1 := by kernel_rfl }
theorem Tryz.stringslite_Index_one (s : ByteArray) (c : UInt8) (w : World) :
    Calls Tryz.prog 140 #[.string s, .string ⟨#[c]⟩] w fun e w' => e = .returned (.int .i64 (Lib.indexByte s.data.toList c)) ∧ w' = w := Any.stringslite_Index_one Tryz.lays219 s c w
end Go.Proofs

/- xmltree: split, declares and blank. -/
namespace Go.Proofs.YtpcajjbdlfookaaGreatDoor
open Go Go.RowKit Go.Deep Go.Shelf
set_option linter.unusedVariables false
set_option linter.unusedSimpArgs false

def cutC : List UInt8 → List UInt8 × List UInt8
  | [] => ([], [])
  | c :: r => if c = 58 then ([], r) else (c :: (cutC r).1, (cutC r).2)
theorem cutC_none (l : List UInt8) (h : (58 : UInt8) ∉ l) : cutC l = (l, []) := by
  induction l with
  | nil => rfl
  | cons c r ih =>
    have hc : c ≠ 58 := fun e => h (by simp [e])
    rw [cutC, if_neg hc, ih (fun e => h (by simp [e]))]
theorem cutC_of (a b : List UInt8) (h : (58 : UInt8) ∉ a) : cutC (a ++ 58 :: b) = (a, b) := by
  induction a with
  | nil => simp [cutC]
  | cons c r ih =>
    have hc : c ≠ 58 := fun e => h (by simp [e])
    rw [List.cons_append, cutC, if_neg hc, ih (fun e => h (by simp [e]))]
/-- The prefix of a tag name, and the rest. -/
def splM (l : List UInt8) : List UInt8 × List UInt8 := if 58 ∈ l then cutC l else ([], l)
theorem idxT_cases (c : UInt8) (l : List UInt8) : (Lib.indexByte l c = -1 ∧ c ∉ l) ∨ ∃ k : Nat, Lib.indexByte l c = (k : Int) ∧ k < l.length ∧ c ∉ l.take k ∧ l = l.take k ++ c :: l.drop (k + 1) := by
  induction l with
  | nil => exact .inl ⟨rfl, by simp⟩
  | cons a r ih =>
    unfold Lib.indexByte
    by_cases h : a = c
    · subst h
      exact .inr ⟨0, by simp, by simp, by simp, by simp⟩
    · rcases ih with ⟨hi, hn⟩ | ⟨k, hi, hk, hn, hc⟩
      · have h' : (a == c) = false := beq_eq_false_iff_ne.2 h
        exact .inl ⟨by rw [h', hi]; rfl, by simp [hn, Ne.symm h]⟩
      · have h' : (a == c) = false := beq_eq_false_iff_ne.2 h
        have h2 : ((k : Int) == -1) = false := by rw [beq_eq_false_iff_ne]; omega
        refine .inr ⟨k + 1, ?_, by simp; omega, by simp [hn, Ne.symm h], by simpa using hc⟩
        rw [h', hi, h2]
        rfl
theorem cutToT (s : ByteArray) (z : Nat) : s.extract 0 z = ⟨(s.data.toList.take z).toArray⟩ := by
  apply ByteArray.ext
  rw [ByteArray.data_extract]
  apply Array.toList_inj.1
  rw [Array.toList_extract, List.extract_eq_take_drop]
  simp
theorem cutFromT (s : ByteArray) (k : Nat) : s.extract k s.size = ⟨(s.data.toList.drop k).toArray⟩ := by
  apply ByteArray.ext
  rw [ByteArray.data_extract]
  apply Array.toList_inj.1
  rw [Array.toList_extract, List.extract_eq_take_drop]
  show _ = s.data.toList.drop k
  rw [List.take_of_length_le (by rw [List.length_drop, Array.length_toList]; exact Nat.le_refl _)]

set_option maxRecDepth 100000 in
theorem cut1C_c (s : ByteArray) (hs : s.size ≤ 140737488355328) (w : World) : Calls Tryz.prog 132 #[.string s, .string ⟨#[58]⟩] w fun e w' =>
    e = .returned (.tuple #[.string ⟨(cutC s.data.toList).1.toArray⟩, .string ⟨(cutC s.data.toList).2.toArray⟩, .bool (decide (58 ∈ s.data.toList))]) ∧ ∃ q, w' = w.drewN q := by
  have hrl : s.data.toList.length = s.size := Array.length_toList
  rcases idxT_cases 58 s.data.toList with ⟨hi, hnot⟩ | ⟨k, hi, hk, hnot, hcut⟩
  · have HC := Lib.hid (fun w => Tryz.stringslite_Index_one s 58 w)
    rw [hi] at HC
    have HH := Lib.hid (cutC_none _ hnot)
    have HD := Lib.hid (show decide ((58 : UInt8) ∈ s.data.toList) = false from decide_eq_false hnot)
    clear hi hnot hrl
    go_enter Tryz.func132, Tryz.ntmps132
    go_wp2_with (go_at_call 140; refine (HC.out _).mono ?_; rintro e w' ⟨rfl, rfl⟩)
    go_ret3
    exact ⟨by rw [HH.out, HD.out]; rfl, 0, rfl⟩
  · have HC := Lib.hid (fun w => Tryz.stringslite_Index_one s 58 w)
    rw [hi] at HC
    have hh : cutC s.data.toList = (s.data.toList.take k, s.data.toList.drop (k + 1)) := by
      conv => lhs; rw [hcut]
      exact cutC_of _ _ hnot
    have HH := Lib.hid hh
    have HD := Lib.hid (show decide ((58 : UInt8) ∈ s.data.toList) = true from decide_eq_true (by rw [hcut]; simp))
    have hk0 : k ≤ s.size := by omega
    have hk1 : k + 1 ≤ s.size := by omega
    clear hi hnot hrl hcut hk hh
    go_enter Tryz.func132, Tryz.ntmps132
    go_wp2_with (go_at_call 140; refine (HC.out _).mono ?_; rintro e w' ⟨rfl, rfl⟩)
    go_quiet (fail)
    go_wp2_with fail
    go_ret3
    exact ⟨by rw [HH.out, HD.out, ← cutToT, ← cutFromT]; rfl, _, rfl⟩
set_option maxRecDepth 100000 in
theorem cutC_c (s : ByteArray) (hs : s.size ≤ 140737488355328) (w : World) : Calls Tryz.prog 116 #[.string s, .string ⟨#[58]⟩] w fun e w' =>
    e = .returned (.tuple #[.string ⟨(cutC s.data.toList).1.toArray⟩, .string ⟨(cutC s.data.toList).2.toArray⟩, .bool (decide (58 ∈ s.data.toList))]) ∧ ∃ q, w' = w.drewN q := by
  have HC := fun w => cut1C_c s hs w
  generalize (⟨(cutC s.data.toList).1.toArray⟩ : ByteArray) = A at *
  generalize (⟨(cutC s.data.toList).2.toArray⟩ : ByteArray) = D at *
  generalize decide ((58 : UInt8) ∈ s.data.toList) = b at *
  have HC' := Lib.hid HC
  clear HC
  go_enter Tryz.func116, Tryz.ntmps116
  go_wp2_with (go_at_call 132; refine (HC'.out _).mono ?_; rintro e w' ⟨rfl, q, rfl⟩)
  go_ret3
  exact ⟨rfl, _, rfl⟩
set_option maxRecDepth 100000 in
theorem split_c (w : World) (s : ByteArray) (hs : s.size ≤ 140737488355328) : Calls Tryz.prog 90 #[.string s] w fun e w' =>
    e = .returned (.tuple #[.string ⟨(splM s.data.toList).1.toArray⟩, .string ⟨(splM s.data.toList).2.toArray⟩]) ∧ Below w.heap.size w w' := by
  have HC := Lib.hid (fun w => cutC_c s hs w)
  by_cases h : (58 : UInt8) ∈ s.data.toList
  · have HM := Lib.hid (show splM s.data.toList = cutC s.data.toList from if_pos h)
    rw [decide_eq_true h] at HC
    go_enter Tryz.func90, Tryz.ntmps90
    go_wp2_with (go_at_call 116; refine (HC.out _).mono ?_; rintro e w' ⟨rfl, q, rfl⟩)
    go_ret2
    exact ⟨by rw [HM.out]; rfl, Go.below_drewN (Below.refl _ _) _⟩
  · have HM := Lib.hid (show splM s.data.toList = ([], s.data.toList) from if_neg h)
    rw [decide_eq_false h] at HC
    go_enter Tryz.func90, Tryz.ntmps90
    go_wp2_with (go_at_call 116; refine (HC.out _).mono ?_; rintro e w' ⟨rfl, q, rfl⟩)
    go_ret2
    exact ⟨by rw [HM.out]; rfl, Go.below_drewN (Below.refl _ _) _⟩
/-- Whether an attribute declares, and which prefix. -/
def dclM (l : List UInt8) : List UInt8 × Bool := if l = [120, 109, 108, 110, 115] then ([], true) else (Lib.trimPrefix l [120, 109, 108, 110, 115, 58], Lib.hasPrefix l [120, 109, 108, 110, 115, 58])
set_option maxRecDepth 100000 in
theorem declares_c (w : World) (s : ByteArray) : Calls Tryz.prog 88 #[.string s] w fun e w' =>
    e = .returned (.tuple #[.string ⟨(dclM s.data.toList).1.toArray⟩, .bool (dclM s.data.toList).2]) ∧ w' = w := by
  have HC := Lib.hid (fun w => Tryz.strings_CutPrefix s ⟨#[120, 109, 108, 110, 115, 58]⟩ w)
  have hs : s.toList = s.data.toList := by rw [ByteArray.toList_eq]
  by_cases h : s.data.toList = [120, 109, 108, 110, 115]
  · have HM := Lib.hid (show dclM s.data.toList = ([], true) from if_pos h)
    have he : (s.data.toList == [120, 109, 108, 110, 115]) = true := by rw [beq_iff_eq]; exact h
    clear h
    go_enter Tryz.func88, Tryz.ntmps88
    go_wp2_with fail
    go_ret2
    exact ⟨by rw [HM.out]; rfl, rfl⟩
  · have HM := Lib.hid (show dclM s.data.toList = (Lib.trimPrefix s.data.toList [120, 109, 108, 110, 115, 58], Lib.hasPrefix s.data.toList [120, 109, 108, 110, 115, 58]) from if_neg h)
    have he : (s.data.toList == [120, 109, 108, 110, 115]) = false := by rw [beq_eq_false_iff_ne]; exact h
    clear h
    go_enter Tryz.func88, Tryz.ntmps88
    go_wp2_with (go_at_call 115; refine (HC.out _).mono ?_; rintro e w' ⟨rfl, rfl⟩)
    go_ret2
    exact ⟨by rw [HM.out]; rfl, rfl⟩
end Go.Proofs.YtpcajjbdlfookaaGreatDoor
