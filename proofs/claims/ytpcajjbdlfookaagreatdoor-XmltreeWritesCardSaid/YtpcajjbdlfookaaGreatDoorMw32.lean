/- xmllex: Escape. -/
import Derived.Test.YtpcajjbdlfookaaGreatDoorMw14
import Derived.Test.YtpcajjbdlfookaaGreatDoorMw30
import Derived.Test.YtpcajjbdlfookaaGreatDoorMw31
import Derived.Test.YtpcajjbdlfookaaGreatDoorMw19
import Derived.Test.YtpcajjbdlfookaaGreatDoorMw27
import Derived.Test.YtpcajjbdlfookaaGreatDoorMw20
namespace Go.Proofs.YtpcajjbdlfookaaGreatDoor
open Go.RowKit
set_option linter.unusedVariables false

def escB (x : UInt8) : List UInt8 :=
  if x.toNat = 38 then [38, 97, 109, 112, 59] else if x.toNat = 60 then [38, 108, 116, 59] else if x.toNat = 62 then [38, 103, 116, 59] else if x.toNat = 34 then [38, 113, 117, 111, 116, 59]
  else if x.toNat = 9 then [38, 35, 57, 59] else if x.toNat = 10 then [38, 35, 49, 48, 59] else if x.toNat = 13 then [38, 35, 49, 51, 59] else [x]
def escF (l : List UInt8) : List UInt8 := l.flatMap escB
theorem escB_len (x : UInt8) : (escB x).length ≤ 6 := by
  unfold escB
  repeat' split
  all_goals simp
theorem escF_len (l : List UInt8) : (escF l).length ≤ 6 * l.length := by
  induction l with
  | nil => simp [escF]
  | cons x l ih =>
    have := escB_len x
    unfold escF at ih ⊢
    rw [List.flatMap_cons, List.length_append, List.length_cons]
    omega
theorem escF_take {l : List UInt8} {k : Nat} (h : k < l.length) : escF (l.take (k + 1)) = escF (l.take k) ++ escB l[k] := by
  unfold escF
  rw [List.take_add_one, List.flatMap_append]
  simp [h]

def EscI (w : World) (l : List UInt8) (k : Nat) (wr : World) : Prop := BI w.heap.size w.heap.size (escF (l.take k)) wr ∧ Below w.heap.size w wr
set_option maxRecDepth 100000 in
set_option maxHeartbeats 4000000 in
theorem escape_c (w : World) (s : ByteArray) (hs : s.size ≤ 1048576) : Calls Tryz.prog 75 #[.string s] w fun e w' => e = .returned (.string ⟨(escF s.data.toList).toArray⟩) ∧ Below w.heap.size w w' := by
  obtain ⟨l, hl⟩ : ∃ l, l = s.data.toList := ⟨_, rfl⟩
  have hln : l.length = s.size := by rw [hl, Array.length_toList]; rfl
  have HI0 := Lib.hid (show EscI w l 0 (w.alloc (.cells #[.pointer none, .slice none 0 0] 131)) from ⟨Lib.fresh_isBuilder 131 5 w, bel_alloc w _⟩)
  rw [← hl]
  have HL := Lib.hid hl
  clear hl
  go_enter Tryz.func75, Tryz.ntmps75
  go_wp2_with fail
  go_loopw [7] (fun s7 wr => ∃ k : Nat, s7 = .int .i64 k ∧ k ≤ s.size ∧ EscI w l k wr) (fun s7 _ => s.size - (intOf s7).toNat)
  case atStart => exact ⟨0, rfl, by omega, HI0.out⟩
  case round =>
    obtain ⟨k, rfl, hk, hi⟩ := hrel
    by_cases hkn : k < s.size
    · obtain ⟨x, hx⟩ : ∃ x, s[k]'hkn = x := ⟨_, rfl⟩
      have hxl : l[k]'(by omega) = x := by
        rw [← hx]
        have hl' := HL.out
        subst hl'
        simp
        rfl
      have hT := escF_take (l := l) (k := k) (by omega)
      rw [hxl] at hT
      have hob : (escF (l.take k)).length ≤ 8388608 := by have := escF_len (l.take k); rw [List.length_take] at this; omega
      have HSZ := Lib.hid hi.2.size
      have HNX := Lib.hid (fun (t : List UInt8) (ht : escB x = t) (wx : World) (hb : BA w.heap.size w.heap.size (escF (l.take k) ++ t) wx) (hx : Below w.heap.size wr wx) => show EscI w l (k + 1) wx from by
        refine ⟨?_, hi.2.trans hx⟩
        rw [hT, ht]
        exact .inr hb)
      have HWS := Lib.hid (fun (t : List UInt8) (ht : t.length ≤ 8388608) => wstring wr _ _ (escF (l.take k)) t hi.1 (by omega) (by omega) hi.2.size)
      have HWB := Lib.hid (wbyte wr _ _ (escF (l.take k)) x hi.1 (by omega) hi.2.size)
      clear hT hob hxl hi
      by_cases h38 : x.toNat = 38
      · have HE := Lib.hid (show escB x = [38, 97, 109, 112, 59] from by unfold escB; rw [if_pos h38])
        have t38 : ((x.toNat : Int) == 38) = true := by simp; omega
        clear h38
        go_wp2_with fail
        refine (HWS.out [38, 97, 109, 112, 59] (by decide)).mono ?_
        rintro e w2 ⟨⟨n, rfl⟩, hba, hb⟩
        have HN2 := Lib.hid (HNX.out _ HE.out w2 hba hb)
        clear hba hb
        go_wp2_with fail
        go_roundw
        case rel => exact ⟨k + 1, by go_num, by omega, HN2.out⟩
        case measure => simp [intOf]; omega
      by_cases h60 : x.toNat = 60
      · have HE := Lib.hid (show escB x = [38, 108, 116, 59] from by unfold escB; rw [if_neg h38, if_pos h60])
        have t38 : ((x.toNat : Int) == 38) = false := by simp; omega
        have t60 : ((x.toNat : Int) == 60) = true := by simp; omega
        clear h38 h60
        go_wp2_with fail
        refine (HWS.out [38, 108, 116, 59] (by decide)).mono ?_
        rintro e w2 ⟨⟨n, rfl⟩, hba, hb⟩
        have HN2 := Lib.hid (HNX.out _ HE.out w2 hba hb)
        clear hba hb
        go_wp2_with fail
        go_roundw
        case rel => exact ⟨k + 1, by go_num, by omega, HN2.out⟩
        case measure => simp [intOf]; omega
      by_cases h62 : x.toNat = 62
      · have HE := Lib.hid (show escB x = [38, 103, 116, 59] from by unfold escB; rw [if_neg h38, if_neg h60, if_pos h62])
        have t38 : ((x.toNat : Int) == 38) = false := by simp; omega
        have t60 : ((x.toNat : Int) == 60) = false := by simp; omega
        have t62 : ((x.toNat : Int) == 62) = true := by simp; omega
        clear h38 h60 h62
        go_wp2_with fail
        refine (HWS.out [38, 103, 116, 59] (by decide)).mono ?_
        rintro e w2 ⟨⟨n, rfl⟩, hba, hb⟩
        have HN2 := Lib.hid (HNX.out _ HE.out w2 hba hb)
        clear hba hb
        go_wp2_with fail
        go_roundw
        case rel => exact ⟨k + 1, by go_num, by omega, HN2.out⟩
        case measure => simp [intOf]; omega
      by_cases h34 : x.toNat = 34
      · have HE := Lib.hid (show escB x = [38, 113, 117, 111, 116, 59] from by unfold escB; rw [if_neg h38, if_neg h60, if_neg h62, if_pos h34])
        have t38 : ((x.toNat : Int) == 38) = false := by simp; omega
        have t60 : ((x.toNat : Int) == 60) = false := by simp; omega
        have t62 : ((x.toNat : Int) == 62) = false := by simp; omega
        have t34 : ((x.toNat : Int) == 34) = true := by simp; omega
        clear h38 h60 h62 h34
        go_wp2_with fail
        refine (HWS.out [38, 113, 117, 111, 116, 59] (by decide)).mono ?_
        rintro e w2 ⟨⟨n, rfl⟩, hba, hb⟩
        have HN2 := Lib.hid (HNX.out _ HE.out w2 hba hb)
        clear hba hb
        go_wp2_with fail
        go_roundw
        case rel => exact ⟨k + 1, by go_num, by omega, HN2.out⟩
        case measure => simp [intOf]; omega
      by_cases h9 : x.toNat = 9
      · have HE := Lib.hid (show escB x = [38, 35, 57, 59] from by unfold escB; rw [if_neg h38, if_neg h60, if_neg h62, if_neg h34, if_pos h9])
        have t38 : ((x.toNat : Int) == 38) = false := by simp; omega
        have t60 : ((x.toNat : Int) == 60) = false := by simp; omega
        have t62 : ((x.toNat : Int) == 62) = false := by simp; omega
        have t34 : ((x.toNat : Int) == 34) = false := by simp; omega
        have t9 : ((x.toNat : Int) == 9) = true := by simp; omega
        clear h38 h60 h62 h34 h9
        go_wp2_with fail
        refine (HWS.out [38, 35, 57, 59] (by decide)).mono ?_
        rintro e w2 ⟨⟨n, rfl⟩, hba, hb⟩
        have HN2 := Lib.hid (HNX.out _ HE.out w2 hba hb)
        clear hba hb
        go_wp2_with fail
        go_roundw
        case rel => exact ⟨k + 1, by go_num, by omega, HN2.out⟩
        case measure => simp [intOf]; omega
      by_cases h10 : x.toNat = 10
      · have HE := Lib.hid (show escB x = [38, 35, 49, 48, 59] from by unfold escB; rw [if_neg h38, if_neg h60, if_neg h62, if_neg h34, if_neg h9, if_pos h10])
        have t38 : ((x.toNat : Int) == 38) = false := by simp; omega
        have t60 : ((x.toNat : Int) == 60) = false := by simp; omega
        have t62 : ((x.toNat : Int) == 62) = false := by simp; omega
        have t34 : ((x.toNat : Int) == 34) = false := by simp; omega
        have t9 : ((x.toNat : Int) == 9) = false := by simp; omega
        have t10 : ((x.toNat : Int) == 10) = true := by simp; omega
        clear h38 h60 h62 h34 h9 h10
        go_wp2_with fail
        refine (HWS.out [38, 35, 49, 48, 59] (by decide)).mono ?_
        rintro e w2 ⟨⟨n, rfl⟩, hba, hb⟩
        have HN2 := Lib.hid (HNX.out _ HE.out w2 hba hb)
        clear hba hb
        go_wp2_with fail
        go_roundw
        case rel => exact ⟨k + 1, by go_num, by omega, HN2.out⟩
        case measure => simp [intOf]; omega
      by_cases h13 : x.toNat = 13
      · have HE := Lib.hid (show escB x = [38, 35, 49, 51, 59] from by unfold escB; rw [if_neg h38, if_neg h60, if_neg h62, if_neg h34, if_neg h9, if_neg h10, if_pos h13])
        have t38 : ((x.toNat : Int) == 38) = false := by simp; omega
        have t60 : ((x.toNat : Int) == 60) = false := by simp; omega
        have t62 : ((x.toNat : Int) == 62) = false := by simp; omega
        have t34 : ((x.toNat : Int) == 34) = false := by simp; omega
        have t9 : ((x.toNat : Int) == 9) = false := by simp; omega
        have t10 : ((x.toNat : Int) == 10) = false := by simp; omega
        have t13 : ((x.toNat : Int) == 13) = true := by simp; omega
        clear h38 h60 h62 h34 h9 h10 h13
        go_wp2_with fail
        refine (HWS.out [38, 35, 49, 51, 59] (by decide)).mono ?_
        rintro e w2 ⟨⟨n, rfl⟩, hba, hb⟩
        have HN2 := Lib.hid (HNX.out _ HE.out w2 hba hb)
        clear hba hb
        go_wp2_with fail
        go_roundw
        case rel => exact ⟨k + 1, by go_num, by omega, HN2.out⟩
        case measure => simp [intOf]; omega
      have HE := Lib.hid (show escB x = [x] from by unfold escB; rw [if_neg h38, if_neg h60, if_neg h62, if_neg h34, if_neg h9, if_neg h10, if_neg h13])
      have t38 : ((x.toNat : Int) == 38) = false := by simp; omega
      have t60 : ((x.toNat : Int) == 60) = false := by simp; omega
      have t62 : ((x.toNat : Int) == 62) = false := by simp; omega
      have t34 : ((x.toNat : Int) == 34) = false := by simp; omega
      have t9 : ((x.toNat : Int) == 9) = false := by simp; omega
      have t10 : ((x.toNat : Int) == 10) = false := by simp; omega
      have t13 : ((x.toNat : Int) == 13) = false := by simp; omega
      clear h38 h60 h62 h34 h9 h10 h13
      go_wp2_with fail
      refine HWB.out.mono ?_
      rintro e w2 ⟨rfl, hba, hb⟩
      have HN2 := Lib.hid (HNX.out _ HE.out w2 hba hb)
      clear hba hb
      go_wp2_with fail
      go_roundw
      case rel => exact ⟨k + 1, by go_num, by omega, HN2.out⟩
      case measure => simp [intOf]; omega
    · have HBT := Lib.hid (btext wr w.heap.size w.heap.size _ hi.1 hi.2.size)
      have HF := Lib.hid (show l.take k = l from List.take_of_length_le (by omega))
      rw [HF.out] at HBT
      have HB := Lib.hid hi.2
      clear hi
      go_wp2_with fail
      refine HBT.out.mono ?_
      rintro e w2 ⟨rfl, hb⟩
      have HB2 := Lib.hid (HB.out.trans hb)
      clear hb
      go_wp2_with fail
      go_ret
      exact ⟨rfl, HB2.out⟩
end Go.Proofs.YtpcajjbdlfookaaGreatDoor

/- xmltree: the document of an element: the model, and how long it is. -/
namespace Go.Proofs.YtpcajjbdlfookaaGreatDoor
open Go Go.RowKit Go.Deep
set_option linter.unusedVariables false
set_option linter.unusedSimpArgs false

/-- An attribute as it is written. -/
def attD (nm v : List UInt8) : List UInt8 := [32] ++ nm ++ [61, 34] ++ escF v ++ [34]
def pfxD (i : Nat) : List UInt8 := [110] ++ txt (i : Int)
def qualD (i : Nat) (a : PT) : List UInt8 := if a.1.toList.isEmpty = true then a.2.1.data.toList else if (a.1.toList == [104, 116, 116, 112, 58, 47, 47, 119, 119, 119, 46, 119, 51, 46, 111, 114, 103, 47, 88, 77, 76, 47, 49, 57, 57, 56, 47, 110, 97, 109, 101, 115, 112, 97, 99, 101]) = true then [120, 109, 108, 58] ++ a.2.1.data.toList else pfxD i ++ [58] ++ a.2.1.data.toList
def dclD (i : Nat) (a : PT) : List UInt8 := if a.1.toList.isEmpty = true then [] else if (a.1.toList == [104, 116, 116, 112, 58, 47, 47, 119, 119, 119, 46, 119, 51, 46, 111, 114, 103, 47, 88, 77, 76, 47, 49, 57, 57, 56, 47, 110, 97, 109, 101, 115, 112, 97, 99, 101]) = true then [] else attD ([120, 109, 108, 110, 115, 58] ++ pfxD i) a.1.data.toList
def valD (i : Nat) (a : PT) : List UInt8 := attD (qualD i a) a.2.2.data.toList
/-- What the first so many attributes give. -/
def enumK (f : Nat → PT → List UInt8) (l : List PT) : Nat → List UInt8
  | 0 => []
  | k + 1 => enumK f l k ++ (match l[k]? with | some a => f k a | none => [])
theorem enumK_next {f : Nat → PT → List UInt8} {l : List PT} {k : Nat} (h : k < l.length) : enumK f l (k + 1) = enumK f l k ++ f k l[k] := by
  simp [enumK, h]
theorem enumK_len {f : Nat → PT → List UInt8} {l : List PT} {c : Nat} (h : ∀ k (hk : k < l.length), (f k l[k]).length ≤ c) : ∀ k, k ≤ l.length → (enumK f l k).length ≤ k * c
  | 0, _ => by simp [enumK]
  | k + 1, hk => by
    have h1 := enumK_len h k (by omega)
    have h2 := h k (by omega)
    rw [enumK_next (by omega), List.length_append, Nat.add_mul]
    omega
def nsD (s ar : ByteArray) : List UInt8 := if (s.toList == ar.toList) = true then [] else attD [120, 109, 108, 110, 115] s.data.toList
/-- The tag, up to its end. -/
def headD (t : ET) (ar : ByteArray) : List UInt8 := [60] ++ t.name.data.toList ++ nsD t.space ar ++ enumK dclD t.attrs t.attrs.length ++ enumK valD t.attrs t.attrs.length
def docT : Nat → ET → ByteArray → List UInt8
  | 0, _, _ => []
  | d + 1, t, ar => if (t.text.toList.isEmpty && t.kids.isEmpty) = true then headD t ar ++ [47, 62] else headD t ar ++ [62] ++ escF t.text.data.toList ++ t.kids.flatMap (fun k => docT d k t.space) ++ [60, 47] ++ t.name.data.toList ++ [62]
theorem attD_len (nm v : List UInt8) : (attD nm v).length ≤ nm.length + 6 * v.length + 4 := by
  have := escF_len v
  simp [attD]
  omega
theorem pfxD_len (i : Nat) (h : i ≤ 1048576) : (pfxD i).length ≤ 26 := by
  have := txt_size 0 (i : Int) (by omega) (by omega)
  simp [pfxD]
  omega
theorem qualD_len {i : Nat} {a : PT} (hi : i ≤ 1048576) (h : smA a) : (qualD i a).length ≤ 140737488351264 := by
  have h1 := pfxD_len i hi
  have h2 := size_data a.2.1
  have h3 := h.2.1
  unfold qualD
  repeat' split
  all_goals simp
  all_goals omega
theorem dclD_len {i : Nat} {a : PT} (hi : i ≤ 1048576) (h : smA a) : (dclD i a).length ≤ 1125899906842624 := by
  have h1 := pfxD_len i hi
  have h2 := size_data a.1
  have h3 := h.1
  have h4 := attD_len ([120, 109, 108, 110, 115, 58] ++ pfxD i) a.1.data.toList
  rw [List.length_append, h2] at h4
  unfold dclD
  repeat' split
  · simp
  · simp
  · simp at h4 ⊢
    omega
theorem valD_len {i : Nat} {a : PT} (hi : i ≤ 1048576) (h : smA a) : (valD i a).length ≤ 1125899906842624 := by
  have h1 := qualD_len hi h
  have h2 := size_data a.2.2
  have h3 := h.2.2
  have h4 := attD_len (qualD i a) a.2.2.data.toList
  rw [h2] at h4
  unfold valD
  omega
theorem nsD_len {s ar : ByteArray} (h : s.size ≤ 140737488351232) : (nsD s ar).length ≤ 1125899906842624 := by
  have h2 := size_data s
  have h4 := attD_len [120, 109, 108, 110, 115] s.data.toList
  rw [h2] at h4
  unfold nsD
  split
  · simp
  · simp at h4 ⊢
    omega

/-- The reference's text and the document: alike, or both too long. -/
def RT (x y : List UInt8) : Prop := x = y ∨ (65536 < x.length ∧ 65536 < y.length)
theorem RT.refl (x : List UInt8) : RT x x := .inl rfl
theorem RT.app {x y x' y' : List UInt8} (h : RT x y) (h' : RT x' y') : RT (x ++ x') (y ++ y') := by
  rcases h with rfl | ⟨h1, h2⟩
  · rcases h' with rfl | ⟨h1, h2⟩
    · exact .inl rfl
    · exact .inr ⟨by rw [List.length_append]; omega, by rw [List.length_append]; omega⟩
  · exact .inr ⟨by rw [List.length_append]; omega, by rw [List.length_append]; omega⟩
theorem RT.stop {x y : List UInt8} (h : RT x y) (hx : 65536 < x.length) (z : List UInt8) : RT x (y ++ z) := by
  rcases h with rfl | ⟨h1, h2⟩
  · exact .inr ⟨hx, by rw [List.length_append]; omega⟩
  · exact .inr ⟨h1, by rw [List.length_append]; omega⟩
theorem kids_next {l : List ET} {k : Nat} (f : ET → List UInt8) (h : k < l.length) : (l.take (k + 1)).flatMap f = (l.take k).flatMap f ++ f l[k] := by
  rw [List.take_succ_eq_append_getElem h, List.flatMap_append]
  simp
theorem kids_split {l : List ET} (k : Nat) (f : ET → List UInt8) : l.flatMap f = (l.take k).flatMap f ++ (l.drop k).flatMap f := by
  rw [← List.flatMap_append, List.take_append_drop]
end Go.Proofs.YtpcajjbdlfookaaGreatDoor

/- xmltree: the writer: its state; put. -/
namespace Go.Proofs.YtpcajjbdlfookaaGreatDoor
open Go Go.RowKit Go.Deep
set_option linter.unusedVariables false
set_option linter.unusedSimpArgs false

theorem infoBW : (Tryz.prog.info? 5).map (fun i => (i.zero, i.size, i.bytes)) = some (some (.int .u8 0), 1, 1) := by kernel_rfl
theorem infoBWX : ∃ i0, Tryz.prog.info? 5 = some i0 ∧ i0.zero = some (.int .u8 0) ∧ i0.size = 1 ∧ i0.bytes = 1 := by
  have h := infoBW
  cases hi : Tryz.prog.info? 5 with
  | none => rw [hi] at h; simp at h
  | some i =>
    rw [hi] at h
    simp at h
    exact ⟨i, rfl, h.1, h.2.1, h.2.2⟩
/-- What is kept: blocks that are neither the writer's nor bytes. -/
def Kp (wb : Nat) (w w' : World) : Prop := ∀ (b : Nat) (cs : Array Value) (T : TypeId) (z : Nat × Nat), b ≠ wb → 5 ≠ T → w.heap[b]? = some (.cells cs T z) → w'.heap[b]? = some (.cells cs T z)
theorem Kp.refl (wb : Nat) (w : World) : Kp wb w w := fun b cs T z _ _ h => h
theorem Kp.trans {wb : Nat} {w1 w2 w3 : World} (h : Kp wb w1 w2) (h' : Kp wb w2 w3) : Kp wb w1 w3 := fun b cs T z hb hT hx => h' b cs T z hb hT (h b cs T z hb hT hx)
theorem Kp.of_below {wb : Nat} {w w' : World} (h : Below w.heap.size w w') : Kp wb w w' := fun b cs T z hb hT hx => (h.block b (Array.getElem?_eq_some_iff.1 hx).1).trans hx
theorem Kp.set (wb : Nat) (w : World) (o : Nat) (v : Value) : Kp wb w (w.setCell ⟨wb, o, none⟩ v) := fun b cs T z hb hT hx => (Below.heap_setCell _ _ _ _ (by simpa using hb)).trans hx
theorem Kp.grown {wb B n : Nat} {w w' : World} {v : Value} {xs : List Value} (hg : w.grownBy w' v.ownBlock) (ho : w.ownsRow B 5 1 v n xs) : Kp wb w w' := fun b cs T z hb hT hx =>
  (hg.block b (Array.getElem?_eq_some_iff.1 hx).1 (fun e => row_ne ho hx hT b e.symm rfl)).trans hx
/-- The writer: what it has written, or that it is full. -/
structure WX (B wb : Nat) (L xs : List UInt8) (v : Value) (f : Bool) (w : World) : Prop where
  low : B ≤ wb
  box : w.heap[wb]? = some (.cells #[v, .bool f] 62 (0, 0))
  own : w.ownsRow B 5 1 v xs.length (bcells xs)
  len : xs.length ≤ 65536
  eq : f = false → xs = L
  full : f = true → 65536 < L.length
theorem WX.lt {B wb : Nat} {L xs : List UInt8} {v : Value} {f : Bool} {w : World} (h : WX B wb L xs v f w) : wb < w.heap.size := (Array.getElem?_eq_some_iff.1 h.box).1
theorem WX.cells {B wb : Nat} {L xs : List UInt8} {v : Value} {f : Bool} {w : World} (h : WX B wb L xs v f w) : w.cell? ⟨wb, 0, none⟩ = some v ∧ w.cell? ⟨wb, 1, none⟩ = some (.bool f) ∧ (∀ o, w.frozen? ⟨wb, o, none⟩ = false) := by
  refine ⟨?_, ?_, fun o => ?_⟩ <;> simp [World.cell?, World.frozen?, h.box]
theorem WX.below {B wb : Nat} {L xs : List UInt8} {v : Value} {f : Bool} {w w' : World} (h : WX B wb L xs v f w) (hb : Below w.heap.size w w') : WX B wb L xs v f w' := ⟨h.low, (hb.block _ h.lt).trans h.box, rowT_below h.own hb, h.len, h.eq, h.full⟩
theorem WX.more {B wb : Nat} {L xs : List UInt8} {v : Value} {w : World} (h : WX B wb L xs v true w) (t : List UInt8) : WX B wb (L ++ t) xs v true w := ⟨h.low, h.box, h.own, h.len, (fun e => by cases e), fun _ => by have := h.full rfl; rw [List.length_append]; omega⟩
theorem WX.long {B wb : Nat} {L L' xs : List UInt8} {v : Value} {w : World} (h : WX B wb L xs v true w) (hL : 65536 < L'.length) : WX B wb L' xs v true w := ⟨h.low, h.box, h.own, h.len, (fun e => by cases e), fun _ => hL⟩
theorem WX.fill {B wb : Nat} {L L' xs : List UInt8} {v : Value} {f : Bool} {w : World} (h : WX B wb L xs v f w) (hL : 65536 < L'.length) : WX B wb L' xs v true (w.setCell ⟨wb, 1, none⟩ (.bool true)) :=
  ⟨h.low, by rw [block_set _ _ _ _ _ _ _ h.box]; rfl, rowT_keep h.own (fun g hg => Below.heap_setCell _ _ _ _ (by simpa using row_ne h.own h.box (by decide) g hg)), h.len, (fun e => by cases e), fun _ => hL⟩
theorem WX.push {B wb m : Nat} {L xs t : List UInt8} {v v' : Value} {w w' : World} (h : WX B wb L xs v false w) (hg : w.grownBy w' v.ownBlock) (ho : w'.ownsRow B 5 1 v' m (bcells xs ++ bcells t)) (hl : xs.length + t.length ≤ 65536) (hm : m = xs.length + t.length) :
    WX B wb (L ++ t) (xs ++ t) v' false (w'.setCell ⟨wb, 0, none⟩ v') ∧ w'.heap[wb]? = some (.cells #[v, .bool false] 62 (0, 0)) := by
  subst hm
  have hbx : w'.heap[wb]? = some (.cells #[v, .bool false] 62 (0, 0)) := (hg.block wb h.lt (fun e => row_ne h.own h.box (by decide) wb e.symm rfl)).trans h.box
  refine ⟨⟨h.low, by rw [block_set _ _ _ _ _ _ _ hbx]; rfl, ?_, by rw [List.length_append]; exact hl, fun _ => by rw [h.eq rfl], (fun e => by cases e)⟩, hbx⟩
  rw [List.length_append, bcells_append]
  exact rowT_keep ho (fun g hg => Below.heap_setCell _ _ _ _ (by simpa using row_ne ho hbx (by decide) g hg))
/-- How a call of the writer ends. -/
def PutE (W0 : World) (wb : Nat) (w : World) (L : List UInt8) (w' : World) : Prop := (∃ xs v f, WX W0.heap.size wb L xs v f w') ∧ Kp wb w w' ∧ Below W0.heap.size W0 w'
theorem bytecells_eq (s : ByteArray) : byteCells s = bcells s.data.toList := by simp [byteCells, bcells]
theorem parts_next {l : List ByteArray} {k : Nat} (h : k < l.length) : (l.take (k + 1)).flatMap (fun s => s.data.toList) = (l.take k).flatMap (fun s => s.data.toList) ++ l[k].data.toList := by
  rw [List.take_succ_eq_append_getElem h, List.flatMap_append]
  simp
theorem parts_long {l : List ByteArray} (k : Nat) {L : List UInt8} (hx : 65536 < (L ++ (l.take k).flatMap (fun s => s.data.toList)).length) : 65536 < (L ++ l.flatMap (fun s => s.data.toList)).length := by
  have e : l.flatMap (fun s => s.data.toList) = (l.take k).flatMap (fun s => s.data.toList) ++ (l.drop k).flatMap (fun s => s.data.toList) := by
    rw [← List.flatMap_append, List.take_append_drop]
  rw [e]
  simp only [List.length_append] at hx ⊢
  omega
theorem parts_cell {w : World} {pb : Nat} {T : TypeId} {z : Nat × Nat} {parts : List ByteArray} (hp : w.heap[pb]? = some (.cells (parts.map Value.string).toArray T z)) {k : Nat} (hk : k < parts.length) : w.cell? ⟨pb, k, none⟩ = some (.string parts[k]) := by
  simp [World.cell?, hp, hk]

set_option maxRecDepth 100000 in
set_option maxHeartbeats 4000000 in
theorem put_c {W0 w : World} {wb pb : Nat} {T : TypeId} {z : Nat × Nat} {L xs : List UInt8} {v : Value} {f : Bool} {parts : List ByteArray} (h0 : Below W0.heap.size W0 w) (h : WX W0.heap.size wb L xs v f w) (hp : w.heap[pb]? = some (.cells (parts.map Value.string).toArray T z)) (hT : 5 ≠ T) (hne : pb ≠ wb) (hl : parts.length ≤ 1000) (hsz : ∀ k (h : k < parts.length), parts[k].size ≤ 1152921504606846976) :
    Calls Tryz.prog 41 #[.pointer (some ⟨wb, 0, none⟩), .slice (some ⟨pb, 0, none⟩) parts.length parts.length] w fun e w' => e = .returned (.tuple #[]) ∧ PutE W0 wb w (L ++ parts.flatMap (fun s => s.data.toList)) w' := by
  obtain ⟨i0, hi, hz0, hz1, hz2⟩ := infoBWX
  obtain ⟨N, hN⟩ : ∃ N, N = parts.length := ⟨_, rfl⟩
  have HN := Lib.hid hN
  have HP := Lib.hid hp
  have HSZ := Lib.hid hsz
  have HX0 := Lib.hid h
  have HB00 := Lib.hid h0
  have HT := Lib.hid hT
  have HNE := Lib.hid hne
  rw [← hN] at hl ⊢
  clear h0 h hp hsz hN hT hne
  go_enter Tryz.func41, Tryz.ntmps41
  go_wp2_with fail
  go_loopw [8] (fun i wr => ∃ (k : Nat) (xs : List UInt8) (v : Value) (f : Bool), k ≤ N ∧ i = .int .i64 k ∧ Hid (WX W0.heap.size wb (L ++ (parts.take k).flatMap (fun s => s.data.toList)) xs v f wr) ∧ Hid (Kp wb w wr) ∧ Below W0.heap.size W0 wr) (fun i _ => N - (intOf i).toNat)
  case atStart => exact ⟨0, xs, v, f, by omega, rfl, Lib.hid (by simpa using HX0.out), Lib.hid (Kp.refl _ _), HB00.out⟩
  case round =>
    obtain ⟨k, xs, v, f, hk, rfl, HX, HK, hbr⟩ := hrel
    have HBR := Lib.hid hbr
    clear hbr
    obtain ⟨p, c, rfl⟩ := rowT_form HX.out.own
    obtain ⟨n, hn⟩ : ∃ n, n = xs.length := ⟨_, rfl⟩
    rw [← hn] at HX
    have HNX := Lib.hid hn
    have hn6 : n ≤ 65536 := by rw [hn]; exact HX.out.len
    clear hn
    by_cases hlt : k < N
    · have hkl : k < parts.length := by rw [← HN.out]; exact hlt
      have c0 := parts_cell (HK.out pb _ _ _ HNE.out HT.out HP.out) hkl
      have hs6 := HSZ.out k hkl
      have HNEXT := Lib.hid (parts_next hkl)
      have HLONG := Lib.hid (fun hx => parts_long (l := parts) (L := L) (k + 1) hx)
      have HLONG0 := Lib.hid (fun hx => parts_long (l := parts) (L := L) k hx)
      generalize parts[k] = s at *
      obtain ⟨x0, x1, xz⟩ := HX.out.cells
      have hwr : IntKind.i64.wrap (65536 - (n : Int)) = 65536 - (n : Int) := by rw [IntKind.wrap_i64]; omega
      clear hkl
      by_cases hfull : 65536 - (n : Int) < (s.size : Int)
      · have hq : decide (65536 - (n : Int) < (s.size : Int)) = true := decide_eq_true hfull
        have HF := Lib.hid (HX.out.fill (L' := L ++ parts.flatMap (fun s => s.data.toList)) (by
          cases f
          · refine HLONG.out ?_
            rw [HNEXT.out, ← List.append_assoc, ← HX.out.eq rfl, List.length_append, size_data, ← HNX.out]
            omega
          · exact HLONG0.out (HX.out.full rfl)))
        go_wp2_with fail
        refine bodyPost_ret (results_none rfl _ _ _) rfl ?_
        exact ⟨rfl, ⟨_, _, _, HF.out⟩, HK.out.trans (Kp.set _ _ _ _), HBR.out.setCell (p := ⟨wb, 1, none⟩) HX.out.low _⟩
      have hq : decide (65536 - (n : Int) < (s.size : Int)) = false := decide_eq_false hfull
      cases f
      rotate_left
      · have HF := Lib.hid (HX.out.long (L' := L ++ parts.flatMap (fun s => s.data.toList)) (HLONG0.out (HX.out.full rfl)))
        go_wp2_with fail
        refine bodyPost_ret (results_none rfl _ _ _) rfl ?_
        exact ⟨rfl, ⟨_, _, _, HF.out⟩, HK.out, HBR.out⟩
      have HOWN := Lib.hid (show wr.ownsRow W0.heap.size 5 1 (.slice p n c) n (bcells xs) from by have := HX.out.own; rwa [← HNX.out] at this)
      have HSRC := Lib.hid (show Src Tryz.prog 1 9 (.string s) s.size (bcells s.data.toList) wr from by rw [← bytecells_eq]; exact Src.ofString _ Tryz.underlying9 s)
      have hbz := HBR.out.size
      go_wp2_with (at_builtin; go_loud (refine wpList_append_src rfl _ _ 22 9 rfl W0.heap.size 5 i0 (.int .u8 0) 1 Tryz.underlying22 hi hz0 hz1 hz2 rfl _ n (bcells xs) rfl HOWN.out _ s.size (bcells s.data.toList) rfl HSRC.out (by unfold maxLen; omega) (by omega) hbz ?_))
      intro v' w6 hown6 hgr6
      have hp6 := HX.out.push hgr6 hown6 (by rw [size_data, ← HNX.out]; omega) (by rw [size_data, ← HNX.out])
      obtain ⟨d0, d1, dz⟩ : w6.cell? ⟨wb, 0, none⟩ = some (.slice p n c) ∧ w6.cell? ⟨wb, 1, none⟩ = some (.bool false) ∧ (∀ o, w6.frozen? ⟨wb, o, none⟩ = false) := by
        refine ⟨?_, ?_, fun o => ?_⟩ <;> simp [World.cell?, World.frozen?, hp6.2]
      have HF := Lib.hid (show WX W0.heap.size wb (L ++ (parts.take (k + 1)).flatMap (fun s => s.data.toList)) (xs ++ s.data.toList) v' false (w6.setCell ⟨wb, 0, none⟩ v') from by rw [HNEXT.out, ← List.append_assoc]; exact hp6.1)
      have HKF := Lib.hid ((HK.out.trans (Kp.grown hgr6 HX.out.own)).trans (Kp.set wb w6 0 v'))
      have HBF := Lib.hid (((HBR.out.grown hgr6 hbz (fun b e => (rowT_lt HX.out.own b e).1))).setCell (p := ⟨wb, 0, none⟩) HX.out.low v')
      obtain ⟨p', c', rfl⟩ := rowT_form hown6
      clear hown6 hgr6 hp6 x0 x1 xz c0
      go_wp2_with fail
      go_roundw
      case rel => exact ⟨k + 1, _, _, _, by omega, by go_num, HF, HKF, HBF.out⟩
      case measure => simp [intOf]; omega
    · have HF := Lib.hid (show WX W0.heap.size wb (L ++ parts.flatMap (fun s => s.data.toList)) xs (.slice p n c) f wr from by
        have := HX.out
        rwa [List.take_of_length_le (by rw [← HN.out]; omega)] at this)
      go_wp2_with fail
      refine bodyPost_end (results_none rfl _ _ _) rfl ?_
      exact ⟨rfl, ⟨_, _, _, HF.out⟩, HK.out, HBR.out⟩
end Go.Proofs.YtpcajjbdlfookaaGreatDoor
