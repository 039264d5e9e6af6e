/- xmllex: Escape. -/
import Derived.Test.YtelemkiaepemjaaDoorHm
namespace Go.Proofs.YtelemkiaepemjaaDoor
open Go.RowKit
set_option linter.unusedVariables false

def escB (x : UInt8) : List UInt8 :=
  if x.toNat = 38 then [38, 97, 109, 112, 59] else if x.toNat = 60 then [38, 108, 116, 59] else if x.toNat = 62 then [38, 103, 116, 59] else if x.toNat = 34 then [38, 113, 117, 111, 116, 59]
  else if x.toNat = 9 then [38, 35, 57, 59] else if x.toNat = 10 then [38, 35, 49, 48, 59] else if x.toNat = 13 then [38, 35, 49, 51, 59] else [x]
def escF (l : List UInt8) : List UInt8 := l.flatMap escB
theorem escB_len (x : UInt8) : (escB x).length ≤ 6 := by
  unfold escB
  repeat' split
  all_goals simp
theorem escF_len (l : List UInt8) : (escF l).length ≤ 6 * l.length := by
  induction l with
  | nil => simp [escF]
  | cons x l ih =>
    have := escB_len x
    unfold escF at ih ⊢
    rw [List.flatMap_cons, List.length_append, List.length_cons]
    omega
theorem escF_take {l : List UInt8} {k : Nat} (h : k < l.length) : escF (l.take (k + 1)) = escF (l.take k) ++ escB l[k] := by
  unfold escF
  rw [List.take_add_one, List.flatMap_append]
  simp [h]

def EscI (w : World) (l : List UInt8) (k : Nat) (wr : World) : Prop := BI w.heap.size w.heap.size (escF (l.take k)) wr ∧ Below w.heap.size w wr
set_option maxRecDepth 100000 in
set_option maxHeartbeats 4000000 in
theorem escape_c (w : World) (s : ByteArray) (hs : s.size ≤ 1048576) : Calls Tryd.prog 6 #[.string s] w fun e w' => e = .returned (.string ⟨(escF s.data.toList).toArray⟩) ∧ Below w.heap.size w w' := by
  obtain ⟨l, hl⟩ : ∃ l, l = s.data.toList := ⟨_, rfl⟩
  have hln : l.length = s.size := by rw [hl, Array.length_toList]; rfl
  have HI0 := Lib.hid (show EscI w l 0 (w.alloc (.cells #[.pointer none, .slice none 0 0] 37)) from ⟨Lib.fresh_isBuilder 37 5 w, bel_alloc w _⟩)
  rw [← hl]
  have HL := Lib.hid hl
  clear hl
  go_enter Tryd.func6, Tryd.ntmps6
  go_wp2_with fail
  go_loopw [7] (fun s7 wr => ∃ k : Nat, s7 = .int .i64 k ∧ k ≤ s.size ∧ EscI w l k wr) (fun s7 _ => s.size - (intOf s7).toNat)
  case atStart => exact ⟨0, rfl, by omega, HI0.out⟩
  case round =>
    obtain ⟨k, rfl, hk, hi⟩ := hrel
    by_cases hkn : k < s.size
    · obtain ⟨x, hx⟩ : ∃ x, s[k]'hkn = x := ⟨_, rfl⟩
      have hxl : l[k]'(by omega) = x := by
        rw [← hx]
        have hl' := HL.out
        subst hl'
        simp
        rfl
      have hT := escF_take (l := l) (k := k) (by omega)
      rw [hxl] at hT
      have hob : (escF (l.take k)).length ≤ 8388608 := by have := escF_len (l.take k); rw [List.length_take] at this; omega
      have HSZ := Lib.hid hi.2.size
      have HNX := Lib.hid (fun (t : List UInt8) (ht : escB x = t) (wx : World) (hb : BA w.heap.size w.heap.size (escF (l.take k) ++ t) wx) (hx : Below w.heap.size wr wx) => show EscI w l (k + 1) wx from by
        refine ⟨?_, hi.2.trans hx⟩
        rw [hT, ht]
        exact .inr hb)
      have HWS := Lib.hid (fun (t : List UInt8) (ht : t.length ≤ 8388608) => wstring wr _ _ (escF (l.take k)) t hi.1 (by omega) (by omega) hi.2.size)
      have HWB := Lib.hid (wbyte wr _ _ (escF (l.take k)) x hi.1 (by omega) hi.2.size)
      clear hT hob hxl hi
      by_cases h38 : x.toNat = 38
      · have HE := Lib.hid (show escB x = [38, 97, 109, 112, 59] from by unfold escB; rw [if_pos h38])
        have t38 : ((x.toNat : Int) == 38) = true := by simp; omega
        clear h38
        go_wp2_with fail
        refine (HWS.out [38, 97, 109, 112, 59] (by decide)).mono ?_
        rintro e w2 ⟨⟨n, rfl⟩, hba, hb⟩
        have HN2 := Lib.hid (HNX.out _ HE.out w2 hba hb)
        clear hba hb
        go_wp2_with fail
        go_roundw
        case rel => exact ⟨k + 1, by go_num, by omega, HN2.out⟩
        case measure => simp [intOf]; omega
      by_cases h60 : x.toNat = 60
      · have HE := Lib.hid (show escB x = [38, 108, 116, 59] from by unfold escB; rw [if_neg h38, if_pos h60])
        have t38 : ((x.toNat : Int) == 38) = false := by simp; omega
        have t60 : ((x.toNat : Int) == 60) = true := by simp; omega
        clear h38 h60
        go_wp2_with fail
        refine (HWS.out [38, 108, 116, 59] (by decide)).mono ?_
        rintro e w2 ⟨⟨n, rfl⟩, hba, hb⟩
        have HN2 := Lib.hid (HNX.out _ HE.out w2 hba hb)
        clear hba hb
        go_wp2_with fail
        go_roundw
        case rel => exact ⟨k + 1, by go_num, by omega, HN2.out⟩
        case measure => simp [intOf]; omega
      by_cases h62 : x.toNat = 62
      · have HE := Lib.hid (show escB x = [38, 103, 116, 59] from by unfold escB; rw [if_neg h38, if_neg h60, if_pos h62])
        have t38 : ((x.toNat : Int) == 38) = false := by simp; omega
        have t60 : ((x.toNat : Int) == 60) = false := by simp; omega
        have t62 : ((x.toNat : Int) == 62) = true := by simp; omega
        clear h38 h60 h62
        go_wp2_with fail
        refine (HWS.out [38, 103, 116, 59] (by decide)).mono ?_
        rintro e w2 ⟨⟨n, rfl⟩, hba, hb⟩
        have HN2 := Lib.hid (HNX.out _ HE.out w2 hba hb)
        clear hba hb
        go_wp2_with fail
        go_roundw
        case rel => exact ⟨k + 1, by go_num, by omega, HN2.out⟩
        case measure => simp [intOf]; omega
      by_cases h34 : x.toNat = 34
      · have HE := Lib.hid (show escB x = [38, 113, 117, 111, 116, 59] from by unfold escB; rw [if_neg h38, if_neg h60, if_neg h62, if_pos h34])
        have t38 : ((x.toNat : Int) == 38) = false := by simp; omega
        have t60 : ((x.toNat : Int) == 60) = false := by simp; omega
        have t62 : ((x.toNat : Int) == 62) = false := by simp; omega
        have t34 : ((x.toNat : Int) == 34) = true := by simp; omega
        clear h38 h60 h62 h34
        go_wp2_with fail
        refine (HWS.out [38, 113, 117, 111, 116, 59] (by decide)).mono ?_
        rintro e w2 ⟨⟨n, rfl⟩, hba, hb⟩
        have HN2 := Lib.hid (HNX.out _ HE.out w2 hba hb)
        clear hba hb
        go_wp2_with fail
        go_roundw
        case rel => exact ⟨k + 1, by go_num, by omega, HN2.out⟩
        case measure => simp [intOf]; omega
      by_cases h9 : x.toNat = 9
      · have HE := Lib.hid (show escB x = [38, 35, 57, 59] from by unfold escB; rw [if_neg h38, if_neg h60, if_neg h62, if_neg h34, if_pos h9])
        have t38 : ((x.toNat : Int) == 38) = false := by simp; omega
        have t60 : ((x.toNat : Int) == 60) = false := by simp; omega
        have t62 : ((x.toNat : Int) == 62) = false := by simp; omega
        have t34 : ((x.toNat : Int) == 34) = false := by simp; omega
        have t9 : ((x.toNat : Int) == 9) = true := by simp; omega
        clear h38 h60 h62 h34 h9
        go_wp2_with fail
        refine (HWS.out [38, 35, 57, 59] (by decide)).mono ?_
        rintro e w2 ⟨⟨n, rfl⟩, hba, hb⟩
        have HN2 := Lib.hid (HNX.out _ HE.out w2 hba hb)
        clear hba hb
        go_wp2_with fail
        go_roundw
        case rel => exact ⟨k + 1, by go_num, by omega, HN2.out⟩
        case measure => simp [intOf]; omega
      by_cases h10 : x.toNat = 10
      · have HE := Lib.hid (show escB x = [38, 35, 49, 48, 59] from by unfold escB; rw [if_neg h38, if_neg h60, if_neg h62, if_neg h34, if_neg h9, if_pos h10])
        have t38 : ((x.toNat : Int) == 38) = false := by simp; omega
        have t60 : ((x.toNat : Int) == 60) = false := by simp; omega
        have t62 : ((x.toNat : Int) == 62) = false := by simp; omega
        have t34 : ((x.toNat : Int) == 34) = false := by simp; omega
        have t9 : ((x.toNat : Int) == 9) = false := by simp; omega
        have t10 : ((x.toNat : Int) == 10) = true := by simp; omega
        clear h38 h60 h62 h34 h9 h10
        go_wp2_with fail
        refine (HWS.out [38, 35, 49, 48, 59] (by decide)).mono ?_
        rintro e w2 ⟨⟨n, rfl⟩, hba, hb⟩
        have HN2 := Lib.hid (HNX.out _ HE.out w2 hba hb)
        clear hba hb
        go_wp2_with fail
        go_roundw
        case rel => exact ⟨k + 1, by go_num, by omega, HN2.out⟩
        case measure => simp [intOf]; omega
      by_cases h13 : x.toNat = 13
      · have HE := Lib.hid (show escB x = [38, 35, 49, 51, 59] from by unfold escB; rw [if_neg h38, if_neg h60, if_neg h62, if_neg h34, if_neg h9, if_neg h10, if_pos h13])
        have t38 : ((x.toNat : Int) == 38) = false := by simp; omega
        have t60 : ((x.toNat : Int) == 60) = false := by simp; omega
        have t62 : ((x.toNat : Int) == 62) = false := by simp; omega
        have t34 : ((x.toNat : Int) == 34) = false := by simp; omega
        have t9 : ((x.toNat : Int) == 9) = false := by simp; omega
        have t10 : ((x.toNat : Int) == 10) = false := by simp; omega
        have t13 : ((x.toNat : Int) == 13) = true := by simp; omega
        clear h38 h60 h62 h34 h9 h10 h13
        go_wp2_with fail
        refine (HWS.out [38, 35, 49, 51, 59] (by decide)).mono ?_
        rintro e w2 ⟨⟨n, rfl⟩, hba, hb⟩
        have HN2 := Lib.hid (HNX.out _ HE.out w2 hba hb)
        clear hba hb
        go_wp2_with fail
        go_roundw
        case rel => exact ⟨k + 1, by go_num, by omega, HN2.out⟩
        case measure => simp [intOf]; omega
      have HE := Lib.hid (show escB x = [x] from by unfold escB; rw [if_neg h38, if_neg h60, if_neg h62, if_neg h34, if_neg h9, if_neg h10, if_neg h13])
      have t38 : ((x.toNat : Int) == 38) = false := by simp; omega
      have t60 : ((x.toNat : Int) == 60) = false := by simp; omega
      have t62 : ((x.toNat : Int) == 62) = false := by simp; omega
      have t34 : ((x.toNat : Int) == 34) = false := by simp; omega
      have t9 : ((x.toNat : Int) == 9) = false := by simp; omega
      have t10 : ((x.toNat : Int) == 10) = false := by simp; omega
      have t13 : ((x.toNat : Int) == 13) = false := by simp; omega
      clear h38 h60 h62 h34 h9 h10 h13
      go_wp2_with fail
      refine HWB.out.mono ?_
      rintro e w2 ⟨rfl, hba, hb⟩
      have HN2 := Lib.hid (HNX.out _ HE.out w2 hba hb)
      clear hba hb
      go_wp2_with fail
      go_roundw
      case rel => exact ⟨k + 1, by go_num, by omega, HN2.out⟩
      case measure => simp [intOf]; omega
    · have HBT := Lib.hid (btext wr w.heap.size w.heap.size _ hi.1 hi.2.size)
      have HF := Lib.hid (show l.take k = l from List.take_of_length_le (by omega))
      rw [HF.out] at HBT
      have HB := Lib.hid hi.2
      clear hi
      go_wp2_with fail
      refine HBT.out.mono ?_
      rintro e w2 ⟨rfl, hb⟩
      have HB2 := Lib.hid (HB.out.trans hb)
      clear hb
      go_wp2_with fail
      go_ret
      exact ⟨rfl, HB2.out⟩
end Go.Proofs.YtelemkiaepemjaaDoor
