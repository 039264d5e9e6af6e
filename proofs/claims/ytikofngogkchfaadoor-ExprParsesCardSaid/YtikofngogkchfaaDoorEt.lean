/- States by name and by number, both sides. -/
import Derived.Test.YtikofngogkchfaaDoorEs
namespace Go.Proofs.YtikofngogkchfaaDoor
open Go.RowKit
set_option linter.unusedVariables false

def stX (k : Nat) : ByteArray := ⟨(stL.getD k []).toArray⟩
theorem st_hit (s : ByteArray) (k : Nat) : ((stX k).toList == s.toList) = (stL.getD k [] == s.data.toList) := by rw [toList_data, toList_data]; rfl
theorem st_hit' (s : ByteArray) (k : Nat) : (s.toList == (stX k).toList) = (s.data.toList == stL.getD k []) := by rw [toList_data, toList_data]; rfl
theorem ETabs.st {w : World} (h : ETabs w) (k : Nat) (hk : k < 9) : w.cell? ⟨0, k, none⟩ = some (.string (stX k)) :=
  h.sts k _ (by
    have : k < stL.length := by simpa [stL] using hk
    simp only [stCells, List.getElem?_map, List.getElem?_eq_getElem this, Option.map_some]
    unfold stX
    rw [List.getD_eq_getElem?_getD, List.getElem?_eq_getElem this]
    rfl)
/-- None of the first names. -/
def NoSt (t : List UInt8) (k : Nat) : Prop := ∀ j, 1 ≤ j → j < k → t ≠ stL.getD j []
theorem NoSt.next {t : List UInt8} {k : Nat} (h : NoSt t k) (hk : t ≠ stL.getD k []) : NoSt t (k + 1) := fun j h1 h2 => by
  by_cases e : j = k
  · rw [e]; exact hk
  · exact h j h1 (by omega)
def stV (t : List UInt8) : Value := .tuple #[.int .i64 (stF t : Nat), .bool (!(decide (stF t = 0)))]

set_option maxRecDepth 100000 in
set_option maxHeartbeats 1000000 in
theorem xstate_c (w : World) (hT : ETabs w) (s : ByteArray) : Calls Tryd.prog 9 #[.string s] w fun e w' => e = .returned (.tuple #[.int .i64 (stF s.data.toList : Nat), .bool (!(decide (stF s.data.toList = 0)))]) ∧ w = w' := by
  have HT := Lib.hid hT
  clear hT
  go_enter Tryd.func9, Tryd.ntmps9
  go_wp2_with fail
  go_loop [4] (fun i => ∃ k : Nat, 1 ≤ k ∧ k ≤ 9 ∧ i = .int .i64 k ∧ NoSt s.data.toList k) (fun i => 9 - (intOf i).toNat)
  case atStart => exact ⟨1, by omega, by omega, rfl, fun j h1 h2 => by omega⟩
  case round =>
    obtain ⟨k, hk1, hk, rfl, hr⟩ := hrel
    have HR := Lib.hid hr
    clear hr
    by_cases hlt : k < 9
    · have hcl := HT.out.st k hlt
      have hv := st_hit s k
      have hle : (k : Int) ≤ 8 := by omega
      obtain ⟨b, hb⟩ : ∃ b, (stL.getD k [] == s.data.toList) = b := ⟨_, rfl⟩
      rw [hb] at hv
      cases b with
      | true =>
        have HE := Lib.hid (show stF s.data.toList = k from by rw [← (by simpa using hb : stL.getD k [] = s.data.toList)]; exact stF_hit k hk1 hlt)
        generalize stX k = X at *
        clear hb
        go_wp2_with fail
        go_ret2
        exact ⟨by rw [HE.out]; simp; omega, rfl⟩
      | false =>
        have HE := Lib.hid (HR.out.next (k := k) (by intro e; rw [e] at hb; simp at hb))
        generalize stX k = X at *
        clear hb
        go_wp2_with fail
        exact ⟨⟨k + 1, by omega, by omega, by go_num, HE.out⟩, by simp [intOf]; omega⟩
    · have HE := Lib.hid (show stF s.data.toList = 0 from stF_none _ fun j h1 h2 => HR.out j h1 (by omega))
      have hgt : (8 : Int) < k := by omega
      go_wp2_with fail
      go_ret2
      exact ⟨by rw [HE.out]; rfl, rfl⟩

def snB (n : Int) : Bool := decide (n < 1) || decide (8 < n)
def snX (n : Int) : ByteArray := if snB n = true then ⟨#[]⟩ else stX n.toNat
set_option maxRecDepth 100000 in
theorem xsname_c (w : World) (hT : ETabs w) (n : Int) : Calls Tryd.prog 13 #[.int .i64 n] w fun e w' => e = .returned (.string (snX n)) ∧ w = w' := by
  by_cases h1 : n < 1
  · have HE := Lib.hid (show snX n = ⟨#[]⟩ from by unfold snX; rw [if_pos (by unfold snB; simp [h1])])
    have HT := Lib.hid hT
    clear hT
    go_enter Tryd.func13, Tryd.ntmps13
    go_wp2_with fail
    go_ret
    exact ⟨by rw [HE.out]; rfl, rfl⟩
  · by_cases h2 : 8 < n
    · have HE := Lib.hid (show snX n = ⟨#[]⟩ from by unfold snX; rw [if_pos (by unfold snB; simp [h2])])
      have HT := Lib.hid hT
      clear hT
      go_enter Tryd.func13, Tryd.ntmps13
      go_wp2_with fail
      go_ret
      exact ⟨by rw [HE.out]; rfl, rfl⟩
    · obtain ⟨k, rfl⟩ : ∃ k : Nat, n = (k : Int) := ⟨n.toNat, by omega⟩
      have hk1 : 1 ≤ k := by omega
      have hk8 : k < 9 := by omega
      have hcl := hT.st k hk8
      have HE := Lib.hid (show snX (k : Int) = stX k from by unfold snX; rw [if_neg (by unfold snB; simp; omega)]; rfl)
      generalize stX k = X at *
      clear hT
      go_enter Tryd.func13, Tryd.ntmps13
      go_wp2_with fail
      go_ret
      exact ⟨by rw [HE.out]; rfl, rfl⟩
end Go.Proofs.YtikofngogkchfaaDoor
