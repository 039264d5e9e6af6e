/- The reference's Encode and Decode. -/
import Derived.Test.YtpcajjbdlfookaaGreatDoorCw
import Derived.Test.YtpcajjbdlfookaaGreatDoorCd
import Derived.Deep.RegionWith
import Derived.RegionTactic
import Derived.BigRegion
namespace Go.Proofs.YtpcajjbdlfookaaGreatDoor
open Go.RowKit
set_option linter.unusedVariables false

theorem rd_lit (w : World) (cs : Array Value) (T : TypeId) (xs ys : List UInt8) (n : Nat) (hE : ys = xs) (h : cs.toList = bcells xs) (hn : xs.length = n) (hm : xs.length ≤ 10) :
    Rd (w.alloc (.cells cs T)) (.slice (some ⟨w.heap.size, 0, none⟩) n n) ys := by
  subst hE; subst hn
  exact rd_made w cs T ys h (by unfold maxLen; omega)

theorem rencode_c (w : World) (r : Int) (hlo : -9223372036854775808 ≤ r) (hhi : r ≤ 9223372036854775807) :
    Calls Tryz.prog 63 #[.int .i64 r] w fun e w' => ∃ v, e = .returned v ∧ Rd w' v (E r) ∧ Below w.heap.size w w' := by
  by_cases h1 : r < 0 ∨ 1114111 < r ∨ (55296 ≤ r ∧ r ≤ 57343)
  · have HE := Lib.hid (show E r = [] from by unfold E; rw [if_pos h1])
    by_cases a : r < 0
    · clear h1
      go_enter Tryz.func63, Tryz.ntmps63
      go_wp2
      go_ret
      exact ⟨_, rfl, by rw [HE.out]; exact Rd.nil _, Below.refl _ _⟩
    · by_cases b : 1114111 < r
      · clear h1
        go_enter Tryz.func63, Tryz.ntmps63
        go_wp2
        go_ret
        exact ⟨_, rfl, by rw [HE.out]; exact Rd.nil _, Below.refl _ _⟩
      · have c : 55296 ≤ r := by omega
        have d : r ≤ 57343 := by omega
        clear h1
        go_enter Tryz.func63, Tryz.ntmps63
        go_wp2
        go_ret
        exact ⟨_, rfl, by rw [HE.out]; exact Rd.nil _, Below.refl _ _⟩
  · have h0 : 0 ≤ r := by omega
    have h2 : r ≤ 1114111 := by omega
    by_cases a : r < 128
    · have HE := Lib.hid (show E r = [u8 r] from by unfold E; rw [if_neg h1, if_pos a])
      clear h1
      go_enter Tryz.func63, Tryz.ntmps63
      go_wp2
      go_ret
      exact ⟨_, rfl, rd_lit _ _ _ _ _ _ HE.out (by simp only [bcells, List.map_cons, List.map_nil]; rw [u8_toNat _ (by omega) (by omega)]) rfl (by simp), (Below.refl _ _).alloc (Nat.le_refl _) _⟩
    · by_cases b : r < 2048
      · have HE := Lib.hid (show E r = [u8 (192 + r / 64), u8 (128 + r % 64)] from by unfold E; rw [if_neg h1, if_neg a, if_pos b])
        clear h1
        go_enter Tryz.func63, Tryz.ntmps63
        go_wp2
        go_ret
        exact ⟨_, rfl, rd_lit _ _ _ _ _ _ HE.out (by simp only [bcells, List.map_cons, List.map_nil]; rw [u8_toNat _ (by omega) (by omega), u8_toNat _ (by omega) (by omega)]) rfl (by simp), (Below.refl _ _).alloc (Nat.le_refl _) _⟩
      · by_cases c : r < 65536
        · have HE := Lib.hid (show E r = [u8 (224 + r / 4096), u8 (128 + r / 64 % 64), u8 (128 + r % 64)] from by unfold E; rw [if_neg h1, if_neg a, if_neg b, if_pos c])
          have hs : r < 55296 ∨ 57343 < r := by omega
          clear h1
          rcases hs with hs | hs
          all_goals
            go_enter Tryz.func63, Tryz.ntmps63
            go_wp2
            go_ret
            exact ⟨_, rfl, rd_lit _ _ _ _ _ _ HE.out (by simp only [bcells, List.map_cons, List.map_nil]; rw [u8_toNat _ (by omega) (by omega), u8_toNat _ (by omega) (by omega), u8_toNat _ (by omega) (by omega)]) rfl (by simp), (Below.refl _ _).alloc (Nat.le_refl _) _⟩
        · have HE := Lib.hid (show E r = [u8 (240 + r / 262144), u8 (128 + r / 4096 % 64), u8 (128 + r / 64 % 64), u8 (128 + r % 64)] from by unfold E; rw [if_neg h1, if_neg a, if_neg b, if_neg c])
          clear h1
          go_enter Tryz.func63, Tryz.ntmps63
          go_wp2
          go_ret
          exact ⟨_, rfl, rd_lit _ _ _ _ _ _ HE.out (by simp only [bcells, List.map_cons, List.map_nil]; rw [u8_toNat _ (by omega) (by omega), u8_toNat _ (by omega) (by omega), u8_toNat _ (by omega) (by omega), u8_toNat _ (by omega) (by omega)]) rfl (by simp), (Below.refl _ _).alloc (Nat.le_refl _) _⟩

end Go.Proofs.YtpcajjbdlfookaaGreatDoor
