/- chars: Decode, Encode; the reference's Encode. -/
import Derived.Test.YtpcajjbdlfookaaGreatDoorRows
import Derived.Test.YtpcajjbdlfookaaGreatDoorBy
import Derived.Test.YtpcajjbdlfookaaGreatDoorCm
import Derived.Test.YtpcajjbdlfookaaGreatDoorShelf
import Derived.OpenShut
import Derived.Outline
import Derived.WalkLawsBesides
import Derived.WalkSpells
import Derived.Deep.QuietTactic
import Derived.BigQuiet
namespace Go.Proofs.YtpcajjbdlfookaaGreatDoor
open Go.RowKit
set_option linter.unusedVariables false

/-- The decoder's tables lie. -/
abbrev Tabs (w : World) : Prop := Lib.Utf8Tabs 0 1 w
theorem Tabs.below {w w' : World} (h : Tabs w) (hb : Below w.heap.size w w') : Tabs w' := Utf8Tabs_below h hb

theorem info8 : (Tryz.prog.info? 5).map (fun i => (i.zero, i.size, i.bytes)) = some (some (.int .u8 0), 1, 1) := by kernel_rfl

theorem equal_c (w : World) (v1 v2 : Value) (xs ys : List UInt8) (h1 : Rd w v1 xs) (h2 : Rd w v2 ys) :
    Calls Tryz.prog 9 #[v1, v2] w fun e w' => e = .returned (.bool (xs == ys)) ∧ w = w' := by
  have c1 := h1.conv (P := Tryz.prog) 22 5 9 Tryz.underlying22 Tryz.underlying5 Tryz.underlying9
  have c2 := h2.conv (P := Tryz.prog) 22 5 9 Tryz.underlying22 Tryz.underlying5 Tryz.underlying9
  go_enter Tryz.func9, Tryz.ntmps9
  go_wp2
  go_ret
  exact ⟨rfl, rfl⟩

theorem goDecode_c (w : World) (hT : Tabs w) (v : Value) (xs : List UInt8) (h : Rd w v xs) :
    Calls Tryz.prog 56 #[v] w fun e w' => e = .returned (.tuple #[.int .i32 (G xs).1, .int .i64 (G xs).2]) ∧ Below w.heap.size w w' := by
  obtain ⟨p, c, rfl, h1, h2, h3, h4⟩ := h
  by_cases h0 : 0 < xs.length
  · obtain ⟨b, o, rfl, hx⟩ := h4 h0
    have hs : (⟨xs.toArray⟩ : ByteArray).size = xs.length := by simp [ByteArray.size]
    have := Tryz.utf8_DecodeRune ⟨xs.toArray⟩ b o c w hT (fun j hj => by
      rw [hs] at hj
      rw [hx j hj, get_at8]
      simp [at8, List.getD, hj])
    rw [hs, G_go] at this
    exact this
  · obtain rfl : xs = [] := List.eq_nil_of_length_eq_zero (by omega)
    clear h4 h3
    go_enter Tryz.func56, Tryz.ntmps56
    go_wp2_with fail
    refine wp_loop_rounds 1 ?_
    rw [rounds_succ]
    go_wp2
    go_ret2
    exact ⟨rfl, Below.refl _ _⟩

theorem decode_c (w : World) (hT : Tabs w) (v : Value) (xs : List UInt8) (h : Rd w v xs) :
    Calls Tryz.prog 28 #[v] w fun e w' => e = .returned (.tuple #[.int .i64 (D xs).1, .int .i64 (D xs).2]) ∧ Below w.heap.size w w' := by
  have HC := Lib.hid (goDecode_c w hT v xs h)
  have HD := Lib.hid (show D xs = if (G xs).1 = 65533 ∧ (G xs).2 < 3 then (0, 0) else G xs from rfl)
  have hg := G_le xs
  generalize G xs = g at *
  obtain ⟨r, n⟩ := g
  simp only at HC HD hg
  have hr : r ≤ 1114111 := hg.1
  have hn : n ≤ 4 := hg.2.1
  clear hT h hg
  by_cases h1 : r = 65533
  · have t1 : ((r : Int) == 65533) = true := by simp; omega
    by_cases h2 : n < 3
    · have HE := Lib.hid (show D xs = (0, 0) from by rw [HD.out, if_pos ⟨h1, h2⟩])
      clear h1
      go_enter Tryz.func28, Tryz.ntmps28
      go_wp2_with (go_at_call 56; refine HC.out.mono ?_; rintro e w' ⟨rfl, hb⟩; have HB := Lib.hid hb; clear hb)
      go_ret2
      exact ⟨by rw [HE.out]; rfl, HB.out⟩
    · have HE := Lib.hid (show D xs = (r, n) from by rw [HD.out, if_neg (by omega)])
      have h2' : 3 ≤ n := by omega
      clear h1 h2
      go_enter Tryz.func28, Tryz.ntmps28
      go_wp2_with (go_at_call 56; refine HC.out.mono ?_; rintro e w' ⟨rfl, hb⟩; have HB := Lib.hid hb; clear hb)
      go_ret2
      exact ⟨by rw [HE.out]; rfl, HB.out⟩
  · have t1 : ((r : Int) == 65533) = false := by simp; omega
    have HE := Lib.hid (show D xs = (r, n) from by rw [HD.out, if_neg (by omega)])
    clear h1
    go_enter Tryz.func28, Tryz.ntmps28
    go_wp2_with (go_at_call 56; refine HC.out.mono ?_; rintro e w' ⟨rfl, hb⟩; have HB := Lib.hid hb; clear hb)
    go_ret2
    exact ⟨by rw [HE.out]; rfl, HB.out⟩

theorem Rd.of_ownF {w : World} {base : Nat} {e : TypeId} {v : Value} {n : Nat} {xs : List UInt8} (h : w.ownsRowF base e 1 v n (bcells xs)) : Rd w v xs := by
  have hl := h.1
  rw [bcells_length, Nat.mul_one] at hl
  subst hl
  rcases h.2 with ⟨rfl, h0⟩ | ⟨g, cap, cur, fz, rfl, hbg, hg, hfz, hnc, hcm, hcs, htake⟩
  · have : xs = [] := List.eq_nil_of_length_eq_zero h0
    subst this
    exact Rd.nil w
  · refine ⟨_, cap, rfl, hnc, hcm, by simp, fun hp => ⟨g, 0, rfl, fun i hi => ?_⟩⟩
    have hi' : i < cur.size := by omega
    have e1 : cur[i]? = (bcells xs)[i]? := by
      rw [← htake, List.getElem?_take_of_lt (by omega), Array.getElem?_toList]
    simp only [World.cell?, hg, Nat.zero_add]
    simp [e1, bcells, hi]

/-- chars.Encode. -/
theorem encode_c (w : World) (r : Int) (hlo : -9223372036854775808 ≤ r) (hhi : r ≤ 9223372036854775807) :
    Calls Tryz.prog 162 #[.int .i64 r] w fun e w' => ∃ v, e = .returned v ∧ Rd w' v (E r) ∧ Below w.heap.size w w' := by
  by_cases h1 : r < 0
  · have HE := Lib.hid (show E r = [] from by unfold E; rw [if_pos (by omega)])
    go_enter Tryz.func162, Tryz.ntmps162
    go_wp2
    go_ret
    exact ⟨_, rfl, by rw [HE.out]; exact Rd.nil _, Below.refl _ _⟩
  · by_cases h2 : 1114111 < r
    · have HE := Lib.hid (show E r = [] from by unfold E; rw [if_pos (by omega)])
      go_enter Tryz.func162, Tryz.ntmps162
      go_wp2
      go_ret
      exact ⟨_, rfl, by rw [HE.out]; exact Rd.nil _, Below.refl _ _⟩
    · have h1' : 0 ≤ r := by omega
      have h2' : r ≤ 1114111 := by omega
      have hv := Tryz.utf8_ValidRune r w
      by_cases h3 : 55296 ≤ r ∧ r ≤ 57343
      · have HE := Lib.hid (show E r = [] from by unfold E; rw [if_pos (by omega)])
        rw [show Lib.validRune r = false from by simp [Lib.validRune]; omega] at hv
        have HV := Lib.hid hv
        clear h3 hv h1 h2 hlo hhi
        go_enter Tryz.func162, Tryz.ntmps162
        go_wp2_with (go_at_call 165; refine HV.out.mono ?_; rintro e w' ⟨rfl, rfl⟩)
        go_ret
        exact ⟨_, rfl, by rw [HE.out]; exact Rd.nil _, Below.refl _ _⟩
      · have HE := Lib.hid (runeCells_E r h1' h2' h3)
        rw [show Lib.validRune r = true from by simp [Lib.validRune]; omega] at hv
        have HV := Lib.hid hv
        have HA := Lib.hid (Tryz.utf8_AppendRune info8 w.heap.size (.slice none 0 0) 0 [] r (by omega) (by omega) w ⟨rfl, .inl ⟨rfl, rfl⟩⟩ (by omega) (Nat.le_refl _))
        clear h3 hv h1 h2 hlo hhi
        go_enter Tryz.func162, Tryz.ntmps162
        go_wp2_with (first
          | (go_at_call 165; refine HV.out.mono ?_; rintro e w' ⟨rfl, rfl⟩)
          | (go_at_call 166; refine HA.out.mono ?_; rintro e w' ⟨v, rfl, ho, o, hg⟩; have HO := Lib.hid ho; have HG := Lib.hid hg; clear ho hg))
        go_ret
        refine ⟨_, rfl, ?_, ((Below.refl _ _).alloc (Nat.le_refl _) o).grown HG.out (by simp) (by simp [Value.ownBlock])⟩
        have := HO.out
        rw [HE.out, List.nil_append] at this
        exact Rd.of_ownF this
end Go.Proofs.YtpcajjbdlfookaaGreatDoor
