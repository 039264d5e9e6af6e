/- model: EventOf, EventName, and the kinds' events, both sides. -/
import Derived.Test.YthkkoippagocpaaGreatDoorMn
namespace Go.Proofs.YthkkoippagocpaaGreatDoor
open Go Go.RowKit Go.Shelf
set_option linter.unusedVariables false
set_option linter.unusedSimpArgs false

theorem infoEv : (Tryz.prog.info? 29).map (·.size) = some 28 := by kernel_rfl
theorem evSize : evCells.toArray.size = 28 := by rfl
theorem evIndex : ∀ (W : World) (k : Nat), k < 28 → (Instr.index 29 (.agg evCells.toArray) (.int .i64 k)).run Tryz.prog W = .ok (.string (evX k)) W := by
  intro W k hk
  rcases (by omega : k = 0 ∨ k = 1 ∨ k = 2 ∨ k = 3 ∨ k = 4 ∨ k = 5 ∨ k = 6 ∨ k = 7 ∨ k = 8 ∨ k = 9 ∨ k = 10 ∨ k = 11 ∨ k = 12 ∨ k = 13 ∨ k = 14 ∨ k = 15 ∨ k = 16 ∨ k = 17 ∨ k = 18 ∨ k = 19 ∨ k = 20 ∨ k = 21 ∨ k = 22 ∨ k = 23 ∨ k = 24 ∨ k = 25 ∨ k = 26 ∨ k = 27) with rfl | rfl | rfl | rfl | rfl | rfl | rfl | rfl | rfl | rfl | rfl | rfl | rfl | rfl | rfl | rfl | rfl | rfl | rfl | rfl | rfl | rfl | rfl | rfl | rfl | rfl | rfl | rfl <;> kernel_rfl
set_option maxRecDepth 100000 in
set_option maxHeartbeats 1000000 in
theorem eventOf_c (w : World) (hT : EvTab w) (s : ByteArray) : Calls Tryz.prog 4 #[.string s] w (EvOf s w) := by
  obtain ⟨t, fr, ht⟩ := hT
  have HQ := Lib.hid ht
  have HI := Lib.hid (infoEv.trans (congrArg some evSize.symm))
  have HX := Lib.hid evIndex
  obtain ⟨A, hA⟩ : ∃ A, A = evCells.toArray := ⟨_, rfl⟩
  rw [← hA] at HQ HI HX
  clear ht hA
  go_enter Tryz.func4, Tryz.ntmps4
  go_wp2_with (refine wpList_load_row rfl 29 (Operand.global 0) rfl 0 rfl t A fr _ HQ.out Tryz.underlying29 rfl HI.out ?_)
  go_loop [7] (fun i => ∃ k : Nat, k ≤ 28 ∧ i = .int .i64 k ∧ NoEv s.data.toList k) (fun i => 28 - (intOf i).toNat)
  case atStart => exact ⟨0, by omega, rfl, fun j h1 => by omega⟩
  case round =>
    obtain ⟨k, hk, rfl, hr⟩ := hrel
    have HR := Lib.hid hr
    clear hr
    by_cases hlt : k < 28
    · have hcl := fun W => HX.out W k hlt
      have hv := ev_hit s k
      have hm := ev_empty k
      obtain ⟨u, hu⟩ : ∃ u, (evL.getD k []).isEmpty = u := ⟨_, rfl⟩
      obtain ⟨q, hq⟩ : ∃ q, (evL.getD k [] == s.data.toList) = q := ⟨_, rfl⟩
      have hd : decide ((k : Int) < 28) = true := decide_eq_true (by omega)
      rw [hq] at hv
      rw [hu] at hm
      cases u <;> cases q
      · have HE := Lib.hid (HR.out.next (k := k) (by rw [hu, hq]; rfl))
        generalize evX k = X at *
        clear hu hq
        go_wp2_with fail
        go_round
        case rel => exact ⟨k + 1, by omega, by go_num, HE.out⟩
        case measure => simp [intOf]; omega
      · have HE := Lib.hid (ev_found HR.out hlt (by rw [hu, hq]; rfl))
        generalize evX k = X at *
        clear hu hq
        go_wp2_with fail
        go_ret2
        exact ⟨by rw [HE.out.1, HE.out.2]; rfl, Below.refl _ _⟩
      all_goals
        have HE := Lib.hid (HR.out.next (k := k) (by rw [hu]; rfl))
        generalize evX k = X at *
        clear hu hq
        go_wp2_with fail
        go_round
        case rel => exact ⟨k + 1, by omega, by go_num, HE.out⟩
        case measure => simp [intOf]; omega
    · have HE := Lib.hid (noEv_all HR.out (by omega))
      have hd : decide ((k : Int) < 28) = false := decide_eq_false (by omega)
      go_wp2_with fail
      go_ret2
      exact ⟨by rw [HE.out.1, HE.out.2]; rfl, Below.refl _ _⟩

def enX (n : Int) : ByteArray := if 0 ≤ n ∧ n < 28 then evX n.toNat else ⟨#[]⟩
theorem betweenM_c (w : World) (a n b : Int) : Calls Tryz.prog 16 #[.int .i64 a, .int .i64 n, .int .i64 b] w fun e w' => e = .returned (.bool (decide (a ≤ n) && decide (n ≤ b))) ∧ w = w' := by
  by_cases h : a ≤ n
  · have h1 : decide (a ≤ n) = true := decide_eq_true h
    go_enter Tryz.func16, Tryz.ntmps16
    go_wp2_with fail
    go_ret
    exact ⟨by simp [h1], rfl⟩
  · have h1 : decide (a ≤ n) = false := decide_eq_false h
    go_enter Tryz.func16, Tryz.ntmps16
    go_wp2_with fail
    go_ret
    exact ⟨by simp [h1], rfl⟩
def NameOf (n : Int) (w : World) (e : Ending) (w' : World) : Prop := e = .returned (.string (enX n)) ∧ Below w.heap.size w w'
set_option maxRecDepth 100000 in
theorem eventName_c (w : World) (hT : EvTab w) (n : Int) : Calls Tryz.prog 6 #[.int .i64 n] w (NameOf n w) := by
  have HB := Lib.hid (betweenM_c w 0 n 27)
  by_cases h : 0 ≤ n ∧ n < 28
  · have HE := Lib.hid (show enX n = evX n.toNat from by unfold enX; rw [if_pos h])
    obtain ⟨k, rfl⟩ : ∃ k : Nat, n = (k : Int) := ⟨n.toNat, by omega⟩
    have hk : k < 28 := by omega
    have hcl := hT.cell k hk
    rw [show (decide ((0 : Int) ≤ (k : Int)) && decide ((k : Int) ≤ 27)) = true from by simp; omega] at HB
    rw [show ((k : Int)).toNat = k from rfl] at HE
    generalize evX k = X at *
    clear hT h
    go_enter Tryz.func6, Tryz.ntmps6
    go_wp2_with (go_at_call 16; refine HB.out.mono ?_; rintro e w' ⟨rfl, rfl⟩)
    go_ret
    exact ⟨by rw [HE.out]; rfl, Below.refl _ _⟩
  · have HE := Lib.hid (show enX n = ⟨#[]⟩ from by unfold enX; rw [if_neg h])
    rw [show (decide ((0 : Int) ≤ n) && decide (n ≤ 27)) = false from by simp; omega] at HB
    clear hT h
    go_enter Tryz.func6, Tryz.ntmps6
    go_wp2_with (go_at_call 16; refine HB.out.mono ?_; rintro e w' ⟨rfl, rfl⟩)
    go_ret
    exact ⟨by rw [HE.out]; rfl, Below.refl _ _⟩
set_option maxRecDepth 100000 in
theorem reventName_c (w : World) (n : Int) : Calls Tryz.prog 7 #[.int .i64 n] w (NameOf n w) := by
  have HS := Lib.hid rnames_d
  by_cases h0 : n < 0
  · have HE := Lib.hid (show enX n = ⟨#[]⟩ from by unfold enX; rw [if_neg (by omega)])
    have hd : decide (n < 0) = true := decide_eq_true h0
    go_enter Tryz.func7, Tryz.ntmps7
    go_wp2_with fail
    go_ret
    exact ⟨by rw [HE.out]; rfl, Below.refl _ _⟩
  · have hd : decide (n < 0) = false := decide_eq_false h0
    by_cases h : n < 28
    · have HE := Lib.hid (show enX n = evX n.toNat from by unfold enX; rw [if_pos (by omega)])
      obtain ⟨k, rfl⟩ : ∃ k : Nat, n = (k : Int) := ⟨n.toNat, by omega⟩
      have hk : k < 28 := by omega
      have hd2 : decide ((28 : Int) ≤ (k : Int)) = false := decide_eq_false (by omega)
      rw [show ((k : Int)).toNat = k from rfl] at HE
      go_enter Tryz.func7, Tryz.ntmps7
      go_wp2_with fail
      refine (HS.out _).mono ?_
      rintro e w1 ⟨b, rfl, hbl, hc, hb⟩
      have HB := Lib.hid hb
      clear hb hc hbl
      go_wp2_with fail
      refine (HS.out _).mono ?_
      rintro e w2 ⟨b2, rfl, hbl2, hc2, hb2⟩
      have HB2 := Lib.hid (HB.out.trans (hb2.mono HB.out.size))
      have hcl := hc2 k hk
      generalize evX k = X at *
      clear hb2 hc2
      go_wp2_with fail
      go_ret
      exact ⟨by rw [HE.out]; rfl, HB2.out⟩
    · have HE := Lib.hid (show enX n = ⟨#[]⟩ from by unfold enX; rw [if_neg (by omega)])
      have hd2 : decide ((28 : Int) ≤ n) = true := decide_eq_true (by omega)
      have hge : (28 : Int) ≤ n := by omega
      go_enter Tryz.func7, Tryz.ntmps7
      go_wp2_with fail
      refine (HS.out _).mono ?_
      rintro e w1 ⟨b, rfl, hbl, hc, hb⟩
      have HB := Lib.hid hb
      clear hb hc hbl
      go_wp2_with fail
      go_ret
      exact ⟨by rw [HE.out]; rfl, HB.out⟩
end Go.Proofs.YthkkoippagocpaaGreatDoor
