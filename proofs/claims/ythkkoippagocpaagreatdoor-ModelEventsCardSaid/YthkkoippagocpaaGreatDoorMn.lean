/- model: events by name and names by event, both sides. Written by tools/genmn.py. -/
import Derived.Test.YthkkoippagocpaaGreatDoorMa
namespace Go.Proofs.YthkkoippagocpaaGreatDoor
open Go Go.RowKit Go.Shelf
set_option linter.unusedVariables false
set_option linter.unusedSimpArgs false

/-- The names of the events. -/
def evL : List (List UInt8) := [[], [99, 114, 101, 97, 116, 101], [101, 110, 97, 98, 108, 101], [100, 105, 115, 97, 98, 108, 101], [114, 101, 101, 110, 97, 98, 108, 101], [115, 116, 97, 114, 116], [109, 97, 110, 117, 97, 108, 83, 116, 97, 114, 116], [99, 111, 109, 112, 108, 101, 116, 101], [102, 97, 117, 108, 116], [114, 101, 97, 99, 116, 105, 118, 97, 116, 101], [115, 117, 115, 112, 101, 110, 100], [114, 101, 115, 117, 109, 101], [116, 101, 114, 109, 105, 110, 97, 116, 101], [101, 120, 105, 116], [112, 97, 114, 101, 110, 116, 84, 101, 114, 109, 105, 110, 97, 116, 101], [112, 97, 114, 101, 110, 116, 83, 117, 115, 112, 101, 110, 100], [112, 97, 114, 101, 110, 116, 82, 101, 115, 117, 109, 101], [111, 99, 99, 117, 114], [99, 108, 111, 115, 101], [], [], [114, 101, 112, 108, 97, 99, 101], [117, 112, 100, 97, 116, 101], [100, 101, 108, 101, 116, 101], [97, 100, 100, 67, 104, 105, 108, 100], [114, 101, 109, 111, 118, 101, 67, 104, 105, 108, 100], [97, 100, 100, 82, 101, 102, 101, 114, 101, 110, 99, 101], [114, 101, 109, 111, 118, 101, 82, 101, 102, 101, 114, 101, 110, 99, 101]]
def evCells : List Value := evL.map fun s => .string ⟨s.toArray⟩
def evX (k : Nat) : ByteArray := ⟨(evL.getD k []).toArray⟩
/-- The program's table lies there. -/
def EvTab (w : World) : Prop := ∃ t fr, w.heap[0]? = some (.cells evCells.toArray t fr)
theorem EvTab.below {w w' : World} (h : EvTab w) (hb : Below w.heap.size w w') : EvTab w' := by
  obtain ⟨t, fr, h⟩ := h
  exact ⟨t, fr, (hb.block _ (Array.getElem?_eq_some_iff.1 h).1).trans h⟩
theorem EvTab.cell {w : World} (h : EvTab w) (k : Nat) (hk : k < 28) : w.cell? ⟨0, k, none⟩ = some (.string (evX k)) := by
  obtain ⟨t, fr, h⟩ := h
  rw [cell_of_row w _ k _ t fr h]
  rcases (by omega : k = 0 ∨ k = 1 ∨ k = 2 ∨ k = 3 ∨ k = 4 ∨ k = 5 ∨ k = 6 ∨ k = 7 ∨ k = 8 ∨ k = 9 ∨ k = 10 ∨ k = 11 ∨ k = 12 ∨ k = 13 ∨ k = 14 ∨ k = 15 ∨ k = 16 ∨ k = 17 ∨ k = 18 ∨ k = 19 ∨ k = 20 ∨ k = 21 ∨ k = 22 ∨ k = 23 ∨ k = 24 ∨ k = 25 ∨ k = 26 ∨ k = 27) with rfl | rfl | rfl | rfl | rfl | rfl | rfl | rfl | rfl | rfl | rfl | rfl | rfl | rfl | rfl | rfl | rfl | rfl | rfl | rfl | rfl | rfl | rfl | rfl | rfl | rfl | rfl | rfl <;> rfl
theorem ev_toList (b : ByteArray) : b.toList = b.data.toList := toList_data b
theorem ev_hit (s : ByteArray) (k : Nat) : ((evX k).toList == s.toList) = (evL.getD k [] == s.data.toList) := by rw [toList_data, toList_data]; rfl
theorem ev_empty (k : Nat) : (evX k).toList.isEmpty = (evL.getD k []).isEmpty := by rw [toList_data]; rfl

/-- The first event with a name. -/
def evF (t : List UInt8) : Nat := (evL.findIdx? fun s => !s.isEmpty && s == t).getD 0
def evB (t : List UInt8) : Bool := evL.any fun s => !s.isEmpty && s == t
def NoEv (t : List UInt8) (k : Nat) : Prop := ∀ j, j < k → (!(evL.getD j []).isEmpty && evL.getD j [] == t) = false
theorem NoEv.next {t : List UInt8} {k : Nat} (h : NoEv t k) (hk : (!(evL.getD k []).isEmpty && evL.getD k [] == t) = false) : NoEv t (k + 1) := fun j hj => by
  by_cases e : j = k
  · rw [e]; exact hk
  · exact h j (by omega)
theorem noEv_all {t : List UInt8} {k : Nat} (h : NoEv t k) (hk : 28 ≤ k) : evB t = false ∧ evF t = 0 := by
  have ha : ∀ s ∈ evL, (!s.isEmpty && s == t) = false := by
    intro s hs
    obtain ⟨j, hj, rfl⟩ := List.getElem_of_mem hs
    have hj28 : j < 28 := by simpa [evL] using hj
    have := h j (by omega)
    rwa [List.getD_eq_getElem?_getD, List.getElem?_eq_getElem hj] at this
  constructor
  · unfold evB
    rw [List.any_eq_false]
    intro s hs
    rw [ha s hs]
    simp
  · unfold evF
    rw [List.findIdx?_eq_none_iff.2 ha]
    rfl
theorem ev_found {t : List UInt8} {k : Nat} (h : NoEv t k) (hk : k < 28) (hx : (!(evL.getD k []).isEmpty && evL.getD k [] == t) = true) : evB t = true ∧ evF t = k := by
  have hl : k < evL.length := by simpa [evL] using hk
  have hg : evL.getD k [] = evL[k] := by rw [List.getD_eq_getElem?_getD, List.getElem?_eq_getElem hl]; rfl
  rw [hg] at hx
  constructor
  · unfold evB
    rw [List.any_eq_true]
    exact ⟨evL[k], List.getElem_mem hl, hx⟩
  · unfold evF
    have : evL.findIdx? (fun s => !s.isEmpty && s == t) = some k := by
      rw [List.findIdx?_eq_some_iff_getElem]
      refine ⟨hl, hx, fun j hj => ?_⟩
      have := h j hj
      rw [List.getD_eq_getElem?_getD, List.getElem?_eq_getElem (by omega)] at this
      simpa using this
    rw [this]
    rfl

theorem rev_cells (w : World) : ∀ k, k < 28 → (w.alloc (.cells #[.string ⟨#[]⟩, .string ⟨#[99, 114, 101, 97, 116, 101]⟩, .string ⟨#[101, 110, 97, 98, 108, 101]⟩, .string ⟨#[100, 105, 115, 97, 98, 108, 101]⟩, .string ⟨#[114, 101, 101, 110, 97, 98, 108, 101]⟩, .string ⟨#[115, 116, 97, 114, 116]⟩, .string ⟨#[109, 97, 110, 117, 97, 108, 83, 116, 97, 114, 116]⟩, .string ⟨#[99, 111, 109, 112, 108, 101, 116, 101]⟩, .string ⟨#[102, 97, 117, 108, 116]⟩, .string ⟨#[114, 101, 97, 99, 116, 105, 118, 97, 116, 101]⟩, .string ⟨#[115, 117, 115, 112, 101, 110, 100]⟩, .string ⟨#[114, 101, 115, 117, 109, 101]⟩, .string ⟨#[116, 101, 114, 109, 105, 110, 97, 116, 101]⟩, .string ⟨#[101, 120, 105, 116]⟩, .string ⟨#[112, 97, 114, 101, 110, 116, 84, 101, 114, 109, 105, 110, 97, 116, 101]⟩, .string ⟨#[112, 97, 114, 101, 110, 116, 83, 117, 115, 112, 101, 110, 100]⟩, .string ⟨#[112, 97, 114, 101, 110, 116, 82, 101, 115, 117, 109, 101]⟩, .string ⟨#[111, 99, 99, 117, 114]⟩, .string ⟨#[99, 108, 111, 115, 101]⟩, .string ⟨#[]⟩, .string ⟨#[]⟩, .string ⟨#[114, 101, 112, 108, 97, 99, 101]⟩, .string ⟨#[117, 112, 100, 97, 116, 101]⟩, .string ⟨#[100, 101, 108, 101, 116, 101]⟩, .string ⟨#[97, 100, 100, 67, 104, 105, 108, 100]⟩, .string ⟨#[114, 101, 109, 111, 118, 101, 67, 104, 105, 108, 100]⟩, .string ⟨#[97, 100, 100, 82, 101, 102, 101, 114, 101, 110, 99, 101]⟩, .string ⟨#[114, 101, 109, 111, 118, 101, 82, 101, 102, 101, 114, 101, 110, 99, 101]⟩] 9)).cell? ⟨w.heap.size, k, none⟩ = some (.string (evX k)) := by
  intro k hk
  simp only [World.cell?, heap_alloc_new]
  rcases (by omega : k = 0 ∨ k = 1 ∨ k = 2 ∨ k = 3 ∨ k = 4 ∨ k = 5 ∨ k = 6 ∨ k = 7 ∨ k = 8 ∨ k = 9 ∨ k = 10 ∨ k = 11 ∨ k = 12 ∨ k = 13 ∨ k = 14 ∨ k = 15 ∨ k = 16 ∨ k = 17 ∨ k = 18 ∨ k = 19 ∨ k = 20 ∨ k = 21 ∨ k = 22 ∨ k = 23 ∨ k = 24 ∨ k = 25 ∨ k = 26 ∨ k = 27) with rfl | rfl | rfl | rfl | rfl | rfl | rfl | rfl | rfl | rfl | rfl | rfl | rfl | rfl | rfl | rfl | rfl | rfl | rfl | rfl | rfl | rfl | rfl | rfl | rfl | rfl | rfl | rfl <;> rfl
set_option maxRecDepth 100000 in
theorem rnames_c (w : World) : Calls Tryz.prog 15 #[] w fun e w' => e = .returned (.slice (some ⟨w.heap.size, 0, none⟩) 28 28) ∧ w' = w.alloc (.cells #[.string ⟨#[]⟩, .string ⟨#[99, 114, 101, 97, 116, 101]⟩, .string ⟨#[101, 110, 97, 98, 108, 101]⟩, .string ⟨#[100, 105, 115, 97, 98, 108, 101]⟩, .string ⟨#[114, 101, 101, 110, 97, 98, 108, 101]⟩, .string ⟨#[115, 116, 97, 114, 116]⟩, .string ⟨#[109, 97, 110, 117, 97, 108, 83, 116, 97, 114, 116]⟩, .string ⟨#[99, 111, 109, 112, 108, 101, 116, 101]⟩, .string ⟨#[102, 97, 117, 108, 116]⟩, .string ⟨#[114, 101, 97, 99, 116, 105, 118, 97, 116, 101]⟩, .string ⟨#[115, 117, 115, 112, 101, 110, 100]⟩, .string ⟨#[114, 101, 115, 117, 109, 101]⟩, .string ⟨#[116, 101, 114, 109, 105, 110, 97, 116, 101]⟩, .string ⟨#[101, 120, 105, 116]⟩, .string ⟨#[112, 97, 114, 101, 110, 116, 84, 101, 114, 109, 105, 110, 97, 116, 101]⟩, .string ⟨#[112, 97, 114, 101, 110, 116, 83, 117, 115, 112, 101, 110, 100]⟩, .string ⟨#[112, 97, 114, 101, 110, 116, 82, 101, 115, 117, 109, 101]⟩, .string ⟨#[111, 99, 99, 117, 114]⟩, .string ⟨#[99, 108, 111, 115, 101]⟩, .string ⟨#[]⟩, .string ⟨#[]⟩, .string ⟨#[114, 101, 112, 108, 97, 99, 101]⟩, .string ⟨#[117, 112, 100, 97, 116, 101]⟩, .string ⟨#[100, 101, 108, 101, 116, 101]⟩, .string ⟨#[97, 100, 100, 67, 104, 105, 108, 100]⟩, .string ⟨#[114, 101, 109, 111, 118, 101, 67, 104, 105, 108, 100]⟩, .string ⟨#[97, 100, 100, 82, 101, 102, 101, 114, 101, 110, 99, 101]⟩, .string ⟨#[114, 101, 109, 111, 118, 101, 82, 101, 102, 101, 114, 101, 110, 99, 101]⟩] 9) := by
  go_enter Tryz.func15, Tryz.ntmps15
  go_wp2_with fail
  go_ret
  exact ⟨rfl, rfl⟩
/-- The reference's names, as they read. -/
def NamesAt (w : World) (e : Ending) (w' : World) : Prop := ∃ b, e = .returned (.slice (some ⟨b, 0, none⟩) 28 28) ∧ b < w'.heap.size ∧ (∀ k, k < 28 → w'.cell? ⟨b, k, none⟩ = some (.string (evX k))) ∧ Below w.heap.size w w'
theorem rnames_d (w : World) : Calls Tryz.prog 15 #[] w (NamesAt w) :=
  (rnames_c w).mono fun e w' h => by
    obtain ⟨he, hw⟩ := h
    subst hw
    exact ⟨_, he, by simp, rev_cells w, (Below.refl _ _).alloc (Nat.le_refl _) _⟩
def EvOf (s : ByteArray) (w : World) (e : Ending) (w' : World) : Prop := e = .returned (.tuple #[.int .i64 (evF s.data.toList : Nat), .bool (evB s.data.toList)]) ∧ Below w.heap.size w w'
set_option maxRecDepth 100000 in
set_option maxHeartbeats 1000000 in
theorem reventOf_c (w : World) (s : ByteArray) : Calls Tryz.prog 5 #[.string s] w (EvOf s w) := by
  have HS := Lib.hid rnames_d
  go_enter Tryz.func5, Tryz.ntmps5
  go_wp2_with fail
  refine (HS.out _).mono ?_
  rintro e w1 ⟨b, rfl, hbl, hc, hb⟩
  have HC := Lib.hid hc
  have HB := Lib.hid hb
  clear hc hb
  go_wp2_with fail
  go_loop [8] (fun i => ∃ k : Nat, k ≤ 28 ∧ i = .int .i64 k ∧ NoEv s.data.toList k) (fun i => 28 - (intOf i).toNat)
  case atStart => exact ⟨0, by omega, rfl, fun j h1 => by omega⟩
  case round =>
    obtain ⟨k, hk, rfl, hr⟩ := hrel
    have HR := Lib.hid hr
    clear hr
    by_cases hlt : k < 28
    · have hcl := HC.out k hlt
      have hv := ev_hit s k
      have hm := ev_empty k
      obtain ⟨u, hu⟩ : ∃ u, (evL.getD k []).isEmpty = u := ⟨_, rfl⟩
      obtain ⟨q, hq⟩ : ∃ q, (evL.getD k [] == s.data.toList) = q := ⟨_, rfl⟩
      have hd : decide ((k : Int) < 28) = true := decide_eq_true (by omega)
      rw [hq] at hv
      rw [hu] at hm
      cases u <;> cases q
      · have HE := Lib.hid (HR.out.next (k := k) (by rw [hu, hq]; rfl))
        generalize evX k = X at *
        clear hu hq
        go_wp2_with fail
        go_round
        case rel => exact ⟨k + 1, by omega, by go_num, HE.out⟩
        case measure => simp [intOf]; omega
      · have HE := Lib.hid (ev_found HR.out hlt (by rw [hu, hq]; rfl))
        generalize evX k = X at *
        clear hu hq
        go_wp2_with fail
        go_ret2
        exact ⟨by rw [HE.out.1, HE.out.2]; rfl, HB.out⟩
      all_goals
        have HE := Lib.hid (HR.out.next (k := k) (by rw [hu]; rfl))
        generalize evX k = X at *
        clear hu hq
        go_wp2_with fail
        go_round
        case rel => exact ⟨k + 1, by omega, by go_num, HE.out⟩
        case measure => simp [intOf]; omega
    · have HE := Lib.hid (noEv_all HR.out (by omega))
      have hd : decide ((k : Int) < 28) = false := decide_eq_false (by omega)
      go_wp2_with fail
      go_ret2
      exact ⟨by rw [HE.out.1, HE.out.2]; rfl, HB.out⟩
end Go.Proofs.YthkkoippagocpaaGreatDoor
