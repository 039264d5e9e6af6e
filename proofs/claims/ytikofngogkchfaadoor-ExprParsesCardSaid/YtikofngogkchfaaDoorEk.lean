/- Keywords, both sides. -/
import Derived.Test.YtikofngogkchfaaDoorEm
import Derived.Test.YtikofngogkchfaaDoorChg
import Derived.Laws.StructEq
import Derived.WalkLawsBesides
namespace Go.Proofs.YtikofngogkchfaaDoor
open Go Go.RowKit
set_option linter.unusedVariables false

def kwL : List (List UInt8) := [[97, 110, 100], [111, 114], [110, 111, 116], [116, 114, 117, 101], [102, 97, 108, 115, 101], [99, 111, 117, 110, 116], [110, 117, 109, 98, 101, 114]]
theorem keyB_any (l : List UInt8) : keyB l = kwL.any (fun x => l == x) := by simp [keyB, kwL, Bool.or_assoc]
set_option maxRecDepth 100000 in
theorem key_c (w : World) (s : ByteArray) : Calls Tryd.prog 11 #[.string s] w fun e w' => e = .returned (.bool (keyB s.data.toList)) ∧ w = w' := by
  obtain ⟨b0, h0⟩ : ∃ b, (s.toList == [97, 110, 100]) = b := ⟨_, rfl⟩
  obtain ⟨b1, h1⟩ : ∃ b, (s.toList == [111, 114]) = b := ⟨_, rfl⟩
  obtain ⟨b2, h2⟩ : ∃ b, (s.toList == [110, 111, 116]) = b := ⟨_, rfl⟩
  obtain ⟨b3, h3⟩ : ∃ b, (s.toList == [116, 114, 117, 101]) = b := ⟨_, rfl⟩
  obtain ⟨b4, h4⟩ : ∃ b, (s.toList == [102, 97, 108, 115, 101]) = b := ⟨_, rfl⟩
  obtain ⟨b5, h5⟩ : ∃ b, (s.toList == [99, 111, 117, 110, 116]) = b := ⟨_, rfl⟩
  obtain ⟨b6, h6⟩ : ∃ b, (s.toList == [110, 117, 109, 98, 101, 114]) = b := ⟨_, rfl⟩
  have HK := Lib.hid (show keyB s.data.toList = (b0 || b1 || b2 || b3 || b4 || b5 || b6) from by rw [← toList_data, ← h0, ← h1, ← h2, ← h3, ← h4, ← h5, ← h6]; rfl)
  cases b0 with
  | true =>
    clear h1 h2 h3 h4 h5 h6
    go_enter Tryd.func11, Tryd.ntmps11
    go_wp2_with fail
    go_ret
    exact ⟨by rw [HK.out]; simp, rfl⟩
  | false =>
    cases b1 with
    | true =>
      clear h2 h3 h4 h5 h6
      go_enter Tryd.func11, Tryd.ntmps11
      go_wp2_with fail
      go_ret
      exact ⟨by rw [HK.out]; simp, rfl⟩
    | false =>
      cases b2 with
      | true =>
        clear h3 h4 h5 h6
        go_enter Tryd.func11, Tryd.ntmps11
        go_wp2_with fail
        go_ret
        exact ⟨by rw [HK.out]; simp, rfl⟩
      | false =>
        cases b3 with
        | true =>
          clear h4 h5 h6
          go_enter Tryd.func11, Tryd.ntmps11
          go_wp2_with fail
          go_ret
          exact ⟨by rw [HK.out]; simp, rfl⟩
        | false =>
          cases b4 with
          | true =>
            clear h5 h6
            go_enter Tryd.func11, Tryd.ntmps11
            go_wp2_with fail
            go_ret
            exact ⟨by rw [HK.out]; simp, rfl⟩
          | false =>
            cases b5 with
            | true =>
              clear h6
              go_enter Tryd.func11, Tryd.ntmps11
              go_wp2_with fail
              go_ret
              exact ⟨by rw [HK.out]; simp, rfl⟩
            | false =>
              cases b6 with
              | true =>
                go_enter Tryd.func11, Tryd.ntmps11
                go_wp2_with fail
                go_ret
                exact ⟨by rw [HK.out]; simp, rfl⟩
              | false =>
                go_enter Tryd.func11, Tryd.ntmps11
                go_wp2_with fail
                go_ret
                exact ⟨by rw [HK.out]; rfl, rfl⟩

theorem box_bel (w : World) (o : Obj) : Below w.heap.size w (w.alloc o) := (Below.refl _ _).alloc (Nat.le_refl _) _
def kwX (k : Nat) : ByteArray := ⟨(kwL.getD k []).toArray⟩
theorem kw_cells (w : World) : ∀ k, k < 7 → (w.alloc (.cells #[.string ⟨#[97, 110, 100]⟩, .string ⟨#[111, 114]⟩, .string ⟨#[110, 111, 116]⟩, .string ⟨#[116, 114, 117, 101]⟩, .string ⟨#[102, 97, 108, 115, 101]⟩, .string ⟨#[99, 111, 117, 110, 116]⟩, .string ⟨#[110, 117, 109, 98, 101, 114]⟩] 9)).cell? ⟨w.heap.size, k, none⟩ = some (.string (kwX k)) := by
  intro k hk
  simp only [World.cell?, heap_alloc_new]
  rcases (by omega : k = 0 ∨ k = 1 ∨ k = 2 ∨ k = 3 ∨ k = 4 ∨ k = 5 ∨ k = 6) with rfl | rfl | rfl | rfl | rfl | rfl | rfl <;> rfl
theorem kw_hit (s : ByteArray) (k : Nat) : (s.toList == (kwX k).toList) = (s.data.toList == kwL.getD k []) := by
  rw [toList_data, toList_data]; rfl

set_option maxRecDepth 100000 in
set_option maxHeartbeats 1000000 in
theorem rkey_c (w : World) (s : ByteArray) : Calls Tryd.prog 12 #[.string s] w fun e w' => e = .returned (.bool (keyB s.data.toList)) ∧ Below w.heap.size w w' := by
  have HK := Lib.hid (keyB_any s.data.toList)
  have HCL := Lib.hid (kw_cells w)
  have HB := Lib.hid (fun o => box_bel w o)
  go_enter Tryd.func12, Tryd.ntmps12
  go_wp2_with fail
  go_loop [7] (fun i => ∃ k : Nat, k ≤ 7 ∧ i = .int .i64 k ∧ (kwL.take k).any (fun x => s.data.toList == x) = false) (fun i => 7 - (intOf i).toNat)
  case atStart => exact ⟨0, by omega, rfl, by simp⟩
  case round =>
    obtain ⟨k, hk, rfl, hr⟩ := hrel
    have HR := Lib.hid hr
    clear hr
    by_cases hlt : k < 7
    · have hcl := HCL.out k hlt
      have hv := kw_hit s k
      have hgt : kwL[k]? = some (kwL.getD k []) := by
        rw [List.getD_eq_getElem?_getD, List.getElem?_eq_getElem (by simpa [kwL] using hlt)]
        rfl
      have HTK := Lib.hid (show kwL.take (k + 1) = kwL.take k ++ [kwL.getD k []] from by rw [List.take_add_one, hgt]; rfl)
      obtain ⟨b, hb⟩ : ∃ b, (s.data.toList == kwL.getD k []) = b := ⟨_, rfl⟩
      rw [hb] at hv
      cases b with
      | true =>
        have HE := Lib.hid (show keyB s.data.toList = true from by
          rw [HK.out, List.any_eq_true]
          exact ⟨kwL.getD k [], List.mem_of_getElem? (i := k) hgt, hb⟩)
        generalize kwX k = X at *
        clear hgt hb
        go_wp2_with fail
        go_ret
        exact ⟨by rw [HE.out]; rfl, HB.out _⟩
      | false =>
        have HE := Lib.hid (show (kwL.take (k + 1)).any (fun x => s.data.toList == x) = false from by
          rw [HTK.out, List.any_append, HR.out]
          simp only [List.any_cons, List.any_nil, hb]
          rfl)
        generalize kwX k = X at *
        clear hgt hb
        go_wp2_with fail
        exact ⟨⟨k + 1, by omega, by go_num, HE.out⟩, by simp [intOf]; omega⟩
    · have HE := Lib.hid (show keyB s.data.toList = false from by
        have h := HR.out
        rw [List.take_of_length_le (by simp [kwL]; omega)] at h
        rw [HK.out, h])
      go_wp2_with fail
      go_ret
      exact ⟨by rw [HE.out]; rfl, HB.out _⟩

end Go.Proofs.YtikofngogkchfaaDoor
