/- lexer: the reference's sign. -/
import Derived.Test.YtikofngogkchfaaDoorLg
namespace Go.Proofs.YtikofngogkchfaaDoor
open Go.RowKit
set_option linter.unusedVariables false

def sgN : List Nat := [40, 41, 46, 44, 43, 45, 42, 47, 37, 60, 62, 61]
def signX (n : Nat) (b : Bool) : Nat := if n = 33 then (if b = true then 2 else 0) else if n = 60 ∨ n = 62 then (if b = true then 2 else 1) else if n ∈ [40, 41, 46, 44, 43, 45, 42, 47, 37, 61] then 1 else 0
theorem signN_X (c : UInt8) (r : List UInt8) : signN (c :: r) = signX c.toNat (eqB r) := by
  unfold signN signX oneB
  simp only [decide_eq_true_eq]
theorem signX_one : ∀ (n : Fin 256) (b : Bool), (b = false ∨ (n.val ≠ 33 ∧ n.val ≠ 60 ∧ n.val ≠ 62)) → signX n.val b = if n.val ∈ sgN then 1 else 0 := by decide +kernel
theorem signX_two (n : Nat) (h : n = 33 ∨ n = 60 ∨ n = 62) : signX n true = 2 := by
  rcases h with rfl | rfl | rfl <;> rfl
def sgX (k : Nat) : ByteArray := ⟨#[UInt8.ofNat (sgN.getD k 0)]⟩
theorem sg_cells (w : World) : ∀ k, k < 12 → (w.alloc (.cells #[.string ⟨#[40]⟩, .string ⟨#[41]⟩, .string ⟨#[46]⟩, .string ⟨#[44]⟩, .string ⟨#[43]⟩, .string ⟨#[45]⟩, .string ⟨#[42]⟩, .string ⟨#[47]⟩, .string ⟨#[37]⟩, .string ⟨#[60]⟩, .string ⟨#[62]⟩, .string ⟨#[61]⟩] 9)).cell? ⟨w.heap.size, k, none⟩ = some (.string (sgX k)) := by
  intro k hk
  simp only [World.cell?, heap_alloc_new]
  rcases (by omega : k = 0 ∨ k = 1 ∨ k = 2 ∨ k = 3 ∨ k = 4 ∨ k = 5 ∨ k = 6 ∨ k = 7 ∨ k = 8 ∨ k = 9 ∨ k = 10 ∨ k = 11) with rfl | rfl | rfl | rfl | rfl | rfl | rfl | rfl | rfl | rfl | rfl | rfl <;> rfl
theorem sg_cells' (w : World) (B : Nat) (hB : w.heap.size = B) (k : Nat) (hk : k < 12) : (w.alloc (.cells #[.string ⟨#[40]⟩, .string ⟨#[41]⟩, .string ⟨#[46]⟩, .string ⟨#[44]⟩, .string ⟨#[43]⟩, .string ⟨#[45]⟩, .string ⟨#[42]⟩, .string ⟨#[47]⟩, .string ⟨#[37]⟩, .string ⟨#[60]⟩, .string ⟨#[62]⟩, .string ⟨#[61]⟩] 9)).cell? ⟨B, k, none⟩ = some (.string (sgX k)) := by
  subst hB
  exact sg_cells w k hk
theorem sg_hit (a : UInt8) (k : Nat) (hk : k < 12) : ([a] == (sgX k).toList) = decide (a.toNat = sgN.getD k 0) := by
  rw [toList_data]
  have hl : sgN.getD k 0 < 256 := by
    rcases (by omega : k = 0 ∨ k = 1 ∨ k = 2 ∨ k = 3 ∨ k = 4 ∨ k = 5 ∨ k = 6 ∨ k = 7 ∨ k = 8 ∨ k = 9 ∨ k = 10 ∨ k = 11) with rfl | rfl | rfl | rfl | rfl | rfl | rfl | rfl | rfl | rfl | rfl | rfl <;> decide
  show ([a] == [UInt8.ofNat (sgN.getD k 0)]) = _
  by_cases h : a.toNat = sgN.getD k 0
  · rw [← h]
    simp
  · have : a ≠ UInt8.ofNat (sgN.getD k 0) := by
      intro e
      apply h
      rw [e, UInt8.toNat_ofNat']
      omega
    rw [decide_eq_false h]
    rw [beq_eq_false_iff_ne]
    intro e
    apply this
    simpa using e
theorem two_cut (s : ByteArray) (h : 1 < s.size) : (s.extract 0 2).toList = [s[0], s[1]] := by
  rw [take_cut, toList_data]
  have h0 := drop_next s 0 (by omega)
  have h1 := drop_next s 1 h
  simp only [List.drop_zero] at h0
  rw [h0, h1]
  rfl
theorem two_is (a b : UInt8) (x y : UInt8) : ([a, b] == [x, y]) = (decide (a = x) && decide (b = y)) := by
  by_cases h1 : a = x <;> by_cases h2 : b = y <;> simp [h1, h2]

/-- What the reference's sign hands back. -/
def rsignV (l : List UInt8) : Value := if signN l = 0 then tripV noW 0 false else tripV ⟨4, l.take (signN l), 0⟩ (signN l) true

set_option maxRecDepth 100000 in
set_option maxHeartbeats 4000000 in
theorem rsign_c (w : World) (s : ByteArray) (hs : s.size ≤ 400) (hp : 0 < s.size) : Calls Tryd.prog 45 #[.string s] w fun e w' => e = .returned (rsignV s.data.toList) ∧ Below w.heap.size w w' := by
  have hd := drop_next s 0 hp
  simp only [List.drop_zero] at hd
  have HSX := Lib.hid (show signN s.data.toList = signX s[0].toNat (eqB (s.data.toList.drop 1)) from by rw [hd]; exact signN_X _ _)
  have HB := Lib.hid (fun o => box_below w o)
  have H1 := Lib.hid (show s.extract 0 1 = ⟨(s.data.toList.take 1).toArray⟩ from take_cut s 1)
  have H2 := Lib.hid (show s.extract 0 2 = ⟨(s.data.toList.take 2).toArray⟩ from take_cut s 2)
  have HL1 := Lib.hid (show (s.extract 0 1).toList = [s[0]] from by rw [one_cut s 0 hp, toList_data])
  have h8 := (s[0]).toNat_lt
  have hone : 1 ≤ s.size := by omega
  have hcase : (2 ≤ s.size ∧ ((s.extract 0 2).toList == [60, 61]) = true ∧ signN s.data.toList = 2) ∨ (2 ≤ s.size ∧ ((s.extract 0 2).toList == [60, 61]) = false ∧ ((s.extract 0 2).toList == [62, 61]) = true ∧ signN s.data.toList = 2)
      ∨ (2 ≤ s.size ∧ ((s.extract 0 2).toList == [60, 61]) = false ∧ ((s.extract 0 2).toList == [62, 61]) = false ∧ ((s.extract 0 2).toList == [33, 61]) = true ∧ signN s.data.toList = 2)
      ∨ (2 ≤ s.size ∧ ((s.extract 0 2).toList == [60, 61]) = false ∧ ((s.extract 0 2).toList == [62, 61]) = false ∧ ((s.extract 0 2).toList == [33, 61]) = false ∧ signN s.data.toList = if s[0].toNat ∈ sgN then 1 else 0)
      ∨ (s.size < 2 ∧ signN s.data.toList = if s[0].toNat ∈ sgN then 1 else 0) := by
    rw [HSX.out]
    by_cases h2 : 1 < s.size
    · have hc2 := two_cut s h2
      have hE : eqB (s.data.toList.drop 1) = decide (s[1].toNat = 61) := by rw [drop_next s 1 h2]; rfl
      rw [hc2, two_is, two_is, two_is, hE]
      by_cases hd : s[1].toNat = 61
      · have hd' : s[1] = 61 := UInt8.toNat_inj.1 hd
        rw [decide_eq_true hd, decide_eq_true hd']
        simp only [Bool.and_true, decide_eq_true_eq, decide_eq_false_iff_not]
        by_cases c1 : s[0] = 60
        · left
          exact ⟨h2, c1, signX_two _ (by rw [c1]; right; left; rfl)⟩
        by_cases c2 : s[0] = 62
        · right; left
          exact ⟨h2, c1, c2, signX_two _ (by rw [c2]; right; right; rfl)⟩
        by_cases c3 : s[0] = 33
        · right; right; left
          exact ⟨h2, c1, c2, c3, signX_two _ (by rw [c3]; left; rfl)⟩
        right; right; right; left
        refine ⟨h2, c1, c2, c3, signX_one ⟨s[0].toNat, h8⟩ true (Or.inr ⟨fun e => c3 (UInt8.toNat_inj.1 e), fun e => c1 (UInt8.toNat_inj.1 e), fun e => c2 (UInt8.toNat_inj.1 e)⟩)⟩
      · have hd' : ¬ s[1] = 61 := fun e => hd (by rw [e]; rfl)
        rw [decide_eq_false hd, decide_eq_false hd']
        simp only [Bool.and_false]
        right; right; right; left
        refine ⟨h2, trivial, trivial, trivial, signX_one ⟨s[0].toNat, h8⟩ false (Or.inl rfl)⟩
    · have hn : s.data.toList.drop 1 = [] := List.drop_eq_nil_of_le (by rw [size_list]; omega)
      right; right; right; right
      rw [hn]
      exact ⟨by omega, signX_one ⟨s[0].toNat, h8⟩ false (Or.inl rfl)⟩
  clear hd
  have HV2 := Lib.hid (fun (h : signN s.data.toList = 2) => (show rsignV s.data.toList = tripV ⟨4, s.data.toList.take 2, 0⟩ 2 true from by unfold rsignV; rw [h]; rfl))
  have HV1 := Lib.hid (fun (h : signN s.data.toList = if s[0].toNat ∈ sgN then 1 else 0) (hm : s[0].toNat ∈ sgN) => (show rsignV s.data.toList = tripV ⟨4, s.data.toList.take 1, 0⟩ 1 true from by unfold rsignV; rw [h, if_pos hm]; rfl))
  have HV0 := Lib.hid (fun (h : signN s.data.toList = if s[0].toNat ∈ sgN then 1 else 0) (hm : s[0].toNat ∉ sgN) => (show rsignV s.data.toList = tripV noW 0 false from by unfold rsignV; rw [h, if_neg hm]; rfl))
  rcases hcase with ⟨h2, q1, hN⟩ | ⟨h2, q1, q2, hN⟩ | ⟨h2, q1, q2, q3, hN⟩ | hrest
  · have HN := Lib.hid hN
    clear hN
    go_enter Tryd.func45, Tryd.ntmps45
    go_wp2_with fail
    refine bodyPost_ret (v := tripV ⟨4, s.data.toList.take 2, 0⟩ 2 true) (by simp [results, Tryd.results45, go_sem, tripV, Wd.val]; first | exact H2.out | rfl) rfl ⟨by rw [HV2.out HN.out], HB.out _⟩
  · have HN := Lib.hid hN
    clear hN
    go_enter Tryd.func45, Tryd.ntmps45
    go_wp2_with fail
    refine bodyPost_ret (v := tripV ⟨4, s.data.toList.take 2, 0⟩ 2 true) (by simp [results, Tryd.results45, go_sem, tripV, Wd.val]; first | exact H2.out | rfl) rfl ⟨by rw [HV2.out HN.out], HB.out _⟩
  · have HN := Lib.hid hN
    clear hN
    go_enter Tryd.func45, Tryd.ntmps45
    go_wp2_with fail
    refine bodyPost_ret (v := tripV ⟨4, s.data.toList.take 2, 0⟩ 2 true) (by simp [results, Tryd.results45, go_sem, tripV, Wd.val]; first | exact H2.out | rfl) rfl ⟨by rw [HV2.out HN.out], HB.out _⟩
  · have hN : signN s.data.toList = if s[0].toNat ∈ sgN then 1 else 0 := by
      rcases hrest with ⟨_, _, _, _, h⟩ | ⟨_, h⟩ <;> exact h
    have hrest' : (2 ≤ s.size ∧ ((s.extract 0 2).toList == [60, 61]) = false ∧ ((s.extract 0 2).toList == [62, 61]) = false ∧ ((s.extract 0 2).toList == [33, 61]) = false) ∨ s.size < 2 := by
      rcases hrest with ⟨a, b, c, d, _⟩ | ⟨h, _⟩
      · exact Or.inl ⟨a, b, c, d⟩
      · exact Or.inr h
    have HN := Lib.hid hN
    clear hN hrest
    have HCL := Lib.hid (fun k (hk : k < 12) => sg_cells' (w.alloc box3) (w.heap.size + 1) (by simp) k hk)
    rcases hrest' with ⟨h2, q1, q2, q3⟩ | h2
    all_goals
      go_enter Tryd.func45, Tryd.ntmps45
      go_wp2_with fail
      go_loop [30] (fun i => ∃ k : Nat, k ≤ 12 ∧ i = .int .i64 k ∧ s[0].toNat ∉ sgN.take k) (fun i => 12 - (intOf i).toNat)
      case atStart => exact ⟨0, by omega, rfl, by simp⟩
      case round =>
        obtain ⟨k, hk, rfl, hr⟩ := hrel
        have HR := Lib.hid hr
        clear hr
        by_cases hlt : k < 12
        · have hcl := HCL.out k hlt
          have hv := sg_hit s[0] k hlt
          rw [← HL1.out] at hv
          have hgt : sgN[k]? = some (sgN.getD k 0) := by
            rw [List.getD_eq_getElem?_getD, List.getElem?_eq_getElem (by simpa [sgN] using hlt)]
            rfl
          by_cases hm : s[0].toNat = sgN.getD k 0
          · have HE := Lib.hid (HV1.out HN.out (List.mem_of_getElem? (i := k) (by rw [hgt, hm])))
            have HX := Lib.hid (show (sgX k) = ⟨(s.data.toList.take 1).toArray⟩ from by
              rw [← H1.out, one_cut s 0 hp]
              unfold sgX
              rw [← hm]
              simp)
            rw [decide_eq_true hm] at hv
            generalize sgX k = X at *
            clear hm hgt
            go_wp2_with fail
            refine bodyPost_ret (v := tripV ⟨4, s.data.toList.take 1, 0⟩ 1 true) (by simp [results, Tryd.results45, go_sem, tripV, Wd.val]; first | exact HX.out | rfl) rfl ⟨by rw [HE.out], (HB.out _).alloc (by simp) _⟩
          · have HE := Lib.hid (show s[0].toNat ∉ sgN.take (k + 1) from by
              rw [List.take_add_one, hgt]
              simp only [Option.toList_some, List.mem_append, List.mem_singleton, not_or]
              exact ⟨HR.out, hm⟩)
            rw [decide_eq_false hm] at hv
            generalize sgX k = X at *
            clear hm hgt
            go_wp2_with fail
            exact ⟨⟨k + 1, by omega, by go_num, HE.out⟩, by simp [intOf]; omega⟩
        · have HE := Lib.hid (HV0.out HN.out (by
            have h := HR.out
            rw [List.take_of_length_le (by simp [sgN]; omega)] at h
            exact h))
          go_wp2_with fail
          refine bodyPost_ret (v := tripV noW 0 false) (by simp [results, Tryd.results45, go_sem, tripV, Wd.val, noW]) rfl ⟨by rw [HE.out], (HB.out _).alloc (by simp) _⟩
end Go.Proofs.YtikofngogkchfaaDoor
