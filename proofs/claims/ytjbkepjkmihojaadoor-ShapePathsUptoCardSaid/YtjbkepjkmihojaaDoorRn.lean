/- shape: the reference's Base. -/
import Derived.Test.YtjbkepjkmihojaaDoorRm
namespace Go.Proofs.YtjbkepjkmihojaaDoor
open Go Go.RowKit
set_option linter.unusedVariables false

theorem OwnS.piece {w : World} {base : Nat} {v : Value} {L : List (List UInt8)} (h : OwnS w base 9 1 v L.length (lcells L)) {k : Nat} (hk : k < L.length) : ∃ g off c, v = .slice (some ⟨g, off, none⟩) L.length c ∧ g < w.heap.size ∧
    w.cell? ⟨g, off + k, none⟩ = some (.string ⟨L[k].toArray⟩) := by
  rcases h.2 with ⟨rfl, h0⟩ | ⟨g, off, cap, cur, hv, _⟩
  · omega
  · exact ⟨g, off, cap, hv, h.lt g (by rw [hv]; rfl), h.cell hv k _ (by simp [lcells, hk])⟩
theorem joinD_snoc (L : List (List UInt8)) (x : List UInt8) (h : L ≠ []) : joinD (L ++ [x]) = joinD L ++ 46 :: x := by
  induction L with
  | nil => exact absurd rfl h
  | cons y r ih =>
    cases r with
    | nil => rfl
    | cons z r =>
      have h1 := joinD_cons y (z :: r ++ [x]) (by simp)
      have h2 := joinD_cons y (z :: r) (by simp)
      rw [List.cons_append, h1, ih (by simp), h2, List.append_assoc]
      rfl
theorem take_snoc' {α : Type} (L : List α) (k : Nat) (h : k < L.length) : L.take (k + 1) = L.take k ++ [L[k]] := by
  rw [List.take_add_one, List.getElem?_eq_getElem h]; rfl

/-- The text so far. -/
def BaseAt (L : List (List UInt8)) (k : Nat) (S : ByteArray) : Prop := ∃ ps, allF (L.take k) = some ps ∧ S.data.toList = joinD (names ps) ∧ S.size ≤ k * 8388608
theorem BaseAt.next {L : List (List UInt8)} {k : Nat} {S A : ByteArray} {p : PT} (h : BaseAt L k S) (hk : k < L.length) (hp : partF L[k] = some p) (hA : A = ⟨p.1.toArray⟩) (hs : A.size ≤ 4194304) :
    (k = 0 → BaseAt L (k + 1) (S ++ A)) ∧ (0 < k → BaseAt L (k + 1) (S ++ ⟨#[46]⟩ ++ A)) := by
  obtain ⟨ps, h1, h2, h3⟩ := h
  have hall : allF (L.take (k + 1)) = some (ps ++ [p]) := by rw [take_snoc' L k hk, allF_snoc _ _ ps h1, hp]; rfl
  have hAl : A.data.toList = p.1 := by rw [hA]
  have hlen := allF_length _ _ h1
  constructor
  · intro h0
    subst h0
    have : ps = [] := List.eq_nil_of_length_eq_zero (by simpa using hlen)
    subst this
    refine ⟨[p], by simpa using hall, ?_, ?_⟩
    · rw [catB, h2, hAl]; simp [names, joinD]
    · rw [ByteArray.size_append]; omega
  · intro h0
    refine ⟨_, hall, ?_, ?_⟩
    · have hnn : names (ps ++ [p]) = names ps ++ [p.1] := by simp [names]
      have hne : names ps ≠ [] := by
        intro e
        have : (names ps).length = 0 := by rw [e]; rfl
        simp [names] at this
        rw [this, List.length_take] at hlen
        simp at hlen
        omega
      rw [catB, catB, h2, hAl, hnn, joinD_snoc _ _ hne, List.append_assoc]
      rfl
    · rw [ByteArray.size_append, ByteArray.size_append]
      have : (⟨#[46]⟩ : ByteArray).size = 1 := rfl
      omega

set_option maxRecDepth 100000 in
set_option maxHeartbeats 4000000 in
theorem rbase_c (w : World) (s : ByteArray) (hs : s.size ≤ 2097152) : Calls Tryd.prog 7 #[.string s] w fun e w' => e = .returned (baseV s.data.toList) ∧ Below w.heap.size w w' := by
  have HPA := Lib.hid (fun w => rparts_c w s (by omega))
  obtain ⟨L, hL⟩ : ∃ L, L = splitD s.data.toList := ⟨_, rfl⟩
  have hLl : L.length ≤ 2097153 := by
    have h1 := splitD_length s.data.toList
    rw [size_list] at h1
    rw [hL]; omega
  have HLm := Lib.hid (show ∀ x ∈ L, (⟨x.toArray⟩ : ByteArray).size ≤ 2097152 from by
    intro x hx
    rw [hL] at hx
    have h1 := (splitD_mem s.data.toList x hx).1
    rw [size_list] at h1
    show x.toArray.size ≤ _
    rw [List.size_toArray]; omega)
  have HV := Lib.hid (show baseV s.data.toList = (match allF L with | some ps => .tuple #[.string ⟨(joinD (names ps)).toArray⟩, .bool true] | none => .tuple #[.string ⟨#[]⟩, .bool false]) from by rw [hL]; rfl)
  rw [← hL] at HPA
  clear hL
  go_enter Tryd.func7, Tryd.ntmps7
  go_wp2_with (go_at_call 19; refine (HPA.out _).mono ?_; rintro e w1 ⟨v, rfl, hown, hb⟩; have HO := Lib.hid (OwnS.ofRow hown); obtain ⟨pa, ca, rfl, l1, m1, _⟩ := HO.out.form; have HB := Lib.hid hb; clear hown hb m1)
  go_loopw [4, 13] (fun o i wr => ∃ (k : Nat) (S : ByteArray), i = .int .i64 k ∧ k ≤ L.length ∧ o = .string S ∧ BaseAt L k S ∧ Below w1.heap.size w1 wr) (fun _ i _ => L.length - (intOf i).toNat)
  case atStart => exact ⟨0, ⟨#[]⟩, rfl, by omega, rfl, ⟨[], by simp [allF], rfl, by simp [ByteArray.size]⟩, Below.refl _ _⟩
  case round =>
    obtain ⟨k, S, rfl, hk, rfl, hS, hB2⟩ := hrel
    have HS := Lib.hid hS
    have HB2 := Lib.hid hB2
    have hSs : S.size ≤ 17600000000000 := by obtain ⟨_, _, _, h⟩ := hS; omega
    clear hS hB2
    by_cases hlt : k < L.length
    · obtain ⟨g, off, c', e1, gl, n1⟩ := (HO.out.below HB2.out).piece hlt
      simp only [Value.slice.injEq, true_and] at e1
      obtain ⟨rfl, rfl⟩ := e1
      have hx := HLm.out L[k] (List.getElem_mem hlt)
      have HP := fun w => rpart_c w ⟨L[k].toArray⟩ (by omega)
      rw [show (⟨L[k].toArray⟩ : ByteArray).data.toList = L[k] from rfl] at HP
      cases hp : partF L[k] with
      | none =>
        have HE := Lib.hid (show baseV s.data.toList = .tuple #[.string ⟨#[]⟩, .bool false] from by
          rw [HV.out]
          have : allF L = none := by
            conv => lhs; rw [← List.take_append_drop (k + 1) L]
            apply allF_prefix
            obtain ⟨ps, h1, _⟩ := HS.out
            rw [take_snoc' L k hlt, allF_snoc _ _ ps h1, hp]; rfl
          rw [this])
        rw [hp] at HP
        have HP' := Lib.hid HP
        clear HP hp
        generalize (⟨L[k].toArray⟩ : ByteArray) = X at *
        go_wp2_with (go_at_call 20; refine (HP'.out _).mono ?_; rintro e w3 ⟨sx, nx, ok, rfl, rfl, _, hb3⟩; have HB3 := Lib.hid (HB2.out.trans (hb3.mono HB2.out.size)); simp only [Option.isSome_none]; clear hb3)
        go_ret2
        exact ⟨by rw [HE.out]; rfl, HB.out.trans (HB3.out.mono HB.out.size)⟩
      | some p =>
        have hAs : (⟨p.1.toArray⟩ : ByteArray).size ≤ 4194304 := by
          have h1 := (partF_text _ _ hp).1
          have h2 : L[k].length = (partT p).length := by rw [h1]
          have h3 : L[k].length ≤ 2097152 := by have := hx; simp only [ByteArray.size, List.size_toArray] at this; exact this
          unfold partT at h2
          simp at h2
          show p.1.toArray.size ≤ _
          rw [List.size_toArray]; omega
        have HNX := Lib.hid (HS.out.next hlt hp rfl hAs)
        rw [hp] at HP
        have HP' := Lib.hid HP
        clear HP hp
        generalize (⟨L[k].toArray⟩ : ByteArray) = X at *
        by_cases h0 : k = 0
        · have HN := Lib.hid (HNX.out.1 h0)
          have hk0 : decide (0 < k) = false := by simp [h0]
          have hk0' : ¬ 0 < k := by omega
          clear h0
          go_wp2_with (go_at_call 20; refine (HP'.out _).mono ?_; rintro e w3 ⟨sx, nx, ok, rfl, rfl, hq, hb3⟩; obtain ⟨rfl, rfl⟩ := hq p rfl; have HB3 := Lib.hid (HB2.out.trans (hb3.mono HB2.out.size)); simp only [Option.isSome_some]; clear hb3 hq)
          go_roundw
          case rel => exact ⟨k + 1, _, by go_num, by omega, rfl, HN.out, HB3.out⟩
          case measure => simp [intOf]; omega
        · have HN := Lib.hid (HNX.out.2 (by omega))
          have hSd : (S ++ (⟨#[46]⟩ : ByteArray)).size ≤ 17600000000001 := by
            rw [ByteArray.size_append]
            have : (⟨#[46]⟩ : ByteArray).size = 1 := rfl
            omega
          have hk0 : 0 < k := by omega
          clear h0
          go_wp2_with (go_at_call 20; refine (HP'.out _).mono ?_; rintro e w3 ⟨sx, nx, ok, rfl, rfl, hq, hb3⟩; obtain ⟨rfl, rfl⟩ := hq p rfl; have HB3 := Lib.hid (HB2.out.trans (hb3.mono HB2.out.size)); simp only [Option.isSome_some]; clear hb3 hq)
          go_roundw
          case rel => exact ⟨k + 1, _, by go_num, by omega, rfl, HN.out, HB3.out⟩
          case measure => simp [intOf]; omega
    · have HE := Lib.hid (show baseV s.data.toList = .tuple #[.string S, .bool true] from by
        obtain ⟨ps, h1, h2, _⟩ := HS.out
        rw [List.take_of_length_le (by omega)] at h1
        rw [HV.out, h1]
        show Value.tuple #[.string ⟨(joinD (names ps)).toArray⟩, .bool true] = _
        rw [list_of S _ h2.symm])
      go_wp2_with fail
      go_ret2
      exact ⟨by rw [HE.out]; rfl, HB.out.trans (HB2.out.mono HB.out.size)⟩
end Go.Proofs.YtjbkepjkmihojaaDoor
