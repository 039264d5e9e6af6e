/- shape: Up, Last. -/
import Derived.Test.YtjbkepjkmihojaaDoorRp
namespace Go.Proofs.YtjbkepjkmihojaaDoor
open Go Go.RowKit
set_option linter.unusedVariables false

theorem occ_one (l : List UInt8) (x : UInt8) (i : Nat) (hi : i < l.length) : Lib.occAt l [x] i = true ↔ l[i] = x := by
  unfold Lib.occAt
  rw [List.drop_eq_getElem_cons hi]
  show (x == l[i] && List.isPrefixOf [] _) = true ↔ _
  rw [show List.isPrefixOf ([] : List UInt8) (l.drop (i + 1)) = true from rfl, Bool.and_true, beq_iff_eq]
  exact eq_comm
theorem lastIs_lib (l : List UInt8) (x : UInt8) : LastIs l x (Lib.lastIndex l [x]) := by
  unfold Lib.lastIndex
  by_cases h0 : l.length = 0
  · have : l = [] := List.eq_nil_of_length_eq_zero h0
    subst this
    exact .inl ⟨by simp, by simp⟩
  · rw [if_pos (by simp; omega), show l.length - [x].length + 1 = l.length from by simp; omega]
    rcases Lib.lastOcc_spec l [x] l.length with ⟨e, hn⟩ | ⟨i, hi, e, ho, hn⟩
    · refine .inl ⟨e, fun hm => ?_⟩
      obtain ⟨j, hj, hx⟩ := List.getElem_of_mem hm
      have := hn j hj
      rw [(occ_one l x j hj).2 hx] at this
      cases this
    · rw [e]
      refine lastIs_at l x i hi ((occ_one l x i hi).1 ho) fun hm => ?_
      obtain ⟨j, hj, hx⟩ := List.getElem_of_mem hm
      rw [List.length_drop] at hj
      have h1 : i + 1 + j < l.length := by omega
      have := hn (i + 1 + j) (by omega) h1
      rw [List.getElem_drop] at hx
      rw [(occ_one l x _ h1).2 hx] at this
      cases this

/-- A text up to its last dot. -/
theorem up_c (w : World) (s : ByteArray) (hs : s.size ≤ 140737488355328) (z : Int) (hz : LastIs s.data.toList 46 z) : Calls Tryd.prog 10 #[.string s] w fun e w' => e = .returned (.string (s.extract 0 z.toNat)) ∧ w = w' := by
  have HL := fun w => Tryd.strings_LastIndex s ⟨#[46]⟩ (by omega) w
  rw [show (⟨#[46]⟩ : ByteArray).data.toList = [46] from rfl, lastIs_unique _ _ _ _ (lastIs_lib s.data.toList 46) hz] at HL
  have HLL := Lib.hid HL
  clear HL
  rcases hz with ⟨rfl, _⟩ | ⟨k, rfl, hk, _⟩
  · go_enter Tryd.func10, Tryd.ntmps10
    go_wp2_with (go_at_call 22; refine (HLL.out _).mono ?_; rintro e w' ⟨rfl, rfl⟩)
    go_ret
    exact ⟨rfl, rfl⟩
  · have hk0 : k ≤ s.size := by rw [size_list] at hk; omega
    have hm : max (0 : Int) (k : Int) = (k : Int) := by omega
    clear hk
    go_enter Tryd.func10, Tryd.ntmps10
    go_wp2_with (go_at_call 22; refine (HLL.out _).mono ?_; rintro e w' ⟨rfl, rfl⟩)
    go_ret
    exact ⟨rfl, rfl⟩
theorem rup_c (w : World) (s : ByteArray) (hs : s.size ≤ 140737488355328) (z : Int) (hz : LastIs s.data.toList 46 z) : Calls Tryd.prog 11 #[.string s] w fun e w' => e = .returned (.string (s.extract 0 z.toNat)) ∧ w = w' := by
  have HL := fun w => rlast_c w s hs 46 z hz
  rw [show (((46 : UInt8).toNat : Nat) : Int) = 46 from rfl] at HL
  have HLL := Lib.hid HL
  clear HL
  rcases hz with ⟨rfl, _⟩ | ⟨k, rfl, hk, _⟩
  · go_enter Tryd.func11, Tryd.ntmps11
    go_wp2_with (go_at_call 21; refine (HLL.out _).mono ?_; rintro e w' ⟨rfl, rfl⟩)
    go_ret
    exact ⟨rfl, rfl⟩
  · have hk0 : k ≤ s.size := by rw [size_list] at hk; omega
    have hm : max (0 : Int) (k : Int) = (k : Int) := by omega
    clear hk
    go_enter Tryd.func11, Tryd.ntmps11
    go_wp2_with (go_at_call 21; refine (HLL.out _).mono ?_; rintro e w' ⟨rfl, rfl⟩)
    go_ret
    exact ⟨rfl, rfl⟩

/-! ### Last -/
theorem splitD_cut (xs ys : List UInt8) : splitD (xs ++ 46 :: ys) = splitD xs ++ splitD ys := by
  induction xs with
  | nil => simp [splitD]
  | cons c r ih =>
    rw [List.cons_append, splitD, splitD]
    split
    · rw [ih]; rfl
    · rw [ih]
      have h := splitD_cons r
      rw [h]
      rfl
theorem split_last (l : List UInt8) (z : Int) (hz : LastIs l 46 z) : ∃ A, splitD l = A ++ [l.drop (z + 1).toNat] := by
  rcases hz with ⟨rfl, h⟩ | ⟨k, rfl, hk, hc, hn⟩
  · exact ⟨[], by rw [splitD_last l h]; simp⟩
  · refine ⟨splitD (l.take k), ?_⟩
    rw [show ((k : Int) + 1).toNat = k + 1 from by omega]
    conv => lhs; rw [hc]
    rw [splitD_cut, splitD_last _ hn]
theorem read_last (l : List UInt8) (z : Int) (hz : LastIs l 46 z) (ps : List PT) (h : readF l = some ps) : ∃ qs p, ps = qs ++ [p] ∧ partF (l.drop (z + 1).toNat) = some p := by
  obtain ⟨A, hA⟩ := split_last l z hz
  unfold readF at h
  rw [hA, allF_append] at h
  cases ha : allF A with
  | none => rw [ha] at h; cases h
  | some qs =>
    rw [ha] at h
    cases hp : partF (l.drop (z + 1).toNat) with
    | none => simp [allF, hp] at h
    | some p =>
      simp [allF, hp] at h
      exact ⟨qs, p, h.symm, rfl⟩

set_option maxRecDepth 100000 in
theorem last_none (w : World) (s : ByteArray) (hs : s.size ≤ 2097152) (h : readF s.data.toList = none) : Calls Tryd.prog 8 #[.string s] w fun e w' => e = .returned (.tuple #[.string ⟨#[]⟩, .int .i64 0]) ∧ Below w.heap.size w w' := by
  have HR := Lib.hid (fun w => read_none s hs h w)
  clear h
  go_enter Tryd.func8, Tryd.ntmps8
  go_wp2_with (go_at_call 17; refine (HR.out _).mono ?_; rintro e w1 ⟨v1, rfl, hb1⟩; have HB1 := Lib.hid hb1; clear hb1)
  go_ret2
  exact ⟨rfl, HB1.out⟩
set_option maxRecDepth 100000 in
theorem last_some (w : World) (s : ByteArray) (hs : s.size ≤ 2097152) (qs : List PT) (p : PT) (h : readF s.data.toList = some (qs ++ [p])) : Calls Tryd.prog 8 #[.string s] w fun e w' => e = .returned (.tuple #[.string ⟨p.1.toArray⟩, .int .i64 p.2]) ∧ Below w.heap.size w w' := by
  have hl := read_len s hs _ h
  have HR := fun w => read_some s hs _ h w
  have hln : (qs ++ [p]).length = qs.length + 1 := by simp
  have hlt : qs.length < (qs ++ [p]).length := by omega
  have hget : (qs ++ [p])[qs.length]'hlt = p := by simp
  rw [hln] at hl
  have HRR := Lib.hid HR
  have HG := Lib.hid hget
  have HLN := Lib.hid hln
  clear HR h hget hln
  go_enter Tryd.func8, Tryd.ntmps8
  go_wp2_with (go_at_call 17; refine (HRR.out _).mono ?_; rintro e w1 ⟨v1, rfl, ho1, hb1⟩; obtain ⟨g, off, c, rfl, gl, n1, n2⟩ := ho1.part hlt; rw [HG.out] at n1 n2; rw [HLN.out]; have HB1 := Lib.hid hb1; clear hb1 ho1)
  go_quiet (fail)
  go_wp2_with fail
  go_ret2
  exact ⟨rfl, below_drewN (HB1.out.alloc HB1.out.size _) _⟩

set_option maxRecDepth 100000 in
theorem rlast_none (w : World) (s : ByteArray) (hs : s.size ≤ 2097152) (h : readF s.data.toList = none) : Calls Tryd.prog 9 #[.string s] w fun e w' => e = .returned (.tuple #[.string ⟨#[]⟩, .int .i64 0]) ∧ Below w.heap.size w w' := by
  have HR := fun w => rbase_c w s hs
  rw [baseV_none _ h] at HR
  have HRR := Lib.hid HR
  clear h HR
  go_enter Tryd.func9, Tryd.ntmps9
  go_wp2_with (go_at_call 7; refine (HRR.out _).mono ?_; rintro e w1 ⟨rfl, hb1⟩; have HB1 := Lib.hid hb1; clear hb1)
  go_ret2
  exact ⟨rfl, HB1.out⟩
set_option maxRecDepth 100000 in
theorem rlast_some (w : World) (s : ByteArray) (hs : s.size ≤ 2097152) (z : Int) (hz : LastIs s.data.toList 46 z) (qs : List PT) (p : PT) (h : readF s.data.toList = some (qs ++ [p])) (hp : partF (s.data.toList.drop (z + 1).toNat) = some p) :
    Calls Tryd.prog 9 #[.string s] w fun e w' => e = .returned (.tuple #[.string ⟨p.1.toArray⟩, .int .i64 p.2]) ∧ Below w.heap.size w w' := by
  have HR := fun w => rbase_c w s hs
  rw [baseV_some _ _ h] at HR
  have HL := fun w => rlast_c w s (by omega) 46 z hz
  rw [show (((46 : UInt8).toNat : Nat) : Int) = 46 from rfl] at HL
  have hzr : -1 ≤ z ∧ z + 1 ≤ s.size := by
    rcases hz with ⟨rfl, _⟩ | ⟨k, rfl, hk, _⟩
    · omega
    · rw [size_list] at hk; omega
  obtain ⟨X, hX⟩ : ∃ X, s.extract (z + 1).toNat s.size = X := ⟨_, rfl⟩
  have hXl : X.data.toList = s.data.toList.drop (z + 1).toNat := by rw [← hX, cutFrom]
  have HP := fun w => rpart_c w X (by rw [← hX, ByteArray.size_extract]; omega)
  rw [hXl, hp] at HP
  have HRR := Lib.hid HR
  have HLL := Lib.hid HL
  have HPP := Lib.hid HP
  obtain ⟨h1, h2⟩ := hzr
  have h3 : 0 ≤ z + 1 := by omega
  clear HR HL HP hXl hp h hz
  go_enter Tryd.func9, Tryd.ntmps9
  go_wp2_with (first
    | (go_at_call 7; refine (HRR.out _).mono ?_; rintro e w1 ⟨rfl, hb1⟩; have HB1 := Lib.hid hb1; clear hb1)
    | (go_at_call 21; refine (HLL.out _).mono ?_; rintro e w2 ⟨rfl, rfl⟩)
    | (go_at_call 20; refine (HPP.out _).mono ?_; rintro e w3 ⟨sx, nx, ok, rfl, rfl, hq, hb3⟩; obtain ⟨rfl, rfl⟩ := hq p rfl; have HB3 := Lib.hid (HB1.out.trans (hb3.mono HB1.out.size)); clear hb3 hq))
  go_ret2
  exact ⟨rfl, HB3.out⟩
end Go.Proofs.YtjbkepjkmihojaaDoor
