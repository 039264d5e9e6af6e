/- shape: a part of an instance's path; the parts as an iterator; read. -/
import Derived.Test.YtdnfoeoiommclaaDoorQn
import Derived.Test.YtdnfoeoiommclaaDoorQs
import Derived.Test.YtdnfoeoiommclaaDoorNr
namespace Go.Proofs.YtdnfoeoiommclaaDoor.P
open Go Go.RowKit Go.Shelf
set_option linter.unusedVariables false

theorem below_drewN {B : Nat} {a w : World} (h : Below B a w) (n : Nat) : Below B a (w.drewN n) := ⟨h.os, h.tape, h.output, h.size, h.block⟩
theorem cutH_le (l : List UInt8) : (cutH l).1.length ≤ l.length ∧ (cutH l).2.length ≤ l.length := by
  induction l with
  | nil => simp [cutH]
  | cons c r ih =>
    unfold cutH
    split
    · simp
    · simp only [List.length_cons]; omega

set_option maxRecDepth 100000 in
theorem cut1_c (s : ByteArray) (hs : s.size ≤ 140737488355328) (w : World) : Calls Tryd.prog 78 #[.string s, .string ⟨#[35]⟩] w fun e w' =>
    e = .returned (.tuple #[.string ⟨(cutH s.data.toList).1.toArray⟩, .string ⟨(cutH s.data.toList).2.toArray⟩, .bool (decide (35 ∈ s.data.toList))]) ∧ ∃ q, w' = w.drewN q := by
  have hrl : s.data.toList.length = s.size := Array.length_toList
  rcases idx_cases 35 s.data.toList with ⟨hi, hnot⟩ | ⟨k, hi, hk, hnot, hcut⟩
  · have HC := Lib.hid (fun w => Tryd.stringslite_Index_one s 35 w)
    rw [hi] at HC
    have HH := Lib.hid (cutH_none _ hnot)
    have HD := Lib.hid (show decide ((35 : UInt8) ∈ s.data.toList) = false from decide_eq_false hnot)
    clear hi hnot hrl
    go_enter Tryd.func78, Tryd.ntmps78
    go_wp2_with (go_at_call 82; refine (HC.out _).mono ?_; rintro e w' ⟨rfl, rfl⟩)
    go_ret3
    exact ⟨by rw [HH.out, HD.out]; rfl, 0, rfl⟩
  · have HC := Lib.hid (fun w => Tryd.stringslite_Index_one s 35 w)
    rw [hi] at HC
    have hh : cutH s.data.toList = (s.data.toList.take k, s.data.toList.drop (k + 1)) := by
      conv => lhs; rw [hcut]
      exact cutH_of _ _ hnot
    have HH := Lib.hid hh
    have HD := Lib.hid (show decide ((35 : UInt8) ∈ s.data.toList) = true from decide_eq_true (by rw [hcut]; simp))
    have hk0 : k ≤ s.size := by omega
    have hk1 : k + 1 ≤ s.size := by omega
    clear hi hnot hrl hcut hk hh
    go_enter Tryd.func78, Tryd.ntmps78
    go_wp2_with (go_at_call 82; refine (HC.out _).mono ?_; rintro e w' ⟨rfl, rfl⟩)
    go_quiet (fail)
    go_wp2_with fail
    go_ret3
    exact ⟨by rw [HH.out, HD.out, ← cutTo, ← cutFrom]; rfl, _, rfl⟩
theorem cut_c (s : ByteArray) (hs : s.size ≤ 140737488355328) (w : World) : Calls Tryd.prog 70 #[.string s, .string ⟨#[35]⟩] w fun e w' =>
    e = .returned (.tuple #[.string ⟨(cutH s.data.toList).1.toArray⟩, .string ⟨(cutH s.data.toList).2.toArray⟩, .bool (decide (35 ∈ s.data.toList))]) ∧ ∃ q, w' = w.drewN q := by
  have HC := fun w => cut1_c s hs w
  generalize (⟨(cutH s.data.toList).1.toArray⟩ : ByteArray) = A at *
  generalize (⟨(cutH s.data.toList).2.toArray⟩ : ByteArray) = D at *
  generalize decide ((35 : UInt8) ∈ s.data.toList) = b at *
  have HC' := Lib.hid HC
  clear HC
  go_enter Tryd.func70, Tryd.ntmps70
  go_wp2_with (go_at_call 78; refine (HC'.out _).mono ?_; rintro e w' ⟨rfl, q, rfl⟩)
  go_ret3
  exact ⟨rfl, _, rfl⟩

/-- A part as it is handed back. -/
def pA : Option PT → Value
  | some p => .agg #[.string ⟨p.1.toArray⟩, .int .i64 p.2]
  | none => .agg #[.string ⟨#[]⟩, .int .i64 0]
def pV (o : Option PT) : Array Value := #[pA o, .bool o.isSome]

set_option maxRecDepth 100000 in
theorem partOf_c (w : World) (s : ByteArray) (hs : s.size ≤ 140737488355328) : Calls Tryd.prog 64 #[.string s] w fun e w' => e = .returned (.tuple (pV (partF s.data.toList))) ∧ Below w.heap.size w w' := by
  have hle := cutH_le s.data.toList
  have hrl : s.data.toList.length = s.size := Array.length_toList
  obtain ⟨A, hA⟩ : ∃ A : ByteArray, A = ⟨(cutH s.data.toList).1.toArray⟩ := ⟨_, rfl⟩
  obtain ⟨D, hD⟩ : ∃ D : ByteArray, D = ⟨(cutH s.data.toList).2.toArray⟩ := ⟨_, rfl⟩
  have hA1 : A.data.toList = (cutH s.data.toList).1 := by rw [hA]
  have hD1 : D.data.toList = (cutH s.data.toList).2 := by rw [hD]
  have hAs : A.size ≤ s.size := by rw [← size_list A, hA1]; omega
  have hDs : D.size ≤ s.size := by rw [← size_list D, hD1]; omega
  have HC := fun w => cut_c s hs w
  have HN := fun w => sname_c w A (by omega)
  have HM := fun w => number_c w D (by omega)
  unfold tb at HM
  rw [← hA, ← hD] at HC
  rw [hA1] at HN
  rw [hD1] at HM
  obtain ⟨fnd, hf⟩ : ∃ b, decide ((35 : UInt8) ∈ s.data.toList) = b := ⟨_, rfl⟩
  rw [hf] at HC
  obtain ⟨nm, hn⟩ : ∃ b, nameOk (cutH s.data.toList).1 = b := ⟨_, rfl⟩
  obtain ⟨v, hv⟩ : ∃ v, num (cutH s.data.toList).2 = v := ⟨_, rfl⟩
  rw [hn] at HN
  rw [hv] at HM
  obtain ⟨n, er⟩ := v
  have HP := Lib.hid (show partF s.data.toList = if nm = true ∧ er = 0 ∧ 1 ≤ n then some (A.data.toList, n) else none from by unfold partF; rw [hn, hv, hA1])
  have HC' := Lib.hid HC
  have HN' := Lib.hid HN
  have HM' := Lib.hid HM
  have HSA := Lib.hid (show (⟨A.data.toList.toArray⟩ : ByteArray) = A from rfl)
  clear hle hrl hA hD hA1 hD1 hAs hDs HC HN HM hf hn hv
  cases nm with
  | false =>
    have HR := Lib.hid (show partF s.data.toList = none from by rw [HP.out]; simp)
    go_enter Tryd.func64, Tryd.ntmps64
    go_wp2_with (first
      | (go_at_call 70; refine (HC'.out _).mono ?_; rintro e w' ⟨rfl, q, rfl⟩)
      | (go_at_call 42; refine (HM'.out _).mono ?_; rintro e w' ⟨rfl, rfl⟩)
      | (go_at_call 71; refine (HN'.out _).mono ?_; rintro e w' ⟨rfl, rfl⟩))
    refine bodyPost_ret (v := .tuple (pV none)) (by simp [results, Tryd.results64, go_sem, pV, pA]) rfl ⟨by rw [HR.out], ?_⟩
    exact ((below_drewN ((Below.refl _ _).alloc (Nat.le_refl _) _) _).setCell (Nat.le_refl _) _).setCell (Nat.le_refl _) _
  | true =>
    by_cases he : er = 0
    · subst he
      by_cases h1 : 1 ≤ n
      · have HR := Lib.hid (show partF s.data.toList = some (A.data.toList, n) from by rw [HP.out]; simp [h1])
        go_enter Tryd.func64, Tryd.ntmps64
        go_wp2_with (first
          | (go_at_call 70; refine (HC'.out _).mono ?_; rintro e w' ⟨rfl, q, rfl⟩)
          | (go_at_call 42; refine (HM'.out _).mono ?_; rintro e w' ⟨rfl, rfl⟩)
          | (go_at_call 71; refine (HN'.out _).mono ?_; rintro e w' ⟨rfl, rfl⟩))
        refine bodyPost_ret (v := .tuple (pV (some (A.data.toList, n)))) (by simp [results, Tryd.results64, go_sem, pV, pA]; try rfl) rfl ⟨by rw [HR.out], ?_⟩
        exact ((below_drewN ((Below.refl _ _).alloc (Nat.le_refl _) _) _).setCell (Nat.le_refl _) _).setCell (Nat.le_refl _) _
      · have HR := Lib.hid (show partF s.data.toList = none from by rw [HP.out]; simp [h1])
        go_enter Tryd.func64, Tryd.ntmps64
        go_wp2_with (first
          | (go_at_call 70; refine (HC'.out _).mono ?_; rintro e w' ⟨rfl, q, rfl⟩)
          | (go_at_call 42; refine (HM'.out _).mono ?_; rintro e w' ⟨rfl, rfl⟩)
          | (go_at_call 71; refine (HN'.out _).mono ?_; rintro e w' ⟨rfl, rfl⟩))
        refine bodyPost_ret (v := .tuple (pV none)) (by simp [results, Tryd.results64, go_sem, pV, pA]) rfl ⟨by rw [HR.out], ?_⟩
        exact ((below_drewN ((Below.refl _ _).alloc (Nat.le_refl _) _) _).setCell (Nat.le_refl _) _).setCell (Nat.le_refl _) _
    · have HR := Lib.hid (show partF s.data.toList = none from by rw [HP.out]; simp [he])
      have hne : ((er : Int) == 0) = false := by simpa using he
      have hne' : ((er : Int) != 0) = true := by simpa using he
      clear he
      go_enter Tryd.func64, Tryd.ntmps64
      go_wp2_with (first
          | (go_at_call 70; refine (HC'.out _).mono ?_; rintro e w' ⟨rfl, q, rfl⟩)
          | (go_at_call 42; refine (HM'.out _).mono ?_; rintro e w' ⟨rfl, rfl⟩)
          | (go_at_call 71; refine (HN'.out _).mono ?_; rintro e w' ⟨rfl, rfl⟩))
      refine bodyPost_ret (v := .tuple (pV none)) (by simp [results, Tryd.results64, go_sem, pV, pA]) rfl ⟨by rw [HR.out], ?_⟩
      exact ((below_drewN ((Below.refl _ _).alloc (Nat.le_refl _) _) _).setCell (Nat.le_refl _) _).setCell (Nat.le_refl _) _
end Go.Proofs.YtdnfoeoiommclaaDoor.P
