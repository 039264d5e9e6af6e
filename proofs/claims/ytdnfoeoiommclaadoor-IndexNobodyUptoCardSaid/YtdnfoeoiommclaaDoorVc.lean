/- tree: the program's Cut, Last, the order of two parts. -/
import Derived.Test.YtdnfoeoiommclaaDoorVm
import Derived.Test.YtdnfoeoiommclaaDoorShelf
import Derived.Deep.RegionHeld3
import Derived.Deep.QuietTactic
import Derived.BigQuiet
namespace Go.Proofs.YtdnfoeoiommclaaDoor
open Go Go.RowKit Go.Shelf
set_option linter.unusedVariables false

theorem below_drewN {B : Nat} {a w : World} (h : Below B a w) (n : Nat) : Below B a (w.drewN n) := ⟨h.os, h.tape, h.output, h.size, h.block⟩
theorem bel_tr {w x w' : World} (h1 : Below w.heap.size w x) (h2 : Below x.heap.size x w') : Below w.heap.size w w' := h1.trans (h2.mono h1.size)
theorem box_bel' (w : World) (o : Obj) : Below w.heap.size w (w.alloc o) := (Below.refl _ _).alloc (Nat.le_refl _) _

set_option maxRecDepth 100000 in
theorem cut1_c (s : ByteArray) (hs : s.size ≤ 140737488355328) (w : World) : Calls Tryd.prog 78 #[.string s, .string ⟨#[47]⟩] w fun e w' =>
    e = .returned (.tuple #[.string ⟨(cutS s.data.toList).1.toArray⟩, .string ⟨(cutS s.data.toList).2.toArray⟩, .bool (decide (47 ∈ s.data.toList))]) ∧ ∃ q, w' = w.drewN q := by
  have hrl : s.data.toList.length = s.size := Array.length_toList
  rcases idx_cases 47 s.data.toList with ⟨hi, hnot⟩ | ⟨k, hi, hk, hnot, hcut⟩
  · have HC := Lib.hid (fun w => Tryd.stringslite_Index_one s 47 w)
    rw [hi] at HC
    have HH := Lib.hid (cutS_none _ hnot)
    have HD := Lib.hid (show decide ((47 : UInt8) ∈ s.data.toList) = false from decide_eq_false hnot)
    clear hi hnot hrl
    go_enter Tryd.func78, Tryd.ntmps78
    go_wp2_with (go_at_call 82; refine (HC.out _).mono ?_; rintro e w' ⟨rfl, rfl⟩)
    go_ret3
    exact ⟨by rw [HH.out, HD.out]; rfl, 0, rfl⟩
  · have HC := Lib.hid (fun w => Tryd.stringslite_Index_one s 47 w)
    rw [hi] at HC
    have hh : cutS s.data.toList = (s.data.toList.take k, s.data.toList.drop (k + 1)) := by
      conv => lhs; rw [hcut]
      exact cutS_of _ _ hnot
    have HH := Lib.hid hh
    have HD := Lib.hid (show decide ((47 : UInt8) ∈ s.data.toList) = true from decide_eq_true (by rw [hcut]; simp))
    have hk0 : k ≤ s.size := by omega
    have hk1 : k + 1 ≤ s.size := by omega
    clear hi hnot hrl hcut hk hh
    go_enter Tryd.func78, Tryd.ntmps78
    go_wp2_with (go_at_call 82; refine (HC.out _).mono ?_; rintro e w' ⟨rfl, rfl⟩)
    go_quiet (fail)
    go_wp2_with fail
    go_ret3
    exact ⟨by rw [HH.out, HD.out, ← cutTo, ← cutFrom]; rfl, _, rfl⟩
theorem cut_c (s : ByteArray) (hs : s.size ≤ 140737488355328) (w : World) : Calls Tryd.prog 70 #[.string s, .string ⟨#[47]⟩] w fun e w' =>
    e = .returned (.tuple #[.string ⟨(cutS s.data.toList).1.toArray⟩, .string ⟨(cutS s.data.toList).2.toArray⟩, .bool (decide (47 ∈ s.data.toList))]) ∧ ∃ q, w' = w.drewN q := by
  have HC := fun w => cut1_c s hs w
  generalize (⟨(cutS s.data.toList).1.toArray⟩ : ByteArray) = A at *
  generalize (⟨(cutS s.data.toList).2.toArray⟩ : ByteArray) = D at *
  generalize decide ((47 : UInt8) ∈ s.data.toList) = b at *
  have HC' := Lib.hid HC
  clear HC
  go_enter Tryd.func70, Tryd.ntmps70
  go_wp2_with (go_at_call 78; refine (HC'.out _).mono ?_; rintro e w' ⟨rfl, q, rfl⟩)
  go_ret3
  exact ⟨rfl, _, rfl⟩

def pairV (p : PT) : Value := .tuple #[.string ⟨p.1.toArray⟩, .int .i64 p.2]

set_option maxRecDepth 100000 in
set_option maxHeartbeats 1000000 in
theorem last_c (w : World) (s : ByteArray) (hs : s.size ≤ 140737488355328) (hno : (47 : UInt8) ∉ s.data.toList) : Calls Tryd.prog 28 #[.string s] w fun e w' => e = .returned (pairV (lastP s.data.toList)) ∧ Below w.heap.size w w' := by
  have HL1 := fun w => Tryd.strings_LastIndex s ⟨#[47]⟩ (by omega) w
  rw [show (⟨#[47]⟩ : ByteArray).data.toList = [47] from rfl, lastIs_unique _ _ _ _ (lastIs_lib s.data.toList 47) (.inl ⟨rfl, hno⟩)] at HL1
  have HL1 := Lib.hid HL1
  have HL2 := fun w => Tryd.strings_LastIndex s ⟨#[46]⟩ (by omega) w
  rw [show (⟨#[46]⟩ : ByteArray).data.toList = [46] from rfl] at HL2
  obtain ⟨z, hz⟩ : ∃ z, Lib.lastIndex s.data.toList [46] = z := ⟨_, rfl⟩
  rw [hz] at HL2
  have HL2 := Lib.hid HL2
  clear hno
  by_cases h1 : z < 1
  · have hd : decide (z < 1) = true := decide_eq_true h1
    have HP := Lib.hid (lastP_off _ _ hz h1)
    clear hz
    go_enter Tryd.func28, Tryd.ntmps28
    go_wp2_with (first
      | (go_at_call 41; with_reducible refine (HL2.out _).mono ?_; rintro e w' ⟨rfl, rfl⟩)
      | (go_at_call 41; with_reducible refine (HL1.out _).mono ?_; rintro e w' ⟨rfl, rfl⟩))
    go_ret2
    exact ⟨by rw [HP.out]; rfl, Below.refl _ _⟩
  · obtain ⟨k, rfl⟩ : ∃ k : Nat, z = (k : Int) := ⟨z.toNat, by omega⟩
    have hk : k < s.size := by
      have := lastIs_lib s.data.toList 46
      rw [hz] at this
      rcases this with ⟨e, _⟩ | ⟨j, e, hj, _⟩
      · omega
      · have : s.data.toList.length = s.size := Array.length_toList
        omega
    have hd : decide ((k : Int) < 1) = false := decide_eq_false h1
    have hk1 : k + 1 ≤ s.size := hk
    have hk0 : k ≤ s.size := by omega
    have HN := Lib.hid (fun w => number_c w (s.extract (k + 1) s.size) (by rw [ByteArray.size_extract]; omega))
    have he : tb (s.extract (k + 1) s.size) = s.data.toList.drop (k + 1) := by rw [cutFrom]; rfl
    rw [he] at HN
    have HP1 := Lib.hid (lastP_bad _ _ hz)
    have HP2 := Lib.hid (lastP_ok _ _ hz (by omega))
    rw [show ((k : Int)).toNat = k from by omega] at HP1 HP2
    have HC := Lib.hid (cutTo s k)
    obtain ⟨n, hn⟩ : ∃ n, (num (s.data.toList.drop (k + 1))).1 = n := ⟨_, rfl⟩
    obtain ⟨q, hq⟩ : ∃ q, (num (s.data.toList.drop (k + 1))).2 = q := ⟨_, rfl⟩
    rw [hn, hq] at HN HP1 HP2
    clear hn hq hz he h1 hk
    by_cases hq0 : q = 0
    · subst hq0
      by_cases hn1 : n < 1
      · have hdn : decide (n < 1) = true := decide_eq_true hn1
        have HP := Lib.hid (HP1.out (.inr hn1))
        clear HP1 HP2 hn1
        go_enter Tryd.func28, Tryd.ntmps28
        go_wp2_with (first
          | (go_at_call 42; refine (HN.out _).mono ?_; rintro e w' ⟨rfl, rfl⟩)
          | (go_at_call 41; with_reducible refine (HL2.out _).mono ?_; rintro e w' ⟨rfl, rfl⟩)
          | (go_at_call 41; with_reducible refine (HL1.out _).mono ?_; rintro e w' ⟨rfl, rfl⟩))
        go_ret2
        exact ⟨by rw [HP.out]; rfl, Below.refl _ _⟩
      · have hdn : decide (n < 1) = false := decide_eq_false hn1
        have HP := Lib.hid (HP2.out rfl (by omega))
        clear HP1 HP2 hn1
        go_enter Tryd.func28, Tryd.ntmps28
        go_wp2_with (first
          | (go_at_call 42; refine (HN.out _).mono ?_; rintro e w' ⟨rfl, rfl⟩)
          | (go_at_call 41; with_reducible refine (HL2.out _).mono ?_; rintro e w' ⟨rfl, rfl⟩)
          | (go_at_call 41; with_reducible refine (HL1.out _).mono ?_; rintro e w' ⟨rfl, rfl⟩))
        go_ret2
        exact ⟨by rw [HP.out]; unfold pairV; rw [← HC.out]; rfl, Below.refl _ _⟩
    · have hqb : ((q : Int) != 0) = true := by simpa using hq0
      have HP := Lib.hid (HP1.out (.inl hq0))
      clear HP1 HP2 hq0
      go_enter Tryd.func28, Tryd.ntmps28
      go_wp2_with (first
        | (go_at_call 42; refine (HN.out _).mono ?_; rintro e w' ⟨rfl, rfl⟩)
        | (go_at_call 41; with_reducible refine (HL2.out _).mono ?_; rintro e w' ⟨rfl, rfl⟩)
        | (go_at_call 41; with_reducible refine (HL1.out _).mono ?_; rintro e w' ⟨rfl, rfl⟩))
      go_ret2
      exact ⟨by rw [HP.out]; rfl, Below.refl _ _⟩

def orI (x y : Int) : Int := if x = 0 then y else x
theorem cells3' {w : World} {b : Nat} {u v t : Value} {T : TypeId} (h : w.heap[b]? = some (.cells #[u, v, t] T (0, 0))) : w.cell? ⟨b, 0, none⟩ = some u ∧ w.cell? ⟨b, 1, none⟩ = some v ∧ w.cell? ⟨b, 2, none⟩ = some t := by
  refine ⟨?_, ?_, ?_⟩ <;> simp [World.cell?, h]

theorem cmpX_or (x y : List UInt8) : orI (Lib.compareBytes (lastP x).1 (lastP y).1) (orI (Lib.compareInt (lastP x).2 (lastP y).2) (Lib.compareBytes x y)) = cmpX x y := by
  have h : Lib.compareInt (lastP x).2 (lastP y).2 = cmpI (lastP x).2 (lastP y).2 := rfl
  rw [h]
  unfold orI cmpX cmpP
  by_cases h1 : Lib.compareBytes (lastP x).1 (lastP y).1 = 0
  · simp only [h1, if_true]
  · simp only [h1, if_false]

end Go.Proofs.YtdnfoeoiommclaaDoor
