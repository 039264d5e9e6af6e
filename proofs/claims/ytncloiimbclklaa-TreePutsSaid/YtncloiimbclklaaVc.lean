/- tree: the program's Cut, Last, the order of two parts. -/
import Derived.Test.YtncloiimbclklaaVm
import Derived.Test.YtncloiimbclklaaShelf
import Derived.Deep.RegionHeld3
import Derived.Deep.QuietTactic
import Derived.BigQuiet
namespace Go.Proofs.Ytncloiimbclklaa
open Go Go.RowKit Go.Shelf
set_option linter.unusedVariables false

theorem below_drewN {B : Nat} {a w : World} (h : Below B a w) (n : Nat) : Below B a (w.drewN n) := ⟨h.os, h.tape, h.output, h.size, h.block⟩
theorem bel_tr {w x w' : World} (h1 : Below w.heap.size w x) (h2 : Below x.heap.size x w') : Below w.heap.size w w' := h1.trans (h2.mono h1.size)
theorem box_bel' (w : World) (o : Obj) : Below w.heap.size w (w.alloc o) := (Below.refl _ _).alloc (Nat.le_refl _) _

set_option maxRecDepth 100000 in
theorem cut1_c (s : ByteArray) (hs : s.size ≤ 140737488355328) (w : World) : Calls Try.prog 67 #[.string s, .string ⟨#[47]⟩] w fun e w' =>
    e = .returned (.tuple #[.string ⟨(cutS s.data.toList).1.toArray⟩, .string ⟨(cutS s.data.toList).2.toArray⟩, .bool (decide (47 ∈ s.data.toList))]) ∧ ∃ q, w' = w.drewN q := by
  have hrl : s.data.toList.length = s.size := Array.length_toList
  rcases idx_cases 47 s.data.toList with ⟨hi, hnot⟩ | ⟨k, hi, hk, hnot, hcut⟩
  · have HC := Lib.hid (fun w => Try.stringslite_Index_one s 47 w)
    rw [hi] at HC
    have HH := Lib.hid (cutS_none _ hnot)
    have HD := Lib.hid (show decide ((47 : UInt8) ∈ s.data.toList) = false from decide_eq_false hnot)
    clear hi hnot hrl
    go_enter Try.func67, Try.ntmps67
    go_wp2_with (go_at_call 78; refine (HC.out _).mono ?_; rintro e w' ⟨rfl, rfl⟩)
    go_ret3
    exact ⟨by rw [HH.out, HD.out]; rfl, 0, rfl⟩
  · have HC := Lib.hid (fun w => Try.stringslite_Index_one s 47 w)
    rw [hi] at HC
    have hh : cutS s.data.toList = (s.data.toList.take k, s.data.toList.drop (k + 1)) := by
      conv => lhs; rw [hcut]
      exact cutS_of _ _ hnot
    have HH := Lib.hid hh
    have HD := Lib.hid (show decide ((47 : UInt8) ∈ s.data.toList) = true from decide_eq_true (by rw [hcut]; simp))
    have hk0 : k ≤ s.size := by omega
    have hk1 : k + 1 ≤ s.size := by omega
    clear hi hnot hrl hcut hk hh
    go_enter Try.func67, Try.ntmps67
    go_wp2_with (go_at_call 78; refine (HC.out _).mono ?_; rintro e w' ⟨rfl, rfl⟩)
    go_quiet (fail)
    go_wp2_with fail
    go_ret3
    exact ⟨by rw [HH.out, HD.out, ← cutTo, ← cutFrom]; rfl, _, rfl⟩
theorem cut_c (s : ByteArray) (hs : s.size ≤ 140737488355328) (w : World) : Calls Try.prog 50 #[.string s, .string ⟨#[47]⟩] w fun e w' =>
    e = .returned (.tuple #[.string ⟨(cutS s.data.toList).1.toArray⟩, .string ⟨(cutS s.data.toList).2.toArray⟩, .bool (decide (47 ∈ s.data.toList))]) ∧ ∃ q, w' = w.drewN q := by
  have HC := fun w => cut1_c s hs w
  generalize (⟨(cutS s.data.toList).1.toArray⟩ : ByteArray) = A at *
  generalize (⟨(cutS s.data.toList).2.toArray⟩ : ByteArray) = D at *
  generalize decide ((47 : UInt8) ∈ s.data.toList) = b at *
  have HC' := Lib.hid HC
  clear HC
  go_enter Try.func50, Try.ntmps50
  go_wp2_with (go_at_call 67; refine (HC'.out _).mono ?_; rintro e w' ⟨rfl, q, rfl⟩)
  go_ret3
  exact ⟨rfl, _, rfl⟩

def pairV (p : PT) : Value := .tuple #[.string ⟨p.1.toArray⟩, .int .i64 p.2]

set_option maxRecDepth 100000 in
set_option maxHeartbeats 1000000 in
theorem last_c (w : World) (s : ByteArray) (hs : s.size ≤ 140737488355328) (hno : (47 : UInt8) ∉ s.data.toList) : Calls Try.prog 39 #[.string s] w fun e w' => e = .returned (pairV (lastP s.data.toList)) ∧ Below w.heap.size w w' := by
  have HL1 := fun w => Try.strings_LastIndex s ⟨#[47]⟩ (by omega) w
  rw [show (⟨#[47]⟩ : ByteArray).data.toList = [47] from rfl, lastIs_unique _ _ _ _ (lastIs_lib s.data.toList 47) (.inl ⟨rfl, hno⟩)] at HL1
  have HL1 := Lib.hid HL1
  have HL2 := fun w => Try.strings_LastIndex s ⟨#[46]⟩ (by omega) w
  rw [show (⟨#[46]⟩ : ByteArray).data.toList = [46] from rfl] at HL2
  obtain ⟨z, hz⟩ : ∃ z, Lib.lastIndex s.data.toList [46] = z := ⟨_, rfl⟩
  rw [hz] at HL2
  have HL2 := Lib.hid HL2
  clear hno
  by_cases h1 : z < 1
  · have hd : decide (z < 1) = true := decide_eq_true h1
    have HP := Lib.hid (lastP_off _ _ hz h1)
    clear hz
    go_enter Try.func39, Try.ntmps39
    go_wp2_with (first
      | (go_at_call 53; with_reducible refine (HL2.out _).mono ?_; rintro e w' ⟨rfl, rfl⟩)
      | (go_at_call 53; with_reducible refine (HL1.out _).mono ?_; rintro e w' ⟨rfl, rfl⟩))
    go_ret2
    exact ⟨by rw [HP.out]; rfl, Below.refl _ _⟩
  · obtain ⟨k, rfl⟩ : ∃ k : Nat, z = (k : Int) := ⟨z.toNat, by omega⟩
    have hk : k < s.size := by
      have := lastIs_lib s.data.toList 46
      rw [hz] at this
      rcases this with ⟨e, _⟩ | ⟨j, e, hj, _⟩
      · omega
      · have : s.data.toList.length = s.size := Array.length_toList
        omega
    have hd : decide ((k : Int) < 1) = false := decide_eq_false h1
    have hk1 : k + 1 ≤ s.size := hk
    have hk0 : k ≤ s.size := by omega
    have HN := Lib.hid (fun w => number_c w (s.extract (k + 1) s.size) (by rw [ByteArray.size_extract]; omega))
    have he : tb (s.extract (k + 1) s.size) = s.data.toList.drop (k + 1) := by rw [cutFrom]; rfl
    rw [he] at HN
    have HP1 := Lib.hid (lastP_bad _ _ hz)
    have HP2 := Lib.hid (lastP_ok _ _ hz (by omega))
    rw [show ((k : Int)).toNat = k from by omega] at HP1 HP2
    have HC := Lib.hid (cutTo s k)
    obtain ⟨n, hn⟩ : ∃ n, (num (s.data.toList.drop (k + 1))).1 = n := ⟨_, rfl⟩
    obtain ⟨q, hq⟩ : ∃ q, (num (s.data.toList.drop (k + 1))).2 = q := ⟨_, rfl⟩
    rw [hn, hq] at HN HP1 HP2
    clear hn hq hz he h1 hk
    by_cases hq0 : q = 0
    · subst hq0
      by_cases hn1 : n < 1
      · have hdn : decide (n < 1) = true := decide_eq_true hn1
        have HP := Lib.hid (HP1.out (.inr hn1))
        clear HP1 HP2 hn1
        go_enter Try.func39, Try.ntmps39
        go_wp2_with (first
          | (go_at_call 58; refine (HN.out _).mono ?_; rintro e w' ⟨rfl, rfl⟩)
          | (go_at_call 53; with_reducible refine (HL2.out _).mono ?_; rintro e w' ⟨rfl, rfl⟩)
          | (go_at_call 53; with_reducible refine (HL1.out _).mono ?_; rintro e w' ⟨rfl, rfl⟩))
        go_ret2
        exact ⟨by rw [HP.out]; rfl, Below.refl _ _⟩
      · have hdn : decide (n < 1) = false := decide_eq_false hn1
        have HP := Lib.hid (HP2.out rfl (by omega))
        clear HP1 HP2 hn1
        go_enter Try.func39, Try.ntmps39
        go_wp2_with (first
          | (go_at_call 58; refine (HN.out _).mono ?_; rintro e w' ⟨rfl, rfl⟩)
          | (go_at_call 53; with_reducible refine (HL2.out _).mono ?_; rintro e w' ⟨rfl, rfl⟩)
          | (go_at_call 53; with_reducible refine (HL1.out _).mono ?_; rintro e w' ⟨rfl, rfl⟩))
        go_ret2
        exact ⟨by rw [HP.out]; unfold pairV; rw [← HC.out]; rfl, Below.refl _ _⟩
    · have hqb : ((q : Int) != 0) = true := by simpa using hq0
      have HP := Lib.hid (HP1.out (.inl hq0))
      clear HP1 HP2 hq0
      go_enter Try.func39, Try.ntmps39
      go_wp2_with (first
        | (go_at_call 58; refine (HN.out _).mono ?_; rintro e w' ⟨rfl, rfl⟩)
        | (go_at_call 53; with_reducible refine (HL2.out _).mono ?_; rintro e w' ⟨rfl, rfl⟩)
        | (go_at_call 53; with_reducible refine (HL1.out _).mono ?_; rintro e w' ⟨rfl, rfl⟩))
      go_ret2
      exact ⟨by rw [HP.out]; rfl, Below.refl _ _⟩

def orI (x y : Int) : Int := if x = 0 then y else x
theorem cells3' {w : World} {b : Nat} {u v t : Value} {T : TypeId} (h : w.heap[b]? = some (.cells #[u, v, t] T (0, 0))) : w.cell? ⟨b, 0, none⟩ = some u ∧ w.cell? ⟨b, 1, none⟩ = some v ∧ w.cell? ⟨b, 2, none⟩ = some t := by
  refine ⟨?_, ?_, ?_⟩ <;> simp [World.cell?, h]

set_option maxRecDepth 100000 in
set_option maxHeartbeats 1000000 in
theorem or3_c (w : World) (b : Nat) (x y z : Int) (hx : w.cell? ⟨b, 0, none⟩ = some (.int .i64 x)) (hy : w.cell? ⟨b, 1, none⟩ = some (.int .i64 y)) (hz : w.cell? ⟨b, 2, none⟩ = some (.int .i64 z)) :
    Calls Try.prog 68 #[.slice (some ⟨b, 0, none⟩) 3 3] w fun e w' => e = .returned (.int .i64 (orI x (orI y z))) ∧ w = w' := by
  by_cases h1 : x = 0
  · subst h1
    by_cases h2 : y = 0
    · subst h2
      by_cases h3 : z = 0
      · subst h3
        have HO := Lib.hid (show orI 0 (orI 0 0) = 0 from rfl)
        go_enter Try.func68, Try.ntmps68
        go_wp2_with fail
        refine wp_loop_rounds 5 ?_
        rw [rounds_succ]
        go_wp2_with fail
        rw [rounds_succ]
        go_wp2_with fail
        rw [rounds_succ]
        go_wp2_with fail
        rw [rounds_succ]
        go_wp2_with fail
        go_ret
        exact ⟨rfl, rfl⟩
      · have hb2 : ((z : Int) != 0) = true := by simpa using h3
        have HO := Lib.hid (show orI 0 (orI 0 z) = z from rfl)
        clear h3
        go_enter Try.func68, Try.ntmps68
        go_wp2_with fail
        refine wp_loop_rounds 5 ?_
        rw [rounds_succ]
        go_wp2_with fail
        rw [rounds_succ]
        go_wp2_with fail
        rw [rounds_succ]
        go_wp2_with fail
        go_ret
        exact ⟨by rw [HO.out]; rfl, rfl⟩
    · have hb2 : ((y : Int) != 0) = true := by simpa using h2
      have HO := Lib.hid (show orI 0 (orI y z) = y from by unfold orI; rw [if_pos rfl, if_neg h2])
      clear h2
      go_enter Try.func68, Try.ntmps68
      go_wp2_with fail
      refine wp_loop_rounds 5 ?_
      rw [rounds_succ]
      go_wp2_with fail
      rw [rounds_succ]
      go_wp2_with fail
      go_ret
      exact ⟨by rw [HO.out]; rfl, rfl⟩
  · have hb : ((x : Int) != 0) = true := by simpa using h1
    have HO := Lib.hid (show orI x (orI y z) = x from by unfold orI; rw [if_neg h1])
    clear h1
    go_enter Try.func68, Try.ntmps68
    go_wp2_with fail
    refine wp_loop_rounds 5 ?_
    rw [rounds_succ]
    go_wp2_with fail
    go_ret
    exact ⟨by rw [HO.out]; rfl, rfl⟩

theorem cmpX_or (x y : List UInt8) : orI (Lib.compareBytes (lastP x).1 (lastP y).1) (orI (Lib.compareInt (lastP x).2 (lastP y).2) (Lib.compareBytes x y)) = cmpX x y := by
  have h : Lib.compareInt (lastP x).2 (lastP y).2 = cmpI (lastP x).2 (lastP y).2 := rfl
  rw [h]
  unfold orI cmpX cmpP
  by_cases h1 : Lib.compareBytes (lastP x).1 (lastP y).1 = 0
  · simp only [h1, if_true]
  · simp only [h1, if_false]

set_option maxRecDepth 100000 in
set_option maxHeartbeats 2000000 in
theorem partOrder_c (w : World) (x y : ByteArray) (hx : x.size ≤ 140737488355328) (hy : y.size ≤ 140737488355328) (nx : (47 : UInt8) ∉ x.data.toList) (ny : (47 : UInt8) ∉ y.data.toList) :
    Calls Try.prog 51 #[.string x, .string y] w fun e w' => e = .returned (.int .i64 (cmpX x.data.toList y.data.toList)) ∧ Below w.heap.size w w' := by
  have H1 := Lib.hid (fun w => last_c w x hx nx)
  have H2 := Lib.hid (fun w => last_c w y hy ny)
  have HX := Lib.hid (cmpX_or x.data.toList y.data.toList)
  unfold pairV at H1 H2
  clear hx hy nx ny
  generalize lastP x.data.toList = p at *
  generalize lastP y.data.toList = q at *
  obtain ⟨a, m⟩ := p
  obtain ⟨c, n⟩ := q
  dsimp only at H1 H2 HX
  obtain ⟨A, hA⟩ : ∃ A : ByteArray, A = ⟨a.toArray⟩ := ⟨_, rfl⟩
  obtain ⟨C, hC⟩ : ∃ C : ByteArray, C = ⟨c.toArray⟩ := ⟨_, rfl⟩
  have hA1 : a = A.data.toList := by rw [hA]
  have hC1 : c = C.data.toList := by rw [hC]
  rw [← hA] at H1
  rw [← hC] at H2
  rw [hA1, hC1] at HX
  clear hA hC hA1 hC1
  have HS := Lib.hid (fun w => Try.strings_Compare A C w)
  have HS2 := Lib.hid (fun w => Try.strings_Compare x y w)
  have HI := Lib.hid (fun w => Try.cmp_Compare m n w)
  generalize Lib.compareBytes A.data.toList C.data.toList = r1 at *
  generalize Lib.compareInt m n = r2 at *
  generalize Lib.compareBytes x.data.toList y.data.toList = r3 at *
  generalize cmpX x.data.toList y.data.toList = z at *
  have HOr := Lib.hid (fun (w : World) (b : Nat) (hx : w.cell? ⟨b, 0, none⟩ = some (.int .i64 r1)) (hy : w.cell? ⟨b, 1, none⟩ = some (.int .i64 r2)) (hz : w.cell? ⟨b, 2, none⟩ = some (.int .i64 r3)) => or3_c w b r1 r2 r3 hx hy hz)
  rw [HX.out] at HOr
  have HNW := Lib.hid (fun (W2 : World) => cells3' (heap_alloc_new W2 (.cells #[.int .i64 r1, .int .i64 r2, .int .i64 r3] 3)))
  go_enter Try.func51, Try.ntmps51
  go_wp2_with (first
    | (go_at_call 68; refine (HOr.out _ _ (HNW.out _).1 (HNW.out _).2.1 (HNW.out _).2.2).mono ?_; rintro e w' ⟨rfl, rfl⟩)
    | (go_at_call 69; with_reducible refine (HS2.out _).mono ?_; rintro e w' ⟨rfl, rfl⟩)
    | (go_at_call 70; with_reducible refine (HI.out _).mono ?_; rintro e w' ⟨rfl, rfl⟩)
    | (go_at_call 69; with_reducible refine (HS.out _).mono ?_; rintro e w' ⟨rfl, rfl⟩)
    | (go_at_call 39; with_reducible refine (H2.out _).mono ?_; rintro e w' ⟨rfl, hb⟩; have HB2 := Lib.hid (bel_tr HB1.out hb); clear hb)
    | (go_at_call 39; with_reducible refine (H1.out _).mono ?_; rintro e w' ⟨rfl, hb⟩; have HB1 := Lib.hid hb; clear hb))
  go_ret
  exact ⟨rfl, HB2.out.alloc HB2.out.size _⟩
end Go.Proofs.Ytncloiimbclklaa
