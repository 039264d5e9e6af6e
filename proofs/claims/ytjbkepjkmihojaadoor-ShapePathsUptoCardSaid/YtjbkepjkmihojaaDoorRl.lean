/- shape: the reference's last, part. -/
import Derived.Test.YtjbkepjkmihojaaDoorRk
import Derived.Test.YtjbkepjkmihojaaDoorQs
namespace Go.Proofs.YtjbkepjkmihojaaDoor
open Go Go.RowKit
set_option linter.unusedVariables false

/-- Where a byte stands last. -/
def LastIs (l : List UInt8) (x : UInt8) (z : Int) : Prop := (z = -1 ∧ x ∉ l) ∨ ∃ k : Nat, z = (k : Int) ∧ k < l.length ∧ l = l.take k ++ x :: l.drop (k + 1) ∧ x ∉ l.drop (k + 1)
theorem lastIs_at (l : List UInt8) (x : UInt8) (k : Nat) (hk : k < l.length) (hx : l[k] = x) (hn : x ∉ l.drop (k + 1)) : LastIs l x k :=
  .inr ⟨k, rfl, hk, by rw [← hx, ← List.drop_eq_getElem_cons hk, List.take_append_drop], hn⟩
theorem getElem_of_cut {l a b : List UInt8} {x : UInt8} {k : Nat} (h : l = a ++ x :: b) (ha : a.length = k) (hk : k < l.length) : l[k] = x := by
  subst h
  rw [List.getElem_append_right (by omega)]
  simp [ha]
theorem lastIs_unique (l : List UInt8) (x : UInt8) (y z : Int) (hy : LastIs l x y) (hz : LastIs l x z) : y = z := by
  have key : ∀ (i j : Nat), i < l.length → j < l.length → l = l.take i ++ x :: l.drop (i + 1) → l = l.take j ++ x :: l.drop (j + 1) → x ∉ l.drop (i + 1) → ¬ i < j := by
    intro i j hi hj e1 e2 hn hij
    apply hn
    have hx : l[j] = x := getElem_of_cut e2 (by rw [List.length_take]; omega) hj
    rw [← hx]
    have : (l.drop (i + 1))[j - (i + 1)]'(by rw [List.length_drop]; omega) = l[j] := by
      rw [List.getElem_drop]
      congr 1
      omega
    rw [← this]
    exact List.getElem_mem _
  rcases hy with ⟨rfl, h1⟩ | ⟨i, rfl, hi, e1, n1⟩
  · rcases hz with ⟨rfl, _⟩ | ⟨j, rfl, hj, e2, n2⟩
    · rfl
    · exact absurd (show x ∈ l by rw [e2]; simp) h1
  · rcases hz with ⟨rfl, h2⟩ | ⟨j, rfl, hj, e2, n2⟩
    · exact absurd (show x ∈ l by rw [e1]; simp) h2
    · have a := key i j hi hj e1 e2 n1
      have b := key j i hj hi e2 e1 n2
      omega
theorem last_ex (x : UInt8) (l : List UInt8) : ∃ z, LastIs l x z := by
  have : ∀ n, n ≤ l.length → (x ∉ l.drop (l.length - n)) ∨ ∃ k : Nat, LastIs l x k := by
    intro n
    induction n with
    | zero => intro _; left; simp
    | succ n ih =>
      intro hn
      rcases ih (by omega) with h | h
      · have hlt : l.length - (n + 1) < l.length := by omega
        have hd := List.drop_eq_getElem_cons hlt
        have he : l.length - (n + 1) + 1 = l.length - n := by omega
        rw [he] at hd
        by_cases hx : l[l.length - (n + 1)] = x
        · exact .inr ⟨_, lastIs_at l x _ hlt hx (by rw [he]; exact h)⟩
        · left
          rw [hd, List.mem_cons, not_or]
          exact ⟨fun e => hx e.symm, h⟩
      · exact .inr h
  rcases this l.length (Nat.le_refl _) with h | ⟨k, h⟩
  · exact ⟨-1, .inl ⟨rfl, by simpa using h⟩⟩
  · exact ⟨_, h⟩

set_option maxRecDepth 100000 in
theorem rlast_c (w : World) (s : ByteArray) (hs : s.size ≤ 140737488355328) (x : UInt8) (z : Int) (hz : LastIs s.data.toList x z) :
    Calls Tryd.prog 21 #[.string s, .int .u8 (x.toNat : Int)] w fun e w' => e = .returned (.int .i64 z) ∧ w = w' := by
  have HZ := Lib.hid (fun y hy => lastIs_unique s.data.toList x z y hz hy)
  have hx8 := x.toNat_lt
  clear hz
  go_enter Tryd.func21, Tryd.ntmps21
  go_wp2_with fail
  go_loop [5] (fun i => ∃ j : Int, i = .int .i64 j ∧ -1 ≤ j ∧ j < s.size ∧ x ∉ s.data.toList.drop (j + 1).toNat) (fun i => (intOf i + 1).toNat)
  case atStart => exact ⟨(s.size : Int) - 1, rfl, by omega, by omega, by
    rw [show ((s.size : Int) - 1 + 1).toNat = s.size from by omega, drop_all]; simp⟩
  case round =>
    obtain ⟨j, rfl, h1, h2, hr⟩ := hrel
    have HR := Lib.hid hr
    clear hr
    by_cases h0 : 0 ≤ j
    · obtain ⟨k, rfl⟩ : ∃ k : Nat, j = k := ⟨j.toNat, by omega⟩
      have hlt : k < s.size := by omega
      have HD := Lib.hid (drop_next s k hlt)
      have HR2 := Lib.hid (show x ∉ s.data.toList.drop (k + 1) from by have := HR.out; rwa [show ((k : Int) + 1).toNat = k + 1 from by omega] at this)
      have hb := (s[k]).toNat_lt
      by_cases he : s[k] = x
      · have HE := Lib.hid (HZ.out _ (lastIs_at s.data.toList x k (by rw [size_list]; exact hlt) he HR2.out))
        have hq : ((s[k].toNat : Int) == (x.toNat : Int)) = true := by rw [he]; simp
        clear he
        go_wp2_with fail
        go_ret
        exact ⟨by rw [HE.out]; rfl, rfl⟩
      · have HN := Lib.hid (show x ∉ s.data.toList.drop ((k : Int) - 1 + 1).toNat from by
          rw [show ((k : Int) - 1 + 1).toNat = k from by omega, HD.out, List.mem_cons, not_or]
          exact ⟨fun e => he e.symm, HR2.out⟩)
        have hq : ((s[k].toNat : Int) == (x.toNat : Int)) = false := by
          rw [beq_eq_false_iff_ne]
          intro e
          exact he (UInt8.toNat_inj.1 (by omega))
        clear he
        go_wp2_with fail
        exact ⟨⟨(k : Int) - 1, rfl, by omega, by omega, HN.out⟩, by simp [intOf]⟩
    · have HE := Lib.hid (HZ.out (-1) (.inl ⟨rfl, by
        have h := HR.out
        rw [show (j + 1).toNat = 0 from by omega, List.drop_zero] at h
        exact h⟩))
      go_wp2_with fail
      go_ret
      exact ⟨by rw [HE.out]; rfl, rfl⟩

theorem partF_cut (l : List UInt8) (k : Nat) (hl : l = l.take k ++ 35 :: l.drop (k + 1)) (hk : k < l.length) (hn : 35 ∉ l.drop (k + 1)) :
    (nameOk (l.take k) = false → partF l = none) ∧ (nameOk (l.take k) = true → partF l = if (num (l.drop (k + 1))).2 = 0 ∧ 1 ≤ (num (l.drop (k + 1))).1 then some (l.take k, (num (l.drop (k + 1))).1) else none) := by
  constructor
  · intro h
    cases hp : partF l with
    | none => rfl
    | some p =>
      exfalso
      obtain ⟨t1, t2, t3, t4, t5⟩ := partF_text l p hp
      have e : LastIs l 35 p.1.length := by
        have hd : l.drop (p.1.length + 1) = txt p.2 := by rw [← t1]; unfold partT; simp
        have ht : l.take p.1.length = p.1 := by rw [← t1]; unfold partT; simp
        refine .inr ⟨p.1.length, rfl, by rw [← t1]; unfold partT; simp, by rw [hd, ht]; exact t1.symm, ?_⟩
        rw [hd]
        have hds : txt p.2 = ds p.2.toNat := by unfold txt; rw [if_neg (by omega)]
        rw [hds]
        intro hm
        have := List.all_eq_true.1 (dg_all 20 p.2.toNat) _ hm
        revert this; decide
      have := lastIs_unique l 35 _ _ e (.inr ⟨k, rfl, hk, hl, hn⟩)
      have hkk : p.1.length = k := by omega
      have ht : l.take k = p.1 := by rw [← hkk, ← t1]; unfold partT; simp
      rw [ht, t2] at h
      cases h
  · intro h
    have hc : cutH l = (l.take k, l.drop (k + 1)) := by
      conv => lhs; rw [hl]
      exact cutH_of _ _ (nameOk_no _ h 35 (by decide) (by decide))
    unfold partF
    rw [hc]
    simp only [h, true_and]

/-- What the reference's part hands back. -/
def PartPost (w : World) (o : Option PT) (e : Ending) (w' : World) : Prop :=
  ∃ (s : ByteArray) (n : Int) (ok : Bool), e = .returned (.tuple #[.string s, .int .i64 n, .bool ok]) ∧ ok = o.isSome ∧ (∀ p, o = some p → s = ⟨p.1.toArray⟩ ∧ n = p.2) ∧ Below w.heap.size w w'

set_option maxRecDepth 100000 in
set_option maxHeartbeats 1000000 in
theorem rpart_c (w : World) (s : ByteArray) (hs : s.size ≤ 140737488355328) : Calls Tryd.prog 20 #[.string s] w (PartPost w (partF s.data.toList)) := by
  obtain ⟨z, hz⟩ := last_ex 35 s.data.toList
  have HL := fun w => rlast_c w s hs 35 z hz
  rw [show (((35 : UInt8).toNat : Nat) : Int) = 35 from rfl] at HL
  rcases hz with ⟨rfl, hno⟩ | ⟨k, rfl, hk, hcut, hn⟩
  · have HP : Hid (∀ w' (e : Ending), Below w.heap.size w w' → e = .returned (.tuple #[.string ⟨#[]⟩, .int .i64 0, .bool false]) → PartPost w (partF s.data.toList) e w') := by
      intro w' e hb he
      have hp : partF s.data.toList = none := by unfold partF; rw [cutH_none _ hno, if_neg]; simp [num, numD, isM, stripM, numeral]
      exact ⟨_, _, _, he, by rw [hp]; rfl, (fun p h => by rw [hp] at h; cases h), hb⟩
    have HLL := Lib.hid HL
    clear HL hno
    go_enter Tryd.func20, Tryd.ntmps20
    go_wp2_with (go_at_call 21; refine (HLL.out _).mono ?_; rintro e w' ⟨rfl, rfl⟩)
    go_ret3
    exact HP.out _ _ (Below.refl _ _) rfl
  · have hk1 : k + 1 ≤ s.size := by rw [size_list] at hk; omega
    have hk0 : k ≤ s.size := by omega
    obtain ⟨q1, q2⟩ := partF_cut _ k hcut hk hn
    obtain ⟨A, hA⟩ : ∃ A, s.extract 0 k = A := ⟨_, rfl⟩
    obtain ⟨D, hD⟩ : ∃ D, s.extract (k + 1) s.size = D := ⟨_, rfl⟩
    have hAl : A.data.toList = s.data.toList.take k := by rw [← hA, cutTo]
    have hDl : D.data.toList = s.data.toList.drop (k + 1) := by rw [← hD, cutFrom]
    have hAs : A.size ≤ 140737488355328 := by rw [← hA, ByteArray.size_extract]; omega
    have hDs : D.size ≤ 140737488355328 := by rw [← hD, ByteArray.size_extract]; omega
    have HF := fun w => rfits_c w A hAs
    have HM := fun w => rnumber_c w D hDs
    unfold tb at HM
    rw [hAl] at HF
    rw [hDl] at HM
    obtain ⟨nm, hnm⟩ : ∃ b, nameOk (s.data.toList.take k) = b := ⟨_, rfl⟩
    obtain ⟨⟨n, er⟩, hv⟩ : ∃ v, num (s.data.toList.drop (k + 1)) = v := ⟨_, rfl⟩
    rw [hnm] at HF q1 q2
    rw [hv] at HM q2
    have HF' := Lib.hid HF
    have HM' := Lib.hid HM
    have HLL := Lib.hid HL
    have HAe := Lib.hid (show A = ⟨(s.data.toList.take k).toArray⟩ from by rw [← hA, cutTo])
    clear HF HM HL hAl hDl hAs hDs hnm hv hcut hn hk
    cases nm with
    | false =>
      have hp : partF s.data.toList = none := q1 rfl
      have HP : Hid (∀ w' (e : Ending), Below w.heap.size w w' → e = .returned (.tuple #[.string ⟨#[]⟩, .int .i64 0, .bool false]) → PartPost w (partF s.data.toList) e w') := by
        intro w' e hb he
        exact ⟨_, _, _, he, by rw [hp]; rfl, (fun p h => by rw [hp] at h; cases h), hb⟩
      clear hp q1 q2
      go_enter Tryd.func20, Tryd.ntmps20
      go_wp2_with (first
        | (go_at_call 21; refine (HLL.out _).mono ?_; rintro e w' ⟨rfl, rfl⟩)
        | (go_at_call 35; refine (HF'.out _).mono ?_; rintro e w2 ⟨rfl, hb⟩; have HB := Lib.hid hb; clear hb))
      go_ret3
      exact HP.out _ _ HB.out rfl
    | true =>
      have hp := q2 rfl
      simp only at hp
      have HP : Hid (∀ w' (e : Ending), Below w.heap.size w w' → e = .returned (.tuple #[.string A, .int .i64 n, .bool (decide (er = 0 ∧ 1 ≤ n))]) → PartPost w (partF s.data.toList) e w') := by
        intro w' e hb he
        rw [hp]
        refine ⟨_, _, _, he, ?_, ?_, hb⟩
        · by_cases h : er = 0 ∧ 1 ≤ n
          · rw [if_pos h, decide_eq_true h]; rfl
          · rw [if_neg h, decide_eq_false h]; rfl
        · intro p h
          split at h
          · cases h; exact ⟨HAe.out, rfl⟩
          · cases h
      clear hp q1 q2
      by_cases he : er = 0
      · subst he
        by_cases h1 : 1 ≤ n
        all_goals
          go_enter Tryd.func20, Tryd.ntmps20
          go_wp2_with (first
            | (go_at_call 21; refine (HLL.out _).mono ?_; rintro e w' ⟨rfl, rfl⟩)
            | (go_at_call 36; refine (HM'.out _).mono ?_; rintro e w' ⟨rfl, rfl⟩)
            | (go_at_call 35; refine (HF'.out _).mono ?_; rintro e w2 ⟨rfl, hb⟩; have HB := Lib.hid hb; clear hb))
          go_ret3
          exact HP.out _ _ HB.out (by simp [h1])
      · have hne : ((er : Int) == 0) = false := by simpa using he
        have HD0 := Lib.hid (show decide (er = 0 ∧ 1 ≤ n) = false from decide_eq_false (fun h => he h.1))
        clear he
        go_enter Tryd.func20, Tryd.ntmps20
        go_wp2_with (first
            | (go_at_call 21; refine (HLL.out _).mono ?_; rintro e w' ⟨rfl, rfl⟩)
            | (go_at_call 36; refine (HM'.out _).mono ?_; rintro e w' ⟨rfl, rfl⟩)
            | (go_at_call 35; refine (HF'.out _).mono ?_; rintro e w2 ⟨rfl, hb⟩; have HB := Lib.hid hb; clear hb))
        go_ret3
        exact HP.out _ _ HB.out (by rw [HD0.out]; rfl)
end Go.Proofs.YtjbkepjkmihojaaDoor
