/- tree: the reference's texts and parts. -/
import Derived.Test.YtncloiimbclklaaVr
import Derived.Test.YtncloiimbclklaaVo
import Derived.Test.YtncloiimbclklaaByS
import Derived.OwnWalk
namespace Go.Proofs.Ytncloiimbclklaa
open Go Go.RowKit
set_option linter.unusedVariables false

theorem toList_data (s : ByteArray) : s.toList = s.data.toList := toList_bytes s
theorem infoStr : (Try.prog.info? 9).map (fun i => (i.zero, i.size, i.bytes)) = some (some (.string ⟨#[]⟩), 1, 16) := by kernel_rfl

theorem compareBytes_eq : ∀ (x y : List UInt8), Lib.compareBytes x y = if Op.bytesLess x y = true then -1 else if (!(Op.bytesLess x y || x == y)) = true then 1 else 0
  | [], [] => rfl
  | [], _ :: _ => by simp [Lib.compareBytes, Op.bytesLess]
  | _ :: _, [] => by simp [Lib.compareBytes, Op.bytesLess]
  | a :: x, b :: y => by
    have ih := compareBytes_eq x y
    unfold Lib.compareBytes Op.bytesLess
    by_cases h1 : a < b
    · simp [h1]
    · rw [if_neg h1]
      by_cases h2 : b < a
      · have hne : a ≠ b := by rintro rfl; exact h1 h2
        rw [if_pos h2]
        simp [h1, hne]
      · have he : a = b := by
          have e1 : ¬ a.toNat < b.toNat := h1
          have e2 : ¬ b.toNat < a.toNat := h2
          exact UInt8.toNat_inj.1 (by omega)
        subst he
        rw [if_neg h2, ih]
        simp

set_option maxRecDepth 100000 in
theorem rtexts_c (w : World) (a b : ByteArray) : Calls Try.prog 66 #[.string a, .string b] w fun e w' => e = .returned (.int .i64 (Lib.compareBytes a.data.toList b.data.toList)) ∧ w = w' := by
  have HE := Lib.hid (compareBytes_eq a.data.toList b.data.toList)
  rw [← toList_data, ← toList_data] at HE
  rw [← toList_data, ← toList_data]
  obtain ⟨x, hx⟩ : ∃ x, Op.bytesLess a.toList b.toList = x := ⟨_, rfl⟩
  obtain ⟨y, hy⟩ : ∃ y, (a.toList == b.toList) = y := ⟨_, rfl⟩
  rw [hx, hy] at HE
  generalize Lib.compareBytes a.toList b.toList = c at *
  cases x <;> cases y
  all_goals
    go_enter Try.func66, Try.ntmps66
    go_wp2_with fail
    go_ret
    exact ⟨by rw [HE.out]; rfl, rfl⟩

def lcells (L : List (List UInt8)) : List Value := L.map fun x => .string ⟨x.toArray⟩
theorem lcells_length (L : List (List UInt8)) : (lcells L).length = L.length * 1 := by simp [lcells]
theorem lcells_snoc (L : List (List UInt8)) (x : List UInt8) : lcells (L ++ [x]) = lcells L ++ [.string ⟨x.toArray⟩] := by simp [lcells]
theorem cell_new1 (W : World) (a : Value) (T : TypeId) : ∀ (j : Nat) u, [a][j]? = some u → (W.alloc (.cells #[a] T)).cell? ((⟨W.heap.size, 0, none⟩ : Addr).add j) = some u := by
  intro j u hj
  rw [Addr.add_lit, Nat.zero_add]
  simp only [World.cell?, heap_alloc_new]
  match j, hj with
  | 0, hj => simpa using hj
theorem cut_mid (s : ByteArray) (i k : Nat) (hk : k ≤ s.size) : s.extract i k = ⟨((s.data.toList.drop i).take (k - i)).toArray⟩ := by
  apply ByteArray.ext
  rw [ByteArray.data_extract]
  apply Array.toList_inj.1
  rw [Array.toList_extract, List.extract_eq_take_drop]

/-- Where the loop over the bytes stands. -/
def PartsAt (s : ByteArray) (k at_ : Nat) (outs : List (List UInt8)) : Prop :=
  (k ≤ s.size ∧ at_ ≤ k ∧ splitS s.data.toList = outs ++ splitS (s.data.toList.drop at_) ∧ (47 : UInt8) ∉ (s.data.toList.drop at_).take (k - at_)) ∨ (k = s.size + 1 ∧ outs = splitS s.data.toList)
theorem PartsAt.len {s : ByteArray} {k a : Nat} {outs : List (List UInt8)} (h : PartsAt s k a outs) : outs.length ≤ s.size + 1 := by
  have h1 := splitS_length s.data.toList
  have h2 := size_list s
  rcases h with ⟨_, _, h, _⟩ | ⟨_, rfl⟩
  · rw [h, List.length_append] at h1; omega
  · omega
theorem PartsAt.dot {s : ByteArray} {k a : Nat} {outs : List (List UInt8)} (h : PartsAt s k a outs) (hk : k < s.size) (hd : s[k] = 47) : PartsAt s (k + 1) (k + 1) (outs ++ [(s.data.toList.drop a).take (k - a)]) := by
  rcases h with ⟨h1, h2, h3, h4⟩ | ⟨h1, _⟩
  · left
    refine ⟨by omega, Nat.le_refl _, ?_, by simp⟩
    have hcut : s.data.toList.drop a = (s.data.toList.drop a).take (k - a) ++ 47 :: s.data.toList.drop (k + 1) := by
      conv => lhs; rw [← List.take_append_drop (k - a) (s.data.toList.drop a)]
      rw [List.drop_drop, show a + (k - a) = k from by omega, drop_next s k hk, hd]
    rw [h3]
    conv => lhs; rw [hcut]
    rw [splitS_dot _ _ h4, List.append_assoc]
    rfl
  · omega
theorem PartsAt.on {s : ByteArray} {k a : Nat} {outs : List (List UInt8)} (h : PartsAt s k a outs) (hk : k < s.size) (hd : s[k] ≠ 47) : PartsAt s (k + 1) a outs := by
  rcases h with ⟨h1, h2, h3, h4⟩ | ⟨h1, _⟩
  · left
    refine ⟨by omega, by omega, h3, ?_⟩
    have : (s.data.toList.drop a).take (k + 1 - a) = (s.data.toList.drop a).take (k - a) ++ [s[k]] := by
      rw [show k + 1 - a = (k - a) + 1 from by omega, List.take_add_one]
      congr 1
      rw [List.getElem?_drop, show a + (k - a) = k from by omega, List.getElem?_eq_getElem (by rw [size_list]; exact hk)]
      rfl
    rw [this, List.mem_append, not_or]
    exact ⟨h4, by simp only [List.mem_singleton]; exact fun e => hd e.symm⟩
  · omega
theorem PartsAt.fin {s : ByteArray} {a : Nat} {outs : List (List UInt8)} (h : PartsAt s s.size a outs) : PartsAt s (s.size + 1) (s.size + 1) (outs ++ [(s.data.toList.drop a).take (s.size - a)]) := by
  rcases h with ⟨h1, h2, h3, h4⟩ | ⟨h1, _⟩
  · right
    refine ⟨rfl, ?_⟩
    have hl : ((s.data.toList.drop a).take (s.size - a)) = s.data.toList.drop a := List.take_of_length_le (by rw [List.length_drop, size_list]; exact Nat.le_refl _)
    rw [hl] at h4 ⊢
    rw [h3, splitS_last _ h4]
  · omega

set_option maxRecDepth 100000 in
set_option maxHeartbeats 2000000 in
theorem rparts_c (w : World) (s : ByteArray) (hs : s.size ≤ 4194304) : Calls Try.prog 65 #[.string s] w fun e w' =>
    ∃ v, e = .returned v ∧ w'.ownsRow w.heap.size 9 1 v (splitS s.data.toList).length (lcells (splitS s.data.toList)) ∧ Below w.heap.size w w' := by
  obtain ⟨i0, hi, hz0, hz1, hz2⟩ := info_parts infoStr
  have hbig : s.size ≤ 9223372036854775000 := by omega
  go_enter Try.func65, Try.ntmps65
  go_wp2_with fail
  go_loopw [3, 4, 9] (fun v p i wr => ∃ (k a : Nat) (outs : List (List UInt8)), i = .int .i64 k ∧ p = .int .i64 a ∧ a ≤ s.size + 1 ∧ PartsAt s k a outs ∧ k ≤ s.size + 1 ∧ wr.ownsRow w.heap.size 9 1 v outs.length (lcells outs) ∧ Below w.heap.size w wr) (fun _ _ i _ => s.size + 1 - (intOf i).toNat)
  case atStart => exact ⟨0, 0, [], rfl, rfl, by omega, .inl ⟨by omega, by omega, by simp, by simp⟩, by omega, World.ownsRow_nil _ _ _ _, Below.refl _ _⟩
  case round =>
    obtain ⟨k, a, outs, rfl, rfl, haS, hP, hk, hown, hB⟩ := hrel
    have HP := Lib.hid hP
    have HO := Lib.hid hown
    have HB := Lib.hid hB
    have hol := hP.len
    clear hP hown hB
    by_cases hlt : k < s.size + 1
    · have hle : a ≤ k := by
        rcases HP.out with ⟨_, h, _⟩ | ⟨h, _⟩ <;> omega
      by_cases hend : k = s.size
      · subst hend
        have HN := Lib.hid HP.out.fin
        have HCU := Lib.hid (cut_mid s a s.size (Nat.le_refl _))
        have teq : ((s.size : Int) == (s.size : Int)) = true := by simp
        clear hlt hk
        go_wp2_with (at_builtin; refine wpList_append_own _ rfl _ _ 47 rfl w.heap.size 9 i0 (.string ⟨#[]⟩) 1 16 Try.underlying47 hi hz0 hz1 hz2 rfl (by decide) _ _ _ rfl (HO.out.alloc _) ⟨wr.heap.size, 0, none⟩ 1 1 [.string (s.extract a s.size)] rfl rfl ?c1 ?c2 ?c3 ?c4 ?c5 ?_)
        case c1 => exact cell_new1 _ _ _
        case c2 => simp [Value.oneCell']
        case c3 => unfold maxLen; omega
        case c4 => omega
        case c5 => have := HB.out.size; simp; omega
        intro v' w1 hown' hgrow _
        have HO2 := Lib.hid hown'
        have HB2 := Lib.hid ((HB.out.alloc HB.out.size _).grown hgrow (by have := HB.out.size; simp; omega) (fun k ek => (HO.out.lt k ek).1))
        clear hown' hgrow
        go_wp2_with fail
        go_roundw
        case rel => exact ⟨s.size + 1, s.size + 1, _, by go_num, by go_num, by omega, HN.out, by omega, by rw [List.length_append, lcells_snoc, ← HCU.out]; exact HO2.out, HB2.out⟩
        case measure => simp [intOf]
      · have hks : k < s.size := by omega
        have teq : ((k : Int) == (s.size : Int)) = false := by simp; omega
        have hb := (s[k]).toNat_lt
        by_cases hd : s[k] = 47
        · have HN := Lib.hid (HP.out.dot hks hd)
          have HCU := Lib.hid (cut_mid s a k (by omega))
          have td : ((s[k].toNat : Int) == 47) = true := by rw [hd]; rfl
          clear hd hlt hk hend
          go_wp2_with (at_builtin; refine wpList_append_own _ rfl _ _ 47 rfl w.heap.size 9 i0 (.string ⟨#[]⟩) 1 16 Try.underlying47 hi hz0 hz1 hz2 rfl (by decide) _ _ _ rfl (HO.out.alloc _) ⟨wr.heap.size, 0, none⟩ 1 1 [.string (s.extract a k)] rfl rfl ?c1 ?c2 ?c3 ?c4 ?c5 ?_)
          case c1 => exact cell_new1 _ _ _
          case c2 => simp [Value.oneCell']
          case c3 => unfold maxLen; omega
          case c4 => omega
          case c5 => have := HB.out.size; simp; omega
          intro v' w1 hown' hgrow _
          have HO2 := Lib.hid hown'
          have HB2 := Lib.hid ((HB.out.alloc HB.out.size _).grown hgrow (by have := HB.out.size; simp; omega) (fun k ek => (HO.out.lt k ek).1))
          clear hown' hgrow
          go_wp2_with fail
          go_roundw
          case rel => exact ⟨k + 1, k + 1, _, by go_num, by go_num, by omega, HN.out, by omega, by rw [List.length_append, lcells_snoc, ← HCU.out]; exact HO2.out, HB2.out⟩
          case measure => simp [intOf]; omega
        · have HN := Lib.hid (HP.out.on hks hd)
          have td : ((s[k].toNat : Int) == 47) = false := by
            rw [beq_eq_false_iff_ne]
            intro e
            exact hd (UInt8.toNat_inj.1 (by show s[k].toNat = 47; omega))
          clear hd hlt hk hend
          go_wp2_with fail
          go_roundw
          case rel => exact ⟨k + 1, a, outs, by go_num, rfl, haS, HN.out, by omega, HO.out, HB.out⟩
          case measure => simp [intOf]; omega
    · have hke : outs = splitS s.data.toList := by
        rcases HP.out with ⟨h, _⟩ | ⟨_, h⟩
        · omega
        · exact h
      have HE := Lib.hid hke
      clear hke
      go_wp2_with fail
      go_ret
      exact ⟨_, rfl, by rw [← HE.out]; exact HO.out, HB.out⟩


end Go.Proofs.Ytncloiimbclklaa
