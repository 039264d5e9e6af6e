/- shape: the reference's Parts, Base, Join. -/
import Derived.Test.YtjbkepjkmihojaaDoorRl
import Derived.Test.YtjbkepjkmihojaaDoorQe
namespace Go.Proofs.YtjbkepjkmihojaaDoor
open Go Go.RowKit
set_option linter.unusedVariables false

def lcells (L : List (List UInt8)) : List Value := L.map fun x => .string ⟨x.toArray⟩
theorem lcells_length (L : List (List UInt8)) : (lcells L).length = L.length * 1 := by simp [lcells]
theorem lcells_snoc (L : List (List UInt8)) (x : List UInt8) : lcells (L ++ [x]) = lcells L ++ [.string ⟨x.toArray⟩] := by simp [lcells]
theorem cell_new1 (W : World) (a : Value) (T : TypeId) : ∀ (j : Nat) u, [a][j]? = some u → (W.alloc (.cells #[a] T)).cell? ((⟨W.heap.size, 0, none⟩ : Addr).add j) = some u := by
  intro j u hj
  rw [Addr.add_lit, Nat.zero_add]
  simp only [World.cell?, World.alloc_heap_new]
  match j, hj with
  | 0, hj => simpa using hj
theorem cut_mid (s : ByteArray) (i k : Nat) (hk : k ≤ s.size) : s.extract i k = ⟨((s.data.toList.drop i).take (k - i)).toArray⟩ := by
  apply ByteArray.ext
  rw [ByteArray.data_extract]
  apply Array.toList_inj.1
  rw [Array.toList_extract, List.extract_eq_take_drop]

/-- Where the loop over the bytes stands. -/
def PartsAt (s : ByteArray) (k at_ : Nat) (outs : List (List UInt8)) : Prop :=
  (k ≤ s.size ∧ at_ ≤ k ∧ splitD s.data.toList = outs ++ splitD (s.data.toList.drop at_) ∧ (46 : UInt8) ∉ (s.data.toList.drop at_).take (k - at_)) ∨ (k = s.size + 1 ∧ outs = splitD s.data.toList)
theorem PartsAt.len {s : ByteArray} {k a : Nat} {outs : List (List UInt8)} (h : PartsAt s k a outs) : outs.length ≤ s.size + 1 := by
  have h1 := splitD_length s.data.toList
  have h2 := size_list s
  rcases h with ⟨_, _, h, _⟩ | ⟨_, rfl⟩
  · rw [h, List.length_append] at h1; omega
  · omega
theorem PartsAt.dot {s : ByteArray} {k a : Nat} {outs : List (List UInt8)} (h : PartsAt s k a outs) (hk : k < s.size) (hd : s[k] = 46) : PartsAt s (k + 1) (k + 1) (outs ++ [(s.data.toList.drop a).take (k - a)]) := by
  rcases h with ⟨h1, h2, h3, h4⟩ | ⟨h1, _⟩
  · left
    refine ⟨by omega, Nat.le_refl _, ?_, by simp⟩
    have hcut : s.data.toList.drop a = (s.data.toList.drop a).take (k - a) ++ 46 :: s.data.toList.drop (k + 1) := by
      conv => lhs; rw [← List.take_append_drop (k - a) (s.data.toList.drop a)]
      rw [List.drop_drop, show a + (k - a) = k from by omega, drop_next s k hk, hd]
    rw [h3]
    conv => lhs; rw [hcut]
    rw [splitD_dot _ _ h4, List.append_assoc]
    rfl
  · omega
theorem PartsAt.on {s : ByteArray} {k a : Nat} {outs : List (List UInt8)} (h : PartsAt s k a outs) (hk : k < s.size) (hd : s[k] ≠ 46) : PartsAt s (k + 1) a outs := by
  rcases h with ⟨h1, h2, h3, h4⟩ | ⟨h1, _⟩
  · left
    refine ⟨by omega, by omega, h3, ?_⟩
    have : (s.data.toList.drop a).take (k + 1 - a) = (s.data.toList.drop a).take (k - a) ++ [s[k]] := by
      rw [show k + 1 - a = (k - a) + 1 from by omega, List.take_add_one]
      congr 1
      rw [List.getElem?_drop, show a + (k - a) = k from by omega, List.getElem?_eq_getElem (by rw [size_list]; exact hk)]
      rfl
    rw [this, List.mem_append, not_or]
    exact ⟨h4, by simp only [List.mem_singleton]; exact fun e => hd e.symm⟩
  · omega
theorem PartsAt.fin {s : ByteArray} {a : Nat} {outs : List (List UInt8)} (h : PartsAt s s.size a outs) : PartsAt s (s.size + 1) (s.size + 1) (outs ++ [(s.data.toList.drop a).take (s.size - a)]) := by
  rcases h with ⟨h1, h2, h3, h4⟩ | ⟨h1, _⟩
  · right
    refine ⟨rfl, ?_⟩
    have hl : ((s.data.toList.drop a).take (s.size - a)) = s.data.toList.drop a := List.take_of_length_le (by rw [List.length_drop, size_list]; exact Nat.le_refl _)
    rw [hl] at h4 ⊢
    rw [h3, splitD_last _ h4]
  · omega

set_option maxRecDepth 100000 in
set_option maxHeartbeats 2000000 in
theorem rparts_c (w : World) (s : ByteArray) (hs : s.size ≤ 4194304) : Calls Tryd.prog 19 #[.string s] w fun e w' =>
    ∃ v, e = .returned v ∧ w'.ownsRow w.heap.size 9 1 v (splitD s.data.toList).length (lcells (splitD s.data.toList)) ∧ Below w.heap.size w w' := by
  obtain ⟨i0, hi, hz0, hz1, hz2⟩ := info_parts infoStr
  have hbig : s.size ≤ 9223372036854775000 := by omega
  go_enter Tryd.func19, Tryd.ntmps19
  go_wp2_with fail
  go_loopw [3, 4, 9] (fun v p i wr => ∃ (k a : Nat) (outs : List (List UInt8)), i = .int .i64 k ∧ p = .int .i64 a ∧ a ≤ s.size + 1 ∧ PartsAt s k a outs ∧ k ≤ s.size + 1 ∧ wr.ownsRow w.heap.size 9 1 v outs.length (lcells outs) ∧ Below w.heap.size w wr) (fun _ _ i _ => s.size + 1 - (intOf i).toNat)
  case atStart => exact ⟨0, 0, [], rfl, rfl, by omega, .inl ⟨by omega, by omega, by simp, by simp⟩, by omega, World.ownsRow_nil _ _ _ _, Below.refl _ _⟩
  case round =>
    obtain ⟨k, a, outs, rfl, rfl, haS, hP, hk, hown, hB⟩ := hrel
    have HP := Lib.hid hP
    have HO := Lib.hid hown
    have HB := Lib.hid hB
    have hol := hP.len
    clear hP hown hB
    by_cases hlt : k < s.size + 1
    · have hle : a ≤ k := by
        rcases HP.out with ⟨_, h, _⟩ | ⟨h, _⟩ <;> omega
      by_cases hend : k = s.size
      · subst hend
        have HN := Lib.hid HP.out.fin
        have HCU := Lib.hid (cut_mid s a s.size (Nat.le_refl _))
        have teq : ((s.size : Int) == (s.size : Int)) = true := by simp
        clear hlt hk
        go_wp2_with (at_builtin; refine wpList_append_own _ rfl _ _ 32 rfl w.heap.size 9 i0 (.string ⟨#[]⟩) 1 16 Tryd.underlying32 hi hz0 hz1 hz2 rfl (by decide) _ _ _ rfl (HO.out.alloc _) ⟨wr.heap.size, 0, none⟩ 1 1 [.string (s.extract a s.size)] rfl rfl ?c1 ?c2 ?c3 ?c4 ?c5 ?_)
        case c1 => exact cell_new1 _ _ _
        case c2 => simp [Value.oneCell']
        case c3 => unfold maxLen; omega
        case c4 => omega
        case c5 => have := HB.out.size; simp; omega
        intro v' w1 hown' hgrow _
        have HO2 := Lib.hid hown'
        have HB2 := Lib.hid ((HB.out.alloc HB.out.size _).grown hgrow (by have := HB.out.size; simp; omega) (fun k ek => (HO.out.lt k ek).1))
        clear hown' hgrow
        go_wp2_with fail
        go_roundw
        case rel => exact ⟨s.size + 1, s.size + 1, _, by go_num, by go_num, by omega, HN.out, by omega, by rw [List.length_append, lcells_snoc, ← HCU.out]; exact HO2.out, HB2.out⟩
        case measure => simp [intOf]
      · have hks : k < s.size := by omega
        have teq : ((k : Int) == (s.size : Int)) = false := by simp; omega
        have hb := (s[k]).toNat_lt
        by_cases hd : s[k] = 46
        · have HN := Lib.hid (HP.out.dot hks hd)
          have HCU := Lib.hid (cut_mid s a k (by omega))
          have td : ((s[k].toNat : Int) == 46) = true := by rw [hd]; rfl
          clear hd hlt hk hend
          go_wp2_with (at_builtin; refine wpList_append_own _ rfl _ _ 32 rfl w.heap.size 9 i0 (.string ⟨#[]⟩) 1 16 Tryd.underlying32 hi hz0 hz1 hz2 rfl (by decide) _ _ _ rfl (HO.out.alloc _) ⟨wr.heap.size, 0, none⟩ 1 1 [.string (s.extract a k)] rfl rfl ?c1 ?c2 ?c3 ?c4 ?c5 ?_)
          case c1 => exact cell_new1 _ _ _
          case c2 => simp [Value.oneCell']
          case c3 => unfold maxLen; omega
          case c4 => omega
          case c5 => have := HB.out.size; simp; omega
          intro v' w1 hown' hgrow _
          have HO2 := Lib.hid hown'
          have HB2 := Lib.hid ((HB.out.alloc HB.out.size _).grown hgrow (by have := HB.out.size; simp; omega) (fun k ek => (HO.out.lt k ek).1))
          clear hown' hgrow
          go_wp2_with fail
          go_roundw
          case rel => exact ⟨k + 1, k + 1, _, by go_num, by go_num, by omega, HN.out, by omega, by rw [List.length_append, lcells_snoc, ← HCU.out]; exact HO2.out, HB2.out⟩
          case measure => simp [intOf]; omega
        · have HN := Lib.hid (HP.out.on hks hd)
          have td : ((s[k].toNat : Int) == 46) = false := by
            rw [beq_eq_false_iff_ne]
            intro e
            exact hd (UInt8.toNat_inj.1 (by show s[k].toNat = 46; omega))
          clear hd hlt hk hend
          go_wp2_with fail
          go_roundw
          case rel => exact ⟨k + 1, a, outs, by go_num, rfl, haS, HN.out, by omega, HO.out, HB.out⟩
          case measure => simp [intOf]; omega
    · have hke : outs = splitD s.data.toList := by
        rcases HP.out with ⟨h, _⟩ | ⟨_, h⟩
        · omega
        · exact h
      have HE := Lib.hid hke
      clear hke
      go_wp2_with fail
      go_ret
      exact ⟨_, rfl, by rw [← HE.out]; exact HO.out, HB.out⟩

set_option maxRecDepth 100000 in
theorem rjoin_c (w : World) (up name : ByteArray) (n : Int) (hu : up.size ≤ 140737488351232) (hn : name.size ≤ 140737488351232) (h1 : -9223372036854775808 ≤ n) (h2 : n ≤ 9223372036854775807) :
    Calls Tryd.prog 13 #[.string up, .string name, .int .i64 n] w fun e w' => e = .returned (.string ⟨(joinF up.data.toList name.data.toList n).toArray⟩) ∧ w = w' := by
  have ht := txt_size 0 n h1 h2
  have HT := fun w => rtext_c 19 n w (by omega) h1 h2
  obtain ⟨t, htt⟩ : ∃ t : ByteArray, t = ⟨(txt n).toArray⟩ := ⟨_, rfl⟩
  rw [← htt] at HT
  have hts : t.size ≤ 25 := by rw [htt]; show (txt n).toArray.size ≤ 25; rw [List.size_toArray]; exact ht
  have HJ := Lib.hid (joinB up name t n htt)
  have HT' := Lib.hid HT
  clear HT htt ht
  by_cases h0 : up.size = 0
  · have hl0 : up.data.toList = [] := List.eq_nil_of_length_eq_zero (by rw [size_list]; exact h0)
    have he : up.toList.isEmpty = true := by rw [toList_data, hl0]; rfl
    have he' : up.toList = [] := by rw [toList_data, hl0]
    clear hl0
    have HL := Lib.hid (list_of _ _ (HJ.out.1 h0))
    go_enter Tryd.func13, Tryd.ntmps13
    go_wp2_with (go_at_call 24; refine (HT'.out _).mono ?_; rintro e w1 ⟨rfl, rfl⟩)
    go_ret
    exact ⟨by rw [HL.out]; rfl, rfl⟩
  · have he : up.toList.isEmpty = false := by
      rw [toList_data]
      have h := drop_next up 0 (by omega)
      simp only [List.drop_zero] at h
      rw [h]; rfl
    have HL := Lib.hid (list_of _ _ (HJ.out.2 (by omega)))
    go_enter Tryd.func13, Tryd.ntmps13
    go_wp2_with (go_at_call 24; refine (HT'.out _).mono ?_; rintro e w1 ⟨rfl, rfl⟩)
    go_ret
    exact ⟨by rw [HL.out]; rfl, rfl⟩
end Go.Proofs.YtjbkepjkmihojaaDoor
