/- lexer: Spell. -/
import Derived.Test.YtejffaidbnodhaaDoorMt
import Derived.Test.YtejffaidbnodhaaDoorLl
import Derived.Test.YtejffaidbnodhaaDoorShelj
namespace Go.Proofs.YtejffaidbnodhaaDoor
open Go.RowKit
set_option linter.unusedVariables false

def spS (x : Wd) : ByteArray := ⟨(spellW x).toArray⟩
def scells (T : List Wd) : List Value := T.map fun x => .string (spS x)
theorem infoStr : (Tryd.prog.info? 9).map (fun i => (i.zero, i.size, i.bytes)) = some (some (.string ⟨#[]⟩), 1, 16) := by kernel_rfl
theorem srcS (W : World) (B : Nat) (s : ByteArray) (hB : W.heap.size = B) : Src Tryd.prog 1 51 (.slice (some ⟨B, 0, none⟩) 1 1) 1 [.string s] (W.alloc (.cells #[.string s] 9)) := by
  subst hB
  exact src_one Tryd.underlying51 W (.string s) _ rfl
def SI (w0 wr : World) (v : Value) (T : List Wd) : Prop := OwnS wr w0.heap.size 9 1 v T.length (scells T) ∧ Below w0.heap.size w0 wr
theorem SI.push {w0 wr w1 w2 : World} {v v' : Value} {T : List Wd} {x : Wd} (h : OwnS wr w0.heap.size 9 1 v T.length (scells T)) (hb : Below w0.heap.size w0 w1)
    (hown : OwnS w2 w0.heap.size 9 1 v' (T.length + 1) (scells T ++ [.string (spS x)])) (hg : w1.grownBy w2 v.ownBlock) : SI w0 w2 v' (T ++ [x]) := by
  refine ⟨?_, hb.trans ((Below.refl _ _).grown hg hb.size fun k hk => h.base k hk)⟩
  rw [show scells (T ++ [x]) = scells T ++ [.string (spS x)] from by simp [scells], List.length_append]
  exact hown
theorem join_M (M : List Wd) : Lib.join (M.map spellW) [32] = joinM M := by
  cases M with
  | nil => rfl
  | cons x M =>
    rw [List.map_cons, Lib.join_cons]
    show _ = spellW x ++ tailL M
    unfold tailL Lib.joinTail
    rw [List.flatMap_def, List.map_map]
    rfl
theorem joined_c (w : World) (base : Nat) (v : Value) (M : List Wd) (h : OwnS w base 9 1 v M.length (scells M)) (hM : M.length ≤ 400) (hl : (joinM M).length ≤ 140737488355328) :
    Calls Tryd.prog 31 #[v, .string ⟨#[32]⟩] w fun e w' => e = .returned (.string ⟨(joinM M).toArray⟩) ∧ Below w.heap.size w w' := by
  have hlen : (M.map spS).length = M.length := List.length_map ..
  have hmm : (M.map spS).map (·.data.toList) = M.map spellW := by
    rw [List.map_map]
    rfl
  rcases h.2 with ⟨rfl, h0⟩ | ⟨g, off, cap, cur, hv, _, hblk, hn, _⟩
  · have hM0 : M = [] := by
      cases M with
      | nil => rfl
      | cons x r => simp at h0
    subst hM0
    refine (Tryd.strings_Join_none none 0 ⟨#[32]⟩ w).mono ?_
    rintro e w' ⟨rfl, rfl⟩
    exact ⟨rfl, Below.refl _ _⟩
  · have hj := Tryd.strings_Join g off cap (M.map spS) ⟨#[32]⟩ w (fun j x hx => h.cell hv j (.string x) (by
        simp only [scells, List.getElem?_map, Option.map_eq_some_iff] at hx ⊢
        obtain ⟨y, hy, rfl⟩ := hx
        exact ⟨y, hy, rfl⟩)) (ltB hblk) (by rw [hlen]; omega) (by rw [hlen]; exact hn) (by rw [hmm]; show (Lib.join _ [32]).length ≤ _; rw [join_M]; exact hl)
    rw [hlen, hmm, show (⟨#[32]⟩ : ByteArray).data.toList = [32] from rfl, join_M] at hj
    rw [hv]
    exact hj
theorem take_wd (M : List Wd) (k : Nat) (hk : k < M.length) : M.take (k + 1) = M.take k ++ [M[k]] := by
  rw [List.take_add_one, List.getElem?_eq_getElem hk]
  rfl

set_option maxRecDepth 100000 in
set_option maxHeartbeats 8000000 in
theorem spell_c (w : World) (base : Nat) (v : Value) (M : List Wd) (ho : OwnS w base 31 3 v (M ++ [noW]).length (wcells (M ++ [noW]))) (hx : ∀ x ∈ M, OkW x) (hM : M.length ≤ 400) (hl : (joinM M).length ≤ 140737488355328) :
    Calls Tryd.prog 12 #[v] w fun e w' => e = .returned (.string ⟨(joinM M).toArray⟩) ∧ Below w.heap.size w w' := by
  have HO := Lib.hid ho
  have HX := Lib.hid hx
  have HJ := Lib.hid (fun (w : World) (base : Nat) (v : Value) (h : OwnS w base 9 1 v M.length (scells M)) => joined_c w base v M h hM hl)
  have HLN := Lib.hid (show (M ++ [noW]).length = M.length + 1 from by simp)
  obtain ⟨pa, ca, rfl, l1, l2, _⟩ := ho.form
  rw [HLN.out] at l1
  rw [HLN.out]
  obtain ⟨i0, hi, hz0, hz1, hz2⟩ := info_parts infoStr
  clear ho hx hl l2
  go_enter Tryd.func12, Tryd.ntmps12
  go_wp2_with fail
  go_loopw [3, 8] (fun v i wr => ∃ (k : Nat) (T : List Wd) (sp : Option Addr) (sc : Nat), i = .int .i64 k ∧ k ≤ M.length + 1 ∧ T = M.take k ∧ v = .slice sp T.length sc ∧ T.length ≤ sc ∧ SI w wr (.slice sp T.length sc) T) (fun _ i _ => M.length + 1 - (intOf i).toNat)
  case atStart => exact ⟨0, [], none, 0, rfl, by omega, rfl, rfl, by simp, OwnS.nil _ _ _ _, Below.refl _ _⟩
  case round =>
    obtain ⟨k, T, sp, sc, rfl, hk, hT, rfl, hsc, hI⟩ := hrel
    have HT := Lib.hid hT
    have HI := Lib.hid hI
    have hTl : T.length ≤ 400 := by rw [hT, List.length_take]; omega
    have HTL := Lib.hid hTl
    clear hT hI hTl
    by_cases hlt : k < M.length + 1
    · obtain ⟨g, off, c', e1, n1, n2, n3⟩ := (HO.out.below HI.out.2).word (k := k) (by rw [HLN.out]; exact hlt)
      simp only [Value.slice.injEq, HLN.out, true_and] at e1
      obtain ⟨e1, rfl⟩ := e1
      subst e1
      by_cases hkM : k < M.length
      · have hget : (M ++ [noW])[k]'(by rw [HLN.out]; exact hlt) = M[k] := List.getElem_append_left hkM
        rw [hget] at n1 n2 n3
        have HTK := Lib.hid (take_wd M k hkM)
        have hok := HX.out M[k] (List.getElem_mem hkM)
        generalize M[k] = x at *
        obtain ⟨xk, xt, xn⟩ := x
        simp only at n1 n2 n3
        have HB1 := Lib.hid (fun o => (HI.out.2.alloc HI.out.2.size o))
        have hcase : ((xk = 1 ∨ xk = 4) ∧ spS ⟨xk, xt, xn⟩ = ⟨xt.toArray⟩) ∨ (xk = 2 ∧ -9223372036854775808 ≤ xn ∧ xn ≤ 9223372036854775807 ∧ spS ⟨xk, xt, xn⟩ = ⟨(txt xn).toArray⟩) ∨ (xk = 3 ∧ (⟨xt.toArray⟩ : ByteArray).size ≤ 1048576 ∧ spS ⟨xk, xt, xn⟩ = ⟨(quoteL xt).toArray⟩) := by
          rcases hok with ⟨h, _⟩ | ⟨h, _, h1, h2⟩ | ⟨h, h1, h2, _⟩ | ⟨h, _⟩
          · simp only at h; subst h; exact Or.inl ⟨Or.inl rfl, rfl⟩
          · simp only at h h1 h2; subst h; exact Or.inr (Or.inl ⟨rfl, by omega, h2, rfl⟩)
          · simp only at h h1 h2; subst h; exact Or.inr (Or.inr ⟨rfl, by show xt.toArray.size ≤ _; rw [List.size_toArray]; omega, by rw [quote_spell]; rfl⟩)
          · simp only at h; subst h; exact Or.inl ⟨Or.inr rfl, rfl⟩
        clear hok hget
        generalize hs : spS ⟨xk, xt, xn⟩ = sx at hcase
        have HS := Lib.hid hs
        clear hs
        rcases hcase with ⟨hxk, hsx⟩ | ⟨rfl, hn1, hn2, hsx⟩ | ⟨rfl, hsz, hsx⟩
        · rw [← hsx] at n2
          obtain ⟨y, hy⟩ : ∃ y : Wd, y = ⟨xk, xt, xn⟩ := ⟨_, rfl⟩
          rw [← hy] at HTK HS
          clear hsx hy
          rcases hxk with rfl | rfl
          all_goals
            go_wp2_with (at_builtin; refine wpList_append_S rfl _ _ 51 51 rfl w.heap.size 9 i0 _ 1 16 Tryd.underlying51 hi hz0 hz1 hz2 rfl (Nat.succ_pos _) _ T.length (scells T) rfl ((HI.out.1.alloc _).alloc _) _ 1 _ rfl (srcS (wr.alloc _) (wr.heap.size + 1) sx (by simp)) ?c1 ?c2 ?c3 ?_)
            case c1 => have := HTL.out; unfold maxLen; omega
            case c2 => have := HTL.out; omega
            case c3 => have := HI.out.2.size; simp; omega
            intro v' w3 hown3 hgrow3 _
            obtain ⟨tp, tc, rfl, htc, _⟩ := hown3.form
            have HTC := Lib.hid (show (T ++ [y]).length ≤ tc from by rw [List.length_append]; exact htc)
            have HP := Lib.hid (SI.push (x := y) HI.out.1 ((HB1.out _).alloc (by have := HI.out.2.size; simp; omega) _) (by rw [HS.out]; exact hown3) hgrow3)
            clear hown3 hgrow3 htc
            go_wp2_with fail
            go_roundw
            case rel => exact ⟨k + 1, T ++ [y], tp, tc, by go_num, by omega, by rw [HTK.out, ← HT.out], by rw [List.length_append]; rfl, HTC.out, by rw [List.length_append]; exact HP.out⟩
            case measure => simp [intOf]; omega
        · have HTX := Lib.hid (fun w => text_c w xn hn1 hn2)
          rw [← hsx] at HTX
          clear hn1 hn2 hsx
          go_wp2_with fail
          refine (HTX.out _).mono ?_
          rintro e w2 ⟨rfl, hb⟩
          have HX2 := Lib.hid ((HB1.out _).trans (hb.mono (HB1.out _).size))
          have HO2 := Lib.hid ((HI.out.1.alloc _).below hb)
          clear hb
          go_wp2_with (at_builtin; refine wpList_append_S rfl _ _ 51 51 rfl w.heap.size 9 i0 _ 1 16 Tryd.underlying51 hi hz0 hz1 hz2 rfl (Nat.succ_pos _) _ T.length (scells T) rfl (HO2.out.alloc _) _ 1 _ rfl (srcS w2 w2.heap.size sx rfl) ?c1 ?c2 ?c3 ?_)
          case c1 => have := HTL.out; unfold maxLen; omega
          case c2 => have := HTL.out; omega
          case c3 => have := HX2.out.size; simp; omega
          intro v' w3 hown3 hgrow3 _
          obtain ⟨tp, tc, rfl, htc, _⟩ := hown3.form
          have HTC := Lib.hid (show (T ++ [(⟨2, xt, xn⟩ : Wd)]).length ≤ tc from by rw [List.length_append]; exact htc)
          have HP := Lib.hid (SI.push (x := ⟨2, xt, xn⟩) HO2.out (HX2.out.alloc HX2.out.size _) (by rw [HS.out]; exact hown3) hgrow3)
          clear hown3 hgrow3 htc
          go_wp2_with fail
          go_roundw
          case rel => exact ⟨k + 1, T ++ [⟨2, xt, xn⟩], tp, tc, by go_num, by omega, by rw [HTK.out, ← HT.out], by rw [List.length_append]; rfl, HTC.out, by rw [List.length_append]; exact HP.out⟩
          case measure => simp [intOf]; omega
        · have HTX := Lib.hid (fun w => printT_c w ⟨xt.toArray⟩ hsz)
          rw [show (⟨xt.toArray⟩ : ByteArray).data.toList = xt from rfl, ← hsx] at HTX
          generalize (⟨xt.toArray⟩ : ByteArray) = xb at *
          have HVT := Lib.hid (fun w => vtext_c w xb)
          clear hsz hsx
          go_wp2_with (go_at_call 30; refine (HVT.out _).mono ?_; rintro e w' ⟨rfl, rfl⟩)
          refine (HTX.out _).mono ?_
          rintro e w2 ⟨rfl, hb⟩
          have HX2 := Lib.hid (((HB1.out _).alloc (HB1.out _).size _).trans (hb.mono ((HB1.out _).alloc (HB1.out _).size _).size))
          have HO2 := Lib.hid (((HI.out.1.alloc _).alloc _).below hb)
          clear hb
          go_wp2_with (at_builtin; refine wpList_append_S rfl _ _ 51 51 rfl w.heap.size 9 i0 _ 1 16 Tryd.underlying51 hi hz0 hz1 hz2 rfl (Nat.succ_pos _) _ T.length (scells T) rfl (HO2.out.alloc _) _ 1 _ rfl (srcS w2 w2.heap.size sx rfl) ?c1 ?c2 ?c3 ?_)
          case c1 => have := HTL.out; unfold maxLen; omega
          case c2 => have := HTL.out; omega
          case c3 => have := HX2.out.size; simp; omega
          intro v' w3 hown3 hgrow3 _
          obtain ⟨tp, tc, rfl, htc, _⟩ := hown3.form
          have HTC := Lib.hid (show (T ++ [(⟨3, xt, xn⟩ : Wd)]).length ≤ tc from by rw [List.length_append]; exact htc)
          have HP := Lib.hid (SI.push (x := ⟨3, xt, xn⟩) HO2.out (HX2.out.alloc HX2.out.size _) (by rw [HS.out]; exact hown3) hgrow3)
          clear hown3 hgrow3 htc
          go_wp2_with fail
          go_roundw
          case rel => exact ⟨k + 1, T ++ [⟨3, xt, xn⟩], tp, tc, by go_num, by omega, by rw [HTK.out, ← HT.out], by rw [List.length_append]; rfl, HTC.out, by rw [List.length_append]; exact HP.out⟩
          case measure => simp [intOf]; omega
      · have hkl : k = M.length := by omega
        have hget : (M ++ [noW])[k]'(by rw [HLN.out]; exact hlt) = noW := by
          rw [List.getElem_append_right (by omega)]
          simp [hkl]
        rw [hget] at n1 n2 n3
        simp only [noW] at n1 n2 n3
        have HTK := Lib.hid (show T = M.take (k + 1) from by rw [HT.out, List.take_of_length_le (by omega), List.take_of_length_le (by omega)])
        have HB1 := Lib.hid (fun o => (HI.out.2.alloc HI.out.2.size o))
        clear hget hkM hkl
        go_wp2_with fail
        go_roundw
        case rel => exact ⟨k + 1, T, sp, sc, by go_num, by omega, HTK.out, rfl, hsc, HI.out.1.alloc _, HB1.out _⟩
        case measure => simp [intOf]; omega
    · have hge : M.length + 1 ≤ k := by omega
      have HTM := Lib.hid (show T = M from by rw [HT.out, List.take_of_length_le (by omega)])
      have HF := Lib.hid (show OwnS wr w.heap.size 9 1 (.slice sp T.length sc) M.length (scells M) from by have := HI.out.1; rw [HTM.out] at this ⊢; exact this)
      clear hlt
      go_wp2_with fail
      refine (HJ.out _ _ _ HF.out).mono ?_
      rintro e w2 ⟨rfl, hb⟩
      have HX2 := Lib.hid (HI.out.2.trans (hb.mono HI.out.2.size))
      clear hb
      go_wp2_with fail
      go_ret
      exact ⟨rfl, HX2.out⟩
end Go.Proofs.YtejffaidbnodhaaDoor
