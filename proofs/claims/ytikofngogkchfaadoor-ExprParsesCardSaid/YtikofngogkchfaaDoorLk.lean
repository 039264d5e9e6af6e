/- lexer: the reference's Words. -/
import Derived.Test.YtikofngogkchfaaDoorLj
namespace Go.Proofs.YtikofngogkchfaaDoor
open Go.RowKit
set_option linter.unusedVariables false

theorem rspace_c (w : World) (r : Int) : Calls Tryd.prog 27 #[.int .i64 r] w fun e w' => e = .returned (.bool (spaceB r)) ∧ w = w' := by
  have hs : spaceB r = (r == 9 || r == 10 || r == 13 || r == 32) := rfl
  have HS := Lib.hid hs
  clear hs
  go_enter Tryd.func27, Tryd.ntmps27
  go_wp2
  all_goals go_ret
  all_goals exact ⟨by rw [HS.out]; simp [*], rfl⟩

def firstB (r : Int) : Bool := btw r 65 90 || r == 95 || btw r 97 122 || btw r 192 214 || btw r 216 246 || btw r 248 767 || btw r 880 893 || btw r 895 8191 || btw r 8204 8205 || btw r 8304 8591 || btw r 11264 12271 || btw r 12289 55295 || btw r 63744 64975 || btw r 65008 65533 || btw r 65536 983039

def laterB (r : Int) : Bool := firstB r || r == 45 || r == 46 || btw r 48 57 || r == 183 || btw r 768 879 || btw r 8255 8256


theorem wordsF_blank {f : Nat} {l : List UInt8} {k : Nat} {acc : List Wd} {c : UInt8} (hd : l.drop k = c :: l.drop (k + 1)) (hb : blB c = true) : wordsF (f + 1) l (k + 1) acc = wordsF (f + 1) l k acc := by
  have e : k + runN blB (l.drop k) = (k + 1) + runN blB (l.drop (k + 1)) := by
    rw [hd, runN_yes hb]
    omega
  conv => rhs; unfold wordsF
  rw [e]
  conv => lhs; unfold wordsF

set_option maxRecDepth 100000 in
set_option maxHeartbeats 8000000 in
theorem rwords_c (w : World) (s : ByteArray) (hs : s.size ≤ 140737488351232) : Calls Tryd.prog 18 #[.string s] w (WordsAs (wordsOf s.data.toList) w) := by
  by_cases hbig : 400 < s.size
  · have HF := Lib.hid (show WordsAs (wordsOf s.data.toList) w (.returned (.tuple #[.slice none 0 0, .int .i64 0, .int .i64 4])) w from by
      unfold wordsOf
      rw [if_pos (by rw [size_list]; exact hbig)]
      exact ⟨_, rfl, OwnS.nil _ _ _ _, Below.refl _ _⟩)
    go_enter Tryd.func18, Tryd.ntmps18
    go_wp2_with fail
    go_ret3
    exact HF.out
  · have hs4 : s.size ≤ 400 := by omega
    have HF := Lib.hid (fun (v : Value) (a : Nat) (e : Int) (L : List Wd) (w' : World) (h : (L, a, e) = wordsF (s.data.toList.length + 1) s.data.toList 0 []) (ho : OwnS w' w.heap.size 49 3 v L.length (wcells L)) (hb : Below w.heap.size w w') =>
      (show WordsAs (wordsOf s.data.toList) w (.returned (.tuple #[v, .int .i64 a, .int .i64 e])) w' from by
        unfold wordsOf
        rw [if_neg (by rw [size_list]; omega), ← h]
        exact ⟨v, rfl, ho, hb⟩))
    have HSZ := Lib.hid (size_list s)
    obtain ⟨i0, hi, hz0, hz1, hz2⟩ := info_parts infoW
    clear hs hbig
    go_enter Tryd.func18, Tryd.ntmps18
    go_wp2_with fail
    go_loopw [5, 6] (fun v i wr => ∃ (k f : Nat) (acc : List Wd) (sp : Option Addr) (sc : Nat), v = .slice sp acc.length sc ∧ acc.length ≤ sc ∧ i = .int .i64 k ∧ k ≤ s.size ∧ acc.length ≤ k ∧ s.size - k < f ∧ wordsF f s.data.toList k acc = wordsF (s.data.toList.length + 1) s.data.toList 0 [] ∧ WI w wr (.slice sp acc.length sc) acc) (fun _ i _ => s.size - (intOf i).toNat)
    case atStart => exact ⟨0, s.data.toList.length + 1, [], none, 0, rfl, by simp, rfl, by omega, by simp, by rw [HSZ.out]; omega, rfl, OwnS.nil _ _ _ _, Below.refl _ _⟩
    case round =>
      obtain ⟨k, f, acc, sp, sc, rfl, hsc, rfl, hk, hal, hf, hW, hI⟩ := hrel
      obtain ⟨g, rfl⟩ : ∃ g, f = g + 1 := ⟨f - 1, by omega⟩
      have HW := Lib.hid hW
      have HI := Lib.hid hI
      have han : acc.length ≤ 400 := by omega
      have HAL := Lib.hid han
      clear hW hI
      by_cases hlt : k < s.size
      · have HD := Lib.hid (drop_next s k hlt)
        have h8 := (s[k]).toNat_lt
        have HSP := fun w => rspace_c w ((s[k].toNat : Nat) : Int)
        obtain ⟨b, hbl⟩ : ∃ b, b = blB s[k] := ⟨_, rfl⟩
        rw [show spaceB ((s[k].toNat : Nat) : Int) = b from hbl.symm] at HSP
        have HBL := Lib.hid hbl
        clear hbl
        cases b with
        | true =>
          have HSP' := Lib.hid HSP
          have HE := Lib.hid (show wordsF (g + 1) s.data.toList (k + 1) acc = wordsF (s.data.toList.length + 1) s.data.toList 0 [] from by rw [← HW.out]; exact wordsF_blank HD.out HBL.out.symm)
          have HG := Lib.hid (And.intro (show s.size - (k + 1) < g + 1 by omega) (show acc.length ≤ k + 1 by omega))
          clear HSP hal han hf
          go_wp2_with (go_at_call 27; refine (HSP'.out _).mono ?_; rintro e w' ⟨rfl, rfl⟩)
          go_roundw
          case rel => exact ⟨k + 1, g + 1, acc, sp, sc, rfl, hsc, by go_num, by omega, HG.out.2, HG.out.1, HE.out, HI.out⟩
          case measure => simp [intOf]; omega
        | false =>
          have HSP' := Lib.hid HSP
          have hz : runN blB (s.data.toList.drop k) = 0 := by rw [HD.out]; exact runN_no (by rw [← HBL.out]; simp)
          have hcut : (s.extract k s.size).size = s.size - k := by rw [ByteArray.size_extract]; omega
          have HWD := fun (w : World) => rword_c w (s.extract k s.size) (by omega) (by omega)
          rw [drop_cut] at HWD
          have hrl := wordF_le (s.data.toList.drop k)
          rw [List.length_drop, size_list] at hrl
          obtain ⟨⟨⟨rk, rt, rn⟩, rz⟩, hR⟩ : ∃ R, R = wordF (s.data.toList.drop k) := ⟨_, rfl⟩
          rw [← hR] at HWD hrl
          simp only at hrl
          have HWD' := Lib.hid HWD
          by_cases h0 : rz = 0
          · have HE := Lib.hid (show (([] : List Wd), k, (20 : Int)) = wordsF (s.data.toList.length + 1) s.data.toList 0 [] from by
              rw [← HW.out]
              have := wordsF_bad (f := g) (l := s.data.toList) (k := k) (acc := acc) (by rw [size_list, hz]; omega) (by rw [hz, Nat.add_zero, ← hR]; exact h0)
              rw [hz] at this
              exact this.symm)
            clear HSP hz hal han hf hR HWD hcut
            go_wp2_with (go_at_call 27; refine (HSP'.out _).mono ?_; rintro e w' ⟨rfl, rfl⟩)
            refine (HWD'.out _).mono ?_
            rintro e w2 ⟨hw, hb⟩
            have hw2 : ∃ X n, e = .returned (tripV X n false) := by
              rcases hw with ⟨_, X, n, rfl⟩ | ⟨h1, _⟩
              · exact ⟨X, n, rfl⟩
              · exact absurd h0 h1
            clear hw h0
            obtain ⟨⟨xk, xt, xn⟩, n, rfl⟩ := hw2
            simp only [tripV, Wd.val]
            have HX := Lib.hid (HI.out.2.trans (hb.mono HI.out.2.size))
            clear hb
            go_wp2_with fail
            go_ret3
            exact HF.out _ k 20 _ _ HE.out (OwnS.nil _ _ _ _) (HX.out.alloc HX.out.size _)
          · have HE := Lib.hid (show wordsF g s.data.toList (k + rz) (acc ++ [⟨rk, rt, rn⟩]) = wordsF (s.data.toList.length + 1) s.data.toList 0 [] from by
              rw [← HW.out]
              have := wordsF_next (f := g) (l := s.data.toList) (k := k) (acc := acc) (by rw [size_list, hz]; omega) (by rw [hz, Nat.add_zero, ← hR]; exact h0)
              rw [hz] at this
              simp only [Nat.add_zero] at this
              rw [← hR] at this
              exact this.symm)
            have hsum : k + rz ≤ s.size := by omega
            have hg : s.size - (k + rz) < g := by omega
            have hal2 : acc.length + 1 ≤ k + rz := by omega
            have HG := Lib.hid (And.intro hg (And.intro hal2 (And.intro hsum (show 0 < rz by omega))))
            clear HSP hz hal han hf hR HWD hcut hg hal2
            go_wp2_with (go_at_call 27; refine (HSP'.out _).mono ?_; rintro e w' ⟨rfl, rfl⟩)
            refine (HWD'.out _).mono ?_
            rintro e w2 ⟨hw, hb⟩
            have hw2 : e = .returned (tripV ⟨rk, rt, rn⟩ rz true) := by
              rcases hw with ⟨h1, _⟩ | ⟨_, h1⟩
              · exact absurd h1 h0
              · exact h1
            clear hw h0
            subst hw2
            simp only [tripV, Wd.val]
            have HX := Lib.hid (HI.out.2.trans (hb.mono HI.out.2.size))
            have HO := Lib.hid (HI.out.1.below hb)
            clear hb
            go_wp2_with (at_builtin; refine wpList_append_S rfl _ _ 37 37 rfl w.heap.size 49 i0 _ 3 32 Tryd.underlying37 hi hz0 hz1 hz2 rfl (Nat.succ_pos _) _ acc.length (wcells acc) rfl ((HO.out.alloc _).alloc _) _ 1 _ rfl (srcW' (w2.alloc _) (w2.heap.size + 1) ⟨rk, rt, rn⟩ (by simp)) ?c1 ?c2 ?c3 ?_)
            case c1 => have := HAL.out; unfold maxLen; omega
            case c2 => have := HAL.out; omega
            case c3 => have := HX.out.size; simp; omega
            intro v' w3 hown3 hgrow3 _
            obtain ⟨tp, tc, rfl, htc, _⟩ := hown3.form
            have HTC := Lib.hid (show (acc ++ [(⟨rk, rt, rn⟩ : Wd)]).length ≤ tc from by rw [List.length_append]; exact htc)
            have HP := Lib.hid (WI.push (x := ⟨rk, rt, rn⟩) HO.out ((HX.out.alloc HX.out.size _).alloc (by have := HX.out.size; simp; omega) _) hown3 hgrow3)
            clear hown3 hgrow3 htc
            go_wp2_with fail
            go_roundw
            case rel => exact ⟨k + rz, g, acc ++ [⟨rk, rt, rn⟩], tp, tc, by rw [List.length_append]; rfl, HTC.out, by go_num, HG.out.2.2.1, by rw [List.length_append]; exact HG.out.2.1, HG.out.1, HE.out, by rw [List.length_append]; exact HP.out⟩
            case measure => have := HG.out.2.2.2; simp [intOf]; omega
      · have hge : s.size ≤ k := by omega
        have HR := Lib.hid (show (acc ++ [noW], 0, (0 : Int)) = wordsF (s.data.toList.length + 1) s.data.toList 0 [] from by rw [← HW.out]; exact (wordsF_end (by rw [size_list]; omega)).symm)
        clear hlt hal han hf
        go_wp2_with (at_builtin; refine wpList_append_S rfl _ _ 37 37 rfl w.heap.size 49 i0 _ 3 32 Tryd.underlying37 hi hz0 hz1 hz2 rfl (Nat.succ_pos _) _ acc.length (wcells acc) rfl (HI.out.1.alloc _) _ 1 _ rfl (srcW _ noW) ?c1 ?c2 ?c3 ?_)
        case c1 => have := HAL.out; unfold maxLen; omega
        case c2 => have := HAL.out; omega
        case c3 => have := HI.out.2.size; simp; omega
        intro v' w2 hown2 hgrow2 _
        have HP := Lib.hid (WI.push (x := noW) HI.out.1 (HI.out.2.alloc HI.out.2.size _) hown2 hgrow2)
        clear hown2 hgrow2
        go_wp2_with fail
        go_ret3
        exact HF.out _ 0 0 _ _ HR.out HP.out.1 HP.out.2
end Go.Proofs.YtikofngogkchfaaDoor
