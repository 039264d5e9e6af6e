/- lexer: Words. -/
import Derived.Test.YtikofngogkchfaaDoorLd
import Derived.Test.YtikofngogkchfaaDoorByS
namespace Go.Proofs.YtikofngogkchfaaDoor
open Go.RowKit
set_option linter.unusedVariables false

def wcell (x : Wd) : List Value := [.int .i64 x.k, .string ⟨x.t.toArray⟩, .int .i64 x.n]
def wcells (l : List Wd) : List Value := l.flatMap wcell
theorem wcells_len (l : List Wd) : (wcells l).length = l.length * 3 := by
  induction l with
  | nil => rfl
  | cons x r ih =>
    have : wcells (x :: r) = wcell x ++ wcells r := rfl
    rw [this, List.length_append, ih]
    simp [wcell]
    omega
theorem wcells_push (l : List Wd) (x : Wd) : wcells (l ++ [x]) = wcells l ++ wcell x := by simp [wcells]
theorem infoW : (Tryd.prog.info? 49).map (fun i => (i.zero, i.size, i.bytes)) = some (some (.agg #[.int .i64 0, .string ⟨#[]⟩, .int .i64 0]), 3, 32) := by kernel_rfl
theorem srcW (w : World) (x : Wd) : Src Tryd.prog 3 37 (.slice (some ⟨w.heap.size, 0, none⟩) 1 1) 1 (wcell x) (w.alloc (.cells #[.int .i64 x.k, .string ⟨x.t.toArray⟩, .int .i64 x.n] 49)) := by
  refine Src.ofSlice _ Tryd.underlying37 _ 1 1 _ rfl (fun j u hj => ?_) (fun u hu => ?_)
  · match j, hj with
    | 0, hj => simp [wcell] at hj; subst hj; simp [Addr.add]
    | 1, hj => simp [wcell] at hj; subst hj; simp [Addr.add]
    | 2, hj => simp [wcell] at hj; subst hj; simp [Addr.add]
    | j + 3, hj => simp [wcell] at hj
  · simp [wcell] at hu
    rcases hu with rfl | rfl | rfl <;> rfl
theorem srcW' (w : World) (B : Nat) (x : Wd) (hB : w.heap.size = B) : Src Tryd.prog 3 37 (.slice (some ⟨B, 0, none⟩) 1 1) 1 (wcell x) (w.alloc (.cells #[.int .i64 x.k, .string ⟨x.t.toArray⟩, .int .i64 x.n] 49)) := by
  subst hB
  exact srcW w x
theorem OwnS.below {w w' : World} {base : Nat} {e : TypeId} {size : Nat} {v : Value} {n : Nat} {xs : List Value} (h : OwnS w base e size v n xs) (hb : Below w.heap.size w w') : OwnS w' base e size v n xs :=
  h.keep fun g hg => hb.block g (h.lt g hg)
theorem OwnS.alloc {w : World} {base : Nat} {e : TypeId} {size : Nat} {v : Value} {n : Nat} {xs : List Value} (h : OwnS w base e size v n xs) (o : Obj) : OwnS (w.alloc o) base e size v n xs := h.below (box_below w o)
theorem OwnS.base {w : World} {base : Nat} {e : TypeId} {size : Nat} {v : Value} {n : Nat} {xs : List Value} (h : OwnS w base e size v n xs) : ∀ g, v.ownBlock = some g → base ≤ g := by
  intro k hk
  rcases h.2 with ⟨rfl, _⟩ | ⟨g, off, cap, cur, rfl, hb, _⟩
  · simp [Value.ownBlock] at hk
  · simp [Value.ownBlock] at hk
    subst hk
    exact hb

theorem wordsF_end {f : Nat} {l : List UInt8} {k : Nat} {acc : List Wd} (h : l.length ≤ k + runN blB (l.drop k)) : wordsF (f + 1) l k acc = (acc ++ [noW], 0, 0) := by
  conv => lhs; unfold wordsF
  rw [if_pos h]
theorem wordsF_bad {f : Nat} {l : List UInt8} {k : Nat} {acc : List Wd} (h : ¬ l.length ≤ k + runN blB (l.drop k)) (h2 : (wordF (l.drop (k + runN blB (l.drop k)))).2 = 0) : wordsF (f + 1) l k acc = ([], k + runN blB (l.drop k), 20) := by
  conv => lhs; unfold wordsF
  rw [if_neg h, if_pos h2]
theorem wordsF_next {f : Nat} {l : List UInt8} {k : Nat} {acc : List Wd} (h : ¬ l.length ≤ k + runN blB (l.drop k)) (h2 : ¬ (wordF (l.drop (k + runN blB (l.drop k)))).2 = 0) :
    wordsF (f + 1) l k acc = wordsF f l (k + runN blB (l.drop k) + (wordF (l.drop (k + runN blB (l.drop k)))).2) (acc ++ [(wordF (l.drop (k + runN blB (l.drop k)))).1]) := by
  conv => lhs; unfold wordsF
  rw [if_neg h, if_neg h2]

def WordsAs (R : List Wd × Nat × Int) (w : World) (e : Ending) (w' : World) : Prop :=
  ∃ v, e = .returned (.tuple #[v, .int .i64 R.2.1, .int .i64 R.2.2]) ∧ OwnS w' w.heap.size 49 3 v R.1.length (wcells R.1) ∧ Below w.heap.size w w'
theorem drop_cut (s : ByteArray) (k : Nat) : (s.extract k s.size).data.toList = s.data.toList.drop k := by
  rw [ByteArray.data_extract, Array.toList_extract, List.extract_eq_take_drop, List.take_of_length_le]
  rw [List.length_drop, size_list]
  exact Nat.le_refl _

/-- The words as they lie while they are read. -/
def WI (w0 wr : World) (v : Value) (acc : List Wd) : Prop := OwnS wr w0.heap.size 49 3 v acc.length (wcells acc) ∧ Below w0.heap.size w0 wr
theorem WI.push {w0 wr w1 w2 : World} {v v' : Value} {acc : List Wd} {x : Wd} (h : OwnS wr w0.heap.size 49 3 v acc.length (wcells acc)) (hb : Below w0.heap.size w0 w1)
    (hown : OwnS w2 w0.heap.size 49 3 v' (acc.length + 1) (wcells acc ++ wcell x)) (hg : w1.grownBy w2 v.ownBlock) : WI w0 w2 v' (acc ++ [x]) := by
  refine ⟨?_, hb.trans ((Below.refl _ _).grown hg hb.size fun k hk => h.base k hk)⟩
  rw [wcells_push, List.length_append]
  exact hown

set_option maxRecDepth 100000 in
set_option maxHeartbeats 8000000 in
theorem words_c (w : World) (hT : Tabs w) (s : ByteArray) (hs : s.size ≤ 140737488351232) : Calls Tryd.prog 15 #[.string s] w (WordsAs (wordsOf s.data.toList) w) := by
  have HT := Lib.hid hT
  clear hT
  by_cases hbig : 400 < s.size
  · have HF := Lib.hid (show WordsAs (wordsOf s.data.toList) w (.returned (.tuple #[.slice none 0 0, .int .i64 0, .int .i64 4])) w from by
      unfold wordsOf
      rw [if_pos (by rw [size_list]; exact hbig)]
      exact ⟨_, rfl, OwnS.nil _ _ _ _, Below.refl _ _⟩)
    go_enter Tryd.func15, Tryd.ntmps15
    go_wp2_with fail
    go_ret3
    exact HF.out
  · have hs4 : s.size ≤ 400 := by omega
    have HF := Lib.hid (fun (v : Value) (a : Nat) (e : Int) (L : List Wd) (w' : World) (h : (L, a, e) = wordsF (s.data.toList.length + 1) s.data.toList 0 []) (ho : OwnS w' w.heap.size 49 3 v L.length (wcells L)) (hb : Below w.heap.size w w') =>
      (show WordsAs (wordsOf s.data.toList) w (.returned (.tuple #[v, .int .i64 a, .int .i64 e])) w' from by
        unfold wordsOf
        rw [if_neg (by rw [size_list]; omega), ← h]
        exact ⟨v, rfl, ho, hb⟩))
    have HSZ := Lib.hid (size_list s)
    obtain ⟨i0, hi, hz0, hz1, hz2⟩ := info_parts infoW
    clear hs hbig
    go_enter Tryd.func15, Tryd.ntmps15
    go_wp2_with fail
    go_loopw [5, 6] (fun v i wr => ∃ (k f : Nat) (acc : List Wd) (sp : Option Addr) (sc : Nat), v = .slice sp acc.length sc ∧ acc.length ≤ sc ∧ i = .int .i64 k ∧ k ≤ s.size ∧ acc.length ≤ k ∧ s.size - k < f ∧ wordsF f s.data.toList k acc = wordsF (s.data.toList.length + 1) s.data.toList 0 [] ∧ WI w wr (.slice sp acc.length sc) acc) (fun _ i _ => s.size - (intOf i).toNat)
    case atStart => exact ⟨0, s.data.toList.length + 1, [], none, 0, rfl, by simp, rfl, by omega, by simp, by rw [HSZ.out]; omega, rfl, OwnS.nil _ _ _ _, Below.refl _ _⟩
    case round =>
      obtain ⟨k, f, acc, sp, sc, rfl, hsc, rfl, hk, hal, hf, hW, hI⟩ := hrel
      obtain ⟨g, rfl⟩ : ∃ g, f = g + 1 := ⟨f - 1, by omega⟩
      have HW := Lib.hid hW
      have HI := Lib.hid hI
      have han : acc.length ≤ 400 := by omega
      have HAL := Lib.hid han
      have HRB := fun w => run_blank w (s.extract k s.size) (by rw [ByteArray.size_extract]; omega)
      rw [drop_cut] at HRB
      obtain ⟨z, hz⟩ : ∃ z, z = runN blB (s.data.toList.drop k) := ⟨_, rfl⟩
      rw [← hz] at HRB
      have hzl : k + z ≤ s.size := by
        have := runN_le blB (s.data.toList.drop k)
        rw [List.length_drop, size_list] at this
        omega
      have HRB' := Lib.hid HRB
      clear HRB hW hI
      by_cases hend : k + z = s.size
      · have HR := Lib.hid (show (acc ++ [noW], 0, (0 : Int)) = wordsF (s.data.toList.length + 1) s.data.toList 0 [] from by rw [← HW.out]; exact (wordsF_end (by rw [size_list, ← hz]; omega)).symm)
        have te : ((k : Int) + (z : Int) == (s.size : Int)) = true := by simp; omega
        clear hz hend hal han hf
        go_wp2_with (first
          | (go_at_call 22; refine (HRB'.out _).mono ?_; rintro e w' ⟨rfl, rfl⟩)
          | (at_builtin; refine wpList_append_S rfl _ _ 37 37 rfl w.heap.size 49 i0 _ 3 32 Tryd.underlying37 hi hz0 hz1 hz2 rfl (Nat.succ_pos _) _ acc.length (wcells acc) rfl (HI.out.1.alloc _) _ 1 _ rfl (srcW _ noW) ?c1 ?c2 ?c3 ?_))
        case c1 => have := HAL.out; unfold maxLen; omega
        case c2 => have := HAL.out; omega
        case c3 => have := HI.out.2.size; simp; omega
        intro v' w2 hown2 hgrow2 _
        have HP := Lib.hid (WI.push (x := noW) HI.out.1 (HI.out.2.alloc HI.out.2.size _) hown2 hgrow2)
        clear hown2 hgrow2
        go_wp2_with fail
        go_ret3
        exact HF.out _ 0 0 _ _ HR.out HP.out.1 HP.out.2
      · have hlt : k + z < s.size := by omega
        have tne : ((k : Int) + (z : Int) == (s.size : Int)) = false := by simp; omega
        have hcut : (s.extract (k + z) s.size).size = s.size - (k + z) := by rw [ByteArray.size_extract]; omega
        have HWD := fun (w : World) (hT : Tabs w) => word_c w hT (s.extract (k + z) s.size) (by omega) (by omega)
        rw [drop_cut] at HWD
        have hrl := wordF_le (s.data.toList.drop (k + z))
        rw [List.length_drop, size_list] at hrl
        obtain ⟨⟨⟨rk, rt, rn⟩, rz⟩, hR⟩ : ∃ R, R = wordF (s.data.toList.drop (k + z)) := ⟨_, rfl⟩
        rw [← hR] at HWD hrl
        simp only at hrl
        simp only [pairV, Wd.val] at HWD
        have HWD' := Lib.hid HWD
        have HR := Lib.hid (And.intro hz hR)
        by_cases h0 : rz = 0
        · have HE := Lib.hid (show (([] : List Wd), k + z, (20 : Int)) = wordsF (s.data.toList.length + 1) s.data.toList 0 [] from by
            rw [← HW.out]
            have := wordsF_bad (f := g) (l := s.data.toList) (k := k) (acc := acc) (by rw [size_list, ← hz]; omega) (by rw [← hz, ← hR]; exact h0)
            rw [← hz] at this
            exact this.symm)
          have t0 : ((rz : Int) == 0) = true := by simp; omega
          have hki : ((k + z : Nat) : Int) = (k : Int) + (z : Int) := by omega
          have HKI := Lib.hid hki
          clear hz hend hal han hf hR HWD hcut h0 hki
          go_wp2_with (go_at_call 22; refine (HRB'.out _).mono ?_; rintro e w' ⟨rfl, rfl⟩)
          refine (HWD'.out _ (HT.out.below HI.out.2)).mono ?_
          rintro e w2 ⟨rfl, hb⟩
          have HX := Lib.hid (HI.out.2.trans (hb.mono HI.out.2.size))
          clear hb
          go_wp2_with fail
          go_ret3
          rw [← HKI.out]
          exact HF.out _ (k + z) 20 _ _ HE.out (OwnS.nil _ _ _ _) (HX.out.alloc HX.out.size _)
        · have HE := Lib.hid (show wordsF g s.data.toList (k + z + rz) (acc ++ [⟨rk, rt, rn⟩]) = wordsF (s.data.toList.length + 1) s.data.toList 0 [] from by
            rw [← HW.out]
            have := wordsF_next (f := g) (l := s.data.toList) (k := k) (acc := acc) (by rw [size_list, ← hz]; omega) (by rw [← hz, ← hR]; exact h0)
            rw [← hz, ← hR] at this
            exact this.symm)
          have t0 : ((rz : Int) == 0) = false := by simp; omega
          have hsum : k + z + rz ≤ s.size := by omega
          have hg : s.size - (k + z + rz) < g := by omega
          have hal2 : acc.length + 1 ≤ k + z + rz := by omega
          have HG := Lib.hid (And.intro hg (And.intro hal2 (And.intro hsum (show 0 < rz by omega))))
          clear hz hend hal han hf hR HWD hcut h0 hg hal2
          go_wp2_with (go_at_call 22; refine (HRB'.out _).mono ?_; rintro e w' ⟨rfl, rfl⟩)
          refine (HWD'.out _ (HT.out.below HI.out.2)).mono ?_
          rintro e w2 ⟨rfl, hb⟩
          have HX := Lib.hid (HI.out.2.trans (hb.mono HI.out.2.size))
          have HO := Lib.hid (HI.out.1.below hb)
          clear hb
          go_wp2_with (at_builtin; refine wpList_append_S rfl _ _ 37 37 rfl w.heap.size 49 i0 _ 3 32 Tryd.underlying37 hi hz0 hz1 hz2 rfl (Nat.succ_pos _) _ acc.length (wcells acc) rfl ((HO.out.alloc _).alloc _) _ 1 _ rfl (srcW' (w2.alloc _) (w2.heap.size + 1) ⟨rk, rt, rn⟩ (by simp)) ?c1 ?c2 ?c3 ?_)
          case c1 => have := HAL.out; unfold maxLen; omega
          case c2 => have := HAL.out; omega
          case c3 => have := HX.out.size; simp; omega
          intro v' w3 hown3 hgrow3 _
          obtain ⟨tp, tc, rfl, htc, _⟩ := hown3.form
          have HTC := Lib.hid (show (acc ++ [(⟨rk, rt, rn⟩ : Wd)]).length ≤ tc from by rw [List.length_append]; exact htc)
          have HP := Lib.hid (WI.push (x := ⟨rk, rt, rn⟩) HO.out ((HX.out.alloc HX.out.size _).alloc (by have := HX.out.size; simp; omega) _) hown3 hgrow3)
          clear hown3 hgrow3 htc
          go_wp2_with fail
          go_roundw
          case rel => exact ⟨k + z + rz, g, acc ++ [⟨rk, rt, rn⟩], tp, tc, by rw [List.length_append]; rfl, HTC.out, by go_num, HG.out.2.2.1, by rw [List.length_append]; exact HG.out.2.1, HG.out.1, HE.out, by rw [List.length_append]; exact HP.out⟩
          case measure => have := HG.out.2.2.2; simp [intOf]; omega
end Go.Proofs.YtikofngogkchfaaDoor
