/- lexer: literal. -/
import Derived.Test.YtikofngogkchfaaDoorLb
import Derived.Test.YtikofngogkchfaaDoorCv
namespace Go.Proofs.YtikofngogkchfaaDoor
open Go.RowKit
set_option linter.unusedVariables false

/-- What is still to come, put behind what there is. -/
def litJ (k : Nat) (T : List UInt8) (r : Option (List UInt8 × Nat)) : Option (List UInt8 × Nat) := r.map fun p => (T ++ p.1, k - 1 + p.2)
theorem litJ_start (r : Option (List UInt8 × Nat)) : litJ 1 [] r = r := by cases r <;> simp [litJ]
theorem litJ_end (k : Nat) (T r : List UInt8) (c : UInt8) (h : c.toNat = 34) (hk : 1 ≤ k) : litJ k T (litU false (c :: r)) = some (T, k) := by
  unfold litU
  rw [if_pos h]
  simp [litJ]
  omega
theorem litJ_nil (k : Nat) (T : List UInt8) (q : Bool) : litJ k T (litU q []) = none := by cases q <;> simp [litU, litJ]
theorem litJ_step (k : Nat) (T r : List UInt8) (c : UInt8) (h1 : c.toNat ≠ 34) (h2 : c.toNat ≠ 92) (hk : 1 ≤ k) : litJ k T (litU false (c :: r)) = litJ (k + 1) (T ++ [c]) (litU false r) := by
  conv => lhs; unfold litU
  rw [if_neg h1, if_neg h2]
  cases litU false r with
  | none => simp [litJ]
  | some p => simp [litJ]; omega
theorem litJ_esc (k : Nat) (T r : List UInt8) (c d : UInt8) (h1 : c.toNat = 92) (h2 : d.toNat = 34 ∨ d.toNat = 92) (hk : 1 ≤ k) : litJ k T (litU false (c :: d :: r)) = litJ (k + 2) (T ++ [d]) (litU false r) := by
  have e : litU false (c :: d :: r) = ((litU false r).map fun p => (d :: p.1, p.2 + 1)).map fun p => (p.1, p.2 + 1) := by
    conv => lhs; unfold litU
    rw [if_neg (by omega), if_pos h1]
    congr 1
    conv => lhs; unfold litU
    rw [if_pos h2]
  rw [e]
  cases litU false r with
  | none => simp [litJ]
  | some p => simp [litJ]; omega
theorem litJ_bad (k : Nat) (T r : List UInt8) (c d : UInt8) (h1 : c.toNat = 92) (h2 : ¬ (d.toNat = 34 ∨ d.toNat = 92)) : litJ k T (litU false (c :: d :: r)) = none := by
  have e : litU false (c :: d :: r) = none := by
    conv => lhs; unfold litU
    rw [if_neg (by omega), if_pos h1]
    conv => lhs; arg 2; unfold litU
    rw [if_neg h2]
    rfl
  rw [e]
  rfl
theorem litJ_last (k : Nat) (T : List UInt8) (c : UInt8) (h1 : c.toNat = 92) : litJ k T (litU false [c]) = none := by
  have e : litU false [c] = none := by
    conv => lhs; unfold litU
    rw [if_neg (by omega), if_pos h1]
    rfl
  rw [e]
  rfl
theorem litF_none {r : List UInt8} (h : litU false r = none) : litF r = (noW, 0) := by unfold litF; rw [h]
theorem litF_some {r t : List UInt8} {n : Nat} (h : litU false r = some (t, n)) : litF r = if t.length ≤ 256 ∧ wrong (t.length + 1) t 0 < 0 then (⟨3, t, 0⟩, n + 1) else (noW, 0) := by unfold litF; rw [h]

theorem infoByte1 : (Tryd.prog.info? 5).map (fun i => (i.zero, i.size, i.bytes)) = some (some (.int .u8 0), 1, 1) := by kernel_rfl
abbrev box3 : Obj := .cells #[.int .i64 0, .string ⟨#[]⟩, .int .i64 0] 49
theorem box3_cells {w : World} {b : Nat} {c0 c1 c2 : Value} {T : TypeId} (h : w.heap[b]? = some (.cells #[c0, c1, c2] T (0, 0))) :
    (w.cell? ⟨b, 0, none⟩ = some c0 ∧ w.cell? ⟨b, 1, none⟩ = some c1 ∧ w.cell? ⟨b, 2, none⟩ = some c2) ∧
    w.frozen? ⟨b, 0, none⟩ = false ∧ w.frozen? ⟨b, 1, none⟩ = false ∧ w.frozen? ⟨b, 2, none⟩ = false := by
  refine ⟨⟨?_, ?_, ?_⟩, ?_, ?_, ?_⟩ <;> simp [World.cell?, World.frozen?, h]
theorem below3 {B : Nat} {w w4 : World} (hb : Below B w w4) {b : Nat} (hle : B ≤ b) (v0 v1 v2 : Value) :
    Below B w (((w4.setCell ⟨b, 0, none⟩ v0).setCell ⟨b, 1, none⟩ v1).setCell ⟨b, 2, none⟩ v2) :=
  ((hb.setCell hle _).setCell hle _).setCell hle _
theorem keepB {V V' : World} {b : Nat} {o : Obj} (hb : Below V.heap.size V V') (h : V.heap[b]? = some o) : V'.heap[b]? = some o := by
  rcases Nat.lt_or_ge b V.heap.size with hl | hl
  · exact (hb.block b hl).trans h
  · simp [Array.getElem?_eq_none hl] at h
theorem ltB {V : World} {b : Nat} {o : Obj} (h : V.heap[b]? = some o) : b < V.heap.size := by
  rcases Nat.lt_or_ge b V.heap.size with hl | hl
  · exact hl
  · simp [Array.getElem?_eq_none hl] at h

theorem slice_form {w : World} {base : Nat} {e : TypeId} {v : Value} {n : Nat} {xs : List Value} (h : w.ownsRow base e 1 v n xs) : ∃ p c, v = .slice p n c ∧ n ≤ c := by
  rcases h.2 with ⟨rfl, rfl⟩ | ⟨g, cap, cur, rfl, _, _, hnc, _⟩
  · exact ⟨none, 0, rfl, Nat.le_refl _⟩
  · exact ⟨_, cap, rfl, hnc⟩
/-- The text as it lies while it is read. -/
def LitI (w0 wr : World) (v : Value) (T : List UInt8) : Prop :=
  wr.ownsRow (w0.heap.size + 1) 5 1 v T.length (bcells T) ∧ wr.heap[w0.heap.size]? = some box3 ∧ Below w0.heap.size w0 wr
theorem LitI.push {w0 wr w1 : World} {v v' : Value} {T : List UInt8} {c : UInt8} {o : Obj} (h : LitI w0 wr v T) (hown : w1.ownsRow (w0.heap.size + 1) 5 1 v' (T.length + 1) (bcells T ++ [.int .u8 (c.toNat : Int)]))
    (hg : (wr.alloc o).grownBy w1 v.ownBlock) : LitI w0 w1 v' (T ++ [c]) := by
  obtain ⟨h1, h2, h3⟩ := h
  have hl := ltB h2
  refine ⟨own_push hown c rfl, ?_, below_push hg (own_mono h1 (by omega)) h3 h3.size⟩
  have hne : v.ownBlock ≠ some w0.heap.size := fun e => by have := (h1.lt _ e).1; omega
  rw [hg.block _ (by simp; omega) (fun e => hne e.symm)]
  exact ((box_below wr o).block _ hl).trans h2

set_option maxRecDepth 100000 in
set_option maxHeartbeats 8000000 in
theorem literal_c (w : World) (hT : Tabs w) (s : ByteArray) (hs : s.size ≤ 400) (hp : 0 < s.size) : Calls Tryd.prog 37 #[.string s] w fun e w' => e = .returned (pairV (litF (s.data.toList.drop 1))) ∧ Below w.heap.size w w' := by
  obtain ⟨i0, hi, hz0, hz1, hz2⟩ := info_parts infoByte1
  have HT := Lib.hid hT
  have HSZ := Lib.hid (size_list s)
  clear hT
  go_enter Tryd.func37, Tryd.ntmps37
  go_wp2_with fail
  go_loopw [4, 5] (fun v i wr => ∃ (k : Nat) (T : List UInt8) (sp : Option Addr) (sc : Nat), v = .slice sp T.length sc ∧ T.length ≤ sc ∧ i = .int .i64 k ∧ 1 ≤ k ∧ k ≤ s.size ∧ T.length ≤ k ∧ litJ k T (litU false (s.data.toList.drop k)) = litU false (s.data.toList.drop 1) ∧ LitI w wr (.slice sp T.length sc) T) (fun _ i _ => s.size - (intOf i).toNat)
  case atStart => exact ⟨1, [], none, 0, rfl, by simp, rfl, by omega, by omega, by simp, litJ_start _, World.ownsRow_nil _ _ _ _, heap_alloc_new _ _, box_below _ _⟩
  case round =>
    obtain ⟨k, T, sp, sc, rfl, hsc, rfl, hk1, hk, hTl, hJ, hI⟩ := hrel
    have HJ := Lib.hid hJ
    have HI := Lib.hid hI
    have hTn : T.length ≤ 400 := by omega
    have HTL := Lib.hid hTn
    have hlt0 := ltB hI.2.1
    obtain ⟨⟨b0, b1, b2⟩, f0, f1, f2⟩ := box3_cells hI.2.1
    clear hJ hI
    by_cases hlt : k < s.size
    · have HD := Lib.hid (drop_next s k hlt)
      have h8 := (s[k]).toNat_lt
      obtain ⟨c, hc⟩ : ∃ c, c = s[k] := ⟨_, rfl⟩
      have hcn : c.toNat = s[k].toNat := by rw [hc]
      rw [← hc] at HD
      by_cases h34 : c.toNat = 34
      · have HR := Lib.hid (litF_some (show litU false (s.data.toList.drop 1) = some (T, k) from by rw [← HJ.out, HD.out]; exact litJ_end k T _ c h34 hk1))
        have t1 : ((s[k].toNat : Int) == 34) = true := by rw [← hcn, h34]; rfl
        by_cases hbig : 256 < T.length
        · have HE := Lib.hid (show litF (s.data.toList.drop 1) = (noW, 0) from by rw [HR.out, if_neg (by omega)])
          have hd : decide ((256 : Int) < (T.length : Int)) = true := by simp; omega
          clear hc hcn h34 hTl hTn HR
          go_wp2_with fail
          refine bodyPost_ret (v := pairV (noW, 0)) (by simp [results, Tryd.results37, go_sem, pairV, noW, Wd.val, b0, b1, b2]) rfl ⟨by rw [HE.out], ?_⟩
          exact below3 HI.out.2.2 (by omega) _ _ _
        · have HW := Lib.hid (wrong_c _ (HT.out.below HI.out.2.2) _ T (Rd.of_own HI.out.1) (by omega))
          have hd : decide ((256 : Int) < (T.length : Int)) = false := by simp; omega
          obtain ⟨q, hq⟩ : ∃ q, q = wrong (T.length + 1) T 0 := ⟨_, rfl⟩
          rw [← hq] at HW HR
          by_cases hq0 : q < 0
          · have HE := Lib.hid (show litF (s.data.toList.drop 1) = (⟨3, T, 0⟩, k + 1) from by rw [HR.out, if_pos ⟨by omega, hq0⟩])
            clear hc hcn h34 hTl hTn HR hq hbig
            go_wp2_with fail
            refine HW.out.mono ?_
            rintro e w2 ⟨rfl, hb⟩
            have hk2 := keepB hb HI.out.2.1
            have HX := Lib.hid (HI.out.2.2.trans (hb.mono HI.out.2.2.size))
            have cv := ((Rd.of_own HI.out.1).below hb).conv (P := Tryd.prog) 69 5 9 Tryd.underlying69 Tryd.underlying5 Tryd.underlying9
            clear b0 b1 b2 f0 f1 f2
            obtain ⟨⟨b0, b1, b2⟩, f0, f1, f2⟩ := box3_cells hk2
            clear hb hk2
            go_wp2_with fail
            refine bodyPost_ret (v := pairV (⟨3, T, 0⟩, k + 1)) (by simp [results, Tryd.results37, go_sem, pairV, Wd.val, b0, b1, b2]) rfl ⟨by rw [HE.out], ?_⟩
            exact below3 HX.out (by omega) _ _ _
          · have HE := Lib.hid (show litF (s.data.toList.drop 1) = (noW, 0) from by rw [HR.out, if_neg (by omega)])
            have hq1 : 0 ≤ q := by omega
            clear hc hcn h34 hTl hTn HR hq hbig hq0
            go_wp2_with fail
            refine HW.out.mono ?_
            rintro e w2 ⟨rfl, hb⟩
            have hk2 := keepB hb HI.out.2.1
            have HX := Lib.hid (HI.out.2.2.trans (hb.mono HI.out.2.2.size))
            clear b0 b1 b2 f0 f1 f2
            obtain ⟨⟨b0, b1, b2⟩, f0, f1, f2⟩ := box3_cells hk2
            clear hb hk2
            go_wp2_with fail
            refine bodyPost_ret (v := pairV (noW, 0)) (by simp [results, Tryd.results37, go_sem, pairV, noW, Wd.val, b0, b1, b2]) rfl ⟨by rw [HE.out], ?_⟩
            exact below3 HX.out (by omega) _ _ _
      · have t1 : ((s[k].toNat : Int) == 34) = false := by rw [← hcn]; simp; omega
        by_cases h92 : c.toNat = 92
        · have t2 : ((s[k].toNat : Int) == 92) = true := by rw [← hcn, h92]; rfl
          by_cases hl1 : k + 1 < s.size
          · have HD2 := Lib.hid (drop_next s (k + 1) hl1)
            have h8' := (s[k + 1]).toNat_lt
            obtain ⟨d, hdd⟩ : ∃ d, d = s[k + 1] := ⟨_, rfl⟩
            have hdn : d.toNat = s[k + 1].toNat := by rw [hdd]
            rw [← hdd] at HD2
            have tne : (((k + 1 : Nat) : Int) == (s.size : Int)) = false := by simp; omega
            have tne' : ((k : Int) + 1 == (s.size : Int)) = false := by simp; omega
            by_cases hq : d.toNat = 34 ∨ d.toNat = 92
            · have HN := Lib.hid (show litJ (k + 2) (T ++ [d]) (litU false (s.data.toList.drop (k + 2))) = litU false (s.data.toList.drop 1) from by rw [← HJ.out, HD.out, HD2.out]; exact (litJ_esc k T _ c d h92 hq hk1).symm)
              have hTd : (T ++ [d]).length ≤ k + 2 := by simp; omega
              have HTD := Lib.hid hTd
              have hcase : ((s[k + 1].toNat : Int) != 34) = false ∨ (((s[k + 1].toNat : Int) != 34) = true ∧ ((s[k + 1].toNat : Int) != 92) = false) := by
                rw [← hdn]
                rcases hq with h | h
                · left; rw [h]; rfl
                · right; rw [h]; exact ⟨rfl, rfl⟩
              have HDN := Lib.hid hdn
              clear hc hcn h34 h92 hdd hdn hq hTd hTl hTn
              rcases hcase with u1 | ⟨u1, u2⟩
              all_goals
                go_wp2_with (at_builtin; refine wpList_append_src rfl _ _ 69 69 rfl (w.heap.size + 1) 5 i0 (.int .u8 0) 1 Tryd.underlying69 hi hz0 hz1 hz2 rfl _ T.length (bcells T) rfl (HI.out.1.alloc _) _ 1 _ rfl (src_one Tryd.underlying69 _ _ _ rfl) ?c1 ?c2 ?c3 ?_)
                case c1 => have := HTL.out; unfold maxLen; omega
                case c2 => have := HTL.out; omega
                case c3 => simp; omega
                intro v' w2 hown2 hgrow2
                obtain ⟨tp, tc, rfl, htc⟩ := slice_form hown2
                have HTC := Lib.hid (show (T ++ [d]).length ≤ tc from by rw [List.length_append]; exact htc)
                have HI2 := Lib.hid (LitI.push (c := d) HI.out (by rw [HDN.out]; exact hown2) hgrow2)
                clear hown2 hgrow2 htc
                go_wp2_with fail
                go_roundw
                case rel => exact ⟨k + 2, T ++ [d], tp, tc, by rw [List.length_append]; rfl, HTC.out, by go_num, by omega, by omega, HTD.out, HN.out, by rw [List.length_append]; exact HI2.out⟩
                case measure => simp [intOf]; omega
            · have HR := Lib.hid (litF_none (show litU false (s.data.toList.drop 1) = none from by rw [← HJ.out, HD.out, HD2.out]; exact litJ_bad k T _ c d h92 hq))
              have HE := HR
              have u1 : ((s[k + 1].toNat : Int) != 34) = true := by rw [← hdn]; simp; omega
              have u2 : ((s[k + 1].toNat : Int) != 92) = true := by rw [← hdn]; simp; omega
              clear hc hcn h34 h92 hdd hdn hq hTl hTn
              go_wp2_with fail
              refine bodyPost_ret (v := pairV (noW, 0)) (by simp [results, Tryd.results37, go_sem, pairV, noW, Wd.val, b0, b1, b2]) rfl ⟨by rw [HE.out], ?_⟩
              exact below3 HI.out.2.2 (by omega) _ _ _
          · have hk1' : k + 1 = s.size := by omega
            have HR := Lib.hid (litF_none (show litU false (s.data.toList.drop 1) = none from by rw [← HJ.out, HD.out, hk1', drop_all]; exact litJ_last k T c h92))
            have HE := HR
            have teq : ((k : Int) + 1 == (s.size : Int)) = true := by simp; omega
            clear hc hcn h34 h92 hk1' hTl hTn
            go_wp2_with fail
            refine bodyPost_ret (v := pairV (noW, 0)) (by simp [results, Tryd.results37, go_sem, pairV, noW, Wd.val, b0, b1, b2]) rfl ⟨by rw [HE.out], ?_⟩
            exact below3 HI.out.2.2 (by omega) _ _ _
        · have t2 : ((s[k].toNat : Int) == 92) = false := by rw [← hcn]; simp; omega
          have HN := Lib.hid (show litJ (k + 1) (T ++ [c]) (litU false (s.data.toList.drop (k + 1))) = litU false (s.data.toList.drop 1) from by rw [← HJ.out, HD.out]; exact (litJ_step k T _ c h34 h92 hk1).symm)
          have hTd : (T ++ [c]).length ≤ k + 1 := by simp; omega
          have HTD := Lib.hid hTd
          have HDN := Lib.hid hcn
          clear hc hcn h34 h92 hTd hTl hTn
          go_wp2_with (at_builtin; refine wpList_append_src rfl _ _ 69 69 rfl (w.heap.size + 1) 5 i0 (.int .u8 0) 1 Tryd.underlying69 hi hz0 hz1 hz2 rfl _ T.length (bcells T) rfl (HI.out.1.alloc _) _ 1 _ rfl (src_one Tryd.underlying69 _ _ _ rfl) ?c1 ?c2 ?c3 ?_)
          case c1 => have := HTL.out; unfold maxLen; omega
          case c2 => have := HTL.out; omega
          case c3 => simp; omega
          intro v' w2 hown2 hgrow2
          obtain ⟨tp, tc, rfl, htc⟩ := slice_form hown2
          have HTC := Lib.hid (show (T ++ [c]).length ≤ tc from by rw [List.length_append]; exact htc)
          have HI2 := Lib.hid (LitI.push (c := c) HI.out (by rw [HDN.out]; exact hown2) hgrow2)
          clear hown2 hgrow2 htc
          go_wp2_with fail
          go_roundw
          case rel => exact ⟨k + 1, T ++ [c], tp, tc, by rw [List.length_append]; rfl, HTC.out, by go_num, by omega, by omega, HTD.out, HN.out, by rw [List.length_append]; exact HI2.out⟩
          case measure => simp [intOf]; omega
    · obtain rfl : k = s.size := by omega
      have HR := Lib.hid (litF_none (show litU false (s.data.toList.drop 1) = none from by rw [← HJ.out, drop_all]; exact litJ_nil _ _ _))
      have HE := HR
      clear hTl hTn
      go_wp2_with fail
      refine bodyPost_ret (v := pairV (noW, 0)) (by simp [results, Tryd.results37, go_sem, pairV, noW, Wd.val, b0, b1, b2]) rfl ⟨by rw [HE.out], ?_⟩
      exact below3 HI.out.2.2 (by omega) _ _ _
end Go.Proofs.YtikofngogkchfaaDoor
