/- Cases: slices.EqualFunc at the program's sameInst and sameDoc. Written by tools/genyz.py. -/
import Derived.Test.YtncloiimbclklaaYy
namespace Go.Proofs.Ytncloiimbclklaa
open Go Go.RowKit Go.Shelf
set_option linter.unusedVariables false
set_option linter.unusedSimpArgs false

def sameIs (l1 l2 : List IV) : Bool := decide (l1.length = l2.length) && (l1.zip l2).all fun p => sameI p.1 p.2

set_option maxRecDepth 100000 in
set_option maxHeartbeats 2000000 in
theorem equalIs_c (w : World) (v1 v2 : Value) (l1 l2 : List IV) (h1 : InstsIs w v1 l1) (h2 : InstsIs w v2 l2) :
    Calls Try.prog 32 #[v1, v2, .func (.func 41) #[] #[]] w fun e w' => e = .returned (.bool (sameIs l1 l2)) ∧ Below w.heap.size w w' := by
  obtain ⟨R, hR⟩ : ∃ R, R = sameIs l1 l2 := ⟨_, rfl⟩
  have HR := Lib.hid hR
  rw [← hR]
  clear hR
  unfold sameIs at HR
  have H1 := Lib.hid h1
  have H2 := Lib.hid h2
  have hE := enters_of Try.func41 (by kernel_rfl) rfl
  obtain ⟨a1, c1, hv1, m1, n1, _, _⟩ := h1.1
  obtain ⟨a2, cap2, hv2, m2, n2, _, _⟩ := h2.1
  subst hv1 hv2
  have hn : l1.length ≤ 9223372036854775807 := by unfold maxLen at n1; omega
  clear h1 h2 m1 n1 m2 n2
  by_cases hll : l1.length = l2.length
  · have h7 : ((l1.length : Int) != (l2.length : Int)) = false := by rw [hll]; simp
    have HLL := Lib.hid hll
    have HR2 := Lib.hid (show R = (l1.zip l2).all fun p => sameI p.1 p.2 from by rw [HR.out, decide_eq_true hll, Bool.true_and])
    have hzl : (l1.zip l2).length = l1.length := by rw [List.length_zip, ← hll, Nat.min_self]
    have HZL := Lib.hid hzl
    clear hll hzl
    go_enter Try.func32, Try.ntmps32
    go_wp2_with fail
    clear h7
    go_loopw [17] (fun i wr => ∃ k : Nat, k ≤ l1.length ∧ i = .int .i64 k ∧ ((l1.zip l2).take k).all (fun p => sameI p.1 p.2) = true ∧ Below w.heap.size w wr) (fun i _ => l1.length - (intOf i).toNat)
    case atStart => exact ⟨0, by omega, rfl, by simp, Below.refl _ _⟩
    case round =>
      obtain ⟨k, hk, rfl, ht, hbr⟩ := hrel
      have HBR := Lib.hid hbr
      have HT := Lib.hid ht
      clear hbr ht
      by_cases hlt : k < l1.length
      · have hlt2 : k < l2.length := by rw [← HLL.out]; exact hlt
        have hltz : k < (l1.zip l2).length := by rw [HZL.out]; exact hlt
        obtain ⟨x, hx⟩ : ∃ x, x = l1[k] := ⟨_, rfl⟩
        obtain ⟨y, hy⟩ : ∃ y, y = l2[k] := ⟨_, rfl⟩
        have hrow : rowI l1 k = x.cells := by unfold rowI; rw [List.getElem?_eq_getElem hlt, ← hx]; rfl
        have hrow2 : rowI l2 k = y.cells := by unfold rowI; rw [List.getElem?_eq_getElem hlt2, ← hy]; rfl
        have hxo := (H1.out.2 x (by rw [hx]; exact List.getElem_mem hlt)).below HBR.out
        have hyo := (H2.out.2 y (by rw [hy]; exact List.getElem_mem hlt2)).below HBR.out
        have HC := Lib.hid (fun (W : World) (hb : Below wr.heap.size wr W) => sameInst_c W x y (hxo.below hb) (hyo.below hb))
        have HYES := Lib.hid (fun (hb : sameI x y = true) => all_take (f := fun p : IV × IV => sameI p.1 p.2) hltz HT.out (by rw [List.getElem_zip, ← hx, ← hy]; exact hb))
        have HNOT := Lib.hid (fun (hb : sameI x y = false) => all_not (f := fun p : IV × IV => sameI p.1 p.2) hltz (by rw [List.getElem_zip, ← hx, ← hy]; exact hb))
        have HBX := Lib.hid (fun o o2 => (box_bel' wr o).alloc (box_bel' wr o).size o2)
        obtain ⟨g, o, ha, hg, c0, c1, c2, c3, c4, c5⟩ := (H1.out.1.below HBR.out).row hlt hrow
        have hr22 : Rows6 wr (.slice a2 l1.length cap2) l1.length (rowI l2) := by have := H2.out.1.below HBR.out; rwa [← HLL.out] at this
        obtain ⟨g2, o2, ha2, hg2, d0, d1, d2, d3, d4, d5⟩ := hr22.row hlt hrow2
        subst ha ha2
        obtain ⟨pl, cp, hlv⟩ := hxo.rl.form
        obtain ⟨pl2, cp2, hlv2⟩ := hyo.rl.form
        obtain ⟨q, hq⟩ : ∃ q, sameI x y = q := ⟨_, rfl⟩
        rw [hq] at HYES HNOT
        simp only [hq] at HC
        obtain ⟨path, item, st, bf, lv, ls, due⟩ := x
        obtain ⟨path2, item2, st2, bf2, lv2, ls2, due2⟩ := y
        unfold IV.cells at HC
        dsimp only at HC hlv hlv2
        subst hlv hlv2
        clear hr22 hrow hrow2 hx hy hxo hyo hq
        go_wp2_with fail
        refine (HC.out _ (HBX.out _ _)).mono ?_
        rintro e w' ⟨rfl, hb⟩
        have HX2 := Lib.hid (HBR.out.trans (((HBX.out _ _).trans (hb.mono (HBX.out _ _).size)).mono HBR.out.size))
        clear hb c0 c1 c2 c3 c4 c5 d0 d1 d2 d3 d4 d5
        cases q
        · have HE := Lib.hid (show R = false from by rw [HR2.out]; exact HNOT.out rfl)
          go_wp2_with fail
          go_ret
          exact ⟨by rw [HE.out]; rfl, HX2.out⟩
        · have HX := Lib.hid (HYES.out rfl)
          go_wp2_with fail
          go_roundw
          case rel => exact ⟨k + 1, by omega, by go_num, HX.out, HX2.out⟩
          case measure => simp [intOf]; omega
      · have HE := Lib.hid (show R = true from by
          rw [HR2.out]
          have h := HT.out
          rwa [List.take_of_length_le (by rw [HZL.out]; omega)] at h)
        go_wp2_with fail
        go_ret
        exact ⟨by rw [HE.out]; rfl, HBR.out⟩
  · have h7 : ((l1.length : Int) != (l2.length : Int)) = true := by rw [bne_iff_ne]; omega
    have HE := Lib.hid (show R = false from by rw [HR.out, decide_eq_false hll, Bool.false_and])
    go_enter Try.func32, Try.ntmps32
    go_wp2_with fail
    go_ret
    exact ⟨by rw [HE.out]; rfl, Below.refl _ _⟩

set_option maxRecDepth 100000 in
set_option maxHeartbeats 2000000 in
theorem equalDs_c (w : World) (v1 v2 : Value) (l1 l2 : List DV) (h1 : DocsIs w v1 l1) (h2 : DocsIs w v2 l2) :
    Calls Try.prog 42 #[v1, v2, .func (.func 43) #[] #[]] w fun e w' => e = .returned (.bool (sameDs l1 l2)) ∧ Below w.heap.size w w' := by
  obtain ⟨R, hR⟩ : ∃ R, R = sameDs l1 l2 := ⟨_, rfl⟩
  have HR := Lib.hid hR
  rw [← hR]
  clear hR
  unfold sameDs at HR
  have H1 := Lib.hid h1
  have H2 := Lib.hid h2
  have hE := enters_of Try.func43 (by kernel_rfl) rfl
  obtain ⟨a1, c1, hv1, m1, n1, _, _⟩ := h1.1
  obtain ⟨a2, cap2, hv2, m2, n2, _, _⟩ := h2.1
  subst hv1 hv2
  have hn : l1.length ≤ 9223372036854775807 := by unfold maxLen at n1; omega
  clear h1 h2 m1 n1 m2 n2
  by_cases hll : l1.length = l2.length
  · have h7 : ((l1.length : Int) != (l2.length : Int)) = false := by rw [hll]; simp
    have HLL := Lib.hid hll
    have HR2 := Lib.hid (show R = (l1.zip l2).all fun p => sameD p.1 p.2 from by rw [HR.out, decide_eq_true hll, Bool.true_and])
    have hzl : (l1.zip l2).length = l1.length := by rw [List.length_zip, ← hll, Nat.min_self]
    have HZL := Lib.hid hzl
    clear hll hzl
    go_enter Try.func42, Try.ntmps42
    go_wp2_with fail
    clear h7
    go_loopw [17] (fun i wr => ∃ k : Nat, k ≤ l1.length ∧ i = .int .i64 k ∧ ((l1.zip l2).take k).all (fun p => sameD p.1 p.2) = true ∧ Below w.heap.size w wr) (fun i _ => l1.length - (intOf i).toNat)
    case atStart => exact ⟨0, by omega, rfl, by simp, Below.refl _ _⟩
    case round =>
      obtain ⟨k, hk, rfl, ht, hbr⟩ := hrel
      have HBR := Lib.hid hbr
      have HT := Lib.hid ht
      clear hbr ht
      by_cases hlt : k < l1.length
      · have hlt2 : k < l2.length := by rw [← HLL.out]; exact hlt
        have hltz : k < (l1.zip l2).length := by rw [HZL.out]; exact hlt
        obtain ⟨x, hx⟩ : ∃ x, x = l1[k] := ⟨_, rfl⟩
        obtain ⟨y, hy⟩ : ∃ y, y = l2[k] := ⟨_, rfl⟩
        have hrow : rowD l1 k = x.cells := by unfold rowD; rw [List.getElem?_eq_getElem hlt, ← hx]; rfl
        have hrow2 : rowD l2 k = y.cells := by unfold rowD; rw [List.getElem?_eq_getElem hlt2, ← hy]; rfl
        have hxo := (H1.out.2 x (by rw [hx]; exact List.getElem_mem hlt)).below HBR.out
        have hyo := (H2.out.2 y (by rw [hy]; exact List.getElem_mem hlt2)).below HBR.out
        have HC := Lib.hid (fun (W : World) (hb : Below wr.heap.size wr W) => sameDoc_c W x y (hxo.below hb) (hyo.below hb))
        have HYES := Lib.hid (fun (hb : sameD x y = true) => all_take (f := fun p : DV × DV => sameD p.1 p.2) hltz HT.out (by rw [List.getElem_zip, ← hx, ← hy]; exact hb))
        have HNOT := Lib.hid (fun (hb : sameD x y = false) => all_not (f := fun p : DV × DV => sameD p.1 p.2) hltz (by rw [List.getElem_zip, ← hx, ← hy]; exact hb))
        have HBX := Lib.hid (fun o o2 => (box_bel' wr o).alloc (box_bel' wr o).size o2)
        obtain ⟨g, o, ha, hg, c0, c1, c2, c3, c4, c5⟩ := (H1.out.1.below HBR.out).row hlt hrow
        have hr22 : Rows6 wr (.slice a2 l1.length cap2) l1.length (rowD l2) := by have := H2.out.1.below HBR.out; rwa [← HLL.out] at this
        obtain ⟨g2, o2, ha2, hg2, d0, d1, d2, d3, d4, d5⟩ := hr22.row hlt hrow2
        subst ha ha2
        obtain ⟨pl, cp, hlv⟩ := hxo.rr.form
        obtain ⟨pl2, cp2, hlv2⟩ := hyo.rr.form
        obtain ⟨q, hq⟩ : ∃ q, sameD x y = q := ⟨_, rfl⟩
        rw [hq] at HYES HNOT
        simp only [hq] at HC
        obtain ⟨path, vk, vi, vb, vt, rv, rs⟩ := x
        obtain ⟨path2, vk2, vi2, vb2, vt2, rv2, rs2⟩ := y
        unfold DV.cells at HC
        dsimp only at HC hlv hlv2
        subst hlv hlv2
        clear hr22 hrow hrow2 hx hy hxo hyo hq
        go_wp2_with fail
        refine (HC.out _ (HBX.out _ _)).mono ?_
        rintro e w' ⟨rfl, hb⟩
        have HX2 := Lib.hid (HBR.out.trans (((HBX.out _ _).trans (hb.mono (HBX.out _ _).size)).mono HBR.out.size))
        clear hb c0 c1 c2 c3 c4 c5 d0 d1 d2 d3 d4 d5
        cases q
        · have HE := Lib.hid (show R = false from by rw [HR2.out]; exact HNOT.out rfl)
          go_wp2_with fail
          go_ret
          exact ⟨by rw [HE.out]; rfl, HX2.out⟩
        · have HX := Lib.hid (HYES.out rfl)
          go_wp2_with fail
          go_roundw
          case rel => exact ⟨k + 1, by omega, by go_num, HX.out, HX2.out⟩
          case measure => simp [intOf]; omega
      · have HE := Lib.hid (show R = true from by
          rw [HR2.out]
          have h := HT.out
          rwa [List.take_of_length_le (by rw [HZL.out]; omega)] at h)
        go_wp2_with fail
        go_ret
        exact ⟨by rw [HE.out]; rfl, HBR.out⟩
  · have h7 : ((l1.length : Int) != (l2.length : Int)) = true := by rw [bne_iff_ne]; omega
    have HE := Lib.hid (show R = false from by rw [HR.out, decide_eq_false hll, Bool.false_and])
    go_enter Try.func42, Try.ntmps42
    go_wp2_with fail
    go_ret
    exact ⟨by rw [HE.out]; rfl, Below.refl _ _⟩

end Go.Proofs.Ytncloiimbclklaa
