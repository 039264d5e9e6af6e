/- Cases: whether two lists of documents are the same (the reference's). Written by tools/genyu.py. -/
import Derived.Test.YtncloiimbclklaaYt
namespace Go.Proofs.Ytncloiimbclklaa
open Go Go.RowKit Go.Shelf
set_option linter.unusedVariables false
set_option linter.unusedSimpArgs false

def sameD (x y : DV) : Bool := (x.path.toList == y.path.toList) && (sameVal x.vk y.vk x.vi y.vi x.vb y.vb x.vt y.vt && sameT x.rs y.rs)
def sameDs (l1 l2 : List DV) : Bool := decide (l1.length = l2.length) && (l1.zip l2).all fun p => sameD p.1 p.2

theorem quiet_add {P : Program} {f : FuncId} {args : Array Value} {w : World} {d n : Nat} {v : Value} (h : Calls P f args (w.drewN (d + n)) fun e w' => e = .returned v ∧ ∃ m, w' = (w.drewN (d + n)).drewN m) : Calls P f args (w.drewN (d + n)) fun e w'' => e = .returned v ∧ ∃ m, w'' = (w.drewN d).drewN m :=
  h.mono fun _ _ ⟨he, m, hm⟩ => ⟨he, n + m, by rw [hm, World.drewN_drewN, World.drewN_drewN, Nat.add_assoc]⟩

set_option maxRecDepth 100000 in
set_option maxHeartbeats 2000000 in
theorem rsameD_c (w : World) (v1 v2 : Value) (l1 l2 : List DV) (h1 : DocsIs w v1 l1) (h2 : DocsIs w v2 l2) : Calls Try.prog 44 #[v1, v2] w fun e w' => e = .returned (.bool (sameDs l1 l2)) ∧ ∃ d, w' = w.drewN d := by
  obtain ⟨R, hR⟩ : ∃ R, R = sameDs l1 l2 := ⟨_, rfl⟩
  have HR := Lib.hid hR
  rw [← hR]
  clear hR
  unfold sameDs at HR
  have H1 := Lib.hid h1
  have H2 := Lib.hid h2
  obtain ⟨a1, c1, hv1, m1, n1, _, _⟩ := h1.1
  obtain ⟨a2, cap2, hv2, m2, n2, _, _⟩ := h2.1
  subst hv1 hv2
  have hn : l1.length ≤ 9223372036854775807 := by unfold maxLen at n1; omega
  clear h1 h2 m1 n1 m2 n2
  by_cases hll : l1.length = l2.length
  · have h7 : ((l1.length : Int) != (l2.length : Int)) = false := by rw [hll]; simp
    have HLL := Lib.hid hll
    have HR2 := Lib.hid (show R = (l1.zip l2).all fun p => sameD p.1 p.2 from by rw [HR.out, decide_eq_true hll, Bool.true_and])
    have hzl : (l1.zip l2).length = l1.length := by rw [List.length_zip, ← hll, Nat.min_self]
    have HZL := Lib.hid hzl
    clear hll hzl
    go_enter Try.func44, Try.ntmps44
    go_wp2_with fail
    clear h7
    go_loopw [13] (fun i wr => ∃ k d : Nat, k ≤ l1.length ∧ i = .int .i64 k ∧ ((l1.zip l2).take k).all (fun p => sameD p.1 p.2) = true ∧ wr = w.drewN d) (fun i _ => l1.length - (intOf i).toNat)
    case atStart => exact ⟨0, 0, by omega, rfl, by simp, rfl⟩
    case round =>
      obtain ⟨k, d, hk, rfl, ht, hwr⟩ := hrel
      have HWR := Lib.hid hwr
      have HBR := Lib.hid (show Below w.heap.size w wr from by rw [hwr]; exact below_drewN (Below.refl _ _) _)
      clear hwr
      have HT := Lib.hid ht
      clear ht
      by_cases hlt : k < l1.length
      · have hd : decide ((k : Int) < (l1.length : Int)) = true := decide_eq_true (by omega)
        have hlt2 : k < l2.length := by rw [← HLL.out]; exact hlt
        have hltz : k < (l1.zip l2).length := by rw [HZL.out]; exact hlt
        obtain ⟨x, hx⟩ : ∃ x, x = l1[k] := ⟨_, rfl⟩
        obtain ⟨y, hy⟩ : ∃ y, y = l2[k] := ⟨_, rfl⟩
        have hrow : rowD l1 k = x.cells := by unfold rowD; rw [List.getElem?_eq_getElem hlt, ← hx]; rfl
        have hrow2 : rowD l2 k = y.cells := by unfold rowD; rw [List.getElem?_eq_getElem hlt2, ← hy]; rfl
        have hxo := H1.out.2 x (by rw [hx]; exact List.getElem_mem hlt)
        have hyo := H2.out.2 y (by rw [hy]; exact List.getElem_mem hlt2)
        have HTX := Lib.hid (fun (e : Nat) => sameTexts_c (wr.drewN e) x.rv y.rv x.rs y.rs ((hxo.rr.below HBR.out).below (below_drewN (Below.refl _ _) _)) ((hyo.rr.below HBR.out).below (below_drewN (Below.refl _ _) _)))
        have HYES := Lib.hid (fun (hb : sameD x y = true) => all_take (f := fun p : DV × DV => sameD p.1 p.2) hltz HT.out (by rw [List.getElem_zip, ← hx, ← hy]; exact hb))
        have HNOT := Lib.hid (fun (hb : sameD x y = false) => all_not (f := fun p : DV × DV => sameD p.1 p.2) hltz (by rw [List.getElem_zip, ← hx, ← hy]; exact hb))
        obtain ⟨g, o, ha, hg, c0, c1, c2, c3, c4, c5⟩ := (H1.out.1.below HBR.out).row hlt hrow
        have hr22 : Rows6 wr (.slice a2 l1.length cap2) l1.length (rowD l2) := by have := H2.out.1.below HBR.out; rwa [← HLL.out] at this
        obtain ⟨g2, o2, ha2, hg2, d0, d1, d2, d3, d4, d5⟩ := hr22.row hlt hrow2
        subst ha ha2
        obtain ⟨pl, cp, hlv⟩ := hxo.rr.form
        obtain ⟨pl2, cp2, hlv2⟩ := hyo.rr.form
        obtain ⟨path, vk, vi, vb, vt, rv, rs⟩ := x
        obtain ⟨path2, vk2, vi2, vb2, vt2, rv2, rs2⟩ := y
        dsimp only at hlv hlv2 HTX
        subst hlv hlv2
        clear hrow hrow2 hx hy hxo hyo hr22
        have HV := Lib.hid (fun W => run_neqV W vk vk2 vi vi2 vb vb2 vt vt2)
        have HSD := Lib.hid (show sameD ⟨path, vk, vi, vb, vt, .slice pl (tcells rs).length cp, rs⟩ ⟨path2, vk2, vi2, vb2, vt2, .slice pl2 (tcells rs2).length cp2, rs2⟩ = ((path.toList == path2.toList) && (sameVal vk vk2 vi vi2 vb vb2 vt vt2 && sameT rs rs2)) from rfl)
        rw [HSD.out] at HYES HNOT
        clear HSD
        obtain ⟨q1, hq1⟩ : ∃ q, (path.toList == path2.toList) = q := ⟨_, rfl⟩
        obtain ⟨q2, hq2⟩ : ∃ q, sameVal vk vk2 vi vi2 vb vb2 vt vt2 = q := ⟨_, rfl⟩
        obtain ⟨q3, hq3⟩ : ∃ q, sameT rs rs2 = q := ⟨_, rfl⟩
        rw [hq1, hq2, hq3] at HYES HNOT
        simp only [hq3] at HTX
        simp only [hq2] at HV
        clear hq2 hq3
        have hv := HV.out
        cases q1
        · have HE := Lib.hid (show R = false from by rw [HR2.out]; exact HNOT.out rfl)
          go_wp2_with fail
          go_quiet (fail)
          go_wp2_with fail
          go_ret
          exact ⟨by rw [HE.out]; rfl, _, by rw [HWR.out]; exact World.drewN_drewN _ _ _⟩
        · cases q2
          · have HE := Lib.hid (show R = false from by rw [HR2.out]; exact HNOT.out rfl)
            go_wp2_with fail
            go_quiet (fail)
            go_wp2_with fail
            go_ret
            exact ⟨by rw [HE.out]; rfl, _, by rw [HWR.out]; exact World.drewN_drewN _ _ _⟩
          · cases q3
            · have HE := Lib.hid (show R = false from by rw [HR2.out]; exact HNOT.out rfl)
              go_wp2_with fail
              go_quiet ((go_at_call 62; exact Calls.quiet_of (HTX.out _)))
              go_wp2_with fail
              go_ret
              exact ⟨by rw [HE.out]; rfl, _, by rw [HWR.out]; exact World.drewN_drewN _ _ _⟩
            · have HX := Lib.hid (HYES.out rfl)
              go_wp2_with fail
              go_quiet ((go_at_call 62; exact Calls.quiet_of (HTX.out _)))
              go_wp2_with fail
              go_roundw
              case rel => exact ⟨k + 1, _, by omega, by go_num, HX.out, by rw [HWR.out]; exact World.drewN_drewN _ _ _⟩
              case measure => simp [intOf]; omega
      · have hd : decide ((k : Int) < (l1.length : Int)) = false := decide_eq_false (by omega)
        have HE := Lib.hid (show R = true from by
          rw [HR2.out]
          have h := HT.out
          rwa [List.take_of_length_le (by rw [HZL.out]; omega)] at h)
        go_wp2_with fail
        go_ret
        exact ⟨by rw [HE.out]; rfl, _, HWR.out⟩
  · have h7 : ((l1.length : Int) != (l2.length : Int)) = true := by rw [bne_iff_ne]; omega
    have HE := Lib.hid (show R = false from by rw [HR.out, decide_eq_false hll, Bool.false_and])
    go_enter Try.func44, Try.ntmps44
    go_wp2_with fail
    go_ret
    exact ⟨by rw [HE.out]; rfl, 0, rfl⟩
end Go.Proofs.Ytncloiimbclklaa
