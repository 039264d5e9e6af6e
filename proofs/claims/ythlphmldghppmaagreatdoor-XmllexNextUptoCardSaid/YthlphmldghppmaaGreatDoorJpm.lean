/- xmllex: the token at any offset: the law's walk. -/
import Derived.Test.YthlphmldghppmaaGreatDoorJz
import Derived.Test.YthlphmldghppmaaGreatDoorJy
namespace Go.Proofs.YthlphmldghppmaaGreatDoor
open Go.RowKit
set_option linter.unusedVariables false

theorem clone_c (w : World) (v : Value) (xs : List UInt8) (h : Rd w v xs) (hn : xs.length ≤ 140737488355328) :
    Calls Tryz.prog 6 #[v] w fun e w' => ∃ v', e = .returned v' ∧ w'.ownsRow w.heap.size 5 1 v' xs.length (bcells xs) ∧ Below w.heap.size w w' := by
  have HR := Lib.hid h
  have HN := Lib.hid hn
  obtain ⟨i0, hi, hz0, hz1, hz2⟩ := info_parts info8
  obtain ⟨p, c, rfl, h1, h2, h3, h4⟩ := h
  clear h4 hn
  cases p with
  | none =>
    have h0 : xs.length = 0 := by have := h3 rfl; omega
    have H0 := Lib.hid (List.eq_nil_of_length_eq_zero h0)
    have hc := h3 rfl
    clear h0 h1 h2 h3
    obtain rfl := H0.out
    subst hc
    have hnil := @Lib.run_eql_slice_nil Tryz.prog
    go_enter Tryz.func6, Tryz.ntmps6
    go_wp2
    go_ret
    exact ⟨_, rfl, World.ownsRow_nil _ _ _ _, Below.refl _ _⟩
  | some a =>
    clear h3
    have hnil := @Lib.run_eql_slice_nil Tryz.prog
    go_enter Tryz.func6, Tryz.ntmps6
    go_wp2_with (at_builtin; refine wpList_append_src rfl _ _ 22 22 rfl w.heap.size 5 i0 (.int .u8 0) 1 Tryz.underlying22 hi hz0 hz1 hz2 rfl _ 0 [] rfl (World.ownsRow_made w #[] 0 (Nat.le_refl _) (by unfold maxLen; omega) rfl) _ xs.length (bcells xs) rfl ((HR.out.alloc _).src Tryz.underlying22) (by have := HN.out; unfold maxLen; omega) (by have := HN.out; omega) (by simp) ?_; intro v' w2 hown2 hgrow2; have HO := Lib.hid hown2; have HG := Lib.hid hgrow2; clear hown2 hgrow2)
    go_ret
    have h2 := HO.out
    rw [Nat.zero_add, List.nil_append] at h2
    exact ⟨_, rfl, h2, ((Below.refl _ _).alloc (Nat.le_refl _) _).trans (below_own HG.out (World.ownsRow_made w #[] 0 (Nat.le_refl _) (by unfold maxLen; omega) rfl) (by simp))⟩

theorem skA_eq (xs : List UInt8) (at_ : Int) : skA insR xs at_ = skA insP xs at_ := by
  rw [show insP = insR from funext ins_eq]
set_option maxRecDepth 100000 in
set_option maxHeartbeats 4000000 in
theorem next_w (v0 : Value) (xs : List UInt8) (at_ : Int) (w : World) (hw : BW w) (h : Rd w v0 xs) (hl : xs.length ≤ 1048576) : Calls Tryz.prog 3 #[v0, .int .i64 at_] w fun e w' => e = .returned (.bool true) ∧ Below w.heap.size w w' := by
  obtain ⟨p, c, rfl⟩ := rd_form h
  have HCL := Lib.hid (clone_c w _ xs h (by omega))
  obtain ⟨⟨t, n, z⟩, hR⟩ : ∃ R, R = nxt insP opnP cloP xs at_ := ⟨_, rfl⟩
  obtain ⟨⟨k, y⟩, hS⟩ : ∃ R, R = skA insP xs at_ := ⟨_, rfl⟩
  have HNX := Lib.hid (fun (wx : World) (hx : Below w.heap.size w wx) (v : Value) (h : Rd wx v xs) => next_c (hw.below hx) h hl at_)
  have HRX := Lib.hid (fun (wx : World) (hx : Below w.heap.size w wx) => rnext_c wx _ xs (h.below hx) (by omega) at_)
  have HSK := Lib.hid (fun (wx : World) (hx : Below w.heap.size w wx) (v : Value) (h : Rd wx v xs) => xskip_c (hw.below hx) h hl at_)
  have HRS := Lib.hid (fun (wx : World) (hx : Below w.heap.size w wx) => rskip_c wx _ xs (h.below hx) (by omega) at_)
  rw [← nxt_eq, ← hR] at HRX
  rw [← hR] at HNX
  rw [← hS] at HSK
  rw [skA_eq, ← hS] at HRS
  have HR := Lib.hid h
  have HW := Lib.hid hw
  obtain ⟨S1, hS1⟩ : ∃ S1, S1 = (⟨t.name.toArray⟩ : ByteArray) := ⟨_, rfl⟩
  obtain ⟨S2, hS2⟩ : ∃ S2, S2 = (⟨t.text.toArray⟩ : ByteArray) := ⟨_, rfl⟩
  obtain ⟨kd, hkd⟩ : ∃ kd, kd = t.kind := ⟨_, rfl⟩
  obtain ⟨em, hem⟩ : ∃ em, em = t.empty := ⟨_, rfl⟩
  obtain ⟨N, hN⟩ : ∃ N, N = t.attrs.length := ⟨_, rfl⟩
  have HF := Lib.hid (And.intro hS1 (And.intro hS2 (And.intro hkd (And.intro hem hN))))
  obtain ⟨L, hL⟩ : ∃ L, L = xs.length := ⟨_, rfl⟩
  rw [← hL] at HRX HRS HR ⊢
  rw [← hL] at HCL
  have HL := Lib.hid hL
  clear h hw hl hR hS hS1 hS2 hkd hem hN hL
  go_enter Tryz.func3, Tryz.ntmps3
  go_wp2_with fail
  refine HCL.out.mono ?_
  rintro e w1 ⟨g, rfl, hown, hb1⟩
  rw [HL.out] at hown
  have hrg := Rd.of_own hown
  obtain ⟨pg, cg, hgv⟩ := rd_form hrg
  rw [← HL.out] at hgv
  subst hgv
  have HG := Lib.hid hrg
  have HB1 := Lib.hid hb1
  have HNX1 := Lib.hid (HNX.out w1 hb1 _ hrg)
  clear hown hrg hb1
  go_wp2_with fail
  refine HNX1.out.mono ?_
  rintro e w2 ⟨v2, rfl, hv2, hb2, hle⟩
  obtain ⟨pa, ca, hva⟩ := hv2.open HF.out.1 HF.out.2.1 HF.out.2.2.1 HF.out.2.2.2.1 HF.out.2.2.2.2
  subst hva
  have HV2 := Lib.hid hv2
  have hbA := HB1.out.trans (hb2.mono HB1.out.size)
  have hbB := hbA.trans ((bel_alloc w2 (.cells #[.int .i64 (kd : Nat), .string S1, .slice pa N ca, .bool em, .string S2] 26)).mono hbA.size)
  have HBB := Lib.hid hbB
  have HRX1 := Lib.hid (HRX.out _ hbB)
  have HG2 := Lib.hid ((HG.out.below hb2).below (bel_alloc w2 (.cells #[.int .i64 (kd : Nat), .string S1, .slice pa N ca, .bool em, .string S2] 26)))
  clear hv2 hb2 hle hbA hbB
  go_wp2_with fail
  refine HRX1.out.mono ?_
  rintro e w3 ⟨v3, rfl, hv3, hb3⟩
  obtain ⟨pb, cb, hvb⟩ := hv3.open HF.out.1 HF.out.2.1 HF.out.2.2.1 HF.out.2.2.2.1 HF.out.2.2.2.2
  subst hvb
  have hx4 := (hb3.block w2.heap.size (by simp)).trans (heap_alloc_new w2 _)
  have hlt4 : w2.heap.size < w3.heap.size := (Array.getElem?_eq_some_iff.1 hx4).1
  have hbC := HBB.out.trans (hb3.mono HBB.out.size)
  have hbx := bel_alloc w3 (.cells #[.int .i64 (kd : Nat), .string S1, .slice pb N cb, .bool em, .string S2] 26)
  have hbD := hbC.trans (hbx.mono hbC.size)
  have HBD := Lib.hid hbD
  have HVA := Lib.hid (((HV2.out.below (bel_alloc w2 _)).below hb3).below hbx)
  have HVB := Lib.hid (hv3.below hbx)
  have HX4 := Lib.hid ((hbx.block _ hlt4).trans hx4)
  have HX7 := Lib.hid (heap_alloc_new w3 (.cells #[.int .i64 (kd : Nat), .string S1, .slice pb N cb, .bool em, .string S2] 26))
  have hg3 := (HG2.out.below hb3).below hbx
  have HG3 := Lib.hid hg3
  have HSK1 := Lib.hid (HSK.out _ hbD _ hg3)
  clear hv3 hb3 hx4 hbC hbx hbD hg3
  go_wp2_with fail
  refine HSK1.out.mono ?_
  rintro e w4 ⟨rfl, hb4⟩
  have hbE := HBD.out.trans (hb4.mono HBD.out.size)
  have HBE := Lib.hid hbE
  have HRS1 := Lib.hid (HRS.out _ hbE)
  have HB4 := Lib.hid hb4
  clear hb4 hbE
  go_wp2_with fail
  refine HRS1.out.mono ?_
  rintro e w5 ⟨rfl, hb5⟩
  have hbF := HBE.out.trans (hb5.mono HBE.out.size)
  have HBF := Lib.hid hbF
  have hb45 := HB4.out.trans (hb5.mono HB4.out.size)
  have HSM := Lib.hid (rsame_c w5 t _ _ (HVA.out.below hb45) (HVB.out.below hb45))
  have hx4 := (hb45.block _ (by simp; omega)).trans HX4.out
  have hx7 := (hb45.block _ (by simp)).trans HX7.out
  obtain ⟨q0, q1, q2, q3, q4, qz⟩ := cellsX5 hx4
  obtain ⟨y0, y1, y2, y3, y4, yz⟩ := cellsX5 hx7
  have HG5 := Lib.hid (HG3.out.below hb45)
  have HR5 := Lib.hid (HR.out.below hbF)
  have tn : ((n : Int) == (n : Int)) = true := by simp
  have tz : ((z : Int) == (z : Int)) = true := by simp
  have tk : ((k : Int) == (k : Int)) = true := by simp
  have ty : ((y : Int) == (y : Int)) = true := by simp
  clear hb5 hbF hb45 hx4 hx7
  go_wp2_with fail
  refine HSM.out.mono ?_
  rintro e w6 ⟨rfl, hb6⟩
  have hbG := HBF.out.trans (hb6.mono HBF.out.size)
  have HEQ := equal_c w6 _ _ _ _ (HG5.out.below hb6) (HR5.out.below hb6)
  rw [beq_self_eq_true] at HEQ
  have HEQ := Lib.hid HEQ
  have HAW := Lib.hid (awake_c w6 (HW.out.below hbG))
  have HBG := Lib.hid hbG
  clear hb6 hbG q0 q1 q2 q3 q4 qz y0 y1 y2 y3 y4 yz
  go_wp2_with fail
  refine HEQ.out.mono ?_
  rintro e w7 ⟨rfl, rfl⟩
  go_wp2_with fail
  refine HAW.out.mono ?_
  rintro e w8 ⟨rfl, hb8⟩
  have HB8 := Lib.hid (HBG.out.trans (hb8.mono HBG.out.size))
  clear hb8
  go_wp2_with fail
  go_ret
  exact ⟨rfl, HB8.out⟩
end Go.Proofs.YthlphmldghppmaaGreatDoor
