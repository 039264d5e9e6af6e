/- The reference's Int, Text, Flag. -/
import Derived.Test.YtjablobdiglnpaaDoorWt
namespace Go.Proofs.YtjablobdiglnpaaDoor.W
open Go.RowKit
set_option linter.unusedVariables false

theorem zr_neg (n : Int) (h : n < 0) : -(n + 1) * 2 + 1 = ((zz n : Nat) : Int) := by unfold zz; rw [if_pos h]; omega
theorem zr_pos (n : Int) (h : ¬ n < 0) : n * 2 = ((zz n : Nat) : Int) := by unfold zz; rw [if_neg h]; omega

set_option maxRecDepth 100000 in
set_option maxHeartbeats 400000 in
theorem rint_c (w : World) (v : Value) (xs : List UInt8) (n : Int) (h : Rd w v xs) (hlo : -9223372036854775808 ≤ n) (hhi : n ≤ 9223372036854775807) (hn : xs.length ≤ 140737488355300) :
    Calls Tryd.prog 31 #[v, .int .i64 n] w fun e w' => ∃ v', e = .returned v' ∧ w'.ownsRow w.heap.size 5 1 v' (xs ++ enc n).length (bcells (xs ++ enc n)) ∧ Below w.heap.size w w' := by
  have HR := Lib.hid h
  have HN := Lib.hid hn
  obtain ⟨i0, hi, hz0, hz1, hz2⟩ := info_parts info8
  have HL := Lib.hid (show ∀ ds : List UInt8, ds.length ≤ 9 → (xs ++ ds).length + 1 ≤ 140737488355320 from by intro ds h; simp; omega)
  have hz := Lib.hid (zz_lt n hlo hhi)
  have HE := Lib.hid (show enc n = vb 9 (zz n) from rfl)
  clear h hn
  by_cases hneg : n < 0
  all_goals
    go_enter Tryd.func31, Tryd.ntmps31
    go_wp2_with (at_builtin; refine wpList_append_src rfl _ _ 24 24 rfl w.heap.size 5 i0 (.int .u8 0) 1 Tryd.underlying24 hi hz0 hz1 hz2 rfl _ 0 [] rfl (World.ownsRow_made w #[] 0 (Nat.le_refl _) (by unfold maxLen; omega) rfl) _ xs.length (bcells xs) rfl ((HR.out.alloc _).src Tryd.underlying24) (by have := HN.out; unfold maxLen; omega) (by have := HN.out; omega) (by simp) ?_; intro v1 w1 hown1 hgrow1; have HO := Lib.hid hown1; have HG := Lib.hid hgrow1; clear hown1 hgrow1)
    have HO2 := Lib.hid (show w1.ownsRow w.heap.size 5 1 v1 (xs ++ []).length (bcells (xs ++ [])) from own_bytes HO.out (by simp))
    have HB := Lib.hid (show Below w.heap.size w w1 from ((Below.refl _ _).alloc (Nat.le_refl _) _).trans (below_own HG.out (World.ownsRow_made w #[] 0 (Nat.le_refl _) (by unfold maxLen; omega) rfl) (by simp)))
    first | rw [zr_neg n hneg] | rw [zr_pos n (by omega)]
    clear HO HG HR HN
    generalize zz n = u at *
    clear hneg hlo hhi
    go_loopw [6, 5] (fun v s wr => ∃ (ds : List UInt8) (k f : Nat), s = .int .u64 k ∧ ds ++ vb f k = enc n ∧ k < 128 ^ (f + 1) ∧ k < 18446744073709551616 ∧ ds.length + f = 9 ∧ wr.ownsRow w.heap.size 5 1 v (xs ++ ds).length (bcells (xs ++ ds)) ∧ Below w.heap.size w wr)
      (fun _ s _ => (intOf s).toNat)
    case atStart => exact ⟨[], u, 9, rfl, by rw [HE.out]; rfl, by have := hz.out; omega, hz.out, rfl, HO2.out, HB.out⟩
    case round =>
      obtain ⟨ds, k, f, rfl, hv, hk, hk64, hf, hown, hbl⟩ := hrel
      have HV := Lib.hid hv
      have HF := Lib.hid hf
      have HW := Lib.hid hown
      have HBL := Lib.hid hbl
      have HK := Lib.hid hk
      have HK6 := Lib.hid hk64
      have hwb := hbl.size
      clear hv hf hown hk hk64 hbl
      by_cases h1 : k < 128
      · go_wp2_with (at_builtin; refine wpList_append_src rfl _ _ 24 24 rfl w.heap.size 5 i0 (.int .u8 0) 1 Tryd.underlying24 hi hz0 hz1 hz2 rfl _ (xs ++ ds).length (bcells (xs ++ ds)) rfl (HW.out.alloc _) _ 1 _ rfl (src_one Tryd.underlying24 _ _ _ rfl) ?c1 ?c2 ?c3 ?_)
        case c1 => have := HL.out ds (by have := HF.out; omega); unfold maxLen; omega
        case c2 => have := HL.out ds (by have := HF.out; omega); omega
        case c3 => simp; omega
        intro v' w2 hown1 hgrow1
        have h2 := Lib.hid (own_push hown1 (UInt8.ofNat k) (by simp; omega))
        have h3 := Lib.hid (below_push hgrow1 HW.out HBL.out (by omega))
        have h4 := Lib.hid (show enc n = ds ++ [UInt8.ofNat k] from by rw [← HV.out, vb_small f k h1])
        clear hown1 hgrow1 HW HBL HV HE
        go_wp2
        go_ret
        refine ⟨_, rfl, ?_, h3.out⟩
        rw [h4.out, ← List.append_assoc]
        exact h2.out
      · go_wp2_with (at_builtin; refine wpList_append_src rfl _ _ 24 24 rfl w.heap.size 5 i0 (.int .u8 0) 1 Tryd.underlying24 hi hz0 hz1 hz2 rfl _ (xs ++ ds).length (bcells (xs ++ ds)) rfl (HW.out.alloc _) _ 1 _ rfl (src_one Tryd.underlying24 _ _ _ rfl) ?d1 ?d2 ?d3 ?_)
        case d1 => have := HL.out ds (by have := HF.out; omega); unfold maxLen; omega
        case d2 => have := HL.out ds (by have := HF.out; omega); omega
        case d3 => simp; omega
        intro v' w2 hown1 hgrow1
        have h2 := Lib.hid (own_push hown1 (UInt8.ofNat (k % 128 + 128)) (by simp; omega))
        have h3 := Lib.hid (below_push hgrow1 HW.out HBL.out (by omega))
        obtain ⟨g, rfl⟩ : ∃ g, f = g + 1 := ⟨f - 1, by have := HK.out; rcases f with _ | f <;> simp at this ⊢; omega⟩
        have h4 := Lib.hid (show (ds ++ [UInt8.ofNat (k % 128 + 128)]) ++ vb g (k / 128) = enc n from by rw [← HV.out, vb_great g k h1, List.append_assoc]; rfl)
        have HQ := Lib.hid (show IntKind.u64.wrap ((k : Int) / 128) = ((k / 128 : Nat) : Int) from by rw [u64_wrap]; have := HK6.out; omega)
        clear hown1 hgrow1 HW HBL HV HE
        go_wp2_with fail
        rw [HQ.out]
        go_roundw
        case rel => exact ⟨ds ++ [UInt8.ofNat (k % 128 + 128)], k / 128, g, by go_num, h4.out, by have := HK.out; rw [Nat.pow_succ] at this; omega, by have := HK6.out; omega, by have := HF.out; simp; omega, by rw [← List.append_assoc]; exact h2.out, h3.out⟩
        case measure => simp [intOf]; omega

theorem rtext_c (w : World) (v : Value) (xs : List UInt8) (s : ByteArray) (h : Rd w v xs) (hn : xs.length + s.size + 30 ≤ 140737488355328) :
    Calls Tryd.prog 33 #[v, .string s] w fun e w' => ∃ v', e = .returned v' ∧ w'.ownsRow w.heap.size 5 1 v' (xs ++ (enc s.size ++ tb s)).length (bcells (xs ++ (enc s.size ++ tb s))) ∧ Below w.heap.size w w' := by
  have HR := Lib.hid h
  have HN := Lib.hid hn
  have hs1 : s.size ≤ 140737488355328 := by omega
  obtain ⟨i0, hi, hz0, hz1, hz2⟩ := info_parts info8
  clear h hn
  go_enter Tryd.func33, Tryd.ntmps33
  go_wp2_with fail
  refine (rint_c _ _ xs _ HR.out (by omega) (by omega) (by have := HN.out; omega)).mono ?_
  rintro e w2 ⟨v2, rfl, hown2, hb2⟩
  have HO2 := Lib.hid hown2
  have HB2 := Lib.hid hb2
  clear hown2 hb2
  have hl := enc_len (s.size : Int)
  go_wp2_with (at_builtin; refine wpList_append_src rfl _ _ 24 9 rfl w.heap.size 5 i0 (.int .u8 0) 1 Tryd.underlying24 hi hz0 hz1 hz2 rfl _ (xs ++ enc s.size).length (bcells (xs ++ enc s.size)) rfl HO2.out _ s.size (byteCells s) rfl (Src.ofString _ Tryd.underlying9 s) (by have := HN.out; simp only [List.length_append]; unfold maxLen; omega) (by have := HN.out; simp only [List.length_append]; omega) HB2.out.size ?_; intro v3 w3 hown3 hgrow3; have HO3 := Lib.hid hown3; have HG := Lib.hid hgrow3; clear hown3 hgrow3)
  go_ret
  exact ⟨_, rfl, own_bytes HO3.out (by rw [byteCells_tb, ← bcells_append, List.append_assoc]), HB2.out.trans (below_own HG.out HO2.out HB2.out.size)⟩

theorem rflag_c (w : World) (v : Value) (xs : List UInt8) (y : Bool) (h : Rd w v xs) (hn : xs.length + 30 ≤ 140737488355328) :
    Calls Tryd.prog 32 #[v, .bool y] w fun e w' => ∃ v', e = .returned v' ∧ w'.ownsRow w.heap.size 5 1 v' (xs ++ fb y).length (bcells (xs ++ fb y)) ∧ Below w.heap.size w w' := by
  have HR := Lib.hid h
  have HN := Lib.hid hn
  obtain ⟨i0, hi, hz0, hz1, hz2⟩ := info_parts info8
  clear h hn
  cases y
  all_goals
    go_enter Tryd.func32, Tryd.ntmps32
    go_wp2_with (first
      | (at_builtin; refine wpList_append_src rfl (.tmp 7) (.tmp 8) 24 24 rfl w.heap.size 5 i0 (.int .u8 0) 1 Tryd.underlying24 hi hz0 hz1 hz2 rfl _ 0 [] rfl (World.ownsRow_made w #[] 0 (Nat.le_refl _) (by unfold maxLen; omega) rfl) _ xs.length (bcells xs) rfl ((HR.out.alloc _).src Tryd.underlying24) (by have := HN.out; unfold maxLen; omega) (by have := HN.out; omega) (by simp) ?_; intro v1 w1 hown1 hgrow1; have HO := Lib.hid (own_bytes hown1 (show [] ++ bcells xs = bcells xs from rfl)); have HB := Lib.hid (show Below w.heap.size w w1 from ((Below.refl _ _).alloc (Nat.le_refl _) _).trans (below_own hgrow1 (World.ownsRow_made w #[] 0 (Nat.le_refl _) (by unfold maxLen; omega) rfl) (by simp))); clear hown1 hgrow1; have hs := HB.out.size)
      | (at_builtin; refine wpList_append_src rfl _ _ 24 24 rfl w.heap.size 5 i0 (.int .u8 0) 1 Tryd.underlying24 hi hz0 hz1 hz2 rfl _ xs.length (bcells xs) rfl (HO.out.alloc _) _ 1 _ rfl (src_one Tryd.underlying24 _ _ _ rfl) (by have := HN.out; unfold maxLen; omega) (by have := HN.out; omega) (by simp; omega) ?_; intro v3 w3 hown3 hgrow3; have HO3 := Lib.hid hown3; have HG := Lib.hid hgrow3; clear hown3 hgrow3))
    go_ret
    exact ⟨_, rfl, own_push HO3.out _ rfl, below_push HG.out HO.out HB.out HB.out.size⟩
end Go.Proofs.YtjablobdiglnpaaDoor.W
