/- wire: extend, putInt, Int, and the law's awake. -/
import Derived.Test.YtjablobdiglnpaaDoorRows
import Derived.Test.YtjablobdiglnpaaDoorBy
import Derived.Test.YtjablobdiglnpaaDoorWm
import Derived.OpenShut
import Derived.Outline
import Derived.Deep.DeepFit
import Derived.Deep.DeepMust
import Derived.WalkLawsBesides
import Derived.WalkSpells
namespace Go.Proofs.YtjablobdiglnpaaDoor.W
open Go.RowKit
set_option linter.unusedVariables false

theorem info8 : (Tryd.prog.info? 5).map (fun i => (i.zero, i.size, i.bytes)) = some (some (.int .u8 0), 1, 1) := by kernel_rfl

theorem equal_c (w : World) (v1 v2 : Value) (xs ys : List UInt8) (h1 : Rd w v1 xs) (h2 : Rd w v2 ys) :
    Calls Tryd.prog 16 #[v1, v2] w fun e w' => e = .returned (.bool (xs == ys)) ∧ w = w' := by
  have c1 := h1.conv (P := Tryd.prog) 24 5 9 Tryd.underlying24 Tryd.underlying5 Tryd.underlying9
  have c2 := h2.conv (P := Tryd.prog) 24 5 9 Tryd.underlying24 Tryd.underlying5 Tryd.underlying9
  go_enter Tryd.func16, Tryd.ntmps16
  go_wp2
  go_ret
  exact ⟨rfl, rfl⟩

theorem extend_c (w : World) (v : Value) (xs : List UInt8) (n : Int) (h : Rd w v xs) (h0 : 0 ≤ n) (hn : xs.length + n ≤ 140737488355328) :
    Calls Tryd.prog 49 #[v, .int .i64 n] w fun e w' => ∃ v', e = .returned v' ∧ w'.ownsRow w.heap.size 5 1 v' xs.length (bcells xs) ∧ Below w.heap.size w w' := by
  have hr := h
  obtain ⟨p, c, rfl, h1, h2, h3, h4⟩ := h
  have HR := Lib.hid hr
  clear h3 h4 hr
  obtain ⟨m, rfl⟩ := Int.eq_ofNat_of_zero_le h0
  obtain ⟨i0, hi, hz0, hz1, hz2⟩ := info_parts info8
  unfold maxLen at h2
  go_enter Tryd.func49, Tryd.ntmps49
  go_wp2_with (first
    | (at_make; refine wpList_make_own _ rfl _ _ 24 rfl w.heap.size 5 i0 (.int .u8 0) 1 Tryd.underlying24 hi hz0 hz1 .i64 .i64 _ (xs.length + m) rfl rfl (by omega) (by rw [hz2]; omega) (by unfold maxLen; omega) (Nat.le_refl _) ?_; intro w1 hown1 hgrow1; have hb1 : Below w.heap.size w w1 := (Below.refl _ _).grown hgrow1 (Nat.le_refl _) (by simp))
    | (at_builtin; refine wpList_append_src rfl _ _ 24 24 rfl w.heap.size 5 i0 (.int .u8 0) 1 Tryd.underlying24 hi hz0 hz1 hz2 rfl _ 0 [] rfl hown1 _ xs.length (bcells xs) rfl ((HR.out.below hb1).src Tryd.underlying24) (by unfold maxLen; omega) (by omega) hb1.size ?_; intro v' w2 hown2 hgrow2; have HO := Lib.hid hown2; have hb2 := Lib.hid (hb1.trans (below_own hgrow2 hown1 hb1.size)); clear hown2 hgrow2 hown1 hgrow1 hb1))
  go_ret
  have h2 := HO.out
  rw [Nat.zero_add, List.nil_append] at h2
  exact ⟨_, rfl, h2, hb2.out⟩

set_option maxRecDepth 100000 in
theorem putInt_c (w : World) (base : Nat) (v : Value) (xs : List UInt8) (n : Int) (h : w.ownsRow base 5 1 v xs.length (bcells xs)) (hb : base ≤ w.heap.size) (hlo : -9223372036854775808 ≤ n) (hhi : n ≤ 9223372036854775807) (hn : xs.length ≤ 140737488355300) :
    Calls Tryd.prog 48 #[v, .int .i64 n] w fun e w' => ∃ v', e = .returned v' ∧ w'.ownsRow base 5 1 v' (xs ++ enc n).length (bcells (xs ++ enc n)) ∧ Below base w w' := by
  obtain ⟨i0, hi, hz0, hz1, hz2⟩ := info_parts info8
  have HO := Lib.hid h
  clear h
  have HL := Lib.hid (show ∀ ds : List UInt8, ds.length ≤ 9 → (xs ++ ds).length + 1 ≤ 140737488355320 from by intro ds h; simp; omega)
  clear hn
  have hz := Lib.hid (zz_lt n hlo hhi)
  have HE := Lib.hid (show enc n = vb 9 (zz n) from rfl)
  by_cases hneg : n < 0
  all_goals
    go_enter Tryd.func48, Tryd.ntmps48
    go_wp2_with fail
    first | rw [zz_neg n hneg hlo] | rw [zz_pos n (by omega)]
    generalize zz n = u at *
    clear hneg hlo hhi
    go_loopw [0, 5] (fun v s wr => ∃ (ds : List UInt8) (k f : Nat), s = .int .u64 k ∧ ds ++ vb f k = enc n ∧ k < 128 ^ (f + 1) ∧ k < 18446744073709551616 ∧ ds.length + f = 9 ∧ wr.ownsRow base 5 1 v (xs ++ ds).length (bcells (xs ++ ds)) ∧ Below base w wr)
      (fun _ s _ => (intOf s).toNat)
    case atStart => exact ⟨[], u, 9, rfl, by rw [HE.out]; rfl, by have := hz.out; omega, hz.out, rfl, by simpa using HO.out, Below.refl _ _⟩
    case round =>
      obtain ⟨ds, k, f, rfl, hv, hk, hk64, hf, hown, hbl⟩ := hrel
      have HV := Lib.hid hv
      have HF := Lib.hid hf
      have HW := Lib.hid hown
      have HB := Lib.hid hbl
      have HK := Lib.hid hk
      have HK6 := Lib.hid hk64
      clear hv hf hown hk hk64
      have hwb := hbl.size
      clear hbl
      by_cases h1 : k < 128
      · go_wp2_with (at_builtin; refine wpList_append_src rfl _ _ 24 24 rfl base 5 i0 (.int .u8 0) 1 Tryd.underlying24 hi hz0 hz1 hz2 rfl _ (xs ++ ds).length (bcells (xs ++ ds)) rfl (HW.out.alloc _) _ 1 _ rfl (src_one Tryd.underlying24 _ _ _ rfl) ?c1 ?c2 ?c3 ?_)
        case c1 => have := HL.out ds (by have := HF.out; omega); unfold maxLen; omega
        case c2 => have := HL.out ds (by have := HF.out; omega); omega
        case c3 => simp; omega
        intro v' w1 hown1 hgrow1
        have h2 := Lib.hid (own_push hown1 (UInt8.ofNat k) (by simp; omega))
        have h3 := Lib.hid (below_push hgrow1 HW.out HB.out (by omega))
        have h4 := Lib.hid (show enc n = ds ++ [UInt8.ofNat k] from by rw [← HV.out, vb_small f k h1])
        clear hown1 hgrow1 HW HB HV HE
        go_wp2
        go_ret
        refine ⟨_, rfl, ?_, h3.out⟩
        rw [h4.out, ← List.append_assoc]
        exact h2.out
      · go_wp2_with (at_builtin; refine wpList_append_src rfl _ _ 24 24 rfl base 5 i0 (.int .u8 0) 1 Tryd.underlying24 hi hz0 hz1 hz2 rfl _ (xs ++ ds).length (bcells (xs ++ ds)) rfl (HW.out.alloc _) _ 1 _ rfl (src_one Tryd.underlying24 _ _ _ rfl) ?c4 ?c5 ?c6 ?_)
        case c4 => have := HL.out ds (by have := HF.out; omega); unfold maxLen; omega
        case c5 => have := HL.out ds (by have := HF.out; omega); omega
        case c6 => simp; omega
        intro v' w1 hown1 hgrow1
        have h2 := Lib.hid (own_push hown1 (UInt8.ofNat (k % 128 + 128)) (by rw [or128]; simp; omega))
        have h3 := Lib.hid (below_push hgrow1 HW.out HB.out (by omega))
        obtain ⟨g, rfl⟩ : ∃ g, f = g + 1 := ⟨f - 1, by have := HK.out; rcases f with _ | f <;> simp at this ⊢; omega⟩
        have h4 := Lib.hid (show (ds ++ [UInt8.ofNat (k % 128 + 128)]) ++ vb g (k / 128) = enc n from by rw [← HV.out, vb_great g k h1, List.append_assoc]; rfl)
        clear hown1 hgrow1 HW HB HV HE
        go_wp2_with fail
        go_roundw
        case rel => exact ⟨ds ++ [UInt8.ofNat (k % 128 + 128)], k / 128, g, by go_num, h4.out, by have := HK.out; rw [Nat.pow_succ] at this; omega, by have := HK6.out; omega, by have := HF.out; simp; omega, by rw [← List.append_assoc]; exact h2.out, h3.out⟩
        case measure => simp [intOf]; omega

theorem int_c (w : World) (v : Value) (xs : List UInt8) (n : Int) (h : Rd w v xs) (hlo : -9223372036854775808 ≤ n) (hhi : n ≤ 9223372036854775807) (hn : xs.length ≤ 140737488355300) :
    Calls Tryd.prog 28 #[v, .int .i64 n] w fun e w' => ∃ v', e = .returned v' ∧ w'.ownsRow w.heap.size 5 1 v' (xs ++ enc n).length (bcells (xs ++ enc n)) ∧ Below w.heap.size w w' := by
  have H := Lib.hid h
  have HN := Lib.hid hn
  have HL := Lib.hid (And.intro hlo hhi)
  clear h hn hlo hhi
  go_enter Tryd.func28, Tryd.ntmps28
  go_wp2_with fail
  refine (extend_c _ _ xs 10 H.out (by omega) (by have := HN.out; omega)).mono ?_
  rintro e w1 ⟨v1, rfl, hown1, hb1⟩
  have HO := Lib.hid hown1
  have HB := Lib.hid hb1
  clear hown1 hb1
  go_wp2_with fail
  refine (putInt_c _ w.heap.size _ xs n HO.out HB.out.size HL.out.1 HL.out.2 (by have := HN.out; omega)).mono ?_
  rintro e w2 ⟨v2, rfl, hown2, hb2⟩
  have HO2 := Lib.hid hown2
  have HB2 := Lib.hid hb2
  clear hown2 hb2
  go_wp2
  go_ret
  exact ⟨_, rfl, HO2.out, HB.out.trans HB2.out⟩

end Go.Proofs.YtjablobdiglnpaaDoor.W
