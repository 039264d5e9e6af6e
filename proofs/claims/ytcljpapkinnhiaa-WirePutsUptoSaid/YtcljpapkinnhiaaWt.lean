/- wire: Text, Flag; bytes.Clone. -/
import Derived.Test.YtcljpapkinnhiaaWg
namespace Go.Proofs.Ytcljpapkinnhiaa
open Go.RowKit
set_option linter.unusedVariables false

/-- The bytes of a text. -/
def tb (s : ByteArray) : List UInt8 := s.data.toList
theorem tb_length (s : ByteArray) : (tb s).length = s.size := by simp [tb]
theorem byteCells_tb (s : ByteArray) : byteCells s = bcells (tb s) := rfl

theorem clone_c (w : World) (v : Value) (xs : List UInt8) (h : Rd w v xs) (hn : xs.length ≤ 140737488355328) :
    Calls Try.prog 6 #[v] w fun e w' => ∃ v', e = .returned v' ∧ w'.ownsRow w.heap.size 5 1 v' xs.length (bcells xs) ∧ Below w.heap.size w w' := by
  have HR := Lib.hid h
  have HN := Lib.hid hn
  obtain ⟨i0, hi, hz0, hz1, hz2⟩ := info_parts info8
  obtain ⟨p, c, rfl, h1, h2, h3, h4⟩ := h
  clear h4 hn
  cases p with
  | none =>
    have h0 : xs.length = 0 := by have := h3 rfl; omega
    have H0 := Lib.hid (List.eq_nil_of_length_eq_zero h0)
    have hc := h3 rfl
    clear h0 h1 h2 h3
    obtain rfl := H0.out
    subst hc
    have hnil := @Lib.run_eql_slice_nil Try.prog
    go_enter Try.func6, Try.ntmps6
    go_wp2
    go_ret
    exact ⟨_, rfl, World.ownsRow_nil _ _ _ _, Below.refl _ _⟩
  | some a =>
    clear h3
    have hnil := @Lib.run_eql_slice_nil Try.prog
    go_enter Try.func6, Try.ntmps6
    go_wp2_with (at_builtin; refine wpList_append_src rfl _ _ 22 22 rfl w.heap.size 5 i0 (.int .u8 0) 1 Try.underlying22 hi hz0 hz1 hz2 rfl _ 0 [] rfl (World.ownsRow_made w #[] 0 (Nat.le_refl _) (by unfold maxLen; omega) rfl) _ xs.length (bcells xs) rfl ((HR.out.alloc _).src Try.underlying22) (by have := HN.out; unfold maxLen; omega) (by have := HN.out; omega) (by simp) ?_; intro v' w2 hown2 hgrow2; have HO := Lib.hid hown2; have HG := Lib.hid hgrow2; clear hown2 hgrow2)
    go_ret
    have h2 := HO.out
    rw [Nat.zero_add, List.nil_append] at h2
    exact ⟨_, rfl, h2, ((Below.refl _ _).alloc (Nat.le_refl _) _).trans (below_own HG.out (World.ownsRow_made w #[] 0 (Nat.le_refl _) (by unfold maxLen; omega) rfl) (by simp))⟩

theorem text_c (w : World) (v : Value) (xs : List UInt8) (s : ByteArray) (h : Rd w v xs) (hn : xs.length + s.size + 30 ≤ 140737488355328) :
    Calls Try.prog 10 #[v, .string s] w fun e w' => ∃ v', e = .returned v' ∧ w'.ownsRow w.heap.size 5 1 v' (xs ++ (enc s.size ++ tb s)).length (bcells (xs ++ (enc s.size ++ tb s))) ∧ Below w.heap.size w w' := by
  have HR := Lib.hid h
  have HN := Lib.hid hn
  have hs1 : s.size ≤ 140737488355328 := by omega
  obtain ⟨i0, hi, hz0, hz1, hz2⟩ := info_parts info8
  clear h hn
  go_enter Try.func10, Try.ntmps10
  go_wp2_with fail
  refine (extend_c _ _ xs _ HR.out (by omega) (by have := HN.out; omega)).mono ?_
  rintro e w1 ⟨v1, rfl, hown1, hb1⟩
  have HO := Lib.hid hown1
  have HB := Lib.hid hb1
  clear hown1 hb1
  go_wp2_with fail
  refine (putInt_c _ w.heap.size _ xs _ HO.out HB.out.size (by omega) (by omega) (by have := HN.out; omega)).mono ?_
  rintro e w2 ⟨v2, rfl, hown2, hb2⟩
  have HO2 := Lib.hid hown2
  have HB2 := Lib.hid (HB.out.trans hb2)
  clear hown2 hb2
  have hl := enc_len (s.size : Int)
  go_wp2_with (at_builtin; refine wpList_append_src rfl _ _ 22 9 rfl w.heap.size 5 i0 (.int .u8 0) 1 Try.underlying22 hi hz0 hz1 hz2 rfl _ (xs ++ enc s.size).length (bcells (xs ++ enc s.size)) rfl HO2.out _ s.size (byteCells s) rfl (Src.ofString _ Try.underlying9 s) (by have := HN.out; simp only [List.length_append]; unfold maxLen; omega) (by have := HN.out; simp only [List.length_append]; omega) HB2.out.size ?_; intro v3 w3 hown3 hgrow3; have HO3 := Lib.hid hown3; have HG := Lib.hid hgrow3; clear hown3 hgrow3)
  go_ret
  exact ⟨_, rfl, own_bytes HO3.out (by rw [byteCells_tb, ← bcells_append, List.append_assoc]), HB2.out.trans (below_own HG.out HO2.out HB2.out.size)⟩

/-- The encoding of a boolean. -/
def fb (y : Bool) : List UInt8 := [if y then 1 else 0]

theorem flag_c (w : World) (v : Value) (xs : List UInt8) (y : Bool) (h : Rd w v xs) (hn : xs.length + 30 ≤ 140737488355328) :
    Calls Try.prog 12 #[v, .bool y] w fun e w' => ∃ v', e = .returned v' ∧ w'.ownsRow w.heap.size 5 1 v' (xs ++ fb y).length (bcells (xs ++ fb y)) ∧ Below w.heap.size w w' := by
  have HR := Lib.hid h
  have HN := Lib.hid hn
  obtain ⟨i0, hi, hz0, hz1, hz2⟩ := info_parts info8
  clear h hn
  cases y
  all_goals
    go_enter Try.func12, Try.ntmps12
    go_wp2_with fail
    refine (extend_c _ _ xs _ HR.out (by omega) (by have := HN.out; omega)).mono ?_
    rintro e w1 ⟨v1, rfl, hown1, hb1⟩
    have HO := Lib.hid hown1
    have HB := Lib.hid hb1
    clear hown1 hb1
    go_wp2_with (at_builtin; refine wpList_append_src rfl _ _ 22 22 rfl w.heap.size 5 i0 (.int .u8 0) 1 Try.underlying22 hi hz0 hz1 hz2 rfl _ xs.length (bcells xs) rfl (HO.out.alloc _) _ 1 _ rfl (src_one Try.underlying22 _ _ _ rfl) (by have := HN.out; unfold maxLen; omega) (by have := HN.out; omega) (by have := HB.out.size; simp; omega) ?_; intro v3 w3 hown3 hgrow3; have HO3 := Lib.hid hown3; have HG := Lib.hid hgrow3; clear hown3 hgrow3)
    go_ret
    exact ⟨_, rfl, own_push HO3.out _ rfl, below_push HG.out HO.out HB.out HB.out.size⟩

end Go.Proofs.Ytcljpapkinnhiaa
