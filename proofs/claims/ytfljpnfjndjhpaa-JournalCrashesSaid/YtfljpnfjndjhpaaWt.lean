/- wire: Text, Flag; bytes.Clone. -/
import Derived.Test.YtfljpnfjndjhpaaWg
namespace Go.Proofs.Ytfljpnfjndjhpaa
open Go.RowKit
set_option linter.unusedVariables false

/-- The bytes of a text. -/
def tb (s : ByteArray) : List UInt8 := s.data.toList
theorem tb_length (s : ByteArray) : (tb s).length = s.size := by simp [tb]
theorem byteCells_tb (s : ByteArray) : byteCells s = bcells (tb s) := rfl

theorem clone_c (w : World) (v : Value) (xs : List UInt8) (h : Rd w v xs) (hn : xs.length ≤ 140737488355328) :
    Calls Try.prog 25 #[v] w fun e w' => ∃ v', e = .returned v' ∧ w'.ownsRow w.heap.size 5 1 v' xs.length (bcells xs) ∧ Below w.heap.size w w' := by
  have HR := Lib.hid h
  have HN := Lib.hid hn
  obtain ⟨i0, hi, hz0, hz1, hz2⟩ := info_parts info8
  obtain ⟨p, c, rfl, h1, h2, h3, h4⟩ := h
  clear h4 hn
  cases p with
  | none =>
    have h0 : xs.length = 0 := by have := h3 rfl; omega
    have H0 := Lib.hid (List.eq_nil_of_length_eq_zero h0)
    have hc := h3 rfl
    clear h0 h1 h2 h3
    obtain rfl := H0.out
    subst hc
    have hnil := @Lib.run_eql_slice_nil Try.prog
    go_enter Try.func25, Try.ntmps25
    go_wp2
    go_ret
    exact ⟨_, rfl, World.ownsRow_nil _ _ _ _, Below.refl _ _⟩
  | some a =>
    clear h3
    have hnil := @Lib.run_eql_slice_nil Try.prog
    go_enter Try.func25, Try.ntmps25
    go_wp2_with (at_builtin; refine wpList_append_src rfl _ _ 23 23 rfl w.heap.size 5 i0 (.int .u8 0) 1 Try.underlying23 hi hz0 hz1 hz2 rfl _ 0 [] rfl (World.ownsRow_made w #[] 0 (Nat.le_refl _) (by unfold maxLen; omega) rfl) _ xs.length (bcells xs) rfl ((HR.out.alloc _).src Try.underlying23) (by have := HN.out; unfold maxLen; omega) (by have := HN.out; omega) (by simp) ?_; intro v' w2 hown2 hgrow2; have HO := Lib.hid hown2; have HG := Lib.hid hgrow2; clear hown2 hgrow2)
    go_ret
    have h2 := HO.out
    rw [Nat.zero_add, List.nil_append] at h2
    exact ⟨_, rfl, h2, ((Below.refl _ _).alloc (Nat.le_refl _) _).trans (below_own HG.out (World.ownsRow_made w #[] 0 (Nat.le_refl _) (by unfold maxLen; omega) rfl) (by simp))⟩

/-- The encoding of a boolean. -/
def fb (y : Bool) : List UInt8 := [if y then 1 else 0]

end Go.Proofs.Ytfljpnfjndjhpaa
