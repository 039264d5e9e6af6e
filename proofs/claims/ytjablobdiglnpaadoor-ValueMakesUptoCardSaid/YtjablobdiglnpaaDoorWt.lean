/- wire: Text, Flag; bytes.Clone. -/
import Derived.Test.YtjablobdiglnpaaDoorWg
namespace Go.Proofs.YtjablobdiglnpaaDoor.W
open Go.RowKit
set_option linter.unusedVariables false

/-- The bytes of a text. -/
def tb (s : ByteArray) : List UInt8 := s.data.toList
theorem tb_length (s : ByteArray) : (tb s).length = s.size := by simp [tb]
theorem byteCells_tb (s : ByteArray) : byteCells s = bcells (tb s) := rfl

theorem text_c (w : World) (v : Value) (xs : List UInt8) (s : ByteArray) (h : Rd w v xs) (hn : xs.length + s.size + 30 ≤ 140737488355328) :
    Calls Tryd.prog 30 #[v, .string s] w fun e w' => ∃ v', e = .returned v' ∧ w'.ownsRow w.heap.size 5 1 v' (xs ++ (enc s.size ++ tb s)).length (bcells (xs ++ (enc s.size ++ tb s))) ∧ Below w.heap.size w w' := by
  have HR := Lib.hid h
  have HN := Lib.hid hn
  have hs1 : s.size ≤ 140737488355328 := by omega
  obtain ⟨i0, hi, hz0, hz1, hz2⟩ := info_parts info8
  clear h hn
  go_enter Tryd.func30, Tryd.ntmps30
  go_wp2_with fail
  refine (extend_c _ _ xs _ HR.out (by omega) (by have := HN.out; omega)).mono ?_
  rintro e w1 ⟨v1, rfl, hown1, hb1⟩
  have HO := Lib.hid hown1
  have HB := Lib.hid hb1
  clear hown1 hb1
  go_wp2_with fail
  refine (putInt_c _ w.heap.size _ xs _ HO.out HB.out.size (by omega) (by omega) (by have := HN.out; omega)).mono ?_
  rintro e w2 ⟨v2, rfl, hown2, hb2⟩
  have HO2 := Lib.hid hown2
  have HB2 := Lib.hid (HB.out.trans hb2)
  clear hown2 hb2
  have hl := enc_len (s.size : Int)
  go_wp2_with (at_builtin; refine wpList_append_src rfl _ _ 24 9 rfl w.heap.size 5 i0 (.int .u8 0) 1 Tryd.underlying24 hi hz0 hz1 hz2 rfl _ (xs ++ enc s.size).length (bcells (xs ++ enc s.size)) rfl HO2.out _ s.size (byteCells s) rfl (Src.ofString _ Tryd.underlying9 s) (by have := HN.out; simp only [List.length_append]; unfold maxLen; omega) (by have := HN.out; simp only [List.length_append]; omega) HB2.out.size ?_; intro v3 w3 hown3 hgrow3; have HO3 := Lib.hid hown3; have HG := Lib.hid hgrow3; clear hown3 hgrow3)
  go_ret
  exact ⟨_, rfl, own_bytes HO3.out (by rw [byteCells_tb, ← bcells_append, List.append_assoc]), HB2.out.trans (below_own HG.out HO2.out HB2.out.size)⟩

/-- The encoding of a boolean. -/
def fb (y : Bool) : List UInt8 := [if y then 1 else 0]

theorem flag_c (w : World) (v : Value) (xs : List UInt8) (y : Bool) (h : Rd w v xs) (hn : xs.length + 30 ≤ 140737488355328) :
    Calls Tryd.prog 29 #[v, .bool y] w fun e w' => ∃ v', e = .returned v' ∧ w'.ownsRow w.heap.size 5 1 v' (xs ++ fb y).length (bcells (xs ++ fb y)) ∧ Below w.heap.size w w' := by
  have HR := Lib.hid h
  have HN := Lib.hid hn
  obtain ⟨i0, hi, hz0, hz1, hz2⟩ := info_parts info8
  clear h hn
  cases y
  all_goals
    go_enter Tryd.func29, Tryd.ntmps29
    go_wp2_with fail
    refine (extend_c _ _ xs _ HR.out (by omega) (by have := HN.out; omega)).mono ?_
    rintro e w1 ⟨v1, rfl, hown1, hb1⟩
    have HO := Lib.hid hown1
    have HB := Lib.hid hb1
    clear hown1 hb1
    go_wp2_with (at_builtin; refine wpList_append_src rfl _ _ 24 24 rfl w.heap.size 5 i0 (.int .u8 0) 1 Tryd.underlying24 hi hz0 hz1 hz2 rfl _ xs.length (bcells xs) rfl (HO.out.alloc _) _ 1 _ rfl (src_one Tryd.underlying24 _ _ _ rfl) (by have := HN.out; unfold maxLen; omega) (by have := HN.out; omega) (by have := HB.out.size; simp; omega) ?_; intro v3 w3 hown3 hgrow3; have HO3 := Lib.hid hown3; have HG := Lib.hid hgrow3; clear hown3 hgrow3)
    go_ret
    exact ⟨_, rfl, own_push HO3.out _ rfl, below_push HG.out HO.out HB.out HB.out.size⟩

end Go.Proofs.YtjablobdiglnpaaDoor.W
