/- The reference's Number, whatever the text. -/
import Derived.Test.YtncloiimbclklaaNp
namespace Go.Proofs.Ytncloiimbclklaa
open Go.RowKit
set_option linter.unusedVariables false


set_option maxRecDepth 100000 in
theorem rnumber_c (w : World) (s : ByteArray) (hs : s.size ≤ 140737488355328) : Calls Try.prog 76 #[.string s] w fun e w' => e = .returned (.tuple #[.int .i64 (num (tb s)).1, .int .i64 (num (tb s)).2]) ∧ w = w' := by
  by_cases h0 : s.size = 0
  · have he : tb s = [] := List.eq_nil_of_length_eq_zero (by rw [tb_length]; exact h0)
    have HR := Lib.hid (show num (tb s) = (0, 5) from by rw [he]; rfl)
    have t1 : ((s.size : Int) == 0) = true := by rw [beq_iff_eq]; omega
    have h0' : s.size ≤ 0 := by omega
    clear h0 he
    go_enter Try.func76, Try.ntmps76
    go_wp2_with fail
    all_goals go_ret2
    all_goals exact ⟨ret_num HR.out, rfl⟩
  · have hp : 0 < s.size := by omega
    have hc := tb_drop s 0 hp
    simp only [List.drop_zero] at hc
    by_cases h45 : s[0].toNat = 45
    · have hx : s[0] = 45 := UInt8.toNat_inj.1 h45
      have htl : tb (s.extract 1 s.size) = (tb s).drop (0 + 1) := by
        unfold tb
        rw [Lib.extract_data]
        exact List.take_of_length_le (by simp)
      have hts : tb s = 45 :: tb (s.extract 1 s.size) := by rw [htl, ← hx]; exact hc
      have hsz : s.size = (s.extract 1 s.size).size + 1 := by
        have := congrArg List.length hts
        rw [List.length_cons, tb_length, tb_length] at this
        exact this
      refine rnumber_minus w s hs hp (by rw [beq_iff_eq]; omega) _ rfl (num (tb s)) ?_ hts hsz
      conv => lhs; rw [hts]
      rfl
    · refine rnumber_plus w s hs hp (by rw [beq_eq_false_iff_ne]; omega) (num (tb s)) ?_ rfl trivial
      have hm : isM (tb s) = false := by
        rw [hc]
        unfold isM
        have hx : s[0] ≠ 45 := fun e => h45 (by rw [e]; rfl)
        simpa using hx
      unfold num stripM
      rw [hm]
      rfl
end Go.Proofs.Ytncloiimbclklaa
