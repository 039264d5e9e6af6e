/- states: the reference's Next. -/
import Derived.Test.YtdagilkidklmaaaUq
namespace Go.Proofs.Ytdagilkidklmaaa
open Go.RowKit
set_option linter.unusedVariables false
set_option linter.unusedSimpArgs false

set_option maxRecDepth 100000 in
set_option maxHeartbeats 4000000 in
theorem rNext_c (w : World) (k : Int) (r : Bool) (s b e : Int) (hb : -9223372036854775808 ≤ b ∧ b ≤ 9223372036854775807) : Calls Try.prog 7 #[.int .i64 k, .bool r, .int .i64 s, .int .i64 b, .int .i64 e] w fun x w' => x = .returned (.tuple #[.int .i64 (rNext k r s b e).1, .bool (rNext k r s b e).2]) ∧ Below w.heap.size w w' := by
  have HS := Lib.hid (fun w => rStates_c w k r s)
  have HW := Lib.hid (fun w => rworks_c w k)
  have HR := Lib.hid (fun w he => rParent_c w k s b e hb he)
  have H1 := Lib.hid (fun w => one_new w e [14, 15, 16] #[.int .i64 14, .int .i64 15, .int .i64 16] rfl 3 rfl (by omega) (by omega))
  have HPl := Lib.hid (fun w => rPlan_c w s e)
  have HWo := Lib.hid (fun w => rWork_c w s b e)
  have HMo := Lib.hid (fun w => rMoment_c w s b e)
  have HN := Lib.hid (show rNext k r s b e = if !rStates k r s then (0, false) else if r then rPlan s e else if [14, 15, 16].contains e then rParent k s b e else if worksM k then rWork s b e else rMoment s b e from rfl)
  generalize rNext k r s b e = p at *
  obtain ⟨P, q⟩ := p
  generalize [14, 15, 16].contains e = o at *
  generalize rStates k r s = st at *
  generalize worksM k = wk at *
  dsimp only
  have HBn := Lib.hid (fun (x : World) (h : Below w.heap.size w x) o => bel_n h o)
  clear hb
  cases st
  · have HP := Lib.hid (show ((0 : Int), false) = (P, q) from HN.out.symm)
    obtain ⟨rfl, rfl⟩ : 0 = P ∧ false = q := by have := HP.out; simpa using this
    go_enter Try.func7, Try.ntmps7
    go_wp2_with (first | (go_at_call 14; refine (HS.out _).mono ?_; rintro e w' ⟨rfl, hb⟩; have HB1 := Lib.hid hb; clear hb))
    go_ret2
    exact ⟨rfl, HB1.out⟩
  · cases r
    · cases o
      · cases wk
        · rw [show rMoment s b e = (P, q) from HN.out.symm] at HMo
          go_enter Try.func7, Try.ntmps7
          go_wp2_with (first | (go_at_call 20; refine (HMo.out _).mono ?_; rintro e w' ⟨rfl, hb⟩; have HB3 := Lib.hid (bel_tr (HB2.out _) hb); clear hb) | (go_at_call 18; refine (HW.out _).mono ?_; rintro e w' ⟨rfl, rfl⟩) | (go_at_call 16; with_reducible refine (H1.out _).mono ?_; rintro e w' ⟨rfl, rfl⟩; have HB2 := Lib.hid (HBn.out _ HB1.out)) | (go_at_call 14; refine (HS.out _).mono ?_; rintro e w' ⟨rfl, hb⟩; have HB1 := Lib.hid hb; clear hb))
          go_ret2
          exact ⟨rfl, HB3.out⟩
        · rw [show rWork s b e = (P, q) from HN.out.symm] at HWo
          go_enter Try.func7, Try.ntmps7
          go_wp2_with (first | (go_at_call 19; refine (HWo.out _).mono ?_; rintro e w' ⟨rfl, hb⟩; have HB3 := Lib.hid (bel_tr (HB2.out _) hb); clear hb) | (go_at_call 18; refine (HW.out _).mono ?_; rintro e w' ⟨rfl, rfl⟩) | (go_at_call 16; with_reducible refine (H1.out _).mono ?_; rintro e w' ⟨rfl, rfl⟩; have HB2 := Lib.hid (HBn.out _ HB1.out)) | (go_at_call 14; refine (HS.out _).mono ?_; rintro e w' ⟨rfl, hb⟩; have HB1 := Lib.hid hb; clear hb))
          go_ret2
          exact ⟨rfl, HB3.out⟩
      · have HR2 := Lib.hid (fun w => HR.out w rfl)
        clear HR
        rw [show rParent k s b e = (P, q) from HN.out.symm] at HR2
        go_enter Try.func7, Try.ntmps7
        go_wp2_with (first | (go_at_call 17; refine (HR2.out _).mono ?_; rintro e w' ⟨rfl, hb⟩; have HB3 := Lib.hid (bel_tr (HB2.out _) hb); clear hb) | (go_at_call 16; with_reducible refine (H1.out _).mono ?_; rintro e w' ⟨rfl, rfl⟩; have HB2 := Lib.hid (HBn.out _ HB1.out)) | (go_at_call 14; refine (HS.out _).mono ?_; rintro e w' ⟨rfl, hb⟩; have HB1 := Lib.hid hb; clear hb))
        go_ret2
        exact ⟨rfl, HB3.out⟩
    · rw [show rPlan s e = (P, q) from HN.out.symm] at HPl
      go_enter Try.func7, Try.ntmps7
      go_wp2_with (first | (go_at_call 15; refine (HPl.out _).mono ?_; rintro e w' ⟨rfl, hb⟩; have HB3 := Lib.hid (bel_tr HB1.out hb); clear hb) | (go_at_call 14; refine (HS.out _).mono ?_; rintro e w' ⟨rfl, hb⟩; have HB1 := Lib.hid hb; clear hb))
      go_ret2
      exact ⟨rfl, HB3.out⟩
end Go.Proofs.Ytdagilkidklmaaa
