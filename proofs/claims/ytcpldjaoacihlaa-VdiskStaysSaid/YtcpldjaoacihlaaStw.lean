/- vdisk: VdiskStays, the walk. -/
import Derived.Test.YtcpldjaoacihlaaVw
import Derived.Test.YtcpldjaoacihlaaStm
namespace Go.Proofs.Ytcpldjaoacihlaa.vdiskStays
open Go.RowKit
set_option linter.unusedVariables false

theorem append_len (s : DS) (n b : List UInt8) : (s.append n b).2.fs.length ≤ s.fs.length + 1 := by
  unfold DS.append
  split
  · exact Nat.le_succ _
  · split
    · exact Nat.le_succ _
    · split
      · simp only [DS.burn_fs]; omega
      · exact length_putA _ _ _

set_option maxRecDepth 100000 in
set_option maxHeartbeats 2000000 in
theorem walk (v0 : Value) (x0 : List UInt8) (v1 : Value) (cs1 : List Value) (v2 : Value) (ks : List Int) (w : World) (r0 : Rd w v0 x0) (s0 : x0.length ≤ 140737488351232) (r1 : RdV w v1 cs1) (e1 : ∀ c ∈ cs1, ∃ xs, Rd w c xs) (r2 : RdV w v2 (icells ks)) (s2 : ks.length ≤ 140737488351232) :
    Calls Try.prog 5 #[v0, v1, v2] w fun e w' => e = .returned (.bool true) ∧ Below w.heap.size w w' := by
  have R0 := Lib.hid r0
  have R1 := Lib.hid r1
  have E1 := Lib.hid e1
  have R2 := Lib.hid r2
  have S2 := Lib.hid (show ks.length ≤ 140737488355328 from by omega)
  obtain ⟨p0, c0, rfl, h01, h02, _⟩ := r0
  obtain ⟨p1, c1, rfl, h11, h12, _⟩ := r1
  obtain ⟨p2, c2, rfl, _⟩ := r2
  unfold maxLen at h02 h12
  obtain ⟨bs, hbs⟩ : ∃ bs, bs = x0.take 300 := ⟨_, rfl⟩
  have HT := Lib.hid (show bs.length ≤ 300 from by rw [hbs, List.length_take]; omega)
  have HR := Lib.hid (show Rd w (.slice p0 bs.length c0) bs from by
    have := R0.out.to (min 300 x0.length) (by omega)
    rw [hbs, List.length_take]
    rwa [← List.take_eq_take_min] at this)
  have HBL := Lib.hid (show bs.length = min 300 x0.length from by rw [hbs, List.length_take])
  clear hbs e1 s2 s0
  have HM := Lib.hid (show (min (x0.length : Int) 300).toNat = bs.length from by have := HBL.out; omega)
  go_enter Try.func5, Try.ntmps5
  go_wp2_with fail
  rw [HM.out]
  refine (new_at (w0 := w) (Below.refl _ _) 10000 (by decide)).mono ?_
  rintro e w1 ⟨b, rfl, ha⟩
  have HA1 := Lib.hid ha
  clear ha
  go_wp2_with fail
  refine (append_at HA1.out ⟨#[97]⟩ (by decide) (by simp [newS]) _ bs HR.out (by have := HT.out; omega)).mono ?_
  rw [show ((⟨#[97]⟩ : ByteArray).data.toList) = [97] from rfl, stays_first bs HT.out, stays_second bs HT.out]
  rintro e w2 ⟨rfl, ha⟩
  have HA2 := Lib.hid ha
  clear ha HA1
  go_wp2_with fail
  refine (sync_at HA2.out ⟨#[97]⟩ (by decide) (by simp [staysS])).mono ?_
  rw [show ((⟨#[97]⟩ : ByteArray).data.toList) = [97] from rfl, stays_third bs]
  rintro e w3 ⟨rfl, ha⟩
  have HA3 := Lib.hid ha
  clear ha HA2
  go_wp2_with fail
  go_loopw [36] (fun i wr => ∃ (k j : Nat) (S : DS), k ≤ cs1.length ∧ i = .int .i64 k ∧ j ≤ k ∧ j ≤ 10 ∧ SInv bs j S ∧ At w wr (some ⟨b, 0, none⟩) S) (fun i _ => cs1.length - (intOf i).toNat)
  case atStart => exact ⟨0, 0, _, Nat.zero_le _, rfl, Nat.le_refl _, Nat.zero_le _, stays_init bs HT.out, HA3.out⟩
  case round =>
    obtain ⟨k, j, S, hk, rfl, hj1, hj2, hs, ha⟩ := hrel
    have HS := Lib.hid hs
    have HA := Lib.hid ha
    clear hs ha
    by_cases hlt : k < cs1.length
    · obtain ⟨p1', c1', hv1, _, _, _, hx⟩ := R1.out.below HA.out.below
      simp only [Value.slice.injEq, true_and] at hv1
      obtain ⟨e1, e2⟩ := hv1
      subst e1
      obtain ⟨b1, o1, e3, hcell⟩ := hx (by omega)
      subst e3
      have hck := hcell k hlt
      obtain ⟨xs, hxs⟩ := E1.out _ (List.getElem_mem hlt)
      generalize hel : cs1[k] = el at *
      have HX := Lib.hid hxs
      obtain ⟨q, d, rfl, hq1, hq2, _⟩ := hxs
      unfold maxLen at hq2
      have HY := Lib.hid (show Rd w (.slice q (xs.take 300).length d) (xs.take 300) from by
        have := HX.out.to (min 300 xs.length) (by omega)
        rw [List.length_take]
        rwa [← List.take_eq_take_min] at this)
      have HN := Lib.hid (show (min (xs.length : Int) 300).toNat = (xs.take 300).length from by rw [List.length_take]; omega)
      obtain ⟨ys, hys⟩ : ∃ ys, ys = xs.take 300 := ⟨_, rfl⟩
      rw [← hys] at HY HN
      have HYL := Lib.hid (show ys.length ≤ 140737488355328 from by rw [hys, List.length_take]; omega)
      clear hel hcell hx hys e2
      by_cases h10 : k < 10
      · go_wp2_with fail
        rw [HN.out]
        refine (append_at HA.out ⟨#[97]⟩ (by decide) (by have := HS.out.2.2.2.1; omega) _ ys HY.out HYL.out).mono ?_
        rintro e w4 ⟨rfl, ha⟩
        have HS2 := Lib.hid (stays_step HS.out [97] ys (i := S.fs.length) (by omega))
        have HA2 := Lib.hid ha
        clear ha
        go_wp2_with fail
        rw [HN.out]
        refine (append_at HA2.out ⟨#[98]⟩ (by decide) (by have := HS2.out.2.2.2.1; have := HS.out.2.2.2.1; omega) _ ys HY.out HYL.out).mono ?_
        rintro e w5 ⟨rfl, ha⟩
        have HA5 := Lib.hid ha
        clear ha
        go_wp2_with fail
        go_roundw
        case rel =>
          refine ⟨k + 1, j + 1, _, by omega, by go_num, by omega, by omega, stays_step (stays_step HS.out [97] ys (i := j + 1) (by have := HS.out.2.2.2.1; omega)) [98] ys (by have := append_len S [97] ys; have := HS.out.2.2.2.1; omega), HA5.out⟩
        case measure => simp [intOf]; omega
      · go_wp2_with fail
        go_roundw
        case rel => exact ⟨k + 1, j, S, by omega, by go_num, by omega, hj2, HS.out, HA.out⟩
        case measure => simp [intOf]; omega
    · go_wp2_with fail
      refine (crash_at HA.out (by have := HS.out.2.2.2.1; omega) _ ks R2.out S2.out).mono ?_
      rintro e w4 ⟨rfl, ha⟩
      have HA4 := Lib.hid ha
      obtain ⟨r, hr⟩ := stays_end HS.out ks
      obtain ⟨zs, hzs⟩ : ∃ zs, zs = bs ++ r := ⟨_, rfl⟩
      rw [← hzs] at hr
      have HZ := Lib.hid hzs
      have HE := Lib.hid hr
      clear ha hr hzs
      go_wp2_with fail
      refine (read_at HA4.out ⟨#[97]⟩ (by decide)).mono ?_
      rw [show ((⟨#[97]⟩ : ByteArray).data.toList) = [97] from rfl, HE.out]
      rintro e w5 ⟨v, rfl, hrd, _, ha⟩
      have HD := Lib.hid hrd
      have HA5 := Lib.hid ha
      obtain ⟨rp, rc, hv, _⟩ := hrd
      subst hv
      clear ha
      go_wp2_with fail
      refine (prefix_c _ _ _ r bs zs HZ.out HD.out (HR.out.below HA5.out.below)).mono ?_
      rintro e w' ⟨rfl, rfl⟩
      go_wp2_with fail
      refine (awake_c _).mono ?_
      rintro e w6 ⟨rfl, hb⟩
      have HB := Lib.hid hb
      clear hb
      go_wp2_with fail
      go_ret
      exact ⟨rfl, HA5.out.below.trans (HB.out.mono HA5.out.below.size)⟩
end Go.Proofs.Ytcpldjaoacihlaa.vdiskStays
