/- JournalCrashes: behind a crash at any change, whatever stays, there are the snapshot and the records of all calls that told OK. -/
import Derived.Test.YtfljpnfjndjhpaaJi
import Derived.Test.YtfljpnfjndjhpaaOp
import Derived.ProofKit
import Derived.SizedLaws
import Derived.ShutString
import Derived.ChangeOld
namespace Go.Proofs.Ytfljpnfjndjhpaa.journalCrashes
open Go Go.ChangeShapes Go.WideShapes Go.ChangeAt Go.RowKit Go.Deep
open Go.ChangeMaps (open_string shut_string)
set_option linter.unusedVariables false
set_option linter.unusedSimpArgs false

theorem n_good : Good [] ((newS 1048576).open0 [115]).2.2 := ⟨by decide +kernel, by decide +kernel, by decide +kernel, by kernel_rfl⟩
theorem n_poss : possB 1048576 = true := by decide +kernel
theorem open_new_L {w0 w : World} {a : Addr} (h : AtS w0 w a (newS 1048576) []) :
    Calls Try.prog 5 #[.pointer (some a), .slice (some ⟨w.heap.size, 0, none⟩) 1 1] (w.alloc (.cells #[.int .u8 115] 5 (1, 2))) fun e w' => ∃ jb s', e = .returned (.tuple #[.pointer (some ⟨jb, 0, none⟩), .int .i64 0]) ∧ LiveS w0 w' a s' (jOf []) jb [] ∧ Good [] s' := by
  obtain ⟨f, k1, k2, k3, k4⟩ := h
  refine (open_new (k1.below ((Below.refl _ _).alloc (Nat.le_refl _) _)) n_fs _ [115] (rd_byte w 115 115 rfl _ _) (fun g hg => ⟨by simp only [Value.ownBlock, Option.some.injEq] at hg; simp; omega, fun hm => by have := k1.lt g hm; simp only [Value.ownBlock, Option.some.injEq] at hg; omega⟩) n_disc n_read).mono ?_
  rintro e w2 hm
  unfold Made at hm
  rw [if_pos n_open] at hm
  obtain ⟨jb, foot2, sv, rv, vs, rfl, hd2, hj2, h2a, h2b, h2c, h2d⟩ := hm
  rw [n_jnl] at hj2
  have hb2 := k3.alloc k3.size (.cells #[.int .u8 115] 5 (1, 2))
  obtain ⟨k5, _⟩ := chg_keep (P := []) k2 hb2 (fun p hp => by cases hp) h2d
  have hs := k3.size
  refine ⟨jb, _, rfl, ⟨foot2, sv, rv, vs, hd2, hj2, fun i hi => ⟨?_, fun p hp => by cases hp⟩, k5, fun p hp => by cases hp⟩, n_good⟩
  rcases List.mem_cons.1 hi with h | h
  · rw [h]; simp at h2a; omega
  · rcases List.mem_append.1 h with h | h
    · have := h2c i (by simpa using h); simp at this; omega
    · rcases h2b i h with h | h
      · exact (k2 i h).1
      · simp at h; omega

theorem agr_below {p : Nat × Nat × World} {wl W2 : World} (h : p.2.1 ≤ wl.heap.size ∧ Agr p wl) (hb : Below wl.heap.size wl W2) : Agr p W2 := fun k h1 h2 => (hb.block k (by have := h.1; omega)).trans (h.2 k h1 h2)
theorem rd_cut7 {w : World} {a : Option Addr} {c : Nat} {xs : List UInt8} (h : Rd w (.slice a xs.length c) xs) : Rd w (.slice a (min (xs.length : Int) 700).toNat c) (xs.take 700) := by
  obtain ⟨p, c', hv, h1, h2, h3, h4⟩ := h
  simp only [Value.slice.injEq, true_and] at hv
  obtain ⟨rfl, rfl⟩ := hv
  have hl : (xs.take 700).length = (min (xs.length : Int) 700).toNat := by rw [List.length_take]; omega
  refine ⟨a, c, by rw [hl], by rw [hl]; omega, h2, h3, fun hp => ?_⟩
  obtain ⟨b, o, hb, hx⟩ := h4 (by rw [hl] at hp; omega)
  refine ⟨b, o, hb, fun i hi => ?_⟩
  rw [hl] at hi
  rw [hx i (by omega)]
  simp
set_option maxRecDepth 100000 in
set_option maxHeartbeats 8000000 in
theorem walk (v0 : Value) (x0 : List Value) (v1 : Value) (x1 : List UInt8) (a2 : Bool) (a3 : Int) (v4 : Value) (x4 : List Int) (a5 : Int) (v6 : Value) (x6 : List Int) (W : World) (w0 : RdV W v0 x0) (s0 : ∀ e ∈ x0, ∃ xs, Rd W e xs) (w1 : Rd W v1 x1) (s1 : x1.length ≤ 140737488351232)
    (w3 : (Lit.int .i64 a3).wf = true) (w4 : RdV W v4 (icells x4)) (s4 : x4.length ≤ 140737488351232) (w5 : (Lit.int .i64 a5).wf = true) (w6 : RdV W v6 (icells x6)) (s6 : x6.length ≤ 140737488351232) :
    Calls Try.prog 3 #[v0, v1, .bool a2, .int .i64 a3, v4, .int .i64 a5, v6] W fun e W' => e = .returned (.bool true) ∧ Below W.heap.size W W' := by
  have kc := fun (w : World) (C : Array Value) (n c : Nat) => Lib.run_convert_bytes_const (P := Try.prog) w 23 5 C n c Try.underlying23 Try.underlying5
  have HV0 := Lib.hid w0
  have HE0 := Lib.hid s0
  have HV1 := Lib.hid w1
  have HV4 := Lib.hid (And.intro w4 s4)
  have HV6 := Lib.hid (And.intro w6 s6)
  obtain ⟨p0, c0, rfl, l00, l01, _⟩ := w0
  obtain ⟨p1, c1, rfl, l10, l11, _⟩ := w1
  obtain ⟨p4, c4, rfl, _⟩ := w4
  obtain ⟨p6, c6, rfl, _⟩ := w6
  clear s0 s4 s6
  go_enter Try.func3, Try.ntmps3
  go_wp2_with fail
  refine (new_c W 1048576).mono ?_
  rintro e wa h
  rw [if_pos n_poss] at h
  obtain ⟨footA, rfl, hdA, hfA, hbA⟩ := h
  have HA := Lib.hid (show AtS W wa ⟨W.heap.size + 1, 0, none⟩ (newS 1048576) [] from ⟨footA, hdA, fun i hi => ⟨hfA i hi, fun p hp => by cases hp⟩, hbA, fun p hp => by cases hp⟩)
  obtain ⟨d, hd⟩ : ∃ d : Addr, d = ⟨W.heap.size + 1, 0, none⟩ := ⟨_, rfl⟩
  rw [← hd] at HA ⊢
  clear hdA hfA hbA hd
  go_wp2_with fail
  refine (open_new_L HA.out).mono ?_
  rintro e wb ⟨jb, sb, rfl, hlb, hgb⟩
  have HLB := Lib.hid (And.intro hlb hgb)
  clear hlb hgb HA
  go_wp2_with fail
  go_loopw [49] (fun i wr => ∃ (k : Nat) (rs : List (List UInt8)) (s : DS), k ≤ x0.length ∧ i = .int .i64 k ∧ LiveS W wr d s (jOf rs) jb [] ∧ Good rs s ∧ rs.length ≤ k ∧ rs.length ≤ 8 ∧ ∀ x ∈ rs, x.length ≤ 700) (fun i _ => x0.length - (intOf i).toNat)
  case atStart => exact ⟨0, [], sb, Nat.zero_le _, rfl, HLB.out.1, HLB.out.2, Nat.le_refl _, Nat.zero_le _, fun x hx => by cases hx⟩
  case round =>
    obtain ⟨k, rs, s, hk, rfl, hli, hgo, hr1, hr2, hr3⟩ := hrel
    have HI := Lib.hid (And.intro hli (And.intro hgo (And.intro hr1 (And.intro hr2 hr3))))
    clear hli hgo hr1 hr2 hr3
    have hx0m : x0.length ≤ 9223372036854775807 := by unfold maxLen at l01; omega
    by_cases hlt : k < x0.length
    · have hd1 : decide ((k : Int) < (x0.length : Int)) = true := decide_eq_true (by omega)
      obtain ⟨xs, hxs⟩ := HE0.out x0[k] (List.getElem_mem hlt)
      obtain ⟨pe, ce, hpe, le1, le2, _⟩ := id hxs
      have hbw : Below W.heap.size W wr := by
        obtain ⟨_, _, _, _, _, _, _, h4, _⟩ := HI.out.1
        exact h4
      obtain ⟨g, o, hp0, hcell⟩ : ∃ g o, p0 = some ⟨g, o, none⟩ ∧ wr.cell? ⟨g, o + k, none⟩ = some (.slice pe xs.length ce) := by
        obtain ⟨p, c, hv, _, _, _, h4⟩ := HV0.out
        simp only [Value.slice.injEq] at hv
        obtain ⟨rfl, _, rfl⟩ := hv
        obtain ⟨g, o, hb, hx⟩ := h4 (by omega)
        have h5 := hx k hlt
        rw [hpe] at h5
        exact ⟨g, o, hb, by rw [hbw.cell (World.block_lt_of_cell? W _ h5)]; exact h5⟩
      subst hp0
      rw [hpe] at hxs
      have HXS := Lib.hid hxs
      unfold maxLen at le2
      have hxm : (xs.length : Int) ≤ 9223372036854775807 := by omega
      have hmn : (0 : Int) ≤ min (xs.length : Int) 700 := by omega
      have hmc : min (xs.length : Int) 700 ≤ (ce : Int) := by omega
      clear hbw hpe hxs
      by_cases h8 : k < 8
      · have hd2 : decide ((k : Int) < 8) = true := decide_eq_true (by omega)
        go_wp2_with fail
        refine (step_L rs HI.out.1 HI.out.2.1 (by have := HI.out.2.2.2.1; omega) HI.out.2.2.2.2 _ (xs.take 700) (rd_cut7 HXS.out) (by simp; omega)).mono ?_
        rintro e w2 ⟨E, s2, rs2, rfl, hl2, hg2, hn2, hx2⟩
        have HI2 := Lib.hid (And.intro hl2 (And.intro hg2 (And.intro hn2 hx2)))
        clear hl2 hg2 hn2 hx2
        go_wp2_with fail
        go_roundw
        case rel => exact ⟨k + 1, rs2, s2, by omega, by go_num, HI2.out.1, HI2.out.2.1, by have := HI2.out.2.2.1; have := HI.out.2.2.1; omega, by have := HI2.out.2.2.1; have := HI.out.2.2.1; omega, HI2.out.2.2.2⟩
        case measure => simp [intOf]; omega
      · have hd2 : decide ((k : Int) < 8) = false := decide_eq_false (by omega)
        go_wp2_with fail
        go_roundw
        case rel => exact ⟨k + 1, rs, s, by omega, by go_num, HI.out.1, HI.out.2.1, by have := HI.out.2.2.1; omega, HI.out.2.2.2.1, HI.out.2.2.2.2⟩
        case measure => simp [intOf]; omega
    · have hd1 : decide ((k : Int) < (x0.length : Int)) = false := decide_eq_false (by omega)
      have HIR := Lib.hid HI.out.2.2.2
      have HGO := Lib.hid HI.out.2.1
      have HRC := Lib.hid (show Calls Try.prog 7 #[.pointer (some ⟨jb, 0, none⟩)] wr fun e w' => ∃ a' c', e = .returned (.slice a' rs.length c') ∧ (∃ ad : Addr, a' = some ad ∧ wr.heap.size ≤ ad.block ∧ ad.block < w'.heap.size) ∧ (∀ W2, Agr (wr.heap.size, w'.heap.size, w') W2 → w'.heap.size ≤ W2.heap.size → RdRows W2 (.slice a' rs.length c') rs) ∧ LiveS W w' d s (jOf rs) jb ((wr.heap.size, w'.heap.size, w') :: []) from recs_L HI.out.1 (by have := HIR.out.1; show rs.length ≤ _; omega) (fun x hx => by have := HIR.out.2 x hx; omega))
      clear HI HLB
      go_wp2_with fail
      refine HRC.out.mono ?_
      rintro e wd ⟨ra0, rc, rfl, ⟨ra, rfl, hra1, hra2⟩, hrw, hld⟩
      have HRA := Lib.hid (And.intro hra1 hra2)
      clear hra1 hra2
      clear hd1 hlt hk
      have HRW := Lib.hid hrw
      have HSN := Lib.hid (show Calls Try.prog 8 #[.pointer (some ⟨jb, 0, none⟩)] wd fun e w' => ∃ a' c', e = .returned (.slice a' 1 c') ∧ (∀ W2, Agr (wd.heap.size, w'.heap.size, w') W2 → Rd W2 (.slice a' 1 c') [115]) ∧ LiveS W w' d s (jOf rs) jb ((wd.heap.size, w'.heap.size, w') :: (wr.heap.size, wd.heap.size, wd) :: []) from snap_L hld (show (1 : Nat) ≤ 140737488355328 by decide))
      clear hrw hld
      go_wp2_with fail
      refine HSN.out.mono ?_
      rintro e we ⟨sa, sc, rfl, hsw, hle⟩
      have HSW := Lib.hid hsw
      have HLE := Lib.hid hle
      clear hsw hle
      go_wp2_with fail
      obtain ⟨nf, hnf⟩ : ∃ n, n = wrap64 ((IntKind.u64.wrap a3).tmod 6) := ⟨_, rfl⟩
      have hwm := wrap_mod a3 6 (by decide) (by decide)
      rw [← hnf] at hwm ⊢
      have HNF := Lib.hid hwm
      clear hnf hwm
      have hmn : (0 : Int) ≤ min (x1.length : Int) 700 := by omega
      have hmc : min (x1.length : Int) 700 ≤ (c1 : Int) := by omega
      refine (fuse_L HLE.out nf (by have := HNF.out.2; omega)).mono ?_
      rintro e wf ⟨rfl, hlf⟩
      have hsf : s.setFuse nf = (0, { s with fuse := nf }) := by unfold DS.setFuse; rw [if_neg (by have := HNF.out.1; omega)]
      rw [hsf] at hlf ⊢
      have HLF := Lib.hid hlf
      clear hlf hsf
      obtain ⟨i0, hi, hz0, hz1, hz2⟩ := info_parts infoB
      obtain ⟨w80, hw80⟩ : ∃ y, y = wf.alloc (.cells #[] 23) := ⟨_, rfl⟩
      have HB80 := Lib.hid (show Below wf.heap.size wf w80 from by rw [hw80]; exact (Below.refl _ _).alloc (Nat.le_refl _) _)
      have HO80 := Lib.hid (show OwnS w80 wf.heap.size 23 1 (.slice (some ⟨wf.heap.size, 0, none⟩) 0 0) 0 [] from by rw [hw80]; exact emptyJ_own wf _ _)
      have HL80 := Lib.hid (HLF.out.below HB80.out)
      have HAG := Lib.hid (show Agr (wr.heap.size, wd.heap.size, wd) w80 ∧ wd.heap.size ≤ w80.heap.size from by
        obtain ⟨_, _, _, _, _, _, _, _, h5⟩ := HL80.out
        have := h5 _ (List.mem_cons_of_mem _ (List.mem_cons_self ..))
        exact ⟨this.2, this.1⟩)
      obtain ⟨vs, hvl, hsrc, hel⟩ := rows_src (HRW.out w80 HAG.out.1 HAG.out.2)
      have HEL := Lib.hid (And.intro hvl hel)
      have HSRC := Lib.hid hsrc
      have HW80 := Lib.hid hw80
      have hrs8 : rs.length ≤ 8 := HIR.out.1
      clear hvl hel hsrc hw80
      go_upto_region 16 with (fail)
      go_wp2_with (first
        | (at_builtin; refine wpList_append_S rfl (Operand.tmp 79) (Operand.tmp 80) 22 22 rfl wf.heap.size 23 i0 (.slice none 0 0) 1 24 Try.underlying22 hi hz0 hz1 hz2 rfl (Nat.succ_pos _) (.slice (some ⟨wf.heap.size, 0, none⟩) 0 0) 0 [] rfl (by rw [← HW80.out]; exact HO80.out) (.slice (some ra) rs.length rc) rs.length vs rfl (by rw [← HW80.out]; exact HSRC.out) (by unfold maxLen; omega) (by omega) (by simp) ?_
           intro v81 w81 hown hgrow hl
           rw [← HW80.out] at hgrow
           simp only [Nat.zero_add, List.nil_append] at hown
           obtain ⟨va81, vc81, hv81, _⟩ := hown.form
           subst hv81
           have H81 := Lib.hid (And.intro hown (And.intro hgrow hl))
           have HB81 := Lib.hid (show Below wf.heap.size wf w81 from HB80.out.grown hgrow HB80.out.size (fun g hg => by simp only [Value.ownBlock, Option.some.injEq] at hg; omega))
           clear hown hgrow hl)
        | (at_builtin; refine wpList_append_S rfl (Operand.tmp 81) (Operand.tmp 83) 22 22 rfl wf.heap.size 23 i0 (.slice none 0 0) 1 24 Try.underlying22 hi hz0 hz1 hz2 rfl (Nat.succ_pos _) (.slice va81 rs.length vc81) rs.length vs rfl (H81.out.1.keep (fun g hg => Below.heap_alloc _ _ _ (H81.out.1.lt g hg))) (.slice (some ⟨w81.heap.size, 0, none⟩) 1 1) 1 [.slice p1 (min (x1.length : Int) 700).toNat c1] rfl (src_one Try.underlying22 w81 _ _ rfl) (by unfold maxLen; omega) (by omega) (by have := HB81.out.size; simp; omega) ?_
           intro v84 w84 hown hgrow hl
           obtain ⟨va84, vc84, hv84, _⟩ := hown.form
           subst hv84
           have HB84 := Lib.hid (show Below wf.heap.size wf w84 from (HB81.out.alloc HB81.out.size _).grown hgrow (by have := HB81.out.size; simp; omega) (fun g hg => H81.out.1.baseJ g hg))
           have H84 := Lib.hid hown
           have HSZ := Lib.hid (show w81.heap.size ≤ w84.heap.size from Nat.le_trans (by simp) hgrow.size)
           clear hown hgrow hl)
        | fail "no arm")
      · -- compacts
        have HL84 := Lib.hid (HLF.out.add HB84.out)
        have HLB := Lib.hid (show (x1.take 700).length ≤ 700 from by simp; omega)
        have HFL := Lib.hid (show (frs ([115] :: rs)).length ≤ 6372 from by
          have := frs_len ([115] :: rs) (fun x hx => by
            rcases List.mem_cons.1 hx with h | h
            · rw [h]; decide
            · exact HIR.out.2 x h)
          simp only [List.length_cons] at this
          omega)
        have HMA := Lib.hid (cmp_crash ([115] :: rs) { s with fuse := nf } (x1.take 700) (jOf rs) rfl HGO.out.1 HGO.out.2.2.2 HGO.out.2.2.1 (by have := HNF.out.1; show -1 ≤ nf; omega) (by have := HFL.out; have := HLB.out; rw [frameB_length]; omega) (by have := HLB.out; omega) x4)
        refine (cmp_S HL84.out (by rw [show ({ s with fuse := nf } : DS).fs = s.fs from rfl, HGO.out.2.2.2]; simp [one]) _ (x1.take 700) (rd_cut7 HV1.out)).mono ?_
        rintro e wg ⟨rfl, hlg⟩
        obtain ⟨T, hT⟩ : ∃ T, T = ((jOf rs).cmp { s with fuse := nf } (x1.take 700)).1 := ⟨_, rfl⟩
        obtain ⟨s3, hs3⟩ : ∃ s3, s3 = ((jOf rs).cmp { s with fuse := nf } (x1.take 700)).2.2 := ⟨_, rfl⟩
        obtain ⟨new, hnew⟩ : ∃ new : List (List UInt8), new = [x1.take 700] := ⟨_, rfl⟩
        have HT := Lib.hid (show ∃ l, Inv l (s3.crash x4) ∧ (T = 0 → l = new) ∧ (T = 70 → l = [115] :: rs ∨ l = new) ∧ (T ≠ 0 → T ≠ 70 → l = [115] :: rs) ∧ (l = [115] :: rs ∨ l = new) from by
          rw [hT, hs3, hnew]
          rcases HMA.out with ⟨h1, h2⟩ | ⟨h1, h2⟩
          · exact ⟨_, h2, fun _ => rfl, fun _ => .inr rfl, fun h => absurd h1 h, .inr rfl⟩
          · exact ⟨_, h2, fun h => by omega, fun _ => .inl rfl, fun _ h => absurd h1 h, .inl rfl⟩)
        have HNEW := Lib.hid (show new ≠ [] ∧ (∀ y ∈ new, y.length < 4294967296) ∧ new.length ≤ 10 from by rw [hnew]; exact ⟨by simp, fun y hy => by rw [List.mem_singleton.1 hy]; have := HLB.out; omega, by simp⟩)
        have HAT := Lib.hid (show AtS W wg d s3 _ from by rw [hs3]; exact hlg.disk)
        have HNT := Lib.hid (show ∀ W2 : World, Agr (wf.heap.size, w84.heap.size, w84) W2 → Agr (wd.heap.size, we.heap.size, we) W2 → Agr (wr.heap.size, wd.heap.size, wd) W2 → w84.heap.size ≤ W2.heap.size → Below W.heap.size W W2 → RdRows W2 (.slice none 0 0) new.tail ∧ Rd W2 (.slice p1 (min (x1.length : Int) 700).toNat c1) (new.headD []) from fun W2 _ _ _ _ hb => by
          rw [hnew]
          exact ⟨RdRows.nil _, (rd_cut7 HV1.out).below hb⟩)
        rw [← hT]
        clear hlg hT hs3 hnew HMA
        go_wp2_with fail
        obtain ⟨l, hi0, q0, q70, qe, qor⟩ := HT.out
        have HLL := Lib.hid (show l ≠ [] ∧ (∀ y ∈ l, y.length < 4294967296) ∧ l.length ≤ 10 from by
          rcases qor with h | h
          · rw [h]
            refine ⟨by simp, fun y hy => ?_, by simp; omega⟩
            rcases List.mem_cons.1 hy with h | h
            · rw [h]; decide
            · have := HIR.out.2 y h; omega
          · rw [h]; exact ⟨HNEW.out.1, HNEW.out.2.1, HNEW.out.2.2⟩)
        have HQ := Lib.hid (And.intro hi0 (And.intro q0 (And.intro q70 qe)))
        clear hi0 q0 q70 qe qor
        refine (crash_K HAT.out l _ x4 HQ.out.1 HV4.out.1 (by have := HV4.out.2; omega)).mono ?_
        rintro e wh ⟨rfl, s4, ha4, hi4, _⟩
        have HA4 := Lib.hid (And.intro ha4 hi4)
        clear ha4 hi4
        go_wp2_with fail
        obtain ⟨nq, hnq⟩ : ∃ n, n = wrap64 ((IntKind.u64.wrap a5).tmod 4) := ⟨_, rfl⟩
        have hwq := wrap_mod a5 4 (by decide) (by decide)
        rw [← hnq] at hwq ⊢
        refine (fuse_I HA4.out.1 l HA4.out.2 nq hwq.1 (by omega)).mono ?_
        rintro e wi ⟨rfl, s5, ha5, hi5⟩
        have HA5 := Lib.hid (And.intro ha5 hi5)
        clear ha5 hi5 hnq hwq
        go_wp2_with fail
        refine (open_I HA5.out.1 l HA5.out.2 HLL.out.1 HLL.out.2.1 _).mono ?_
        rintro e wj ⟨s6, ha6, hi6, ⟨jq, jE, rfl⟩, _⟩
        have HA6 := Lib.hid (And.intro ha6 hi6)
        clear ha6 hi6
        go_wp2_with fail
        refine (crash_I HA6.out.1 l HA6.out.2 _ x6 HV6.out.1 (by have := HV6.out.2; omega)).mono ?_
        rintro e wk ⟨rfl, s7, ha7, hi7, hf7⟩
        have HA7 := Lib.hid (And.intro ha7 (And.intro hi7 hf7))
        clear ha7 hi7 hf7
        go_wp2_with fail
        refine (open_I HA7.out.1 l HA7.out.2.1 HLL.out.1 HLL.out.2.1 _).mono ?_
        rintro e wl ⟨s8, ha8, hi8, _, h8⟩
        obtain ⟨jb2, sv, rv, rfl, hj8, hs8, hr8⟩ := h8 HA7.out.2.2
        obtain ⟨f8, d8, fo8, b8, p8⟩ := ha8
        have hp1 := p8 _ (List.mem_cons_self ..)
        have hp2 := p8 _ (List.mem_cons_of_mem _ (List.mem_cons_self ..))
        have hp3 := p8 _ (List.mem_cons_of_mem _ (List.mem_cons_of_mem _ (List.mem_cons_self ..)))
        have HB8 := Lib.hid b8
        have hjl := (Array.getElem?_eq_some_iff.1 hj8).1
        have hhd : (l.headD []).length ≤ 140737488355328 := by
          obtain ⟨y, l', rfl⟩ := List.exists_cons_of_ne_nil HLL.out.1
          have := HLL.out.2.1 y (List.mem_cons_self ..)
          show y.length ≤ _
          omega
        have HSN := Lib.hid (fun (W2 : World) (hW : Below wl.heap.size wl W2) => (snap_g ((hW.block _ hjl).trans hj8) (l.headD []) (hs8.below hW) hhd).mono (show ∀ e w', _ → ∃ a' n' c', e = Ending.returned (.slice a' n' c') ∧ Rd w' (.slice a' n' c') (l.headD []) ∧ Below W2.heap.size W2 w' from fun e w' h => by
          obtain ⟨a', c', he, h1, h2⟩ := h
          exact ⟨a', _, c', he, h1 w' (fun _ _ _ => rfl), h2⟩))
        have HRC2 := Lib.hid (fun (W2 : World) (hW : Below wl.heap.size wl W2) => (recs_g ((hW.block _ hjl).trans hj8) l.tail (hr8.below hW) (by have := HLL.out.2.2; simp only [List.length_tail]; omega) (fun x hx => by have := HLL.out.2.1 x (List.mem_of_mem_tail hx); omega)).mono (show ∀ e w', _ → ∃ a' n' c', e = Ending.returned (.slice a' n' c') ∧ RdRows w' (.slice a' n' c') l.tail ∧ Below W2.heap.size W2 w' from fun e w' h => by
          obtain ⟨a', c', he, _, h1, h2⟩ := h
          exact ⟨a', _, c', he, h1 w' (fun _ _ _ => rfl) (Nat.le_refl _), h2⟩))
        obtain ⟨q1, hq1⟩ : ∃ q, q = (l.headD [] == [115]) := ⟨_, rfl⟩
        obtain ⟨q2, hq2⟩ : ∃ q, q = decide (l.tail = rs) := ⟨_, rfl⟩
        obtain ⟨f1, hf1⟩ : ∃ q, q = (l.headD [] == new.headD []) := ⟨_, rfl⟩
        obtain ⟨f2, hf2⟩ : ∃ q, q = decide (l.tail = new.tail) := ⟨_, rfl⟩
        have HE1 := Lib.hid (fun (W2 : World) (v : Value) (hW : Below wl.heap.size wl W2) (hv : Rd W2 v (l.headD [])) => (equal_c W2 v (.slice sa 1 sc) (l.headD []) [115] hv (HSW.out W2 (agr_below hp2 hW))).mono (show ∀ e w', _ → e = Ending.returned (.bool q1) ∧ Below W2.heap.size W2 w' from fun e w' h => ⟨by rw [hq1]; exact h.1, by rw [← h.2]; exact Below.refl _ _⟩))
        have HS1 := Lib.hid (fun (W2 : World) (v : Value) (hW : Below wl.heap.size wl W2) (hv : RdRows W2 v l.tail) => (same_c W2 v (.slice (some ra) rs.length rc) l.tail rs hv (HRW.out W2 (agr_below hp3 hW) (Nat.le_trans hp3.1 hW.size))).mono (show ∀ e w', _ → e = Ending.returned (.bool q2) ∧ Below W2.heap.size W2 w' from fun e w' h => ⟨by rw [hq2]; exact h.1, by rw [← h.2]; exact Below.refl _ _⟩))
        have HN2 := Lib.hid (fun (W2 : World) (hW : Below wl.heap.size wl W2) => HNT.out W2 (agr_below hp1 hW) (agr_below hp2 hW) (agr_below hp3 hW) (Nat.le_trans hp1.1 hW.size) (HB8.out.trans (hW.mono HB8.out.size)))
        have HE2 := Lib.hid (fun (W2 : World) (v : Value) (hW : Below wl.heap.size wl W2) (hv : Rd W2 v (l.headD [])) => (equal_c W2 v (.slice p1 (min (x1.length : Int) 700).toNat c1) (l.headD []) (new.headD []) hv (HN2.out W2 hW).2).mono (show ∀ e w', _ → e = Ending.returned (.bool f1) ∧ Below W2.heap.size W2 w' from fun e w' h => ⟨by rw [hf1]; exact h.1, by rw [← h.2]; exact Below.refl _ _⟩))
        have HS2 := Lib.hid (fun (W2 : World) (v : Value) (hW : Below wl.heap.size wl W2) (hv : RdRows W2 v l.tail) => (same_c W2 v (.slice none 0 0) l.tail new.tail hv (HN2.out W2 hW).1).mono (show ∀ e w', _ → e = Ending.returned (.bool f2) ∧ Below W2.heap.size W2 w' from fun e w' h => ⟨by rw [hf2]; exact h.1, by rw [← h.2]; exact Below.refl _ _⟩))
        have HOLD : l = [115] :: rs → q1 = true ∧ q2 = true := fun h => ⟨by rw [hq1, h]; simp, by rw [hq2, h]; simp⟩
        have HNW : l = new → f1 = true ∧ f2 = true := fun h => ⟨by rw [hf1, h]; simp, by rw [hf2, h]; simp⟩
        have HFIN := Lib.hid (show (T = 0 → f1 = true ∧ f2 = true) ∧ (T = 70 → (q1 = true ∧ q2 = true) ∨ (f1 = true ∧ f2 = true)) ∧ (T ≠ 0 → T ≠ 70 → q1 = true ∧ q2 = true) from
          ⟨fun h => HNW (HQ.out.2.1 h), fun h => (HQ.out.2.2.1 h).imp HOLD HNW, fun h1 h2 => HOLD (HQ.out.2.2.2 h1 h2)⟩)
        clear hq1 hq2 hf1 hf2 HOLD HNW hp1 hp2 hp3 p8 fo8 d8 b8 hj8 hs8 hr8 hjl hhd hi8 h8 HQ HT HNEW HNT HN2 HSW HRW HAT
        go_wp2_with fail
        cases q1
        · cases f1
          · exfalso
            by_cases t0 : T = 0
            · cases (HFIN.out.1 t0).1
            · by_cases t7 : T = 70
              · rcases HFIN.out.2.1 t7 with ⟨g1, _⟩ | ⟨g1, _⟩ <;> cases g1
              · cases (HFIN.out.2.2 t0 t7).1
          · skip
            refine (HSN.out _ (Below.refl wl.heap.size wl)).mono ?_
            rintro e v1 ⟨a1, n1, e1, rfl, hr1, hb1⟩
            have hC1 : Below wl.heap.size wl v1 := (Below.refl wl.heap.size wl).trans (hb1.mono (Below.refl wl.heap.size wl).size)
            go_wp2_with fail
            refine (HE1.out _ _ hC1 hr1).mono ?_
            rintro e v2 ⟨rfl, hb2⟩
            have hC2 : Below wl.heap.size wl v2 := hC1.trans (hb2.mono hC1.size)
            go_wp2_with fail
            refine (HSN.out _ hC2).mono ?_
            rintro e v5 ⟨a5, n5, e5, rfl, hr5, hb5⟩
            have hC5 : Below wl.heap.size wl v5 := hC2.trans (hb5.mono hC2.size)
            go_wp2_with fail
            refine (HE2.out _ _ hC5 hr5).mono ?_
            rintro e v6 ⟨rfl, hb6⟩
            have hC6 : Below wl.heap.size wl v6 := hC5.trans (hb6.mono hC5.size)
            go_wp2_with fail
            refine (HRC2.out _ hC6).mono ?_
            rintro e v7 ⟨a7, n7, e7, rfl, hr7, hb7⟩
            have hC7 : Below wl.heap.size wl v7 := hC6.trans (hb7.mono hC6.size)
            go_wp2_with fail
            refine (HS2.out _ _ hC7 hr7).mono ?_
            rintro e v8 ⟨rfl, hb8⟩
            have hC8 : Below wl.heap.size wl v8 := hC7.trans (hb8.mono hC7.size)
            by_cases t0 : T = 0
            · subst t0
              obtain ⟨g1, g2⟩ := HFIN.out.1 rfl
              subst g2
              go_wp2_with fail
              refine (jawake_c _).mono ?_
              rintro e vz ⟨rfl, hbz⟩
              go_wp2_with fail
              go_ret
              exact ⟨by rfl, HB8.out.trans ((hC8.trans (hbz.mono hC8.size)).mono HB8.out.size)⟩
            by_cases t7 : T = 70
            · subst t7
              rcases HFIN.out.2.1 rfl with ⟨g1, g2⟩ | ⟨g1, g2⟩
              · cases g1
              · subst g2
                go_wp2_with fail
                refine (jawake_c _).mono ?_
                rintro e vz ⟨rfl, hbz⟩
                go_wp2_with fail
                go_ret
                exact ⟨by rfl, HB8.out.trans ((hC8.trans (hbz.mono hC8.size)).mono HB8.out.size)⟩
            · obtain ⟨g1, g2⟩ := HFIN.out.2.2 t0 t7
              cases g1
        · cases f1
          · skip
            refine (HSN.out _ (Below.refl wl.heap.size wl)).mono ?_
            rintro e v1 ⟨a1, n1, e1, rfl, hr1, hb1⟩
            have hC1 : Below wl.heap.size wl v1 := (Below.refl wl.heap.size wl).trans (hb1.mono (Below.refl wl.heap.size wl).size)
            go_wp2_with fail
            refine (HE1.out _ _ hC1 hr1).mono ?_
            rintro e v2 ⟨rfl, hb2⟩
            have hC2 : Below wl.heap.size wl v2 := hC1.trans (hb2.mono hC1.size)
            go_wp2_with fail
            refine (HRC2.out _ hC2).mono ?_
            rintro e v3 ⟨a3, n3, e3, rfl, hr3, hb3⟩
            have hC3 : Below wl.heap.size wl v3 := hC2.trans (hb3.mono hC2.size)
            go_wp2_with fail
            refine (HS1.out _ _ hC3 hr3).mono ?_
            rintro e v4 ⟨rfl, hb4⟩
            have hC4 : Below wl.heap.size wl v4 := hC3.trans (hb4.mono hC3.size)
            go_wp2_with fail
            refine (HSN.out _ hC4).mono ?_
            rintro e v5 ⟨a5, n5, e5, rfl, hr5, hb5⟩
            have hC5 : Below wl.heap.size wl v5 := hC4.trans (hb5.mono hC4.size)
            go_wp2_with fail
            refine (HE2.out _ _ hC5 hr5).mono ?_
            rintro e v6 ⟨rfl, hb6⟩
            have hC6 : Below wl.heap.size wl v6 := hC5.trans (hb6.mono hC5.size)
            by_cases t0 : T = 0
            · obtain ⟨g1, g2⟩ := HFIN.out.1 t0
              cases g1
            by_cases t7 : T = 70
            · subst t7
              rcases HFIN.out.2.1 rfl with ⟨g1, g2⟩ | ⟨g1, g2⟩
              · subst g2
                go_wp2_with fail
                refine (jawake_c _).mono ?_
                rintro e vz ⟨rfl, hbz⟩
                go_wp2_with fail
                go_ret
                exact ⟨by rfl, HB8.out.trans ((hC6.trans (hbz.mono hC6.size)).mono HB8.out.size)⟩
              · cases g1
            · obtain ⟨g1, g2⟩ := HFIN.out.2.2 t0 t7
              subst g2
              have hd0 : decide (T = 0) = false := decide_eq_false t0
              have hd7 : decide (T = 70) = false := decide_eq_false t7
              go_wp2_with fail
              refine (jawake_c _).mono ?_
              rintro e vz ⟨rfl, hbz⟩
              go_wp2_with fail
              go_ret
              exact ⟨by rfl, HB8.out.trans ((hC6.trans (hbz.mono hC6.size)).mono HB8.out.size)⟩
          · skip
            refine (HSN.out _ (Below.refl wl.heap.size wl)).mono ?_
            rintro e v1 ⟨a1, n1, e1, rfl, hr1, hb1⟩
            have hC1 : Below wl.heap.size wl v1 := (Below.refl wl.heap.size wl).trans (hb1.mono (Below.refl wl.heap.size wl).size)
            go_wp2_with fail
            refine (HE1.out _ _ hC1 hr1).mono ?_
            rintro e v2 ⟨rfl, hb2⟩
            have hC2 : Below wl.heap.size wl v2 := hC1.trans (hb2.mono hC1.size)
            go_wp2_with fail
            refine (HRC2.out _ hC2).mono ?_
            rintro e v3 ⟨a3, n3, e3, rfl, hr3, hb3⟩
            have hC3 : Below wl.heap.size wl v3 := hC2.trans (hb3.mono hC2.size)
            go_wp2_with fail
            refine (HS1.out _ _ hC3 hr3).mono ?_
            rintro e v4 ⟨rfl, hb4⟩
            have hC4 : Below wl.heap.size wl v4 := hC3.trans (hb4.mono hC3.size)
            go_wp2_with fail
            refine (HSN.out _ hC4).mono ?_
            rintro e v5 ⟨a5, n5, e5, rfl, hr5, hb5⟩
            have hC5 : Below wl.heap.size wl v5 := hC4.trans (hb5.mono hC4.size)
            go_wp2_with fail
            refine (HE2.out _ _ hC5 hr5).mono ?_
            rintro e v6 ⟨rfl, hb6⟩
            have hC6 : Below wl.heap.size wl v6 := hC5.trans (hb6.mono hC5.size)
            go_wp2_with fail
            refine (HRC2.out _ hC6).mono ?_
            rintro e v7 ⟨a7, n7, e7, rfl, hr7, hb7⟩
            have hC7 : Below wl.heap.size wl v7 := hC6.trans (hb7.mono hC6.size)
            go_wp2_with fail
            refine (HS2.out _ _ hC7 hr7).mono ?_
            rintro e v8 ⟨rfl, hb8⟩
            have hC8 : Below wl.heap.size wl v8 := hC7.trans (hb8.mono hC7.size)
            by_cases t0 : T = 0
            · subst t0
              obtain ⟨g1, g2⟩ := HFIN.out.1 rfl
              subst g2
              go_wp2_with fail
              refine (jawake_c _).mono ?_
              rintro e vz ⟨rfl, hbz⟩
              go_wp2_with fail
              go_ret
              exact ⟨by rfl, HB8.out.trans ((hC8.trans (hbz.mono hC8.size)).mono HB8.out.size)⟩
            by_cases t7 : T = 70
            · subst t7
              rcases HFIN.out.2.1 rfl with ⟨g1, g2⟩ | ⟨g1, g2⟩
              · subst g2
                go_wp2_with fail
                refine (jawake_c _).mono ?_
                rintro e vz ⟨rfl, hbz⟩
                go_wp2_with fail
                go_ret
                exact ⟨by rfl, HB8.out.trans ((hC8.trans (hbz.mono hC8.size)).mono HB8.out.size)⟩
              · subst g2
                cases q2
                · go_wp2_with fail
                  refine (jawake_c _).mono ?_
                  rintro e vz ⟨rfl, hbz⟩
                  go_wp2_with fail
                  go_ret
                  exact ⟨by rfl, HB8.out.trans ((hC8.trans (hbz.mono hC8.size)).mono HB8.out.size)⟩
                · go_wp2_with fail
                  refine (jawake_c _).mono ?_
                  rintro e vz ⟨rfl, hbz⟩
                  go_wp2_with fail
                  go_ret
                  exact ⟨by rfl, HB8.out.trans ((hC8.trans (hbz.mono hC8.size)).mono HB8.out.size)⟩
            · obtain ⟨g1, g2⟩ := HFIN.out.2.2 t0 t7
              subst g2
              have hd0 : decide (T = 0) = false := decide_eq_false t0
              have hd7 : decide (T = 70) = false := decide_eq_false t7
              go_wp2_with fail
              refine (jawake_c _).mono ?_
              rintro e vz ⟨rfl, hbz⟩
              go_wp2_with fail
              go_ret
              exact ⟨by rfl, HB8.out.trans ((hC8.trans (hbz.mono hC8.size)).mono HB8.out.size)⟩
      · -- appends
        have HL84 := Lib.hid (HLF.out.add HB84.out)
        have HLB := Lib.hid (show (x1.take 700).length ≤ 700 from by simp; omega)
        have HFL := Lib.hid (show (frs ([115] :: rs)).length ≤ 6372 from by
          have := frs_len ([115] :: rs) (fun x hx => by
            rcases List.mem_cons.1 hx with h | h
            · rw [h]; decide
            · exact HIR.out.2 x h)
          simp only [List.length_cons] at this
          omega)
        have hl7 : (x1.take 700).length = (min (x1.length : Int) 700).toNat := by rw [List.length_take]; omega
        have HL7 := Lib.hid hl7
        refine (app_S HL84.out (by rw [show ({ s with fuse := nf } : DS).fs = s.fs from rfl, HGO.out.2.2.2]; simp [one]) (by show rs.length ≤ _; omega) _ (x1.take 700) (rd_cut7 HV1.out)).mono ?_
        rintro e wg ⟨rfl, hlg⟩
        obtain ⟨T, hT⟩ : ∃ T, T = ((jOf rs).app { s with fuse := nf } (x1.take 700)).1 := ⟨_, rfl⟩
        obtain ⟨s3, hs3⟩ : ∃ s3, s3 = ((jOf rs).app { s with fuse := nf } (x1.take 700)).2.2 := ⟨_, rfl⟩
        obtain ⟨new, hnew⟩ : ∃ new : List (List UInt8), new = [115] :: (rs ++ [x1.take 700]) := ⟨_, rfl⟩
        have HT := Lib.hid (show ∃ l, Inv l (s3.crash x4) ∧ (T = 0 → l = new) ∧ (T = 70 → l = [115] :: rs ∨ l = new) ∧ (T ≠ 0 → T ≠ 70 → l = [115] :: rs) ∧ (l = [115] :: rs ∨ l = new) from by
          rw [hT, hs3, hnew]
          rcases Nat.eq_zero_or_pos (x1.take 700).length with h0 | h0
          · rw [bad_app rs _ _ h0]
            exact ⟨_, Inv.crash0 (.inl HGO.out.2.2.2) x4, fun h => absurd (show (1 : Int) = 0 from h) (by decide), fun _ => .inl rfl, fun _ _ => rfl, .inl rfl⟩
          · rcases app_crash ([115] :: rs) { s with fuse := nf } (x1.take 700) (jOf rs) rfl HGO.out.1 HGO.out.2.2.2 HGO.out.2.2.1 (by have := HNF.out.1; show -1 ≤ nf; omega) h0 (by have := HFL.out; have := HLB.out; rw [frameB_length]; omega) (by have := HLB.out; omega) x4 with ⟨h1, h2⟩ | ⟨h1, h2 | h2⟩
            · exact ⟨_, h2, fun _ => rfl, fun _ => .inr rfl, fun h => absurd h1 h, .inr rfl⟩
            · exact ⟨_, h2, fun h => by omega, fun _ => .inl rfl, fun _ h => absurd h1 h, .inl rfl⟩
            · exact ⟨_, h2, fun h => by omega, fun _ => .inr rfl, fun _ h => absurd h1 h, .inr rfl⟩)
        have HNEW := Lib.hid (show new ≠ [] ∧ (∀ y ∈ new, y.length < 4294967296) ∧ new.length ≤ 10 from by
          rw [hnew]
          refine ⟨by simp, fun y hy => ?_, by simp; omega⟩
          rcases List.mem_cons.1 hy with h | h
          · rw [h]; decide
          · rcases List.mem_append.1 h with h | h
            · have := HIR.out.2 y h; omega
            · rw [List.mem_singleton.1 h]; have := HLB.out; omega)
        have HAT := Lib.hid (show AtS W wg d s3 _ from by rw [hs3]; exact hlg.disk)
        have HNT := Lib.hid (show ∀ W2 : World, Agr (wf.heap.size, w84.heap.size, w84) W2 → Agr (wd.heap.size, we.heap.size, we) W2 → Agr (wr.heap.size, wd.heap.size, wd) W2 → w84.heap.size ≤ W2.heap.size → Below W.heap.size W W2 → RdRows W2 (.slice va84 (rs.length + 1) vc84) new.tail ∧ Rd W2 (.slice sa 1 sc) (new.headD []) from fun W2 hA3 hA2 hA1 hsz hb => by
          rw [hnew]
          refine ⟨now_rows (by rw [HL7.out]; exact H84.out) HEL.out.1 HEL.out.2 HRA.out.1 HRA.out.2 HAG.out.1 hA1 hA3 hsz (HRW.out W2 hA1 (Nat.le_trans HAG.out.2 (Nat.le_trans ?_ hsz))) (by rw [HL7.out]; exact (rd_cut7 HV1.out).below hb), HSW.out W2 hA2⟩
          exact Nat.le_trans (by have := H81.out.2.1.size; exact this) (by have := HB84.out; have := H84.out; exact HSZ.out))
        rw [← hT]
        clear hlg hT hs3 hnew hl7
        go_wp2_with fail
        obtain ⟨l, hi0, q0, q70, qe, qor⟩ := HT.out
        have HLL := Lib.hid (show l ≠ [] ∧ (∀ y ∈ l, y.length < 4294967296) ∧ l.length ≤ 10 from by
          rcases qor with h | h
          · rw [h]
            refine ⟨by simp, fun y hy => ?_, by simp; omega⟩
            rcases List.mem_cons.1 hy with h | h
            · rw [h]; decide
            · have := HIR.out.2 y h; omega
          · rw [h]; exact ⟨HNEW.out.1, HNEW.out.2.1, HNEW.out.2.2⟩)
        have HQ := Lib.hid (And.intro hi0 (And.intro q0 (And.intro q70 qe)))
        clear hi0 q0 q70 qe qor
        refine (crash_K HAT.out l _ x4 HQ.out.1 HV4.out.1 (by have := HV4.out.2; omega)).mono ?_
        rintro e wh ⟨rfl, s4, ha4, hi4, _⟩
        have HA4 := Lib.hid (And.intro ha4 hi4)
        clear ha4 hi4
        go_wp2_with fail
        obtain ⟨nq, hnq⟩ : ∃ n, n = wrap64 ((IntKind.u64.wrap a5).tmod 4) := ⟨_, rfl⟩
        have hwq := wrap_mod a5 4 (by decide) (by decide)
        rw [← hnq] at hwq ⊢
        refine (fuse_I HA4.out.1 l HA4.out.2 nq hwq.1 (by omega)).mono ?_
        rintro e wi ⟨rfl, s5, ha5, hi5⟩
        have HA5 := Lib.hid (And.intro ha5 hi5)
        clear ha5 hi5 hnq hwq
        go_wp2_with fail
        refine (open_I HA5.out.1 l HA5.out.2 HLL.out.1 HLL.out.2.1 _).mono ?_
        rintro e wj ⟨s6, ha6, hi6, ⟨jq, jE, rfl⟩, _⟩
        have HA6 := Lib.hid (And.intro ha6 hi6)
        clear ha6 hi6
        go_wp2_with fail
        refine (crash_I HA6.out.1 l HA6.out.2 _ x6 HV6.out.1 (by have := HV6.out.2; omega)).mono ?_
        rintro e wk ⟨rfl, s7, ha7, hi7, hf7⟩
        have HA7 := Lib.hid (And.intro ha7 (And.intro hi7 hf7))
        clear ha7 hi7 hf7
        go_wp2_with fail
        refine (open_I HA7.out.1 l HA7.out.2.1 HLL.out.1 HLL.out.2.1 _).mono ?_
        rintro e wl ⟨s8, ha8, hi8, _, h8⟩
        obtain ⟨jb2, sv, rv, rfl, hj8, hs8, hr8⟩ := h8 HA7.out.2.2
        obtain ⟨f8, d8, fo8, b8, p8⟩ := ha8
        have hp1 := p8 _ (List.mem_cons_self ..)
        have hp2 := p8 _ (List.mem_cons_of_mem _ (List.mem_cons_self ..))
        have hp3 := p8 _ (List.mem_cons_of_mem _ (List.mem_cons_of_mem _ (List.mem_cons_self ..)))
        have HB8 := Lib.hid b8
        have hjl := (Array.getElem?_eq_some_iff.1 hj8).1
        have hhd : (l.headD []).length ≤ 140737488355328 := by
          obtain ⟨y, l', rfl⟩ := List.exists_cons_of_ne_nil HLL.out.1
          have := HLL.out.2.1 y (List.mem_cons_self ..)
          show y.length ≤ _
          omega
        have HSN := Lib.hid (fun (W2 : World) (hW : Below wl.heap.size wl W2) => (snap_g ((hW.block _ hjl).trans hj8) (l.headD []) (hs8.below hW) hhd).mono (show ∀ e w', _ → ∃ a' n' c', e = Ending.returned (.slice a' n' c') ∧ Rd w' (.slice a' n' c') (l.headD []) ∧ Below W2.heap.size W2 w' from fun e w' h => by
          obtain ⟨a', c', he, h1, h2⟩ := h
          exact ⟨a', _, c', he, h1 w' (fun _ _ _ => rfl), h2⟩))
        have HRC2 := Lib.hid (fun (W2 : World) (hW : Below wl.heap.size wl W2) => (recs_g ((hW.block _ hjl).trans hj8) l.tail (hr8.below hW) (by have := HLL.out.2.2; simp only [List.length_tail]; omega) (fun x hx => by have := HLL.out.2.1 x (List.mem_of_mem_tail hx); omega)).mono (show ∀ e w', _ → ∃ a' n' c', e = Ending.returned (.slice a' n' c') ∧ RdRows w' (.slice a' n' c') l.tail ∧ Below W2.heap.size W2 w' from fun e w' h => by
          obtain ⟨a', c', he, _, h1, h2⟩ := h
          exact ⟨a', _, c', he, h1 w' (fun _ _ _ => rfl) (Nat.le_refl _), h2⟩))
        obtain ⟨q1, hq1⟩ : ∃ q, q = (l.headD [] == [115]) := ⟨_, rfl⟩
        obtain ⟨q2, hq2⟩ : ∃ q, q = decide (l.tail = rs) := ⟨_, rfl⟩
        obtain ⟨f1, hf1⟩ : ∃ q, q = (l.headD [] == new.headD []) := ⟨_, rfl⟩
        obtain ⟨f2, hf2⟩ : ∃ q, q = decide (l.tail = new.tail) := ⟨_, rfl⟩
        have HE1 := Lib.hid (fun (W2 : World) (v : Value) (hW : Below wl.heap.size wl W2) (hv : Rd W2 v (l.headD [])) => (equal_c W2 v (.slice sa 1 sc) (l.headD []) [115] hv (HSW.out W2 (agr_below hp2 hW))).mono (show ∀ e w', _ → e = Ending.returned (.bool q1) ∧ Below W2.heap.size W2 w' from fun e w' h => ⟨by rw [hq1]; exact h.1, by rw [← h.2]; exact Below.refl _ _⟩))
        have HS1 := Lib.hid (fun (W2 : World) (v : Value) (hW : Below wl.heap.size wl W2) (hv : RdRows W2 v l.tail) => (same_c W2 v (.slice (some ra) rs.length rc) l.tail rs hv (HRW.out W2 (agr_below hp3 hW) (Nat.le_trans hp3.1 hW.size))).mono (show ∀ e w', _ → e = Ending.returned (.bool q2) ∧ Below W2.heap.size W2 w' from fun e w' h => ⟨by rw [hq2]; exact h.1, by rw [← h.2]; exact Below.refl _ _⟩))
        have HN2 := Lib.hid (fun (W2 : World) (hW : Below wl.heap.size wl W2) => HNT.out W2 (agr_below hp1 hW) (agr_below hp2 hW) (agr_below hp3 hW) (Nat.le_trans hp1.1 hW.size) (HB8.out.trans (hW.mono HB8.out.size)))
        have HE2 := Lib.hid (fun (W2 : World) (v : Value) (hW : Below wl.heap.size wl W2) (hv : Rd W2 v (l.headD [])) => (equal_c W2 v (.slice sa 1 sc) (l.headD []) (new.headD []) hv (HN2.out W2 hW).2).mono (show ∀ e w', _ → e = Ending.returned (.bool f1) ∧ Below W2.heap.size W2 w' from fun e w' h => ⟨by rw [hf1]; exact h.1, by rw [← h.2]; exact Below.refl _ _⟩))
        have HS2 := Lib.hid (fun (W2 : World) (v : Value) (hW : Below wl.heap.size wl W2) (hv : RdRows W2 v l.tail) => (same_c W2 v (.slice va84 (rs.length + 1) vc84) l.tail new.tail hv (HN2.out W2 hW).1).mono (show ∀ e w', _ → e = Ending.returned (.bool f2) ∧ Below W2.heap.size W2 w' from fun e w' h => ⟨by rw [hf2]; exact h.1, by rw [← h.2]; exact Below.refl _ _⟩))
        have HOLD : l = [115] :: rs → q1 = true ∧ q2 = true := fun h => ⟨by rw [hq1, h]; simp, by rw [hq2, h]; simp⟩
        have HNW : l = new → f1 = true ∧ f2 = true := fun h => ⟨by rw [hf1, h]; simp, by rw [hf2, h]; simp⟩
        have HFIN := Lib.hid (show (T = 0 → f1 = true ∧ f2 = true) ∧ (T = 70 → (q1 = true ∧ q2 = true) ∨ (f1 = true ∧ f2 = true)) ∧ (T ≠ 0 → T ≠ 70 → q1 = true ∧ q2 = true) from
          ⟨fun h => HNW (HQ.out.2.1 h), fun h => (HQ.out.2.2.1 h).imp HOLD HNW, fun h1 h2 => HOLD (HQ.out.2.2.2 h1 h2)⟩)
        clear hq1 hq2 hf1 hf2 HOLD HNW hp1 hp2 hp3 p8 fo8 d8 b8 hj8 hs8 hr8 hjl hhd hi8 h8 HQ HT HNEW HNT HN2 HSW HRW HAT
        go_wp2_with fail
        cases q1
        · cases f1
          · exfalso
            by_cases t0 : T = 0
            · cases (HFIN.out.1 t0).1
            · by_cases t7 : T = 70
              · rcases HFIN.out.2.1 t7 with ⟨g1, _⟩ | ⟨g1, _⟩ <;> cases g1
              · cases (HFIN.out.2.2 t0 t7).1
          · skip
            refine (HSN.out _ (Below.refl wl.heap.size wl)).mono ?_
            rintro e v1 ⟨a1, n1, e1, rfl, hr1, hb1⟩
            have hC1 : Below wl.heap.size wl v1 := (Below.refl wl.heap.size wl).trans (hb1.mono (Below.refl wl.heap.size wl).size)
            go_wp2_with fail
            refine (HE1.out _ _ hC1 hr1).mono ?_
            rintro e v2 ⟨rfl, hb2⟩
            have hC2 : Below wl.heap.size wl v2 := hC1.trans (hb2.mono hC1.size)
            go_wp2_with fail
            refine (HSN.out _ hC2).mono ?_
            rintro e v5 ⟨a5, n5, e5, rfl, hr5, hb5⟩
            have hC5 : Below wl.heap.size wl v5 := hC2.trans (hb5.mono hC2.size)
            go_wp2_with fail
            refine (HE2.out _ _ hC5 hr5).mono ?_
            rintro e v6 ⟨rfl, hb6⟩
            have hC6 : Below wl.heap.size wl v6 := hC5.trans (hb6.mono hC5.size)
            go_wp2_with fail
            refine (HRC2.out _ hC6).mono ?_
            rintro e v7 ⟨a7, n7, e7, rfl, hr7, hb7⟩
            have hC7 : Below wl.heap.size wl v7 := hC6.trans (hb7.mono hC6.size)
            go_wp2_with fail
            refine (HS2.out _ _ hC7 hr7).mono ?_
            rintro e v8 ⟨rfl, hb8⟩
            have hC8 : Below wl.heap.size wl v8 := hC7.trans (hb8.mono hC7.size)
            by_cases t0 : T = 0
            · subst t0
              obtain ⟨g1, g2⟩ := HFIN.out.1 rfl
              subst g2
              go_wp2_with fail
              refine (jawake_c _).mono ?_
              rintro e vz ⟨rfl, hbz⟩
              go_wp2_with fail
              go_ret
              exact ⟨by rfl, HB8.out.trans ((hC8.trans (hbz.mono hC8.size)).mono HB8.out.size)⟩
            by_cases t7 : T = 70
            · subst t7
              rcases HFIN.out.2.1 rfl with ⟨g1, g2⟩ | ⟨g1, g2⟩
              · cases g1
              · subst g2
                go_wp2_with fail
                refine (jawake_c _).mono ?_
                rintro e vz ⟨rfl, hbz⟩
                go_wp2_with fail
                go_ret
                exact ⟨by rfl, HB8.out.trans ((hC8.trans (hbz.mono hC8.size)).mono HB8.out.size)⟩
            · obtain ⟨g1, g2⟩ := HFIN.out.2.2 t0 t7
              cases g1
        · cases f1
          · skip
            refine (HSN.out _ (Below.refl wl.heap.size wl)).mono ?_
            rintro e v1 ⟨a1, n1, e1, rfl, hr1, hb1⟩
            have hC1 : Below wl.heap.size wl v1 := (Below.refl wl.heap.size wl).trans (hb1.mono (Below.refl wl.heap.size wl).size)
            go_wp2_with fail
            refine (HE1.out _ _ hC1 hr1).mono ?_
            rintro e v2 ⟨rfl, hb2⟩
            have hC2 : Below wl.heap.size wl v2 := hC1.trans (hb2.mono hC1.size)
            go_wp2_with fail
            refine (HRC2.out _ hC2).mono ?_
            rintro e v3 ⟨a3, n3, e3, rfl, hr3, hb3⟩
            have hC3 : Below wl.heap.size wl v3 := hC2.trans (hb3.mono hC2.size)
            go_wp2_with fail
            refine (HS1.out _ _ hC3 hr3).mono ?_
            rintro e v4 ⟨rfl, hb4⟩
            have hC4 : Below wl.heap.size wl v4 := hC3.trans (hb4.mono hC3.size)
            go_wp2_with fail
            refine (HSN.out _ hC4).mono ?_
            rintro e v5 ⟨a5, n5, e5, rfl, hr5, hb5⟩
            have hC5 : Below wl.heap.size wl v5 := hC4.trans (hb5.mono hC4.size)
            go_wp2_with fail
            refine (HE2.out _ _ hC5 hr5).mono ?_
            rintro e v6 ⟨rfl, hb6⟩
            have hC6 : Below wl.heap.size wl v6 := hC5.trans (hb6.mono hC5.size)
            by_cases t0 : T = 0
            · obtain ⟨g1, g2⟩ := HFIN.out.1 t0
              cases g1
            by_cases t7 : T = 70
            · subst t7
              rcases HFIN.out.2.1 rfl with ⟨g1, g2⟩ | ⟨g1, g2⟩
              · subst g2
                go_wp2_with fail
                refine (jawake_c _).mono ?_
                rintro e vz ⟨rfl, hbz⟩
                go_wp2_with fail
                go_ret
                exact ⟨by rfl, HB8.out.trans ((hC6.trans (hbz.mono hC6.size)).mono HB8.out.size)⟩
              · cases g1
            · obtain ⟨g1, g2⟩ := HFIN.out.2.2 t0 t7
              subst g2
              have hd0 : decide (T = 0) = false := decide_eq_false t0
              have hd7 : decide (T = 70) = false := decide_eq_false t7
              go_wp2_with fail
              refine (jawake_c _).mono ?_
              rintro e vz ⟨rfl, hbz⟩
              go_wp2_with fail
              go_ret
              exact ⟨by rfl, HB8.out.trans ((hC6.trans (hbz.mono hC6.size)).mono HB8.out.size)⟩
          · skip
            refine (HSN.out _ (Below.refl wl.heap.size wl)).mono ?_
            rintro e v1 ⟨a1, n1, e1, rfl, hr1, hb1⟩
            have hC1 : Below wl.heap.size wl v1 := (Below.refl wl.heap.size wl).trans (hb1.mono (Below.refl wl.heap.size wl).size)
            go_wp2_with fail
            refine (HE1.out _ _ hC1 hr1).mono ?_
            rintro e v2 ⟨rfl, hb2⟩
            have hC2 : Below wl.heap.size wl v2 := hC1.trans (hb2.mono hC1.size)
            go_wp2_with fail
            refine (HRC2.out _ hC2).mono ?_
            rintro e v3 ⟨a3, n3, e3, rfl, hr3, hb3⟩
            have hC3 : Below wl.heap.size wl v3 := hC2.trans (hb3.mono hC2.size)
            go_wp2_with fail
            refine (HS1.out _ _ hC3 hr3).mono ?_
            rintro e v4 ⟨rfl, hb4⟩
            have hC4 : Below wl.heap.size wl v4 := hC3.trans (hb4.mono hC3.size)
            go_wp2_with fail
            refine (HSN.out _ hC4).mono ?_
            rintro e v5 ⟨a5, n5, e5, rfl, hr5, hb5⟩
            have hC5 : Below wl.heap.size wl v5 := hC4.trans (hb5.mono hC4.size)
            go_wp2_with fail
            refine (HE2.out _ _ hC5 hr5).mono ?_
            rintro e v6 ⟨rfl, hb6⟩
            have hC6 : Below wl.heap.size wl v6 := hC5.trans (hb6.mono hC5.size)
            go_wp2_with fail
            refine (HRC2.out _ hC6).mono ?_
            rintro e v7 ⟨a7, n7, e7, rfl, hr7, hb7⟩
            have hC7 : Below wl.heap.size wl v7 := hC6.trans (hb7.mono hC6.size)
            go_wp2_with fail
            refine (HS2.out _ _ hC7 hr7).mono ?_
            rintro e v8 ⟨rfl, hb8⟩
            have hC8 : Below wl.heap.size wl v8 := hC7.trans (hb8.mono hC7.size)
            by_cases t0 : T = 0
            · subst t0
              obtain ⟨g1, g2⟩ := HFIN.out.1 rfl
              subst g2
              go_wp2_with fail
              refine (jawake_c _).mono ?_
              rintro e vz ⟨rfl, hbz⟩
              go_wp2_with fail
              go_ret
              exact ⟨by rfl, HB8.out.trans ((hC8.trans (hbz.mono hC8.size)).mono HB8.out.size)⟩
            by_cases t7 : T = 70
            · subst t7
              rcases HFIN.out.2.1 rfl with ⟨g1, g2⟩ | ⟨g1, g2⟩
              · subst g2
                go_wp2_with fail
                refine (jawake_c _).mono ?_
                rintro e vz ⟨rfl, hbz⟩
                go_wp2_with fail
                go_ret
                exact ⟨by rfl, HB8.out.trans ((hC8.trans (hbz.mono hC8.size)).mono HB8.out.size)⟩
              · subst g2
                cases q2
                · go_wp2_with fail
                  refine (jawake_c _).mono ?_
                  rintro e vz ⟨rfl, hbz⟩
                  go_wp2_with fail
                  go_ret
                  exact ⟨by rfl, HB8.out.trans ((hC8.trans (hbz.mono hC8.size)).mono HB8.out.size)⟩
                · go_wp2_with fail
                  refine (jawake_c _).mono ?_
                  rintro e vz ⟨rfl, hbz⟩
                  go_wp2_with fail
                  go_ret
                  exact ⟨by rfl, HB8.out.trans ((hC8.trans (hbz.mono hC8.size)).mono HB8.out.size)⟩
            · obtain ⟨g1, g2⟩ := HFIN.out.2.2 t0 t7
              subst g2
              have hd0 : decide (T = 0) = false := decide_eq_false t0
              have hd7 : decide (T = 70) = false := decide_eq_false t7
              go_wp2_with fail
              refine (jawake_c _).mono ?_
              rintro e vz ⟨rfl, hbz⟩
              go_wp2_with fail
              go_ret
              exact ⟨by rfl, HB8.out.trans ((hC8.trans (hbz.mono hC8.size)).mono HB8.out.size)⟩

-- FRAME
theorem own : ownKnob Try.prog.godebug = none := by kernel_rfl
theorem laidOut : laidOutB Try.prog = true := by kernel_rfl
theorem bytesEight : Try.prog.bytesOf 3 = 8 := by kernel_rfl
theorem bytesOne : Try.prog.bytesOf 5 = 1 := by kernel_rfl

set_option maxRecDepth 100000 in
theorem lifted (os : Os) (started : os.Started) (H : Type) (enc : TypeId × Value → H) :
    ReturnsInHanded {} Try.checked os 3 .any (Rows.journalCrashesSpec.pre6 enc Try.prog Try.f3 Rows.journalCrashesRow.domain false) (Rows.journalCrashesSpec.post enc Try.prog Try.f3 false true false false) := by
  refine returnsInHanded_of_change_sized (C := Try.checked) own started (by kernel_rfl) Try.func3
    (ChangeSpec.witness6 (enc := enc) (C := Try.checked) false ⟨#[], #[.slice none 0 0, .slice none 0 0, .bool false, .int .i64 0, .slice none 0 0, .int .i64 0, .slice none 0 0], []⟩ 8 (by kernel_rfl) (by kernel_rfl) (by kernel_rfl) (by kernel_rfl)) ?_
  intro W base args ds gs before hval0 hW hcnd hsz0 _
  have hsz : (DataW.weightsEach Try.prog (Try.f3.params.toList ++ Rows.journalCrashesSpec.plain.varTypes Try.prog) (ds ++ gs)).all (· ≤ reachBytes) = true := hsz0
  have hval : ∀ (j : Nat) t v, Try.f3.params[j]? = some t → args[j]? = some v → Value.okWide Try.prog W .any base t v := hval0
  have hW' := hW
  obtain ⟨p, q, hA0, hV, rfl, hfz, hnd⟩ := hW
  have hA : DataW.TrodAll enc Try.prog W 0 (fun _ => true) true Try.f3.params.toList args.toList ds p := hA0
  rw [Try.params3] at hA hval hsz
  obtain ⟨v0, vs0, d0, ds0, p0, q0, hargs, rfl, rfl, h0, r0⟩ := trodAll_cons hA
  obtain ⟨v1, vs1, d1, ds1, p1, q1, rfl, rfl, rfl, h1, r1⟩ := trodAll_cons r0
  obtain ⟨v2, vs2, d2, ds2, p2, q2, rfl, rfl, rfl, h2, r2⟩ := trodAll_cons r1
  obtain ⟨v3, vs3, d3, ds3, p3, q3, rfl, rfl, rfl, h3, r3⟩ := trodAll_cons r2
  obtain ⟨v4, vs4, d4, ds4, p4, q4, rfl, rfl, rfl, h4, r4⟩ := trodAll_cons r3
  obtain ⟨v5, vs5, d5, ds5, p5, q5, rfl, rfl, rfl, h5, r5⟩ := trodAll_cons r4
  obtain ⟨v6, vs6, d6, ds6, p6, q6, rfl, rfl, rfl, h6, r6⟩ := trodAll_cons r5
  obtain ⟨rfl, rfl, rfl⟩ := trodAll_nil r6
  obtain rfl : args = #[v0, v1, v2, v3, v4, v5, v6] := by cases args; simp_all
  obtain ⟨rfl, rfl⟩ := trodVars_none hV
  obtain ⟨a0, len0, cap0, rfl⟩ := okWide_slice Try.underlying22 (hval 0 22 v0 rfl rfl)
  have k0 := h0
  have lt0 : ∀ x ∈ p0, x.block < W.heap.size := by obtain ⟨m, hm⟩ := k0; exact DataW.trod_lt m _ _ _ hm
  obtain ⟨x0, w0, s0⟩ : ∃ ys : List Value, RdV W (.slice a0 len0 cap0) ys ∧ ∀ e ∈ ys, ∃ xs, Rd W e xs := by
    obtain ⟨fuel, hf⟩ := h0
    obtain ⟨a, l, c, ys, hcs, h1, h2⟩ := rows_open hf
    simp [Value.cells] at hcs
    obtain ⟨rfl, rfl, rfl⟩ := hcs
    exact ⟨ys, h1, h2⟩
  obtain ⟨a1, len1, cap1, rfl⟩ := okWide_slice Try.underlying23 (hval 1 23 v1 rfl rfl)
  have k1 := h1
  have lt1 : ∀ x ∈ p1, x.block < W.heap.size := by obtain ⟨m, hm⟩ := k1; exact DataW.trod_lt m _ _ _ hm
  obtain ⟨x1, w1, s1⟩ : ∃ xs : List UInt8, Rd W (.slice a1 len1 cap1) xs ∧ xs.length ≤ 140737488351232 := by
    obtain ⟨fuel, hf⟩ := h1
    rcases open_ints Try.underlying23 Try.underlying5 (by kernel_rfl) hf with ⟨hcs, _⟩ | ⟨x, l, c, zs, hcs, _, hl, hm, hz, hx, hcell, hwz⟩
    · simp [Value.cells] at hcs
      obtain ⟨rfl, rfl, rfl⟩ := hcs
      exact ⟨[], Rd.nil _, by simp⟩
    · simp [Value.cells] at hcs
      obtain ⟨rfl, rfl, rfl⟩ := hcs
      have hz' : zs.length = cap1 := by simpa using hz
      simp only [Prod.mk.injEq] at hx
      obtain ⟨rfl, _⟩ := hx
      have hb := sized_slice hsz (j := 1) (t := 23) (e := 5) rfl rfl Try.underlying23
      rw [bytesOne] at hb
      simp only [lits, List.length_map, List.length_take, List.length_drop, reachBytes] at hb
      exact ⟨_, rd_of_row hl hm hz' hcell hwz, by simp only [List.length_map, List.length_take]; omega⟩
  obtain ⟨a2, rfl, rfl, rfl⟩ := open_bool Try.underlying4 (hval 2 4 v2 rfl rfl) h2
  obtain ⟨a3, rfl, rfl, rfl, w3⟩ := open_int Try.underlying3 (hval 3 3 v3 rfl rfl) h3
  obtain ⟨a4, len4, cap4, rfl⟩ := okWide_slice Try.underlying24 (hval 4 24 v4 rfl rfl)
  have k4 := h4
  have lt4 : ∀ x ∈ p4, x.block < W.heap.size := by obtain ⟨m, hm⟩ := k4; exact DataW.trod_lt m _ _ _ hm
  obtain ⟨x4, w4, s4⟩ : ∃ xs : List Int, RdV W (.slice a4 len4 cap4) (icells xs) ∧ xs.length ≤ 140737488351232 := by
    obtain ⟨fuel, hf⟩ := h4
    rcases open_ints Try.underlying24 Try.underlying3 (by kernel_rfl) hf with ⟨hcs, _⟩ | ⟨x, l, c, zs, hcs, _, hl, hm, hz, hx, hcell, hwz⟩
    · simp [Value.cells] at hcs
      obtain ⟨rfl, rfl, rfl⟩ := hcs
      exact ⟨[], RdV.nil _, by simp⟩
    · simp [Value.cells] at hcs
      obtain ⟨rfl, rfl, rfl⟩ := hcs
      have hz' : zs.length = cap4 := by simpa using hz
      simp only [Prod.mk.injEq] at hx
      obtain ⟨rfl, _⟩ := hx
      have hb := sized_slice hsz (j := 4) (t := 24) (e := 3) rfl rfl Try.underlying24
      rw [bytesEight] at hb
      simp only [lits, List.length_map, List.length_take, List.length_drop, reachBytes] at hb
      exact ⟨_, rdv_of_row hl hm hz' hcell, by simp only [List.length_take]; omega⟩
  obtain ⟨a5, rfl, rfl, rfl, w5⟩ := open_int Try.underlying3 (hval 5 3 v5 rfl rfl) h5
  obtain ⟨a6, len6, cap6, rfl⟩ := okWide_slice Try.underlying24 (hval 6 24 v6 rfl rfl)
  have k6 := h6
  have lt6 : ∀ x ∈ p6, x.block < W.heap.size := by obtain ⟨m, hm⟩ := k6; exact DataW.trod_lt m _ _ _ hm
  obtain ⟨x6, w6, s6⟩ : ∃ xs : List Int, RdV W (.slice a6 len6 cap6) (icells xs) ∧ xs.length ≤ 140737488351232 := by
    obtain ⟨fuel, hf⟩ := h6
    rcases open_ints Try.underlying24 Try.underlying3 (by kernel_rfl) hf with ⟨hcs, _⟩ | ⟨x, l, c, zs, hcs, _, hl, hm, hz, hx, hcell, hwz⟩
    · simp [Value.cells] at hcs
      obtain ⟨rfl, rfl, rfl⟩ := hcs
      exact ⟨[], RdV.nil _, by simp⟩
    · simp [Value.cells] at hcs
      obtain ⟨rfl, rfl, rfl⟩ := hcs
      have hz' : zs.length = cap6 := by simpa using hz
      simp only [Prod.mk.injEq] at hx
      obtain ⟨rfl, _⟩ := hx
      have hb := sized_slice hsz (j := 6) (t := 24) (e := 3) rfl rfl Try.underlying24
      rw [bytesEight] at hb
      simp only [lits, List.length_map, List.length_take, List.length_drop, reachBytes] at hb
      exact ⟨_, rdv_of_row hl hm hz' hcell, by simp only [List.length_take]; omega⟩
  clear hA0 hval0
  refine (walk _ x0 _ x1 a2 a3 _ x4 a5 _ x6 W w0 s0 w1 s1 w3 w4 s4 w5 w6 s6).mono fun e W' ⟨he, bel⟩ => ?_
  subst he
  exact ⟨_, rfl, _, _, _, [], _, [], hW', trodAll_mk1 (shut_bool Try.underlying4 _), (trodAll_cons_mk (Below.trod laidOut (by kernel_rfl) (of_decide_eq_true (by kernel_rfl)) k0 bel lt0) (trodAll_cons_mk (Below.trod laidOut (by kernel_rfl) (of_decide_eq_true (by kernel_rfl)) k1 bel lt1) (trodAll_cons_mk (shut_bool Try.underlying4 _) (trodAll_cons_mk (shut_int Try.underlying3 w3) (trodAll_cons_mk (Below.trod laidOut (by kernel_rfl) (of_decide_eq_true (by kernel_rfl)) k4 bel lt4) (trodAll_cons_mk (shut_int Try.underlying3 w5) (trodAll_cons_mk (Below.trod laidOut (by kernel_rfl) (of_decide_eq_true (by kernel_rfl)) k6 bel lt6) trodAll_mk0))))))), rfl, bel.frame _, fun h => by cases h⟩

/-- The statement. -/
theorem proved : Rows.JournalCrashesSaid :=
  OpenClaim.holds_of_wide 3 Try.f3 rfl rfl rfl rfl rfl rfl rfl ⟨rfl, rfl, rfl, rfl, rfl⟩ rfl rfl rfl rfl rfl (by kernel_rfl) Try.func3 (by kernel_rfl)
    (of_decide_eq_true (by kernel_rfl)) (by unfold Func.isWrapper; first | (rw [if_pos (by decide +kernel)]; kernel_rfl) | (rw [if_neg (by decide +kernel)]; exact ⟨rfl, rfl⟩))
    (fun os started H enc _ => lifted os started H enc)
end Go.Proofs.Ytfljpnfjndjhpaa.journalCrashes
