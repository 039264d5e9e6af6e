/- Proved: for every two lists of steps and every name, the law VdiskReads returns true: a file that is read is the reference's, and a copy of a disk goes its own way. Conditions: none. -/
import Derived.Test.YtcpldjaoacihlaaLw
import Derived.Test.YtcpldjaoacihlaaCp
import Derived.Test.YtcpldjaoacihlaaCq
import Derived.Test.YtcpldjaoacihlaaRows
import Derived.ShutString
import Derived.ChangeOld
namespace Go.Proofs.Ytcpldjaoacihlaa.vdiskReads
open Go.ChangeShapes Go.WideShapes Go.ChangeAt Go.RowKit
open Go.ChangeMaps (open_string shut_string)
set_option linter.unusedVariables false

theorem svok_below {w w' : World} {x : SV} (h : SVok w x) (hb : Below w.heap.size w w') : SVok w' x :=
  ⟨h.op, h.n, h.nm, h.tn, h.rb.below hb, h.rk.below hb, h.lb, h.lk⟩

set_option maxRecDepth 100000 in
set_option maxHeartbeats 8000000 in
theorem walk (v0 : Value) (l : List SV) (v1 : Value) (more : List SV) (nm : ByteArray) (w : World) (h0 : StepsIs w v0 l) (h1 : StepsIs w v1 more) (hn : nm.size ≤ 140737488351232) :
    Calls Try.prog 4 #[v0, v1, .string nm] w fun e w' => e = .returned (.bool true) ∧ Below w.heap.size w w' := by
  have HST := Lib.hid h0
  have HST2 := Lib.hid h1
  obtain ⟨a1, c1, rfl, s1, s2, _⟩ := h0
  obtain ⟨a2, c2, rfl, t1, t2, _⟩ := h1
  unfold maxLen at s2 t2
  have HN := Lib.hid (show nm.size ≤ 9223372036854775807 from by omega)
  have HP := Lib.hid (show possB 1000 = true from by decide)
  clear hn
  go_enter Try.func4, Try.ntmps4
  go_wp2_with fail
  refine (new_c _ 1000).mono ?_
  rintro e w1 hh
  rw [if_pos HP.out] at hh
  obtain ⟨foot, rfl, hd, hf, hb1⟩ := hh
  have HD1 := Lib.hid (And.intro hd (And.intro hf hb1))
  clear hd hf hb1
  go_wp2_with fail
  refine (new_r _ 1000).mono ?_
  rintro e w2 hh
  rw [if_pos HP.out] at hh
  obtain ⟨m, rfl, hr, hm, hb2⟩ := hh
  have HT := Lib.hid (tw_new (Below.refl _ _) HD1.out.1 HD1.out.2.1 HD1.out.2.2 hr hm hb2)
  clear hr hm hb2 HD1
  go_wp2_with fail
  go_loopw [36] (fun i wr => ∃ (k : Nat) (S : DS), k ≤ l.length ∧ i = .int .i64 k ∧ S.fs.length ≤ k ∧ S.fs.length ≤ 20 ∧ Tw w wr (some ⟨w.heap.size + 1, 0, none⟩) (some ⟨w1.heap.size, 0, none⟩) S S) (fun i _ => l.length - (intOf i).toNat)
  case atStart => exact ⟨0, _, Nat.zero_le _, rfl, by simp [newS], by simp [newS], HT.out⟩
  case round =>
    obtain ⟨k, S, hk, rfl, hl1, hl2, ht⟩ := hrel
    have HS := Lib.hid (And.intro hl1 hl2)
    have HT2 := Lib.hid ht
    clear hl1 hl2 ht
    by_cases hlt : k < l.length
    · obtain ⟨b, o, c, hv, y0, y1, y2, y3, y4, y5, hok⟩ := HST.out.at HT2.out.bel hlt
      simp only [Value.slice.injEq, true_and] at hv
      obtain ⟨hv1, hv2⟩ := hv
      clear hv2
      subst hv1
      obtain ⟨x, hx⟩ : ∃ x, x = l[k] := ⟨_, rfl⟩
      rw [← hx] at y0 y1 y2 y3 y4 y5 hok
      have HX := Lib.hid hok
      obtain ⟨bp, bc, hbv, _⟩ := hok.rb
      obtain ⟨kp, kc, hkv, _⟩ := hok.rk
      rw [hbv] at y4
      rw [hkv] at y5
      have HVAL := Lib.hid (show x.val = .agg #[.int .i64 x.op, .int .i64 x.n, .string x.nm, .string x.tn, .slice bp x.b.length bc, .slice kp (icells x.ks).length kc] from by unfold SV.val; rw [hbv, hkv])
      have i1 : (0 : Int) ≤ (k : Int) := by omega
      have i2 : (k : Int) < (l.length : Int) := by omega
      clear hx hok hbv hkv
      by_cases h40 : k < 20
      · go_wp2_with fail
        rw [← HVAL.out]
        refine (do_any x HX.out (HT2.out.below ((Below.refl _ _).alloc (Nat.le_refl _) _)) (by have := HS.out.2; omega)).mono ?_
        rintro e w3 ⟨rfl, ht3⟩
        have HT3 := Lib.hid ht3
        clear ht3
        go_wp2_with fail
        go_roundw
        case rel =>
          have h1 := act_len x S
          have h2 := HS.out
          exact ⟨k + 1, x.act S, by omega, by go_num, by omega, by omega, HT3.out⟩
        case measure => simp [intOf]; omega
      · go_wp2_with fail
        go_roundw
        case rel => exact ⟨k + 1, S, by omega, by go_num, by have := HS.out.1; omega, HS.out.2, HT2.out.below ((Below.refl _ _).alloc (Nat.le_refl _) _)⟩
        case measure => simp [intOf]; omega
    · obtain ⟨footS, mS, bbS, ht⟩ := HT2.out
      have HTF := Lib.hid ht
      have HLT := Lib.hid (And.intro ht.d.lt ht.r.lt)
      have HSZ := Lib.hid ht.bel.size
      clear ht
      obtain ⟨rd, hrd⟩ : ∃ rd, rd = S.read nm.data.toList := ⟨_, rfl⟩
      have HRD := Lib.hid hrd
      have hrl : rd.1.length ≤ 140737488355328 := by
        have h1 := HTF.out.d.ok
        rw [hrd]
        unfold DS.read
        split
        · have h2 := fileA_tot nm.data.toList h1.ris
          have h3 := h1.tot
          show (fileA nm.data.toList S.fs).data.length ≤ _
          omega
        · simp
      have HRL := Lib.hid hrl
      clear hrd hrl
      go_wp2_with fail
      refine (read_c HTF.out.d nm HN.out).mono ?_
      rw [← HRD.out]
      rintro e w3 ⟨b1, rfl, ho1, hb3⟩
      have HT3 := Lib.hid (HTF.out.below hb3)
      have HO1 := Lib.hid ho1
      obtain ⟨f1, g1, hf1, _⟩ := own_form ho1
      subst hf1
      have hsz3 : wr.heap.size ≤ w3.heap.size := hb3.size
      clear ho1 hb3
      go_wp2_with fail
      refine (read_r HT3.out.r nm HN.out).mono ?_
      rw [← HRD.out]
      rintro e w4 ⟨b2, rfl, ho2, hb4⟩
      have HT4 := Lib.hid (HT3.out.below hb4)
      have HO2 := Lib.hid (Rd.of_own ho2)
      have HO3 := Lib.hid (own_below (B' := 0) HO1.out hb4)
      have hsz4 : w3.heap.size ≤ w4.heap.size := hb4.size
      obtain ⟨f2, g2, hf2, _⟩ := own_form ho2
      subst hf2
      clear ho2 hb4
      go_wp2_with (go_at_call 15; refine (equal_c _ _ _ rd.1 rd.1 (Rd.of_own HO3.out) HO2.out).mono ?_; rintro e w' ⟨rfl, rfl⟩; rw [beq_self_eq_true])
      have hoo := HO3.out.alloc (.cells #[.slice f1 rd.1.length g1] 31)
      rw [bcells_ints] at hoo
      have HVL := Lib.hid (show ∀ g, (Value.slice f1 rd.1.length g1).ownBlock = some g → wr.heap.size ≤ g ∧ g < w3.heap.size from fun g hg => HO1.out.lt g hg)
      refine (spoil_c _ w4.heap.size wr.heap.size _ rd.1.length _ (heap_alloc_new w4 _) hoo (fun e => by have := (HVL.out _ e).2; omega) HRL.out).mono ?_
      rintro e w5 ⟨rfl, hc5⟩
      have HT5 := Lib.hid ((HT4.out.below (w' := w4.alloc (.cells #[.slice f1 rd.1.length g1] 31)) ((Below.refl _ _).alloc (Nat.le_refl _) _)).chgOut hc5 (fun i hi => by
        have hi' : (Value.slice f1 rd.1.length g1).ownBlock = some i := by simpa using hi
        have h1 := HVL.out i hi'
        have h2 := HSZ.out
        have h3 := HLT.out
        exact ⟨by omega, fun hm => by have := h3.1 i hm; omega, fun hm => by have := h3.2.1 i hm; omega, fun hm => by have := h3.2.2 i hm; omega⟩))
      clear hc5 hoo
      go_wp2_with fail
      refine (copy_c HT5.out.d (by have := HS.out.2; omega)).mono ?_
      rintro e w6 ⟨foot6, rfl, hd6, hf6, hb6⟩
      have HC6 := Lib.hid (And.intro hd6 (And.intro hf6 hb6))
      clear hd6 hf6 hb6
      go_wp2_with fail
      refine (copy_r (HT5.out.below HC6.out.2.2).r (by have := HS.out.2; omega)).mono ?_
      rintro e w7 ⟨m7, rfl, hr7, hm7, hb7⟩
      have HB7 := Lib.hid (show Below w5.heap.size w5 w7 from HC6.out.2.2.trans (hb7.mono HC6.out.2.2.size))
      have HT7 := Lib.hid (show Tw w5 w7 (some ⟨w5.heap.size, 0, none⟩) (some ⟨w6.heap.size, 0, none⟩) S S from
        ⟨foot6, m7, bbS, HC6.out.1.below hb7, hr7, fun i hi => ⟨fun hm => by have h1 := HC6.out.1.lt i hi; have h2 := hm7 i hm; omega, fun hm => by have h1 := HC6.out.2.1 i hi; have h2 := HT5.out.r.lt.2 i hm; omega⟩, HC6.out.2.1, fun i hi => by have h1 := hm7 i hi; have h2 := HC6.out.2.2.size; omega, HB7.out⟩)
      clear hr7 hm7 hb7
      go_wp2_with fail
      obtain ⟨wo, rfl⟩ : ∃ wo : World, wo = wr := ⟨_, rfl⟩
      go_loopw [81] (fun i wi => ∃ (j : Nat) (S2 : DS), j ≤ more.length ∧ i = .int .i64 j ∧ S2.fs.length ≤ 20 + j ∧ S2.fs.length ≤ 40 ∧ Tw w5 wi (some ⟨w5.heap.size, 0, none⟩) (some ⟨w6.heap.size, 0, none⟩) S2 S2) (fun i _ => more.length - (intOf i).toNat)
      case atStart => exact ⟨0, _, Nat.zero_le _, rfl, by have := HS.out.2; omega, by have := HS.out.2; omega, HT7.out⟩
      case round =>
        obtain ⟨j, S2, hj, rfl, hl1, hl2, ht⟩ := hrel
        have HS2 := Lib.hid (And.intro hl1 hl2)
        have HTi := Lib.hid ht
        have HBi := Lib.hid (show Below w.heap.size w wr from HT5.out.bel.trans (ht.bel.mono HT5.out.bel.size))
        clear hl1 hl2 ht
        by_cases hlt2 : j < more.length
        · obtain ⟨b, o, c, hv, y0, y1, y2, y3, y4, y5, hok⟩ := HST2.out.at HBi.out hlt2
          simp only [Value.slice.injEq, true_and] at hv
          obtain ⟨hv1, hv2⟩ := hv
          clear hv2
          subst hv1
          obtain ⟨x, hx⟩ : ∃ x, x = more[j] := ⟨_, rfl⟩
          rw [← hx] at y0 y1 y2 y3 y4 y5 hok
          have HX := Lib.hid (svok_below hok HT5.out.bel)
          obtain ⟨bp, bc, hbv, _⟩ := hok.rb
          obtain ⟨kp, kc, hkv, _⟩ := hok.rk
          rw [hbv] at y4
          rw [hkv] at y5
          have HVAL := Lib.hid (show x.val = .agg #[.int .i64 x.op, .int .i64 x.n, .string x.nm, .string x.tn, .slice bp x.b.length bc, .slice kp (icells x.ks).length kc] from by unfold SV.val; rw [hbv, hkv])
          have i1 : (0 : Int) ≤ (j : Int) := by omega
          have i2 : (j : Int) < (more.length : Int) := by omega
          clear hx hok hbv hkv
          by_cases h40 : j < 20
          · go_wp2_with fail
            rw [← HVAL.out]
            refine (do_any x HX.out (HTi.out.below ((Below.refl _ _).alloc (Nat.le_refl _) _)) (by have := HS2.out.2; omega)).mono ?_
            rintro e w8 ⟨rfl, ht8⟩
            have HT8 := Lib.hid ht8
            clear ht8
            go_wp2_with fail
            go_roundw
            case rel =>
              have h1 := act_len x S2
              have h2 := HS2.out
              exact ⟨j + 1, x.act S2, by omega, by go_num, by omega, by omega, HT8.out⟩
            case measure => simp [intOf]; omega
          · go_wp2_with fail
            go_roundw
            case rel => exact ⟨j + 1, S2, by omega, by go_num, by have := HS2.out.1; omega, HS2.out.2, HTi.out.below ((Below.refl _ _).alloc (Nat.le_refl _) _)⟩
            case measure => simp [intOf]; omega
        · have HP1 := Lib.hid (show TwF w wr (some ⟨w.heap.size + 1, 0, none⟩) (some ⟨w1.heap.size, 0, none⟩) S S footS mS bbS from HT5.out.below HTi.out.bel)
          go_wp2_with fail
          refine (same_c HP1.out (by have := HS.out.2; omega)).mono ?_
          rintro e w8 ⟨rfl, hb8⟩
          have HB8 := Lib.hid hb8
          have HU := Lib.hid (show Calls Try.prog 12 #[.pointer (some ⟨w5.heap.size, 0, none⟩), .pointer (some ⟨w6.heap.size, 0, none⟩)] w8 fun e w' => e = .returned (.bool true) ∧ Below w8.heap.size w8 w' from by
            obtain ⟨_, _, _, ht⟩ := HTi.out.below hb8
            exact same_c ht (by have := HS2.out.2; omega))
          clear hb8
          go_wp2_with fail
          refine HU.out.mono ?_
          rintro e w9 ⟨rfl, hb9⟩
          have HB9 := Lib.hid hb9
          clear hb9
          go_wp2_with fail
          refine (awake_c _).mono ?_
          rintro e w10 ⟨rfl, hb10⟩
          have HB10 := Lib.hid hb10
          clear hb10
          go_wp2_with fail
          go_ret
          have h8 := HBi.out.trans (HB8.out.mono HBi.out.size)
          have h9 := h8.trans (HB9.out.mono h8.size)
          exact ⟨rfl, h9.trans (HB10.out.mono h9.size)⟩

-- FRAME
theorem own : ownKnob Try.prog.godebug = none := by kernel_rfl
theorem laidOut : laidOutB Try.prog = true := by kernel_rfl

set_option maxRecDepth 100000 in
theorem lifted (os : Os) (started : os.Started) (H : Type) (enc : TypeId × Value → H) :
    ReturnsInHanded {} Try.checked os 4 .any (Rows.vdiskReadsSpec.pre6 enc Try.prog Try.f4 Rows.vdiskReadsRow.domain false) (Rows.vdiskReadsSpec.post enc Try.prog Try.f4 false true false false) := by
  refine returnsInHanded_of_change_sized (C := Try.checked) own started (by kernel_rfl) Try.func4
    (ChangeSpec.witness6 (enc := enc) (C := Try.checked) false ⟨#[], #[.slice none 0 0, .slice none 0 0, .string ByteArray.empty], []⟩ 8 (by kernel_rfl) (by kernel_rfl) (by kernel_rfl) (by kernel_rfl)) ?_
  intro W base args ds gs before hval0 hW hcnd hsz0 _
  have hsz : (DataW.weightsEach Try.prog (Try.f4.params.toList ++ Rows.vdiskReadsSpec.plain.varTypes Try.prog) (ds ++ gs)).all (· ≤ reachBytes) = true := hsz0
  have hval : ∀ (j : Nat) t v, Try.f4.params[j]? = some t → args[j]? = some v → Value.okWide Try.prog W .any base t v := hval0
  have hW' := hW
  obtain ⟨p, q, hA0, hV, rfl, hfz, hnd⟩ := hW
  have hA : DataW.TrodAll enc Try.prog W 0 (fun _ => true) true Try.f4.params.toList args.toList ds p := hA0
  rw [Try.params4] at hA hval hsz
  obtain ⟨v0, vs0, d0, ds0, p0, q0, hargs, rfl, rfl, h0, r0⟩ := trodAll_cons hA
  obtain ⟨v1, vs1, d1, ds1, p1, q1, rfl, rfl, rfl, h1, r1⟩ := trodAll_cons r0
  obtain ⟨v2, vs2, d2, ds2, p2, q2, rfl, rfl, rfl, h2, r2⟩ := trodAll_cons r1
  obtain ⟨rfl, rfl, rfl⟩ := trodAll_nil r2
  obtain rfl : args = #[v0, v1, v2] := by cases args; simp_all
  obtain ⟨rfl, rfl⟩ := trodVars_none hV
  obtain ⟨a0, len0, cap0, rfl⟩ := okWide_slice Try.underlying22 (hval 0 22 v0 rfl rfl)
  have k0 := h0
  have lt0 : ∀ x ∈ p0, x.block < W.heap.size := by obtain ⟨m, hm⟩ := k0; exact DataW.trod_lt m _ _ _ hm
  obtain ⟨x0, w0⟩ : ∃ l : List SV, StepsIs W (.slice a0 len0 cap0) l := by
    obtain ⟨fuel, hf⟩ := h0
    obtain ⟨v, l, hcs, hl⟩ := steps_open hf (fun n hn => of_decide_eq_true (List.all_eq_true.1 hsz _ (DataW.weights_mem_each (j := 0) rfl rfl n hn)))
    simp [Value.cells] at hcs
    subst hcs
    exact ⟨l, hl⟩
  obtain ⟨a1, len1, cap1, rfl⟩ := okWide_slice Try.underlying22 (hval 1 22 v1 rfl rfl)
  have k1 := h1
  have lt1 : ∀ x ∈ p1, x.block < W.heap.size := by obtain ⟨m, hm⟩ := k1; exact DataW.trod_lt m _ _ _ hm
  obtain ⟨x1, w1⟩ : ∃ l : List SV, StepsIs W (.slice a1 len1 cap1) l := by
    obtain ⟨fuel, hf⟩ := h1
    obtain ⟨v, l, hcs, hl⟩ := steps_open hf (fun n hn => of_decide_eq_true (List.all_eq_true.1 hsz _ (DataW.weights_mem_each (j := 1) rfl rfl n hn)))
    simp [Value.cells] at hcs
    subst hcs
    exact ⟨l, hl⟩
  obtain ⟨a2, rfl, rfl, rfl, w2⟩ := open_string Try.underlying9 (hval 2 9 v2 rfl rfl) h2
  have s2 : a2.size ≤ 140737488351232 := by have := sized_string hsz (j := 2) (t := 9) rfl rfl; simpa [reachBytes] using this
  clear hA0 hval0
  refine (walk _ x0 _ x1 a2 W w0 w1 s2).mono fun e W' ⟨he, bel⟩ => ?_
  subst he
  exact ⟨_, rfl, _, _, _, [], _, [], hW', trodAll_mk1 (shut_bool Try.underlying4 _), (trodAll_cons_mk (Below.trod laidOut (by kernel_rfl) (of_decide_eq_true (by kernel_rfl)) k0 bel lt0) (trodAll_cons_mk (Below.trod laidOut (by kernel_rfl) (of_decide_eq_true (by kernel_rfl)) k1 bel lt1) (trodAll_cons_mk (shut_string Try.underlying9 w2) trodAll_mk0))), rfl, bel.frame _, fun h => by cases h⟩

/-- The statement. -/
theorem proved : Rows.VdiskReadsSaid :=
  OpenClaim.holds_of_wide 4 Try.f4 rfl rfl rfl rfl rfl rfl rfl ⟨rfl, rfl, rfl, rfl, rfl⟩ rfl rfl rfl rfl rfl (by kernel_rfl) Try.func4 (by kernel_rfl)
    (of_decide_eq_true (by kernel_rfl)) (by unfold Func.isWrapper; first | (rw [if_pos (by decide +kernel)]; kernel_rfl) | (rw [if_neg (by decide +kernel)]; exact ⟨rfl, rfl⟩))
    (fun os started H enc _ => lifted os started H enc)
end Go.Proofs.Ytcpldjaoacihlaa.vdiskReads
