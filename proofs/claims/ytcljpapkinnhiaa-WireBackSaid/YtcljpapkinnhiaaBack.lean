/- Proved: for every int n, string s, bool yes and byte slice b, the law WireBack returns true: what was put is read back with anything behind it, and what is read of any bytes, put again, is the bytes that were read. Conditions: none beyond the row's own (each argument takes at most 2^47 - 4096 bytes). -/
import Derived.Test.YtcljpapkinnhiaaWr
import Derived.SizedLaws
import Derived.ShutString
import Derived.ChangeOld
namespace Go.Proofs.Ytcljpapkinnhiaa.wireBack
open Go.ChangeShapes Go.WideShapes Go.ChangeAt Go.RowKit
open Go.ChangeMaps (open_string shut_string)
set_option linter.unusedVariables false

/-- The second half's plain side. -/
theorem again (xs : List UInt8) (lo hi most : Int) (h1 : (rInt xs lo hi).2.2 = 0) (h2 : (rText (rInt xs lo hi).2.1 most).2.2 = 0) :
    xs.take (xs.length - (rText (rInt xs lo hi).2.1 most).2.1.length) = [] ++ enc (rInt xs lo hi).1 ++ (enc (rText (rInt xs lo hi).2.1 most).1.length ++ (rText (rInt xs lo hi).2.1 most).1) ∧
    (rText (rInt xs lo hi).2.1 most).2.1.length ≤ xs.length := by
  have e1 := (rInt_back xs lo hi h1).1
  have e2 := (rText_back _ most h2).1
  generalize rText (rInt xs lo hi).2.1 most = t at *
  generalize rInt xs lo hi = r at *
  rw [e2] at e1
  generalize enc t.1.length = k at *
  generalize enc r.1 = m at *
  subst e1
  constructor
  · simp only [List.length_append, List.nil_append]
    rw [show m.length + (k.length + (t.1.length + t.2.1.length)) - t.2.1.length = (m ++ (k ++ t.1)).length from by simp; omega]
    rw [← List.append_assoc, ← List.append_assoc, ← List.append_assoc]
    exact List.take_left
  · simp; omega

set_option maxHeartbeats 2000000 in
theorem walk (a0 : Int) (a1 : ByteArray) (a2 : Bool) (v3 : Value) (x3 : List UInt8) (w : World) (w0 : (Lit.int .i64 a0).wf = true) (s1 : a1.size ≤ 140737488351232) (w3 : Rd w v3 x3) (s3 : x3.length ≤ 140737488351232) :
    Calls Try.prog 4 #[.int .i64 a0, .string a1, .bool a2, v3] w fun e w' => e = .returned (.bool true) ∧ Below w.heap.size w w' := by
  have hn : -9223372036854775808 ≤ a0 ∧ a0 ≤ 9223372036854775807 := by simpa [Lit.wf, IntKind.min, IntKind.max, IntKind.signed, IntKind.bits] using w0
  have HN := Lib.hid hn
  have R3 := Lib.hid w3
  have S3 := Lib.hid s3
  have E3 := Lib.hid (show x3.length ≤ 9223372036854775807 from by omega)
  obtain ⟨p3, c3, rfl, hx3c, hc3m, _⟩ := R3.out
  have C3 := Lib.hid (And.intro hx3c hc3m)
  clear hx3c hc3m
  obtain ⟨i0, hi, hz0, hz1, hz2⟩ := info_parts info8
  clear w0 hn w3 s3
  obtain ⟨s, hs, hw⟩ : ∃ s : ByteArray, s.size ≤ 3000 ∧ ((a1.size ≤ 3000 ∧ s = a1) ∨ (3000 < a1.size ∧ s = a1.extract 0 3000)) := by
    by_cases h : a1.size ≤ 3000
    · exact ⟨a1, h, .inl ⟨h, rfl⟩⟩
    · exact ⟨a1.extract 0 3000, by simp; omega, .inr ⟨by omega, rfl⟩⟩
  have HB := Lib.hid (tb_back s)
  rcases hw with ⟨hl, he⟩ | ⟨hl, he⟩
  all_goals
    have HE := Lib.hid he
    clear he
    go_enter Try.func4, Try.ntmps4
    go_wp2_with fail
    rw [← HE.out]
    clear HE hl s1
    -- what is put
    refine (int_c _ _ [] a0 (Rd.nil _) HN.out.1 HN.out.2 (by simp)).mono ?_
    rintro e w1 ⟨v1, rfl, ho1, hb1⟩
    have O1 := Lib.hid ho1
    have B1 := Lib.hid hb1
    have L1 := enc_len a0
    have L2 := enc_len (s.size : Int)
    clear ho1 hb1
    go_wp2_with fail
    refine (text_c _ _ _ s (Rd.of_own O1.out) (by simp; omega)).mono ?_
    rintro e w2 ⟨v2, rfl, ho2, hb2⟩
    have O2 := Lib.hid ho2
    have B2 := Lib.hid (B1.out.trans (hb2.mono B1.out.size))
    clear ho2 hb2
    go_wp2_with fail
    refine (flag_c _ _ _ a2 (Rd.of_own O2.out) (by simp only [List.length_append, tb_length, List.length_nil]; omega)).mono ?_
    rintro e w4 ⟨v4, rfl, ho4, hb4⟩
    have O4 := Lib.hid ho4
    have B4 := Lib.hid (B2.out.trans (hb4.mono B2.out.size))
    have Z4 := Lib.hid hb4.size
    have T4 : ([] ++ enc a0 ++ (enc s.size ++ tb s) ++ fb a2).length ≤ 3040 := by simp only [List.length_append, tb_length, List.length_nil, fb, List.length_singleton]; omega
    have X4 := Lib.hid (show [] ++ enc a0 ++ (enc s.size ++ tb s) ++ fb a2 ++ x3 = enc a0 ++ (enc (tb s).length ++ (tb s ++ (fb a2 ++ x3))) from by simp [tb_length])
    clear ho4 hb4 L1 L2
    generalize [] ++ enc a0 ++ (enc s.size ++ tb s) ++ fb a2 = y4 at *
    go_wp2_with (at_builtin; refine wpList_append_src rfl _ _ 22 22 rfl w2.heap.size 5 i0 (.int .u8 0) 1 Try.underlying22 hi hz0 hz1 hz2 rfl _ _ (bcells y4) rfl O4.out _ _ (bcells x3) rfl ((R3.out.below B4.out).src Try.underlying22) (by have := S3.out; unfold maxLen; omega) (by have := S3.out; omega) Z4.out ?_; intro v5 w5 ho5 hg5; have O5 := Lib.hid (own_bytes ho5 (bcells_append y4 x3).symm); have B5 := Lib.hid (B4.out.trans ((below_own hg5 O4.out Z4.out).mono B2.out.size)); clear ho5 hg5)
    have R5 := Lib.hid (Rd.of_own O5.out)
    rw [X4.out] at R5
    clear O5 O4 O2 O1 B1
    refine (open_c _ R5.out (by have := S3.out; rw [← X4.out]; simp; omega)).mono ?_
    rintro e w6 ⟨b, rfl, hr6, hg6, hb6⟩
    have S6 := Lib.hid hr6
    have G6 := Lib.hid hg6
    have B6 := Lib.hid (B5.out.trans (hb6.mono B5.out.size))
    clear hr6 hg6 hb6
    clear R5 B4 Z4 T4 X4 E3
    go_wp2_with fail
    have C7 := int_r S6.out (-9223372036854775808) 9223372036854775807 (by omega) (by omega)
    rw [rInt_enc a0 _ _ _ HN.out.1 HN.out.2 HN.out.1 HN.out.2] at C7
    refine C7.mono ?_
    rintro r w7 ⟨rfl, hs7, ht7⟩
    have S7 := Lib.hid hs7
    have B7 := Lib.hid (B6.out.trans (ht7.below (Nat.le_trans B5.out.size G6.out) B6.out.size))
    have Z7 := Lib.hid ht7.size
    clear C7 hs7 ht7 S6
    go_wp2_with fail
    have C8 := text_r S7.out 3000 (by omega)
    rw [rText_enc (tb s) _ 3000 (by rw [tb_length]; omega) (by omega), HB.out] at C8
    refine C8.mono ?_
    rintro r w8 ⟨rfl, hs8, ht8⟩
    have S8 := Lib.hid hs8
    have B8 := Lib.hid (B7.out.trans (ht8.below (Nat.le_trans B5.out.size G6.out) B7.out.size))
    clear C8 hs8 ht8 S7 B7
    go_wp2_with fail
    have C9 := flag_r S8.out
    rw [rFlag_enc] at C9
    refine C9.mono ?_
    rintro r w9 ⟨rfl, hs9, ht9⟩
    have S9 := Lib.hid hs9
    have B9 := Lib.hid (B8.out.trans (ht9.below (Nat.le_trans B5.out.size G6.out) B8.out.size))
    clear C9 hs9 ht9 S8 B8
    go_wp2_with (first
      | (go_at_call 21; refine (err_c S9.out).mono ?_; rintro r w' ⟨rfl, rfl⟩)
      | (go_at_call 22; refine (left_c S9.out).mono ?_; rintro r w' ⟨rfl, rfl⟩))
    clear S9 HB hs
    -- what is read of any bytes
    have R9 := Lib.hid (R3.out.below (B9.out.mono (Nat.le_refl _)))
    refine (open_c _ R9.out (by have := S3.out; omega)).mono ?_
    rintro e wa ⟨ba, rfl, hra, hga, hba⟩
    have SA := Lib.hid hra
    have GA := Lib.hid (Nat.le_trans B9.out.size hga)
    have BA := Lib.hid (B9.out.trans (hba.mono B9.out.size))
    clear hra hga hba
    have HAG := Lib.hid (again x3 (-9223372036854775808) 9223372036854775807 1048576)
    have HBK := Lib.hid (rInt_back x3 (-9223372036854775808) 9223372036854775807)
    rcases hR : rInt x3 (-9223372036854775808) 9223372036854775807 with ⟨n, ys, e1⟩
    have CB := int_r SA.out (-9223372036854775808) 9223372036854775807 (by omega) (by omega)
    rw [hR] at CB HAG HBK
    clear hR
    simp only at HAG HBK
    go_wp2_with fail
    refine CB.mono ?_
    rintro r wb ⟨rfl, hsb, htb⟩
    have SB := Lib.hid hsb
    have BB := Lib.hid (BA.out.trans (htb.below GA.out BA.out.size))
    clear CB hsb htb SA BA
    by_cases he1 : e1 = 0
    · subst he1
      rcases hQ : rText ys 1048576 with ⟨zs, qs, e2⟩
      have CC := text_r SB.out 1048576 (by omega)
      rw [hQ] at CC HAG
      have HQB := rText_back ys 1048576
      rw [hQ] at HQB
      simp only at HAG HQB
      clear hQ
      go_wp2_with fail
      refine CC.mono ?_
      rintro r wc ⟨rfl, hsc, htc⟩
      have SC := Lib.hid hsc
      have BC := Lib.hid (BB.out.trans (htc.below GA.out BB.out.size))
      clear CC hsc htc SB BB
      by_cases he2 : e2 = 0
      · subst he2
        have HT := Lib.hid (HAG.out (by trivial) (by trivial)).1
        have hql := (HAG.out (by trivial) (by trivial)).2
        have hzl := (HQB (by trivial)).2
        have HN2 := Lib.hid (HBK.out (by trivial)).2
        have hx64 := S3.out
        clear HAG HQB HBK
        have RC := Lib.hid ((R3.out.below (BC.out.mono (Nat.le_refl _))).to (x3.length - qs.length) (by omega))
        go_wp2_with (first
          | (go_at_call 21; refine (err_c SC.out).mono ?_; rintro r w' ⟨rfl, rfl⟩)
          | (go_at_call 22; refine (left_c SC.out).mono ?_; rintro r w' ⟨rfl, rfl⟩))
        have hzs : (⟨zs.toArray⟩ : ByteArray).size = zs.length := by simp [ByteArray.size]
        have HZ := Lib.hid hzs
        have HTB := Lib.hid (show tb ⟨zs.toArray⟩ = zs from by simp [tb])
        clear hzs
        refine (int_c _ _ [] n (Rd.nil _) HN2.out.1 HN2.out.2 (by simp)).mono ?_
        rintro r wd ⟨vd, rfl, hod, hbd⟩
        have OD := Lib.hid hod
        have BD := Lib.hid (BC.out.trans (hbd.mono BC.out.size))
        have SD := Lib.hid (SC.out.below hbd)
        have RD := Lib.hid (RC.out.below hbd)
        have L1 := enc_len n
        clear hod hbd SC RC
        go_wp2_with fail
        refine (text_c _ _ _ ⟨zs.toArray⟩ (Rd.of_own OD.out) (by rw [HZ.out]; simp only [List.length_append, List.length_nil]; omega)).mono ?_
        rintro r we ⟨ve, rfl, hoe, hbe⟩
        have OE := Lib.hid (Rd.of_own hoe)
        have BE := Lib.hid (BD.out.trans (hbe.mono BD.out.size))
        have SE := Lib.hid (SD.out.below hbe)
        have RE := Lib.hid (RD.out.below hbe)
        clear hoe hbe SD RD
        rw [HZ.out, HTB.out] at OE
        rw [HT.out] at RE
        have hc3 := C3.out.1
        have hcm := C3.out.2
        unfold maxLen at hcm
        go_wp2_with (first
          | (go_at_call 22; refine (left_c SE.out).mono ?_; rintro r w' ⟨rfl, rfl⟩))
        refine (equal_c _ _ _ _ _ OE.out RE.out).mono ?_
        rintro r w' ⟨rfl, rfl⟩
        rw [beq_self_eq_true]
        go_wp2_with (go_at_call 16; refine (awake_c _).mono ?_; rintro r w' ⟨rfl, hw⟩; have HW := Lib.hid hw; clear hw)
        go_ret
        exact ⟨rfl, BE.out.trans (HW.out.mono BE.out.size)⟩
      · have t2 : (e2 != 0) = true := by simpa using he2
        clear he2 HAG HQB HBK
        go_wp2_with (first
          | (go_at_call 21; refine (err_c SC.out).mono ?_; rintro r w' ⟨rfl, rfl⟩)
          | (go_at_call 16; refine (awake_c _).mono ?_; rintro r w' ⟨rfl, hw⟩; have HW := Lib.hid hw; clear hw))
        go_ret
        exact ⟨rfl, BC.out.trans (HW.out.mono BC.out.size)⟩
    · have t1 : (e1 != 0) = true := by simpa using he1
      clear he1 HAG HBK
      go_wp2_with (first
        | (go_at_call 19; refine (text_e SB.out t1 _).mono ?_; rintro r w' ⟨rfl, rfl⟩)
        | (go_at_call 21; refine (err_c SB.out).mono ?_; rintro r w' ⟨rfl, rfl⟩)
        | (go_at_call 16; refine (awake_c _).mono ?_; rintro r w' ⟨rfl, hw⟩; have HW := Lib.hid hw; clear hw))
      go_ret
      exact ⟨rfl, BB.out.trans (HW.out.mono BB.out.size)⟩

-- FRAME
theorem own : ownKnob Try.prog.godebug = none := by kernel_rfl
theorem laidOut : laidOutB Try.prog = true := by kernel_rfl
theorem bytesOne : Try.prog.bytesOf 5 = 1 := by kernel_rfl

set_option maxRecDepth 100000 in
theorem lifted (os : Os) (started : os.Started) (H : Type) (enc : TypeId × Value → H) :
    ReturnsInHanded {} Try.checked os 4 .any (Rows.wireBackSpec.pre6 enc Try.prog Try.f4 Rows.wireBackRow.domain false) (Rows.wireBackSpec.post enc Try.prog Try.f4 false true false false) := by
  refine returnsInHanded_of_change_sized (C := Try.checked) own started (by kernel_rfl) Try.func4
    (ChangeSpec.witness6 (enc := enc) (C := Try.checked) false ⟨#[], #[.int .i64 0, .string ByteArray.empty, .bool false, .slice none 0 0], []⟩ 8 (by kernel_rfl) (by kernel_rfl) (by kernel_rfl) (by kernel_rfl)) ?_
  intro W base args ds gs before hval0 hW hcnd hsz0 _
  have hsz : (DataW.weightsEach Try.prog (Try.f4.params.toList ++ Rows.wireBackSpec.plain.varTypes Try.prog) (ds ++ gs)).all (· ≤ reachBytes) = true := hsz0
  have hval : ∀ (j : Nat) t v, Try.f4.params[j]? = some t → args[j]? = some v → Value.okWide Try.prog W .any base t v := hval0
  have hW' := hW
  obtain ⟨p, q, hA0, hV, rfl, hfz, hnd⟩ := hW
  have hA : DataW.TrodAll enc Try.prog W 0 (fun _ => true) true Try.f4.params.toList args.toList ds p := hA0
  rw [Try.params4] at hA hval hsz
  obtain ⟨v0, vs0, d0, ds0, p0, q0, hargs, rfl, rfl, h0, r0⟩ := trodAll_cons hA
  obtain ⟨v1, vs1, d1, ds1, p1, q1, rfl, rfl, rfl, h1, r1⟩ := trodAll_cons r0
  obtain ⟨v2, vs2, d2, ds2, p2, q2, rfl, rfl, rfl, h2, r2⟩ := trodAll_cons r1
  obtain ⟨v3, vs3, d3, ds3, p3, q3, rfl, rfl, rfl, h3, r3⟩ := trodAll_cons r2
  obtain ⟨rfl, rfl, rfl⟩ := trodAll_nil r3
  obtain rfl : args = #[v0, v1, v2, v3] := by cases args; simp_all
  obtain ⟨rfl, rfl⟩ := trodVars_none hV
  obtain ⟨a0, rfl, rfl, rfl, w0⟩ := open_int Try.underlying3 (hval 0 3 v0 rfl rfl) h0
  obtain ⟨a1, rfl, rfl, rfl, w1⟩ := open_string Try.underlying9 (hval 1 9 v1 rfl rfl) h1
  have s1 : a1.size ≤ 140737488351232 := by have := sized_string hsz (j := 1) (t := 9) rfl rfl; simpa [reachBytes] using this
  obtain ⟨a2, rfl, rfl, rfl⟩ := open_bool Try.underlying4 (hval 2 4 v2 rfl rfl) h2
  obtain ⟨a3, len3, cap3, rfl⟩ := okWide_slice Try.underlying22 (hval 3 22 v3 rfl rfl)
  have k3 := h3
  have lt3 : ∀ x ∈ p3, x.block < W.heap.size := by obtain ⟨m, hm⟩ := k3; exact DataW.trod_lt m _ _ _ hm
  obtain ⟨x3, w3, s3⟩ : ∃ xs : List UInt8, Rd W (.slice a3 len3 cap3) xs ∧ xs.length ≤ 140737488351232 := by
    obtain ⟨fuel, hf⟩ := h3
    rcases open_ints Try.underlying22 Try.underlying5 (by kernel_rfl) hf with ⟨hcs, _⟩ | ⟨x, l, c, zs, hcs, _, hl, hm, hz, hx, hcell, hwz⟩
    · simp [Value.cells] at hcs
      obtain ⟨rfl, rfl, rfl⟩ := hcs
      exact ⟨[], Rd.nil _, by simp⟩
    · simp [Value.cells] at hcs
      obtain ⟨rfl, rfl, rfl⟩ := hcs
      have hz' : zs.length = cap3 := by simpa using hz
      simp only [Prod.mk.injEq] at hx
      obtain ⟨rfl, _⟩ := hx
      have hb := sized_slice hsz (j := 3) (t := 22) (e := 5) rfl rfl Try.underlying22
      rw [bytesOne] at hb
      simp only [lits, List.length_map, List.length_take, List.length_drop, reachBytes] at hb
      exact ⟨_, rd_of_row hl hm hz' hcell hwz, by simp only [List.length_map, List.length_take]; omega⟩
  clear hA0 hval0
  refine (walk a0 a1 a2 _ x3 W w0 s1 w3 s3).mono fun e W' ⟨he, bel⟩ => ?_
  subst he
  exact ⟨_, rfl, _, _, _, [], _, [], hW', trodAll_mk1 (shut_bool Try.underlying4 _), (trodAll_cons_mk (shut_int Try.underlying3 w0) (trodAll_cons_mk (shut_string Try.underlying9 w1) (trodAll_cons_mk (shut_bool Try.underlying4 _) (trodAll_cons_mk (Below.trod laidOut (by kernel_rfl) (of_decide_eq_true (by kernel_rfl)) k3 bel lt3) trodAll_mk0)))), rfl, bel.frame _, fun h => by cases h⟩

/-- The statement. -/
theorem proved : Rows.WireBackSaid :=
  OpenClaim.holds_of_wide 4 Try.f4 rfl rfl rfl rfl rfl rfl rfl ⟨rfl, rfl, rfl, rfl, rfl⟩ rfl rfl rfl rfl rfl (by kernel_rfl) Try.func4 (by kernel_rfl)
    (of_decide_eq_true (by kernel_rfl)) (by unfold Func.isWrapper; first | (rw [if_pos (by decide +kernel)]; kernel_rfl) | (rw [if_neg (by decide +kernel)]; exact ⟨rfl, rfl⟩))
    (fun os started H enc _ => lifted os started H enc)
end Go.Proofs.Ytcljpapkinnhiaa.wireBack
