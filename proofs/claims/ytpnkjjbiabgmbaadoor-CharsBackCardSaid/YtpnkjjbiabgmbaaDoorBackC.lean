/- Proved: for every int n, string s and int r, the law CharsBack returns true: the text of n is read as n, a string that is read as a number is that number's text, and the bytes of a character, with a byte behind them, are decoded as it. Conditions: the decoder's two tables of unicode/utf8 hold what Go's text lays (the card ties them). -/
import Derived.Test.YtpnkjjbiabgmbaaDoorNb
import Derived.Test.YtpnkjjbiabgmbaaDoorByF
import Derived.Test.YtpnkjjbiabgmbaaDoorTb
import Derived.ShutString
import Derived.ChangeOld
namespace Go.Proofs.YtpnkjjbiabgmbaaDoor.charsBack
open Go.ChangeShapes Go.WideShapes Go.ChangeAt Go.RowKit
open Go.ChangeMaps (open_string shut_string)
set_option linter.unusedVariables false

theorem ownF_bytes {B m : Nat} {w : World} {e : TypeId} {v : Value} {xs : List Value} {ys : List UInt8} (h : w.ownsRowF B e 1 v m xs) (hx : xs = bcells ys) : w.ownsRowF B e 1 v ys.length (bcells ys) := by
  have h1 : m = xs.length := by have := h.1; omega
  subst hx
  rw [bcells_length] at h1
  subst h1
  exact h

theorem _root_.Go.World.ownsRowF.mono' {w : World} {B B' : Nat} {e : TypeId} {v : Value} {n : Nat} {xs : List Value} (h : w.ownsRowF B e 1 v n xs) (hB : B' ≤ B) : w.ownsRowF B' e 1 v n xs := by
  obtain ⟨h1, h2⟩ := h
  refine ⟨h1, ?_⟩
  rcases h2 with ⟨rfl, h0⟩ | ⟨g, cap, cur, fz, rfl, hbg, h3⟩
  · exact .inl ⟨rfl, h0⟩
  · exact .inr ⟨g, cap, cur, fz, rfl, by omega, h3⟩

/-- chars.Encode of a character: the bytes are the call's own. -/
theorem encodeF_c (w : World) (r : Int) (h3 : E r ≠ []) :
    Calls Tryd.prog 10 #[.int .i64 r] w fun e w' => ∃ v, e = .returned v ∧ w'.ownsRowF w.heap.size 5 1 v (E r).length (bcells (E r)) ∧ Below w.heap.size w w' := by
  have hb : ¬ (r < 0 ∨ 1114111 < r ∨ (55296 ≤ r ∧ r ≤ 57343)) := fun hb => h3 (by unfold E; rw [if_pos hb])
  have h1' : 0 ≤ r := by omega
  have h2' : r ≤ 1114111 := by omega
  have hs : ¬ (55296 ≤ r ∧ r ≤ 57343) := by omega
  have hv := Tryd.utf8_ValidRune r w
  have HE := Lib.hid (runeCells_E r h1' h2' hs)
  rw [show Lib.validRune r = true from by simp [Lib.validRune]; omega] at hv
  have HV := Lib.hid hv
  have HA := Lib.hid (Tryd.utf8_AppendRune info8 w.heap.size (.slice none 0 0) 0 [] r (by omega) (by omega) w ⟨rfl, .inl ⟨rfl, rfl⟩⟩ (by omega) (Nat.le_refl _))
  clear h3 hv hb hs
  go_enter Tryd.func10, Tryd.ntmps10
  go_wp2_with (first
    | (go_at_call 28; refine HV.out.mono ?_; rintro e w' ⟨rfl, rfl⟩)
    | (go_at_call 29; refine HA.out.mono ?_; rintro e w' ⟨v, rfl, ho, o, hg⟩; have HO := Lib.hid ho; have HG := Lib.hid hg; clear ho hg))
  go_ret
  refine ⟨_, rfl, ?_, ((Below.refl _ _).alloc (Nat.le_refl _) o).grown HG.out (by simp) (by simp [Value.ownBlock])⟩
  have := HO.out
  rw [HE.out, List.nil_append] at this
  exact ownF_bytes this rfl

set_option maxRecDepth 100000 in
set_option maxHeartbeats 4000000 in
theorem walk (a0 : Int) (a1 : ByteArray) (a2 : Int) (w : World) (hT : Tabs w) (w0 : (Lit.int .i64 a0).wf = true) (s1 : a1.size ≤ 140737488351232) (w2 : (Lit.int .i64 a2).wf = true) :
    Calls Tryd.prog 6 #[.int .i64 a0, .string a1, .int .i64 a2] w fun e w' => e = .returned (.bool true) ∧ Below w.heap.size w w' := by
  have hn : -9223372036854775808 ≤ a0 ∧ a0 ≤ 9223372036854775807 := by simpa [Lit.wf, IntKind.min, IntKind.max, IntKind.signed, IntKind.bits] using w0
  have hr : -9223372036854775808 ≤ a2 ∧ a2 ≤ 9223372036854775807 := by simpa [Lit.wf, IntKind.min, IntKind.max, IntKind.signed, IntKind.bits] using w2
  have HN := Lib.hid hn
  have HRr := Lib.hid hr
  have T0 := Lib.hid hT
  have hts : (⟨(txt a0).toArray⟩ : ByteArray).size ≤ 9223372036854775807 := by
    have := txt_size 0 a0 hn.1 hn.2
    simp [ByteArray.size]
    omega
  have C1 := fun W => number_c W ⟨(txt a0).toArray⟩ hts
  rw [show tb ⟨(txt a0).toArray⟩ = txt a0 from by simp [tb], num_txt a0 hn.1 hn.2] at C1
  simp only at C1
  have HC1 := Lib.hid C1
  have HC2 := Lib.hid (fun W => number_c W a1 (by omega))
  have HQ := Lib.hid (txt_num (tb a1))
  have HTL := Lib.hid (Go.ByteArray.toList_eq a1)
  rcases hq : num (tb a1) with ⟨q, eq⟩
  rw [hq] at HC2 HQ
  simp only at HC2
  obtain ⟨i0, hi, hz0, hz1, hz2⟩ := info_parts info8
  clear hn hr hT w0 w2 s1 C1 hts hq
  go_enter Tryd.func6, Tryd.ntmps6
  go_wp2_with fail
  refine (text_c _ a0 HN.out.1 HN.out.2).mono ?_
  rintro e w1 ⟨rfl, hb⟩
  have B1 := Lib.hid hb
  clear hb
  go_wp2_with fail
  refine (HC1.out _).mono ?_
  rintro e w' ⟨rfl, rfl⟩
  go_wp2_with fail
  refine (HC2.out _).mono ?_
  rintro e w' ⟨rfl, rfl⟩
  by_cases he : eq = 0
  · subst he
    have hq := HQ.out q rfl
    have HT := Lib.hid hq
    have tE : (txt q == a1.toList) = true := by rw [HTL.out, hq.1]; exact beq_self_eq_true _
    clear hq HQ
    go_wp2_with fail
    refine (text_c _ q HT.out.2.1 HT.out.2.2).mono ?_
    rintro e w2 ⟨rfl, hb⟩
    have BX := Lib.hid (B1.out.trans (hb.mono B1.out.size))
    clear hb B1
    by_cases hE : E a2 = []
    · have HEE := Lib.hid hE
      clear hE
      go_wp2_with fail
      refine (encode_c _ _ HRr.out.1 HRr.out.2).mono ?_
      rintro e w4 ⟨v4, rfl, hr, hb⟩
      rw [HEE.out] at hr
      obtain ⟨p4, c4, rfl, _⟩ := hr
      have B4 := Lib.hid (BX.out.trans (hb.mono BX.out.size))
      clear hb
      go_wp2_with (go_at_call 14; refine (awake_c _ (T0.out.below B4.out)).mono ?_; rintro r w' ⟨rfl, hw⟩; have HW := Lib.hid hw; clear hw)
      go_ret
      exact ⟨rfl, B4.out.trans (HW.out.mono B4.out.size)⟩
    · have HDE := Lib.hid (D_E a2 hE [128])
      have hEl : 0 < (E a2).length := by
        cases hx : E a2 with
        | nil => exact absurd hx hE
        | cons x r => simp
      have hEl2 : (E a2).length ≤ 4 := by
        unfold E
        repeat' split
        all_goals simp
      have HEE := Lib.hid hE
      clear hE
      go_wp2_with fail
      refine (encodeF_c _ _ HEE.out).mono ?_
      rintro e w4 ⟨v4, rfl, ho, hb⟩
      have B4 := Lib.hid (BX.out.trans (hb.mono BX.out.size))
      have Z4 := Lib.hid hb.size
      have O4 := Lib.hid ho
      obtain ⟨p4, c4, rfl, _⟩ := Rd.of_ownF ho
      clear hb ho
      generalize E a2 = ee at *
      go_wp2_with (at_builtin; refine wpList_append_srcF rfl _ _ 22 22 rfl w.heap.size 5 i0 (.int .u8 0) 1 Tryd.underlying22 hi hz0 hz1 hz2 rfl _ ee.length (bcells ee) rfl ((O4.out.kept (World.grownBy_alloc _ _ none) (by
        cases p4 <;> simp [Value.ownBlock])).mono' BX.out.size) _ 1 _ rfl (src_one Tryd.underlying22 _ _ _ rfl) (by unfold maxLen; omega) (by omega) (by have := B4.out.size; simp; omega) ?_; intro v5 w5 ho5 hg5; have O5 := Lib.hid ho5; have G5 := Lib.hid hg5; clear ho5 hg5)
      have R5 := Lib.hid (Rd.of_ownF (ownF_bytes (ys := ee ++ [128]) O5.out (by simp [bcells])))
      have B5 := Lib.hid ((B4.out.alloc B4.out.size _).grown G5.out (by have := B4.out.size; simp; omega) (fun k hk => Nat.le_trans BX.out.size (O4.out.lt k hk).1))
      have ha2 : ((a2.toNat : Nat) : Int) = a2 := by have := HDE.out.2; omega
      have HA2 := Lib.hid ha2
      have C9 := decode_c w5 (T0.out.below B5.out) _ _ R5.out
      rw [HDE.out.1] at C9
      simp only at C9
      rw [HA2.out] at C9
      clear ha2 O5 O4 G5
      refine C9.mono ?_
      rintro e w6 ⟨rfl, hb⟩
      have B6 := Lib.hid (B5.out.trans (hb.mono B5.out.size))
      clear hb C9
      go_wp2_with (go_at_call 14; refine (awake_c _ (T0.out.below B6.out)).mono ?_; rintro r w' ⟨rfl, hw⟩; have HW := Lib.hid hw; clear hw)
      go_ret
      exact ⟨rfl, B6.out.trans (HW.out.mono B6.out.size)⟩
  · have t1 : (eq == 0) = false := by simpa using he
    have BX := B1
    clear he HQ B1
    by_cases hE : E a2 = []
    · have HEE := Lib.hid hE
      clear hE
      go_wp2_with fail
      refine (encode_c _ _ HRr.out.1 HRr.out.2).mono ?_
      rintro e w4 ⟨v4, rfl, hr, hb⟩
      rw [HEE.out] at hr
      obtain ⟨p4, c4, rfl, _⟩ := hr
      have B4 := Lib.hid (BX.out.trans (hb.mono BX.out.size))
      clear hb
      go_wp2_with (go_at_call 14; refine (awake_c _ (T0.out.below B4.out)).mono ?_; rintro r w' ⟨rfl, hw⟩; have HW := Lib.hid hw; clear hw)
      go_ret
      exact ⟨rfl, B4.out.trans (HW.out.mono B4.out.size)⟩
    · have HDE := Lib.hid (D_E a2 hE [128])
      have hEl : 0 < (E a2).length := by
        cases hx : E a2 with
        | nil => exact absurd hx hE
        | cons x r => simp
      have hEl2 : (E a2).length ≤ 4 := by
        unfold E
        repeat' split
        all_goals simp
      have HEE := Lib.hid hE
      clear hE
      go_wp2_with fail
      refine (encodeF_c _ _ HEE.out).mono ?_
      rintro e w4 ⟨v4, rfl, ho, hb⟩
      have B4 := Lib.hid (BX.out.trans (hb.mono BX.out.size))
      have Z4 := Lib.hid hb.size
      have O4 := Lib.hid ho
      obtain ⟨p4, c4, rfl, _⟩ := Rd.of_ownF ho
      clear hb ho
      generalize E a2 = ee at *
      go_wp2_with (at_builtin; refine wpList_append_srcF rfl _ _ 22 22 rfl w.heap.size 5 i0 (.int .u8 0) 1 Tryd.underlying22 hi hz0 hz1 hz2 rfl _ ee.length (bcells ee) rfl ((O4.out.kept (World.grownBy_alloc _ _ none) (by
        cases p4 <;> simp [Value.ownBlock])).mono' BX.out.size) _ 1 _ rfl (src_one Tryd.underlying22 _ _ _ rfl) (by unfold maxLen; omega) (by omega) (by have := B4.out.size; simp; omega) ?_; intro v5 w5 ho5 hg5; have O5 := Lib.hid ho5; have G5 := Lib.hid hg5; clear ho5 hg5)
      have R5 := Lib.hid (Rd.of_ownF (ownF_bytes (ys := ee ++ [128]) O5.out (by simp [bcells])))
      have B5 := Lib.hid ((B4.out.alloc B4.out.size _).grown G5.out (by have := B4.out.size; simp; omega) (fun k hk => Nat.le_trans BX.out.size (O4.out.lt k hk).1))
      have ha2 : ((a2.toNat : Nat) : Int) = a2 := by have := HDE.out.2; omega
      have HA2 := Lib.hid ha2
      have C9 := decode_c w5 (T0.out.below B5.out) _ _ R5.out
      rw [HDE.out.1] at C9
      simp only at C9
      rw [HA2.out] at C9
      clear ha2 O5 O4 G5
      refine C9.mono ?_
      rintro e w6 ⟨rfl, hb⟩
      have B6 := Lib.hid (B5.out.trans (hb.mono B5.out.size))
      clear hb C9
      go_wp2_with (go_at_call 14; refine (awake_c _ (T0.out.below B6.out)).mono ?_; rintro r w' ⟨rfl, hw⟩; have HW := Lib.hid hw; clear hw)
      go_ret
      exact ⟨rfl, B6.out.trans (HW.out.mono B6.out.size)⟩

-- FRAME
theorem own : ownKnob Tryd.prog.godebug = none := by kernel_rfl
theorem laidOut : laidOutB Tryd.prog = true := by kernel_rfl

theorem laid_met (os : Os) : laidMet Tryd.prog Rows.charsBackRow.laid ((laidWorld os).forCall (fun _ _ => 0) ⟨#[], #[.int .i64 0, .string ByteArray.empty, .int .i64 0], []⟩).memory :=
  laidMet_of_run' 8 (by kernel_rfl) (by kernel_rfl)
theorem reads (os : Os) {H : Type} (enc : TypeId × Value → H) : ∃ places, DataW.whole enc Tryd.prog ((laidWorld os).forCall (fun _ _ => 0) ⟨#[], #[.int .i64 0, .string ByteArray.empty, .int .i64 0], []⟩).memory Tryd.f6.params.toList Rows.charsBackSpec.vars false (#[.int .i64 0, .string ByteArray.empty, .int .i64 0] : Array Value).toList 8 = some ([.lit (.int .i64 0), .lit (.string []), .lit (.int .i64 0)], [], places) :=
  ⟨[], by kernel_rfl⟩

set_option maxRecDepth 100000 in
theorem lifted (os : Os) (started : os.Started) (H : Type) (enc : TypeId × Value → H) (F : Stop.Interp) :
    ReturnsInHanded {} Tryd.checked os 6 .any ((OpenSpec.ofChange Rows.charsBackSpec).preRow enc Tryd.prog Tryd.f6 Rows.charsBackRow.domain false Rows.charsBackRow.laid) (((OpenSpec.ofChange Rows.charsBackSpec).at F).post enc Tryd.prog Tryd.f6 false true false false) := by
  obtain ⟨places, hx⟩ := reads os enc
  refine returnsInHanded_of_row (C := Tryd.checked) (s := OpenSpec.ofChange Rows.charsBackSpec) own started (by kernel_rfl) Tryd.func6
    (witness_row_at (enc := enc) (C := Tryd.checked) false (laidWorld os) #[.int .i64 0, .string ByteArray.empty, .int .i64 0] rfl (by kernel_rfl) (by kernel_rfl) (by kernel_rfl)
      (OpenSpec.preRow_of_cond 8 hx (by kernel_rfl) (fun k hk => by cases hk) (by kernel_rfl) (laid_met os))) ?_
  intro W base args ds gs before hval0 hW hcnd hcond hsz0 hL _ _
  have hT := tabs_of hL
  have hsz : (DataW.weightsEach Tryd.prog (Tryd.f6.params.toList ++ Rows.charsBackSpec.plain.varTypes Tryd.prog) (ds ++ gs)).all (· ≤ reachBytes) = true := hsz0
  have hval : ∀ (j : Nat) t v, Tryd.f6.params[j]? = some t → args[j]? = some v → Value.okWide Tryd.prog W .any base t v := hval0
  have hW' := hW
  obtain ⟨p, q, hA0, hV, rfl, hfz, hnd⟩ := hW
  have hA : DataW.TrodAll enc Tryd.prog W 0 (fun _ => true) true Tryd.f6.params.toList args.toList ds p := hA0
  rw [Tryd.params6] at hA hval hsz
  obtain ⟨v0, vs0, d0, ds0, p0, q0, hargs, rfl, rfl, h0, r0⟩ := trodAll_cons hA
  obtain ⟨v1, vs1, d1, ds1, p1, q1, rfl, rfl, rfl, h1, r1⟩ := trodAll_cons r0
  obtain ⟨v2, vs2, d2, ds2, p2, q2, rfl, rfl, rfl, h2, r2⟩ := trodAll_cons r1
  obtain ⟨rfl, rfl, rfl⟩ := trodAll_nil r2
  obtain rfl : args = #[v0, v1, v2] := by cases args; simp_all
  obtain ⟨rfl, rfl⟩ := trodVars_none hV
  obtain ⟨a0, rfl, rfl, rfl, w0⟩ := open_int Tryd.underlying3 (hval 0 3 v0 rfl rfl) h0
  obtain ⟨a1, rfl, rfl, rfl, w1⟩ := open_string Tryd.underlying9 (hval 1 9 v1 rfl rfl) h1
  have s1 : a1.size ≤ 140737488351232 := by have := sized_string hsz (j := 1) (t := 9) rfl rfl; simpa [reachBytes] using this
  obtain ⟨a2, rfl, rfl, rfl, w2⟩ := open_int Tryd.underlying3 (hval 2 3 v2 rfl rfl) h2
  clear hA0 hval0
  refine (walk a0 a1 a2 W hT w0 s1 w2).mono fun e W' ⟨he, bel⟩ => ?_
  subst he
  exact ⟨_, rfl, _, _, _, [], _, [], hW', trodAll_mk1 (shut_bool Tryd.underlying4 _), (trodAll_cons_mk (shut_int Tryd.underlying3 w0) (trodAll_cons_mk (shut_string Tryd.underlying9 w1) (trodAll_cons_mk (shut_int Tryd.underlying3 w2) trodAll_mk0))), rfl, bel.frame _, fun h => by cases h⟩

theorem said : Rows.CharsBackSaid :=
  OpenClaim.holds_of_cond 6 Tryd.f6 rfl rfl rfl rfl rfl rfl rfl ⟨rfl, rfl, rfl, rfl, rfl⟩ rfl rfl rfl rfl rfl (by kernel_rfl) Tryd.func6 (by kernel_rfl)
    (of_decide_eq_true (by kernel_rfl)) (by unfold Func.isWrapper; first | (rw [if_pos (by decide +kernel)]; kernel_rfl) | (rw [if_neg (by decide +kernel)]; exact ⟨rfl, rfl⟩))
    (fun os started H enc _ F => by rw [OpenClaim.pre_eq_preRow]; exact lifted os started H enc F)

theorem plain (f : FuncId) (fn : Func) (hf : Tryd.pinned.checked.prog.funcNamed "dossier/dossierlaw01.CharsBack" = some f) (hfn : Tryd.pinned.checked.prog.funcs[f]? = some fn) :
    false = Tryd.pinned.checked.prog.looks [] ∧ ∀ (j : Nat) t, fn.params[j]? = some t → Tryd.pinned.checked.prog.wantsStandIn t = false := by
  obtain rfl : f = 6 := Option.some.inj ((show Tryd.prog.funcNamed "dossier/dossierlaw01.CharsBack" = some 6 by kernel_rfl).symm.trans hf) |>.symm
  obtain rfl : fn = Tryd.f6 := (Option.some.inj (Tryd.func6.symm.trans hfn)).symm
  refine ⟨by kernel_rfl, fun j t ht => ?_⟩
  rw [Tryd.params6] at ht
  have hm := Array.mem_of_getElem? ht
  simp only [Array.mem_def, List.mem_cons, List.not_mem_nil, or_false] at hm
  rcases hm with rfl | rfl | rfl
  · exact (show Tryd.prog.wantsStandIn 3 = false by kernel_rfl)
  · exact (show Tryd.prog.wantsStandIn 9 = false by kernel_rfl)
  · exact (show Tryd.prog.wantsStandIn 3 = false by kernel_rfl)

/-- The statement: the card. -/
theorem proved : Rows.CharsBackCardSaid :=
  Claim7.holds_tied_plain_at .later [] _ _ _ _ said (fun _ h => by cases h) (by kernel_rfl) (fun _ h => by cases h) charsBack_row_tie rfl ⟨rfl, rfl⟩ (by kernel_rfl) rfl plain (by kernel_rfl)
end Go.Proofs.YtpnkjjbiabgmbaaDoor.charsBack
