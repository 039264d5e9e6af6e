/- Proved: for every byte slice b, string s, int n and bool yes, the arguments together of bulk at most 1048576, the law WirePuts returns true: an encoded int, string or boolean behind any bytes, and the CRC-32 of these, are those of the reference, and the bytes stay. Condition: the bulk (the law's second form); the first form is false by size, since an append may pass Go's limit. -/
import Derived.Test.YtcljpapkinnhiaaRef
import Derived.Test.YtcljpapkinnhiaaCrc
import Derived.Test.YtcljpapkinnhiaaBulk
import Derived.JoinedCond
import Derived.ShutString
import Derived.ChangeOld
namespace Go.Proofs.Ytcljpapkinnhiaa.wirePuts
open Go.ChangeShapes Go.WideShapes Go.ChangeAt Go.RowKit
open Go.ChangeMaps (open_string shut_string)
set_option linter.unusedVariables false

set_option maxHeartbeats 2000000 in
theorem walk (v0 : Value) (x0 : List UInt8) (a1 : ByteArray) (a2 : Int) (a3 : Bool) (w : World) (w0 : Rd w v0 x0) (s0 : x0.length ≤ 1048576) (s1 : a1.size ≤ 1048576) (w2 : (Lit.int .i64 a2).wf = true) :
    Calls Try.prog 3 #[v0, .string a1, .int .i64 a2, .bool a3] w fun e w' => e = .returned (.bool true) ∧ Below w.heap.size w w' := by
  have hn : -9223372036854775808 ≤ a2 ∧ a2 ≤ 9223372036854775807 := by simpa [Lit.wf, IntKind.min, IntKind.max, IntKind.signed, IntKind.bits] using w2
  have HN := Lib.hid hn
  have R0 := Lib.hid w0
  have S := Lib.hid (And.intro s0 s1)
  clear w2 hn w0 s0 s1
  go_enter Try.func3, Try.ntmps3
  go_wp2_with fail
  refine (clone_c _ _ x0 R0.out (by have := S.out; omega)).mono ?_
  rintro e w1 ⟨vg, rfl, ho1, hb1⟩
  have RG1 := Lib.hid (Rd.of_own ho1)
  have B1 := Lib.hid hb1
  have RB1 := Lib.hid (R0.out.below hb1)
  clear ho1 hb1
  go_wp2_with fail
  refine (int_c _ _ x0 a2 RG1.out HN.out.1 HN.out.2 (by have := S.out; omega)).mono ?_
  rintro e w2 ⟨v2, rfl, ho, hb⟩
  have P2 := Lib.hid (Rd.of_own ho)
  have B2 := Lib.hid (B1.out.trans (hb.mono B1.out.size))
  have RG2 := Lib.hid (RG1.out.below hb)
  have RB2 := Lib.hid (RB1.out.below hb)
  clear ho hb B1 RG1 RB1
  go_wp2_with fail
  refine (rint_c _ _ x0 a2 RB2.out HN.out.1 HN.out.2 (by have := S.out; omega)).mono ?_
  rintro e w3 ⟨v3, rfl, ho, hb⟩
  have Q3 := Lib.hid (Rd.of_own ho)
  have P3 := Lib.hid (P2.out.below hb)
  have B3 := Lib.hid (B2.out.trans (hb.mono B2.out.size))
  have RG3 := Lib.hid (RG2.out.below hb)
  have RB3 := Lib.hid (RB2.out.below hb)
  clear ho hb B2 RG2 RB2 P2
  go_wp2_with fail
  refine (equal_c _ _ _ _ _ P3.out Q3.out).mono ?_
  rintro e w' ⟨rfl, rfl⟩
  rw [beq_self_eq_true]
  clear P3 Q3
  go_wp2_with fail
  refine (text_c _ _ x0 a1 RG3.out (by have := S.out; omega)).mono ?_
  rintro e w4 ⟨v4, rfl, ho, hb⟩
  have P4 := Lib.hid (Rd.of_own ho)
  have B4 := Lib.hid (B3.out.trans (hb.mono B3.out.size))
  have RG4 := Lib.hid (RG3.out.below hb)
  have RB4 := Lib.hid (RB3.out.below hb)
  clear ho hb B3 RG3 RB3
  go_wp2_with fail
  refine (rtext_c _ _ x0 a1 RB4.out (by have := S.out; omega)).mono ?_
  rintro e w5 ⟨v5, rfl, ho, hb⟩
  have Q5 := Lib.hid (Rd.of_own ho)
  have P5 := Lib.hid (P4.out.below hb)
  have B5 := Lib.hid (B4.out.trans (hb.mono B4.out.size))
  have RG5 := Lib.hid (RG4.out.below hb)
  have RB5 := Lib.hid (RB4.out.below hb)
  clear ho hb B4 RG4 RB4 P4
  go_wp2_with fail
  refine (equal_c _ _ _ _ _ P5.out Q5.out).mono ?_
  rintro e w' ⟨rfl, rfl⟩
  rw [beq_self_eq_true]
  clear P5 Q5
  go_wp2_with fail
  refine (flag_c _ _ x0 a3 RG5.out (by have := S.out; omega)).mono ?_
  rintro e w6 ⟨v6, rfl, ho, hb⟩
  have P6 := Lib.hid (Rd.of_own ho)
  have B6 := Lib.hid (B5.out.trans (hb.mono B5.out.size))
  have RG6 := Lib.hid (RG5.out.below hb)
  have RB6 := Lib.hid (RB5.out.below hb)
  clear ho hb B5 RG5 RB5
  go_wp2_with fail
  refine (rflag_c _ _ x0 a3 RB6.out (by have := S.out; omega)).mono ?_
  rintro e w7 ⟨v7, rfl, ho, hb⟩
  have Q7 := Lib.hid (Rd.of_own ho)
  have P7 := Lib.hid (P6.out.below hb)
  have B7 := Lib.hid (B6.out.trans (hb.mono B6.out.size))
  have RG7 := Lib.hid (RG6.out.below hb)
  have RB7 := Lib.hid (RB6.out.below hb)
  clear ho hb B6 RG6 RB6 P6
  go_wp2_with fail
  refine (equal_c _ _ _ _ _ P7.out Q7.out).mono ?_
  rintro e w' ⟨rfl, rfl⟩
  rw [beq_self_eq_true]
  clear P7 Q7
  go_wp2_with fail
  refine (crc_w _ _ _ RG7.out).mono ?_
  rintro e w' ⟨rfl, rfl⟩
  generalize hcrc : ((crcN 4294967295 x0 ^^^ 4294967295 : Nat) : Int) = q
  have HQ := Lib.hid hcrc
  clear hcrc
  go_wp2_with fail
  refine (crc_r _ _ _ RB7.out).mono ?_
  rintro e w' ⟨rfl, rfl⟩
  rw [HQ.out]
  go_wp2_with fail
  refine (equal_c _ _ _ _ _ RG7.out RB7.out).mono ?_
  rintro e w' ⟨rfl, rfl⟩
  rw [beq_self_eq_true]
  go_wp2_with (go_at_call 16; refine (awake_c _).mono ?_; rintro r w' ⟨rfl, hw⟩; have HW := Lib.hid hw; clear hw)
  go_ret
  exact ⟨rfl, B7.out.trans (HW.out.mono B7.out.size)⟩

-- FRAME
theorem own : ownKnob Try.prog.godebug = none := by kernel_rfl
theorem laidOut : laidOutB Try.prog = true := by kernel_rfl
theorem bytesOne : Try.prog.bytesOf 5 = 1 := by kernel_rfl

set_option maxRecDepth 100000 in
theorem lifted (os : Os) (started : os.Started) (H : Type) (enc : TypeId × Value → H) (F : Stop.Interp) :
    ReturnsInHanded {} Try.checked os 3 .any ((Rows.OpenSpec.upto Rows.wirePutsSpec).pre6 enc Try.prog Try.f3 Rows.wirePutsUptoRow.domain false) (((Rows.OpenSpec.upto Rows.wirePutsSpec).at F).post enc Try.prog Try.f3 false true false false) := by
  refine returnsInHanded_of_cond (C := Try.checked) (s := Rows.OpenSpec.upto Rows.wirePutsSpec) (k := Rows.uptoSmall) rfl own started (by kernel_rfl) Try.func3
    (OpenSpec.witness (enc := enc) (C := Try.checked) (s := Rows.OpenSpec.upto Rows.wirePutsSpec) (k := Rows.uptoSmall) rfl false ⟨#[], #[.slice none 0 0, .string ByteArray.empty, .int .i64 0, .bool false], []⟩ 8 (by kernel_rfl) (by kernel_rfl) (by kernel_rfl)
      (x := ([.nil, .lit (.string []), .lit (.int .i64 0), .lit (.bool false)], [], [])) (by kernel_rfl) rfl (by kernel_rfl)) ?_
  intro W base args ds gs before hval0 hW _ hk0 _
  have hval : ∀ (j : Nat) t v, Try.f3.params[j]? = some t → args[j]? = some v → Value.okWide Try.prog W .any base t v := hval0
  have hW' := hW
  obtain ⟨p, q, hA0, hV, rfl, hfz, hnd⟩ := hW
  have hA : DataW.TrodAll enc Try.prog W 0 (fun _ => true) true Try.f3.params.toList args.toList ds p := hA0
  rw [Try.params3] at hA hval
  obtain ⟨v0, vs0, d0, ds0, p0, q0, hargs, rfl, rfl, h0, r0⟩ := trodAll_cons hA
  obtain ⟨v1, vs1, d1, ds1, p1, q1, rfl, rfl, rfl, h1, r1⟩ := trodAll_cons r0
  obtain ⟨v2, vs2, d2, ds2, p2, q2, rfl, rfl, rfl, h2, r2⟩ := trodAll_cons r1
  obtain ⟨v3, vs3, d3, ds3, p3, q3, rfl, rfl, rfl, h3, r3⟩ := trodAll_cons r2
  obtain ⟨rfl, rfl, rfl⟩ := trodAll_nil r3
  obtain rfl : args = #[v0, v1, v2, v3] := by cases args; simp_all
  obtain ⟨rfl, rfl⟩ := trodVars_none hV
  have hk := bulk_bound hk0
  simp only [List.append_nil] at hk
  obtain ⟨a0, len0, cap0, rfl⟩ := okWide_slice Try.underlying22 (hval 0 22 v0 rfl rfl)
  have k0 := h0
  have lt0 : ∀ x ∈ p0, x.block < W.heap.size := by obtain ⟨m, hm⟩ := k0; exact DataW.trod_lt m _ _ _ hm
  obtain ⟨x0, w0, s0⟩ : ∃ xs : List UInt8, Rd W (.slice a0 len0 cap0) xs ∧ xs.length ≤ 1048576 := by
    obtain ⟨fuel, hf⟩ := h0
    rcases open_ints Try.underlying22 Try.underlying5 (by kernel_rfl) hf with ⟨hcs, _⟩ | ⟨x, l, c, zs, hcs, _, hl, hm, hz, hx, hcell, hwz⟩
    · simp [Value.cells] at hcs
      obtain ⟨rfl, rfl, rfl⟩ := hcs
      exact ⟨[], Rd.nil _, by simp⟩
    · simp [Value.cells] at hcs
      obtain ⟨rfl, rfl, rfl⟩ := hcs
      have hz' : zs.length = cap0 := by simpa using hz
      simp only [Prod.mk.injEq] at hx
      obtain ⟨rfl, _⟩ := hx
      have hb := bulk_slice (lits IntKind.u8 (zs.take len0)) (lits IntKind.u8 (zs.drop len0)) _ hk (by simp)
      simp only [lits, List.length_map, List.length_take] at hb
      exact ⟨_, rd_of_row hl hm hz' hcell hwz, by simp only [List.length_map, List.length_take]; omega⟩
  obtain ⟨a1, rfl, rfl, rfl, w1⟩ := open_string Try.underlying9 (hval 1 9 v1 rfl rfl) h1
  have s1 : a1.size ≤ 1048576 := by have := bulk_string _ _ hk (by simp : DataW.lit (.string a1.data.toList) ∈ _); simpa using this
  obtain ⟨a2, rfl, rfl, rfl, w2⟩ := open_int Try.underlying3 (hval 2 3 v2 rfl rfl) h2
  obtain ⟨a3, rfl, rfl, rfl⟩ := open_bool Try.underlying4 (hval 3 4 v3 rfl rfl) h3
  clear hA0 hval0
  refine (walk _ x0 a1 a2 a3 W w0 s0 s1 w2).mono fun e W' ⟨he, bel⟩ => ?_
  subst he
  exact ⟨_, rfl, _, _, _, [], _, [], hW', trodAll_mk1 (shut_bool Try.underlying4 _), (trodAll_cons_mk (Below.trod laidOut (by kernel_rfl) (of_decide_eq_true (by kernel_rfl)) k0 bel lt0) (trodAll_cons_mk (shut_string Try.underlying9 w1) (trodAll_cons_mk (shut_int Try.underlying3 w2) (trodAll_cons_mk (shut_bool Try.underlying4 _) trodAll_mk0)))), rfl, bel.frame _, fun h => by cases h⟩

/-- The statement. -/
theorem proved : Rows.WirePutsUptoSaid :=
  OpenClaim.holds_of_cond 3 Try.f3 rfl rfl rfl rfl rfl rfl rfl ⟨rfl, rfl, rfl, rfl, rfl⟩ rfl rfl rfl rfl rfl (by kernel_rfl) Try.func3 (by kernel_rfl)
    (of_decide_eq_true (by kernel_rfl)) (by unfold Func.isWrapper; first | (rw [if_pos (by decide +kernel)]; kernel_rfl) | (rw [if_neg (by decide +kernel)]; exact ⟨rfl, rfl⟩))
    (fun os started H enc _ F => lifted os started H enc F)
end Go.Proofs.Ytcljpapkinnhiaa.wirePuts
