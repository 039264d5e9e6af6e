/- Proved: for all values a and b, integer n, string s, truth yes and bytes given of bulk at most 1048576, the law ValueMakes returns true: the makers, Can, Same, Write and Print answer as the reference does. Conditions: the decoder's two tables of unicode/utf8 hold what Go's text lays (the card ties them). -/
import Derived.Test.YtjablobdiglnpaaDoorKv
import Derived.Test.YtjablobdiglnpaaDoorKq
import Derived.Test.YtjablobdiglnpaaDoorKp
import Derived.Test.YtjablobdiglnpaaDoorBulk
import Derived.Test.YtjablobdiglnpaaDoorTb
import Derived.Deep.RegionHeld3
import Derived.ShutString
import Derived.ChangeOld
namespace Go.Proofs.YtjablobdiglnpaaDoor.valueMakes
open Go.ChangeShapes Go.WideShapes Go.ChangeAt Go.RowKit
open Go.ChangeMaps (open_string shut_string)
set_option linter.unusedVariables false

theorem keep2 {V V' : World} {i j : Nat} {a b : Obj} (hb : Below V.heap.size V V') (h : V.heap[i]? = some a ∧ V.heap[j]? = some b) : V'.heap[i]? = some a ∧ V'.heap[j]? = some b := ⟨keepB hb h.1, keepB hb h.2⟩
theorem keep2A {V : World} {i j : Nat} {a b : Obj} (h : V.heap[i]? = some a ∧ V.heap[j]? = some b) (o : Obj) : (V.alloc o).heap[i]? = some a ∧ (V.alloc o).heap[j]? = some b := keep2 (box_below V o) h
theorem heap8 (w : World) (o1 o2 o3 o4 o5 o6 o7 o8 : Obj) : ((((((((w.alloc o1).alloc o2).alloc o3).alloc o4).alloc o5).alloc o6).alloc o7).alloc o8).heap[w.heap.size]? = some o1 ∧ ((((((((w.alloc o1).alloc o2).alloc o3).alloc o4).alloc o5).alloc o6).alloc o7).alloc o8).heap[w.heap.size + 1]? = some o2 :=
  keep2A (keep2A (keep2A (keep2A (keep2A (keep2A ⟨heap_at2a w o1 o2, heap_at2b w o1 o2⟩ o3) o4) o5) o6) o7) o8
theorem below8 (w : World) (o1 o2 o3 o4 o5 o6 o7 o8 : Obj) : Below w.heap.size w ((((((((w.alloc o1).alloc o2).alloc o3).alloc o4).alloc o5).alloc o6).alloc o7).alloc o8) :=
  ((((((((Below.refl _ _).alloc (Nat.le_refl _) _).alloc (by simp) _).alloc (by simp; omega) _).alloc (by simp; omega) _).alloc (by simp; omega) _).alloc (by simp; omega) _).alloc (by simp; omega) _).alloc (by simp; omega) _

set_option maxRecDepth 100000 in
set_option maxHeartbeats 8000000 in
theorem walk (a b : Vl) (n : Int) (s : ByteArray) (yes : Bool) (gv : Value) (xs : List UInt8) (w : World) (hT : Tabs w) (ha : a.Ok) (la : a.s.size ≤ 1048576) (hb : b.Ok) (lb : b.s.size ≤ 1048576) (wn : (Lit.int .i64 n).wf = true) (hs : s.size ≤ 1048576) (hg : Rd w gv xs) (hx : xs.length ≤ 1048576) :
    Calls Tryd.prog 3 #[a.val, b.val, .int .i64 n, .string s, .bool yes, gv] w fun e w' => e = .returned (.bool true) ∧ Below w.heap.size w w' := by
  have HT := Lib.hid hT
  have HG := Lib.hid hg
  have HA := fun (w : World) (hT : Tabs w) => can_c w hT a
  have HB := fun (w : World) => rcan_c w a
  have HS := fun (w : World) => same_c w a b
  have HE := fun (w : World) => run_same w a b
  have HW := fun (w : World) (g : Rd w gv xs) => write_c w gv xs g hx a.k a.n a.y a.s ha.k ha.n la
  have HV := fun (w : World) (g : Rd w gv xs) => rwrite_c w gv xs g hx a.k a.n a.y a.s ha.k ha.n la
  have HP := fun (w : World) => print_c w a.k a.n a.y a.s ha.n la
  have HQ := fun (w : World) => rprint_c w a.k a.n a.y a.s ha.n la
  obtain ⟨ak, an, ay, sa⟩ := a
  obtain ⟨bk, bn, b3, sb⟩ := b
  obtain ⟨cb, hcb⟩ : ∃ c, c = canB ⟨ak, an, ay, sa⟩ := ⟨_, rfl⟩
  obtain ⟨q, hq⟩ : ∃ c, c = sameB ⟨ak, an, ay, sa⟩ ⟨bk, bn, b3, sb⟩ := ⟨_, rfl⟩
  simp only [Vl.val] at HA HB HS HE HW HV HP HQ
  rw [← hcb] at HA HB
  rw [← hq] at HS HE
  obtain ⟨pl, hpl⟩ : ∃ l, l = (⟨(printL ⟨ak, an, ay, sa⟩).toArray⟩ : ByteArray) := ⟨_, rfl⟩
  obtain ⟨wl, hwl⟩ : ∃ l, l = xs ++ writeL ⟨ak, an, ay, sa⟩ := ⟨_, rfl⟩
  rw [← hpl] at HP HQ
  rw [← hwl] at HW HV
  have HA' := Lib.hid HA
  have HB' := Lib.hid HB
  have HS' := Lib.hid HS
  have HW' := Lib.hid HW
  have HV' := Lib.hid HV
  have HP' := Lib.hid HP
  have HQ' := Lib.hid HQ
  have HAW := Lib.hid (fun (w : World) (hT : Tabs w) => awake_c w hT)
  have HZ := Lib.hid (below8 w)
  have HH := Lib.hid (heap8 w)
  have KP : ∀ w' : World, w'.heap[w.heap.size]? = some (.cells #[.int .i64 ak, .int .i64 an, .bool ay, .string sa] 23 (0, 0)) ∧ w'.heap[w.heap.size + 1]? = some (.cells #[.int .i64 bk, .int .i64 bn, .bool b3, .string sb] 23 (0, 0)) → w'.cell? ⟨w.heap.size, 0, none⟩ = some (.int .i64 ak) ∧ w'.cell? ⟨w.heap.size, 1, none⟩ = some (.int .i64 an) ∧ w'.cell? ⟨w.heap.size, 2, none⟩ = some (.bool ay) ∧ w'.cell? ⟨w.heap.size, 3, none⟩ = some (.string sa) ∧ w'.cell? ⟨w.heap.size + 1, 0, none⟩ = some (.int .i64 bk) ∧ w'.cell? ⟨w.heap.size + 1, 1, none⟩ = some (.int .i64 bn) ∧ w'.cell? ⟨w.heap.size + 1, 2, none⟩ = some (.bool b3) ∧ w'.cell? ⟨w.heap.size + 1, 3, none⟩ = some (.string sb) := fun w' h => by
    obtain ⟨p0, p1, p2, p3⟩ := cells4 h.1
    obtain ⟨q0, q1, q2, q3⟩ := cells4 h.2
    exact ⟨p0, p1, p2, p3, q0, q1, q2, q3⟩
  have HKP := Lib.hid KP
  clear KP HA HB HS HW HV HP HQ hT hg ha hb la lb wn hcb hq hpl hwl
  unfold Vl.val
  dsimp only
  go_enter Tryd.func3, Tryd.ntmps3
  go_wp2_with (first
    | (go_at_call 7; refine (vint_c _ _).mono ?_; rintro e w' ⟨rfl, rfl⟩)
    | (go_at_call 8; refine (rvint_c _ _).mono ?_; rintro e w' ⟨rfl, rfl⟩)
    | (go_at_call 9; refine (vbool_c _ _).mono ?_; rintro e w' ⟨rfl, rfl⟩)
    | (go_at_call 10; refine (rvbool_c _ _).mono ?_; rintro e w' ⟨rfl, rfl⟩)
    | (go_at_call 11; refine (vtext_c _ _).mono ?_; rintro e w' ⟨rfl, rfl⟩)
    | (go_at_call 12; refine (rvtext_c _ _).mono ?_; rintro e w' ⟨rfl, rfl⟩))
  go_region_held3 (fun w' => w'.cell? ⟨w.heap.size, 0, none⟩ = some (.int .i64 ak) ∧ w'.cell? ⟨w.heap.size, 1, none⟩ = some (.int .i64 an) ∧ w'.cell? ⟨w.heap.size, 2, none⟩ = some (.bool ay) ∧ w'.cell? ⟨w.heap.size, 3, none⟩ = some (.string sa) ∧ w'.cell? ⟨w.heap.size + 1, 0, none⟩ = some (.int .i64 bk) ∧ w'.cell? ⟨w.heap.size + 1, 1, none⟩ = some (.int .i64 bn) ∧ w'.cell? ⟨w.heap.size + 1, 2, none⟩ = some (.bool b3) ∧ w'.cell? ⟨w.heap.size + 1, 3, none⟩ = some (.string sb))
    (first | exact HKP.out _ (HH.out _ _ _ _ _ _ _ _) | exact HKP.out _ HB1.out | exact HKP.out _ HB2.out | exact HKP.out _ HB3.out | exact HKP.out _ HB4.out | exact HKP.out _ HB5.out | exact HKP.out _ HB7.out | exact HKP.out _ HB8.out | exact HKP.out _ HB9.out)
    (first
      | (go_at_call 13; refine (HA'.out _ (HT.out.below (HZ.out _ _ _ _ _ _ _ _).drew)).mono ?_; rintro e w1 ⟨rfl, hb⟩
         have HX1 := Lib.hid ((HZ.out _ _ _ _ _ _ _ _).drew.trans (hb.mono (HZ.out _ _ _ _ _ _ _ _).drew.size))
         have HB1 := Lib.hid (keep2 hb (HH.out _ _ _ _ _ _ _ _))
         clear hb)
      | (go_at_call 14; refine (HB'.out _).mono ?_; rintro e w2 ⟨rfl, hb⟩
         have HX2 := Lib.hid (HX1.out.trans (hb.mono HX1.out.size))
         have HB2 := Lib.hid (keep2 hb HB1.out)
         clear hb)
      | (go_at_call 15; refine (HS'.out _).mono ?_; rintro e w3 ⟨rfl, hb⟩
         have HX3 := Lib.hid (HX2.out.trans (hb.mono HX2.out.size))
         have HB3 := Lib.hid (keep2 hb HB2.out)
         clear hb)
      | (go_at_call 17; refine (HW'.out _ (HG.out.below HX3.out)).mono ?_; rintro e w4 ⟨v4, rfl, hr, hb⟩
         have HR4 := Lib.hid hr
         clear hr
         have HX4 := Lib.hid (HX3.out.trans (hb.mono HX3.out.size))
         have HB4 := Lib.hid (keep2 hb HB3.out)
         clear hb)
      | (go_at_call 18; refine (HV'.out _ (HG.out.below HX4.out)).mono ?_; rintro e w5 ⟨v5, rfl, hr, hb⟩
         have HR5 := Lib.hid hr
         have HR45 := Lib.hid (HR4.out.below hb)
         clear hr
         have HX5 := Lib.hid (HX4.out.trans (hb.mono HX4.out.size))
         have HB5 := Lib.hid (keep2 hb HB4.out)
         clear hb)
      | (go_at_call 16; refine (equal_c _ _ _ _ _ HR45.out HR5.out).mono ?_; rintro e w6 ⟨rfl, rfl⟩; rw [beq_self_eq_true])
      | (go_at_call 19; refine (HP'.out _).mono ?_; rintro e w7 ⟨rfl, hb⟩
         have HX7 := Lib.hid (HX5.out.trans (hb.mono HX5.out.size))
         have HB7 := Lib.hid (keep2 hb HB5.out)
         clear hb)
      | (go_at_call 20; refine (HQ'.out _).mono ?_; rintro e w8 ⟨rfl, hb⟩
         have HX8 := Lib.hid (HX7.out.trans (hb.mono HX7.out.size))
         have HB8 := Lib.hid (keep2 hb HB7.out)
         clear hb)
      | (go_at_call 21; refine (HAW.out _ (HT.out.below HX8.out)).mono ?_; rintro e w9 ⟨rfl, hb⟩
         have HX9 := Lib.hid (HX8.out.trans (hb.mono HX8.out.size))
         have HB9 := Lib.hid (keep2 hb HB8.out)
         clear hb)
      | fail "no arm")
  all_goals
    go_wp2_with fail
    go_ret
    exact ⟨rfl, HX9.out⟩

-- FRAME
theorem own : ownKnob Tryd.prog.godebug = none := by kernel_rfl
theorem laidOut : laidOutB Tryd.prog = true := by kernel_rfl
theorem bytesOne : Tryd.prog.bytesOf 5 = 1 := by kernel_rfl

theorem laid_met (os : Os) : laidMet Tryd.prog Rows.valueMakesUptoRow.laid ((laidWorld os).forCall (fun _ _ => 0) ⟨#[], #[.agg #[.int .i64 0, .int .i64 0, .bool false, .string ByteArray.empty], .agg #[.int .i64 0, .int .i64 0, .bool false, .string ByteArray.empty], .int .i64 0, .string ByteArray.empty, .bool false, .slice none 0 0], []⟩).memory :=
  laidMet_of_run' 8 (by kernel_rfl) (by kernel_rfl)
theorem reads (os : Os) {H : Type} (enc : TypeId × Value → H) : ∃ places, DataW.whole enc Tryd.prog ((laidWorld os).forCall (fun _ _ => 0) ⟨#[], #[.agg #[.int .i64 0, .int .i64 0, .bool false, .string ByteArray.empty], .agg #[.int .i64 0, .int .i64 0, .bool false, .string ByteArray.empty], .int .i64 0, .string ByteArray.empty, .bool false, .slice none 0 0], []⟩).memory Tryd.f3.params.toList Rows.valueMakesSpec.vars false (#[.agg #[.int .i64 0, .int .i64 0, .bool false, .string ByteArray.empty], .agg #[.int .i64 0, .int .i64 0, .bool false, .string ByteArray.empty], .int .i64 0, .string ByteArray.empty, .bool false, .slice none 0 0] : Array Value).toList 8 = some ([.agg [.lit (.int .i64 0), .lit (.int .i64 0), .lit (.bool false), .lit (.string [])], .agg [.lit (.int .i64 0), .lit (.int .i64 0), .lit (.bool false), .lit (.string [])], .lit (.int .i64 0), .lit (.string []), .lit (.bool false), .nil], [], places) :=
  ⟨[], by kernel_rfl⟩

set_option maxRecDepth 100000 in
theorem lifted (os : Os) (started : os.Started) (H : Type) (enc : TypeId × Value → H) (F : Stop.Interp) :
    ReturnsInHanded {} Tryd.checked os 3 .any ((Rows.OpenSpec.upto Rows.valueMakesSpec).preRow enc Tryd.prog Tryd.f3 Rows.valueMakesUptoRow.domain false Rows.valueMakesUptoRow.laid) (((Rows.OpenSpec.upto Rows.valueMakesSpec).at F).post enc Tryd.prog Tryd.f3 false true false false) := by
  obtain ⟨places, hx⟩ := reads os enc
  refine returnsInHanded_of_row (C := Tryd.checked) (s := Rows.OpenSpec.upto Rows.valueMakesSpec) own started (by kernel_rfl) Tryd.func3
    (witness_row_at (enc := enc) (C := Tryd.checked) false (laidWorld os) #[.agg #[.int .i64 0, .int .i64 0, .bool false, .string ByteArray.empty], .agg #[.int .i64 0, .int .i64 0, .bool false, .string ByteArray.empty], .int .i64 0, .string ByteArray.empty, .bool false, .slice none 0 0] rfl (by kernel_rfl) (by kernel_rfl) (by kernel_rfl)
      (OpenSpec.preRow_of_cond 8 hx (by kernel_rfl) (fun k hk => by cases hk; kernel_rfl) (by kernel_rfl) (laid_met os))) ?_
  intro W base args ds gs before hval0 hW hcnd hcond hsz0 hL _ _
  have hT := tabs_of hL
  have hk0 := hcond _ rfl
  have hval : ∀ (j : Nat) t v, Tryd.f3.params[j]? = some t → args[j]? = some v → Value.okWide Tryd.prog W .any base t v := hval0
  have hW' := hW
  obtain ⟨p, q, hA0, hV, rfl, hfz, hnd⟩ := hW
  have hA : DataW.TrodAll enc Tryd.prog W 0 (fun _ => true) true Tryd.f3.params.toList args.toList ds p := hA0
  rw [Tryd.params3] at hA hval
  obtain ⟨v0, vs0, d0, ds0, p0, q0, hargs, rfl, rfl, h0, r0⟩ := trodAll_cons hA
  obtain ⟨v1, vs1, d1, ds1, p1, q1, rfl, rfl, rfl, h1, r1⟩ := trodAll_cons r0
  obtain ⟨v2, vs2, d2, ds2, p2, q2, rfl, rfl, rfl, h2, r2⟩ := trodAll_cons r1
  obtain ⟨v3, vs3, d3, ds3, p3, q3, rfl, rfl, rfl, h3, r3⟩ := trodAll_cons r2
  obtain ⟨v4, vs4, d4, ds4, p4, q4, rfl, rfl, rfl, h4, r4⟩ := trodAll_cons r3
  obtain ⟨v5, vs5, d5, ds5, p5, q5, rfl, rfl, rfl, h5, r5⟩ := trodAll_cons r4
  obtain ⟨rfl, rfl, rfl⟩ := trodAll_nil r5
  obtain rfl : args = #[v0, v1, v2, v3, v4, v5] := by cases args; simp_all
  obtain ⟨rfl, rfl⟩ := trodVars_none hV
  have hk := bulk_bound hk0
  simp only [List.append_nil] at hk
  have k0 := h0
  have lt0 : ∀ x ∈ p0, x.block < W.heap.size := by obtain ⟨m, hm⟩ := k0; exact DataW.trod_lt m _ _ _ hm
  obtain ⟨x0, rfl, o0, da0, db0, dc0, rfl⟩ := value_open2 (hval 0 23 v0 rfl rfl) h0
  have l0 : x0.s.size ≤ 1048576 := bulk_value da0 db0 dc0 _ _ hk (by simp)
  have k1 := h1
  have lt1 : ∀ x ∈ p1, x.block < W.heap.size := by obtain ⟨m, hm⟩ := k1; exact DataW.trod_lt m _ _ _ hm
  obtain ⟨x1, rfl, o1, da1, db1, dc1, rfl⟩ := value_open2 (hval 1 23 v1 rfl rfl) h1
  have l1 : x1.s.size ≤ 1048576 := bulk_value da1 db1 dc1 _ _ hk (by simp)
  obtain ⟨a2, rfl, rfl, rfl, w2⟩ := open_int Tryd.underlying3 (hval 2 3 v2 rfl rfl) h2
  obtain ⟨a3, rfl, rfl, rfl, w3⟩ := open_string Tryd.underlying9 (hval 3 9 v3 rfl rfl) h3
  have s3 : a3.size ≤ 1048576 := by have := bulk_string _ _ hk (by simp : DataW.lit (.string a3.data.toList) ∈ _); simpa using this
  obtain ⟨a4, rfl, rfl, rfl⟩ := open_bool Tryd.underlying4 (hval 4 4 v4 rfl rfl) h4
  obtain ⟨a5, len5, cap5, rfl⟩ := okWide_slice Tryd.underlying24 (hval 5 24 v5 rfl rfl)
  have k5 := h5
  have lt5 : ∀ x ∈ p5, x.block < W.heap.size := by obtain ⟨m, hm⟩ := k5; exact DataW.trod_lt m _ _ _ hm
  obtain ⟨x5, w5, s5⟩ : ∃ xs : List UInt8, Rd W (.slice a5 len5 cap5) xs ∧ xs.length ≤ 1048576 := by
    obtain ⟨fuel, hf⟩ := h5
    rcases open_ints Tryd.underlying24 Tryd.underlying5 (by kernel_rfl) hf with ⟨hcs, _⟩ | ⟨x, l, c, zs, hcs, _, hl, hm, hz, hx, hcell, hwz⟩
    · simp [Value.cells] at hcs
      obtain ⟨rfl, rfl, rfl⟩ := hcs
      exact ⟨[], Rd.nil _, by simp⟩
    · simp [Value.cells] at hcs
      obtain ⟨rfl, rfl, rfl⟩ := hcs
      have hz' : zs.length = cap5 := by simpa using hz
      simp only [Prod.mk.injEq] at hx
      obtain ⟨rfl, _⟩ := hx
      have hb := bulk_slice (lits IntKind.u8 (zs.take len5)) (lits IntKind.u8 (zs.drop len5)) _ hk (by simp)
      simp only [lits, List.length_map, List.length_take] at hb
      exact ⟨_, rd_of_row hl hm hz' hcell hwz, by simp only [List.length_map, List.length_take]; omega⟩
  clear hA0 hval0
  refine (walk x0 x1 a2 a3 a4 _ x5 W hT o0 l0 o1 l1 w2 s3 w5 s5).mono fun e W' ⟨he, bel⟩ => ?_
  subst he
  exact ⟨_, rfl, _, _, _, [], _, [], hW', trodAll_mk1 (shut_bool Tryd.underlying4 _), (trodAll_cons_mk (Below.trod laidOut (by kernel_rfl) (of_decide_eq_true (by kernel_rfl)) k0 bel lt0) (trodAll_cons_mk (Below.trod laidOut (by kernel_rfl) (of_decide_eq_true (by kernel_rfl)) k1 bel lt1) (trodAll_cons_mk (shut_int Tryd.underlying3 w2) (trodAll_cons_mk (shut_string Tryd.underlying9 w3) (trodAll_cons_mk (shut_bool Tryd.underlying4 _) (trodAll_cons_mk (Below.trod laidOut (by kernel_rfl) (of_decide_eq_true (by kernel_rfl)) k5 bel lt5) trodAll_mk0)))))), rfl, bel.frame _, fun h => by cases h⟩

theorem said : Rows.ValueMakesUptoSaid :=
  OpenClaim.holds_of_cond 3 Tryd.f3 rfl rfl rfl rfl rfl rfl rfl ⟨rfl, rfl, rfl, rfl, rfl⟩ rfl rfl rfl rfl rfl (by kernel_rfl) Tryd.func3 (by kernel_rfl)
    (of_decide_eq_true (by kernel_rfl)) (by unfold Func.isWrapper; first | (rw [if_pos (by decide +kernel)]; kernel_rfl) | (rw [if_neg (by decide +kernel)]; exact ⟨rfl, rfl⟩))
    (fun os started H enc _ F => by rw [OpenClaim.pre_eq_preRow]; exact lifted os started H enc F)

theorem plain (f : FuncId) (fn : Func) (hf : Tryd.pinned.checked.prog.funcNamed "dossier/dossierlaw07.ValueMakes" = some f) (hfn : Tryd.pinned.checked.prog.funcs[f]? = some fn) :
    false = Tryd.pinned.checked.prog.looks [] ∧ ∀ (j : Nat) t, fn.params[j]? = some t → Tryd.pinned.checked.prog.wantsStandIn t = false := by
  obtain rfl : f = 3 := Option.some.inj ((show Tryd.prog.funcNamed "dossier/dossierlaw07.ValueMakes" = some 3 by kernel_rfl).symm.trans hf) |>.symm
  obtain rfl : fn = Tryd.f3 := (Option.some.inj (Tryd.func3.symm.trans hfn)).symm
  refine ⟨by kernel_rfl, fun j t ht => ?_⟩
  rw [Tryd.params3] at ht
  have hm := Array.mem_of_getElem? ht
  simp only [Array.mem_def, List.mem_cons, List.not_mem_nil, or_false] at hm
  rcases hm with rfl | rfl | rfl | rfl | rfl | rfl
  · exact (show Tryd.prog.wantsStandIn 23 = false by kernel_rfl)
  · exact (show Tryd.prog.wantsStandIn 23 = false by kernel_rfl)
  · exact (show Tryd.prog.wantsStandIn 3 = false by kernel_rfl)
  · exact (show Tryd.prog.wantsStandIn 9 = false by kernel_rfl)
  · exact (show Tryd.prog.wantsStandIn 4 = false by kernel_rfl)
  · exact (show Tryd.prog.wantsStandIn 24 = false by kernel_rfl)

/-- The statement: the card. -/
theorem proved : Rows.ValueMakesUptoCardSaid :=
  Claim7.holds_tied_plain_at .later [] _ _ _ _ said (fun _ h => by cases h) (by kernel_rfl) (fun _ h => by cases h) valueMakesUpto_row_tie rfl ⟨rfl, rfl⟩ (by kernel_rfl) rfl plain (by kernel_rfl)
end Go.Proofs.YtjablobdiglnpaaDoor.valueMakes
