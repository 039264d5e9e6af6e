/- RolesCheck: what is wrong with any role and item of any model, which roles it knows, and all that a role may work on, are the reference's: for every input. Written by tools/genrcheck.py. -/
import Derived.Test.YtkapelpbepejfaaGw
import Derived.Test.YtkapelpbepejfaaGz
import Derived.Test.YtkapelpbepejfaaBulk
import Derived.Test.YtkapelpbepejfaaHeldL
import Derived.ProofKit
import Derived.SizedLaws
import Derived.ShutString
import Derived.ChangeOld
namespace Go.Proofs.Ytkapelpbepejfaa.rolesCheck
open Go Go.RowKit Go.Deep Go.Shelf Go.ChangeShapes Go.WideShapes Go.ChangeAt Go.Proofs.Ytkapelpbepejfaa
open Go.ChangeMaps (open_string shut_string)
set_option linter.unusedVariables false
set_option linter.unusedSimpArgs false

theorem own_rdF {w : World} {base : Nat} {v : Value} {l : List ByteArray} (h : OwnS w base 9 1 v l.length (tcells l)) : RdF w v (tcellsF l) := by
  have hone : ∀ u ∈ tcells l, u.oneCell' = true := fun u hu => by
    simp only [tcells, List.mem_map] at hu
    obtain ⟨x, _, rfl⟩ := hu
    rfl
  obtain ⟨h1, _, a, c, hv, h2, h3, h4, h5⟩ := h.rdn hone
  have hl : (tcellsF l).length = l.length := by simp [tcellsF]
  refine ⟨a, c, by rw [hl]; exact hv, by rw [hl]; exact h2, h3, h4, fun hp => ?_⟩
  obtain ⟨b, o, ha, _, hlt, hx⟩ := h5 (by omega)
  refine ⟨b, o, ha, fun i hi => ?_⟩
  have e : (tcellsF l)[i]? = (tcells l)[i]? := rfl
  rw [e]
  rw [hl] at hi
  exact (hx i (.string l[i]) (by simp [tcells, List.getElem?_eq_getElem hi])).trans (by simp [tcells, List.getElem?_eq_getElem hi])
/-- A list as it reads. -/
def MayR (w : World) (l : List ByteArray) (e : Ending) (w' : World) : Prop := ∃ a n c, e = .returned (.slice a n c) ∧ RdF w' (.slice a n c) (tcellsF l) ∧ Below w.heap.size w w'
theorem mayR_of {w : World} {l : List ByteArray} {e : Ending} {w' : World} (h : MayE w l e w') : MayR w l e w' := by
  obtain ⟨v, rfl, ho, hb⟩ := h
  have hr := own_rdF ho
  obtain ⟨a, c, rfl, _⟩ := id hr
  exact ⟨_, _, _, rfl, hr, hb⟩
theorem may_c {S : Nat → Prop} {d : Nat} (w : World) (cs : List Value) (m : MT) (role : ByteArray) (hm : ModelV S w d cs m) (hok : okI d 0 m.plan) (hbud : cntI d m.plan ≤ 260) :
    Calls Try.prog 13 #[.agg cs.toArray, .string role] w (MayR w (mayF d m role (flatI d m.plan))) := by
  cases hs : standsB m role with
  | true => exact (may_yes w cs m role hm hs hok hbud).mono fun e w' h => mayR_of h
  | false =>
    refine (may_no w cs m role hm hs).mono ?_
    rintro e w' ⟨rfl, hb⟩
    have h0 : mayF d m role (flatI d m.plan) = [] := by
      unfold mayF
      rw [List.filter_eq_nil_iff.2]
      · rfl
      · intro x hx
        unfold chkP
        rw [hs]
        simp [chkI]
    rw [h0]
    exact ⟨_, _, _, rfl, ⟨none, 0, rfl, Nat.le_refl _, by unfold maxLen; omega, fun _ => rfl, fun h => by simp [tcellsF] at h⟩, hb⟩
theorem n_below (n : Nat) (w : World) : Below w.heap.size w (w.drewN n) := ⟨rfl, rfl, rfl, Nat.le_refl _, fun _ _ => rfl⟩
theorem equal_c (w : World) (v1 v2 : Value) (l : List ByteArray) (h1 : RdF w v1 (tcellsF l)) (h2 : RdF w v2 (tcellsF l)) : Calls Try.prog 12 #[v1, v2] w fun e w' => e = .returned (.bool true) ∧ Below w.heap.size w w' := by
  refine (eqsame_c w v1 v2 l h1 h2).mono ?_
  rintro e w' ⟨rfl, n, rfl⟩
  exact ⟨rfl, n_below n w⟩

set_option maxRecDepth 100000 in
set_option maxHeartbeats 8000000 in
theorem walk (cs : List Value) (m : MT) (d : Nat) (item role : ByteArray) (w : World) (hm : ModelF w d cs m) (s1 : item.size ≤ 140737488351232) (s2 : role.size ≤ 140737488351232) :
    Calls Try.prog 3 #[.agg cs.toArray, .string item, .string role] w fun e w' => e = .returned (.bool true) ∧ Below w.heap.size w w' := by
  have HMO := Lib.hid (fun (W : World) (hW : Below w.heap.size w W) => Model_c W cs m (hm.below hW))
  have HKN := Lib.hid (fun (W : World) (hW : Below w.heap.size w W) => known_c W cs m role (hm.v.below hW))
  have HRK := Lib.hid (fun (W : World) (hW : Below w.heap.size w W) => rknown_c W cs m role (hm.v.below hW))
  have HCK := Lib.hid (fun (W : World) (hW : Below w.heap.size w W) (hok : okI d 0 m.plan ∧ cntI d m.plan ≤ 260) => check_c W cs m item role (hm.v.below hW) hok.1 hok.2)
  have HRC := Lib.hid (fun (W : World) (hW : Below w.heap.size w W) (hok : okI d 0 m.plan ∧ cntI d m.plan ≤ 260) => rcheck_c w W cs m item role hm.v hW hok.2)
  have HMY := Lib.hid (fun (W : World) (hW : Below w.heap.size w W) (hok : okI d 0 m.plan ∧ cntI d m.plan ≤ 260) => may_c W cs m role (hm.v.below hW) hok.1 hok.2)
  have HRM := Lib.hid (fun (W : World) (hW : Below w.heap.size w W) (hok : okI d 0 m.plan ∧ cntI d m.plan ≤ 260) => (rmay_c w W cs m role hm.v hW hok.2).mono fun e w' h => mayR_of h)
  have HEQ := Lib.hid equal_c
  have HAW := Lib.hid awake_c
  obtain ⟨q, hq⟩ : ∃ q, q = inB role m.roles := ⟨_, rfl⟩
  rw [← hq] at HKN HRK
  obtain ⟨ok, hokk⟩ : ∃ P : Prop, P = (okI d 0 m.plan ∧ cntI d m.plan ≤ 260) := ⟨_, rfl⟩
  rw [← hokk] at HCK HRC HMY HRM
  have HMO2 := Lib.hid (fun (W : World) (hW : Below w.heap.size w W) => by have := HMO.out W hW; rw [← hokk] at this; exact this)
  obtain ⟨cc, hcc⟩ : ∃ c, c = chkP d m item role := ⟨_, rfl⟩
  rw [← hcc] at HCK HRC
  obtain ⟨ml, hml⟩ : ∃ l, l = mayF d m role (flatI d m.plan) := ⟨_, rfl⟩
  rw [← hml] at HMY HRM
  obtain ⟨mi, mn, mroles, plan⟩ := m
  obtain ⟨ra, rc, fa, fn, fc, pc, rfl, h1, h2, _⟩ := hm
  simp only at h1 h2 HMO2 HKN HRK HCK HRC HMY HRM ⊢
  obtain ⟨i0, i1, i2, a3, n3, q3, a4, n4, q4, i5, i6, i7, i8, i9, i10, a11, n11, q11, a12, n12, q12, a13, n13, q13, rfl⟩ := h2.shape
  generalize mroles.length = rn at *
  clear h1 h2 hq hokk HMO hcc hml s1 s2
  simp only [List.cons_append, List.nil_append] at *
  unfold MayR at HMY HRM
  obtain ⟨w0, hw0⟩ : ∃ y, y = w.alloc (.cells #[.string mi, .string mn, .slice ra rn rc, .slice fa fn fc, .string i0, .string i1, .int .i64 i2, .slice a3 n3 q3, .slice a4 n4 q4, .string i5, .string i6, .string i7, .bool i8, .bool i9, .int .i64 i10, .slice a11 n11 q11, .slice a12 n12 q12, .slice a13 n13 q13] 29) := ⟨_, rfl⟩
  have HW0 := Lib.hid hw0
  have HB0 := Lib.hid (show Below w.heap.size w w0 from by rw [hw0]; exact (Below.refl _ _).alloc (Nat.le_refl _) _)
  have h0 : w0.heap[w.heap.size]? = some (.cells #[.string mi, .string mn, .slice ra rn rc, .slice fa fn fc, .string i0, .string i1, .int .i64 i2, .slice a3 n3 q3, .slice a4 n4 q4, .string i5, .string i6, .string i7, .bool i8, .bool i9, .int .i64 i10, .slice a11 n11 q11, .slice a12 n12 q12, .slice a13 n13 q13] 29 (0, 0)) := by rw [hw0]; exact heap_alloc_new w _
  have HQ0 := Lib.hid h0
  have HI := Lib.hid infoGM18
  clear hw0 h0
  go_enter Try.func3, Try.ntmps3
  go_upto_region 1 with (fail)
  rw [← HW0.out]
  go_wp2_with (refine wpList_load_rowG (by rfl) 29 (Operand.tmp 3) rfl w.heap.size rfl 29 _ (0, 0) _ HQ0.out Try.underlying29 rfl HI.out ?_)
  refine (HMO2.out w0 HB0.out).mono ?_
  rintro e w1 ⟨qm, rfl, hb1, hqm⟩
  have HB1 := Lib.hid (HB0.out.trans (hb1.mono HB0.out.size))
  have HQ1 := Lib.hid ((hb1.block _ (Array.getElem?_eq_some_iff.1 HQ0.out).1).trans HQ0.out)
  have HQM := Lib.hid hqm
  clear hb1 hqm
  cases qm
  · go_wp2_with fail
    refine (HAW.out w1).mono ?_
    rintro e w2 ⟨rfl, hb2⟩
    have HB2 := Lib.hid (HB1.out.trans (hb2.mono HB1.out.size))
    clear hb2
    go_wp2_with fail
    go_ret
    exact ⟨by rfl, HB2.out⟩
  have HOK := Lib.hid (HQM.out (by trivial))
  have qc : (cc == cc) = true := by simp
  have qq : (q == q) = true := by simp
  have HWZ := Lib.hid (fun (W : World) (h : Below w1.heap.size w1 W) => HB1.out.trans (h.mono HB1.out.size))
  clear HQ0 HW0 HMO2 HQM HB0
  obtain ⟨A, hA⟩ : ∃ A : Array Value, A = #[.string mi, .string mn, .slice ra rn rc, .slice fa fn fc, .string i0, .string i1, .int .i64 i2, .slice a3 n3 q3, .slice a4 n4 q4, .string i5, .string i6, .string i7, .bool i8, .bool i9, .int .i64 i10, .slice a11 n11 q11, .slice a12 n12 q12, .slice a13 n13 q13] := ⟨_, rfl⟩
  have hi18 : (Try.prog.info? 29).map (·.size) = some A.size := by rw [hA]; exact HI.out
  have HI2 := Lib.hid hi18
  rw [← hA] at HCK HRC HKN HRK HMY HRM HQ1
  go_wp2_with fail
  simp only [← hA]
  have HQW := Lib.hid (fun (W : World) (h : Below w1.heap.size w1 W) => (h.block _ (Array.getElem?_eq_some_iff.1 HQ1.out).1).trans HQ1.out)
  clear hA hi18 HI HQ1
  refine wp_region_heldS (fun W => Below w1.heap.size w1 W) (n := 31) (by rfl) (by kernel_rfl) ((Below.refl w1.heap.size w1).drew) (fun hHeld => ?_)
  (refine wpAnyH_take (i := 0) rfl (by decide +kernel) (by decide +kernel) (by decide +kernel) (fun _ _ _ h => h) (yieldsIf_load_row (by rfl) _ (Operand.tmp 3) rfl w.heap.size rfl _ A (0, 0) _ (fun W hS => HQW.out W hS) Try.underlying29 rfl HI2.out) (by assumption) ?_; (try simp only [Act.put, List.getElem_toArray, List.getElem_cons_succ, List.getElem_cons_zero, List.setIfInBounds_toArray, List.set_cons_zero, List.set_cons_succ]))
  (refine wpAnyH_take (i := 1) (v := ?_) rfl (by decide +kernel) (by decide +kernel) (by decide +kernel) (fun _ _ _ h => h) (Or.inl ⟨by rfl, ?_⟩) (by assumption) ?_; rotate_left 1; (focus (intro w hSw; (try simp only [List.getElem_toArray, List.getElem_cons_succ, List.getElem_cons_zero]); first | (go_simp; done) | (go_simp; with_reducible rfl))); (try simp only [Act.put, List.getElem_toArray, List.getElem_cons_succ, List.getElem_cons_zero, List.setIfInBounds_toArray, List.set_cons_zero, List.set_cons_succ]))
  (refine wpAnyH_take (i := 2) (v := ?_) rfl (by decide +kernel) (by decide +kernel) (by decide +kernel) (fun _ _ _ h => h) (Or.inl ⟨by rfl, ?_⟩) (by assumption) ?_; rotate_left 1; (focus (intro w hSw; (try simp only [List.getElem_toArray, List.getElem_cons_succ, List.getElem_cons_zero]); first | (go_simp; done) | (go_simp; with_reducible rfl))); (try simp only [Act.put, List.getElem_toArray, List.getElem_cons_succ, List.getElem_cons_zero, List.setIfInBounds_toArray, List.set_cons_zero, List.set_cons_succ]))
  (refine wpAnyH_take (i := 4) rfl (by decide +kernel) (by decide +kernel) (by decide +kernel) (fun _ _ _ h => h) (yieldsIf_load_row (by rfl) _ (Operand.tmp 3) rfl w.heap.size rfl _ A (0, 0) _ (fun W hS => HQW.out W hS) Try.underlying29 rfl HI2.out) (by assumption) ?_; (try simp only [Act.put, List.getElem_toArray, List.getElem_cons_succ, List.getElem_cons_zero, List.setIfInBounds_toArray, List.set_cons_zero, List.set_cons_succ]))
  (refine wpAnyH_take (i := 5) (v := ?_) rfl (by decide +kernel) (by decide +kernel) (by decide +kernel) (fun _ _ _ h => h) (Or.inl ⟨by rfl, ?_⟩) (by assumption) ?_; rotate_left 1; (focus (intro w hSw; (try simp only [List.getElem_toArray, List.getElem_cons_succ, List.getElem_cons_zero]); first | (go_simp; done) | (go_simp; with_reducible rfl))); (try simp only [Act.put, List.getElem_toArray, List.getElem_cons_succ, List.getElem_cons_zero, List.setIfInBounds_toArray, List.set_cons_zero, List.set_cons_succ]))
  (refine wpAnyH_take (i := 6) (v := ?_) rfl (by decide +kernel) (by decide +kernel) (by decide +kernel) (fun _ _ _ h => h) (Or.inl ⟨by rfl, ?_⟩) (by assumption) ?_; rotate_left 1; (focus (intro w hSw; (try simp only [List.getElem_toArray, List.getElem_cons_succ, List.getElem_cons_zero]); first | (go_simp; done) | (go_simp; with_reducible rfl))); (try simp only [Act.put, List.getElem_toArray, List.getElem_cons_succ, List.getElem_cons_zero, List.setIfInBounds_toArray, List.set_cons_zero, List.set_cons_succ]))
  refine wpAnyH_ready (rs := [3]) (by decide +kernel) (by simp) ?_
  refine (AllReadyH.cons rfl (fun Kx hKx => ?_) AllReadyH.nil)
  go_simp
  go_at_call 8
  refine (HCK.out _ (HWZ.out _ ((Below.refl w1.heap.size w1).drew)) HOK.out).mono ?_
  rintro e v1 ⟨rfl, hb1⟩
  have hC1 : Below w1.heap.size w1 v1 := ((Below.refl w1.heap.size w1).drew).trans (hb1.mono ((Below.refl w1.heap.size w1).drew).size)
  refine hKx.out _ _ ?_ (fun hHeld => ?_)
  · exact hC1
  clear hKx Kx
  (try simp only [Act.put, List.getElem_toArray, List.getElem_cons_succ, List.getElem_cons_zero, List.setIfInBounds_toArray, List.set_cons_zero, List.set_cons_succ])
  refine wpAnyH_ready (rs := [7]) (by decide +kernel) (by simp) ?_
  refine (AllReadyH.cons rfl (fun Kx hKx => ?_) AllReadyH.nil)
  go_simp
  go_at_call 9
  refine (HRC.out _ (HWZ.out _ hC1) HOK.out).mono ?_
  rintro e v2 ⟨rfl, hb2⟩
  have hC2 : Below w1.heap.size w1 v2 := hC1.trans (hb2.mono hC1.size)
  refine hKx.out _ _ ?_ (fun hHeld => ?_)
  · exact hC2
  clear hKx Kx
  (try simp only [Act.put, List.getElem_toArray, List.getElem_cons_succ, List.getElem_cons_zero, List.setIfInBounds_toArray, List.set_cons_zero, List.set_cons_succ])
  (refine wpAnyH_take (i := 8) (v := ?_) rfl (by decide +kernel) (by decide +kernel) (by decide +kernel) (fun _ _ _ h => h) (Or.inl ⟨by rfl, ?_⟩) (by assumption) ?_; rotate_left 1; (focus (intro w hSw; (try simp only [List.getElem_toArray, List.getElem_cons_succ, List.getElem_cons_zero]); first | (go_simp; done) | (go_simp; with_reducible rfl))); (try simp only [Act.put, List.getElem_toArray, List.getElem_cons_succ, List.getElem_cons_zero, List.setIfInBounds_toArray, List.set_cons_zero, List.set_cons_succ]))
  (refine wpAnyH_take (i := 9) (v := ?_) rfl (by decide +kernel) (by decide +kernel) (by decide +kernel) (fun _ _ _ h => h) (Or.inl ⟨by rfl, ?_⟩) (by assumption) ?_; rotate_left 1; (focus (intro w hSw; (try simp only [List.getElem_toArray, List.getElem_cons_succ, List.getElem_cons_zero]); first | (go_simp; done) | (go_simp; with_reducible rfl))); (try simp only [Act.put, List.getElem_toArray, List.getElem_cons_succ, List.getElem_cons_zero, List.setIfInBounds_toArray, List.set_cons_zero, List.set_cons_succ]))
  (refine wpAnyH_take (i := 10) rfl (by decide +kernel) (by decide +kernel) (by decide +kernel) (fun _ _ _ h => h) (yieldsIf_load_row (by rfl) _ (Operand.tmp 3) rfl w.heap.size rfl _ A (0, 0) _ (fun W hS => HQW.out W hS) Try.underlying29 rfl HI2.out) (by assumption) ?_; (try simp only [Act.put, List.getElem_toArray, List.getElem_cons_succ, List.getElem_cons_zero, List.setIfInBounds_toArray, List.set_cons_zero, List.set_cons_succ]))
  (refine wpAnyH_take (i := 11) (v := ?_) rfl (by decide +kernel) (by decide +kernel) (by decide +kernel) (fun _ _ _ h => h) (Or.inl ⟨by rfl, ?_⟩) (by assumption) ?_; rotate_left 1; (focus (intro w hSw; (try simp only [List.getElem_toArray, List.getElem_cons_succ, List.getElem_cons_zero]); first | (go_simp; done) | (go_simp; with_reducible rfl))); (try simp only [Act.put, List.getElem_toArray, List.getElem_cons_succ, List.getElem_cons_zero, List.setIfInBounds_toArray, List.set_cons_zero, List.set_cons_succ]))
  (refine wpAnyH_take (i := 13) rfl (by decide +kernel) (by decide +kernel) (by decide +kernel) (fun _ _ _ h => h) (yieldsIf_load_row (by rfl) _ (Operand.tmp 3) rfl w.heap.size rfl _ A (0, 0) _ (fun W hS => HQW.out W hS) Try.underlying29 rfl HI2.out) (by assumption) ?_; (try simp only [Act.put, List.getElem_toArray, List.getElem_cons_succ, List.getElem_cons_zero, List.setIfInBounds_toArray, List.set_cons_zero, List.set_cons_succ]))
  (refine wpAnyH_take (i := 14) (v := ?_) rfl (by decide +kernel) (by decide +kernel) (by decide +kernel) (fun _ _ _ h => h) (Or.inl ⟨by rfl, ?_⟩) (by assumption) ?_; rotate_left 1; (focus (intro w hSw; (try simp only [List.getElem_toArray, List.getElem_cons_succ, List.getElem_cons_zero]); first | (go_simp; done) | (go_simp; with_reducible rfl))); (try simp only [Act.put, List.getElem_toArray, List.getElem_cons_succ, List.getElem_cons_zero, List.setIfInBounds_toArray, List.set_cons_zero, List.set_cons_succ]))
  refine wpAnyH_ready (rs := [12]) (by decide +kernel) (by simp) ?_
  refine (AllReadyH.cons rfl (fun Kx hKx => ?_) AllReadyH.nil)
  go_simp
  go_at_call 10
  refine (HKN.out _ (HWZ.out _ hC2)).mono ?_
  rintro e v3 ⟨rfl, hb3⟩
  have hC3 : Below w1.heap.size w1 v3 := hC2.trans (hb3.mono hC2.size)
  refine hKx.out _ _ ?_ (fun hHeld => ?_)
  · exact hC3
  clear hKx Kx
  (try simp only [Act.put, List.getElem_toArray, List.getElem_cons_succ, List.getElem_cons_zero, List.setIfInBounds_toArray, List.set_cons_zero, List.set_cons_succ])
  refine wpAnyH_ready (rs := [15]) (by decide +kernel) (by simp) ?_
  refine (AllReadyH.cons rfl (fun Kx hKx => ?_) AllReadyH.nil)
  go_simp
  go_at_call 11
  refine (HRK.out _ (HWZ.out _ hC3)).mono ?_
  rintro e v4 ⟨rfl, hb4⟩
  have hC4 : Below w1.heap.size w1 v4 := hC3.trans (hb4.mono hC3.size)
  refine hKx.out _ _ ?_ (fun hHeld => ?_)
  · exact hC4
  clear hKx Kx
  (try simp only [Act.put, List.getElem_toArray, List.getElem_cons_succ, List.getElem_cons_zero, List.setIfInBounds_toArray, List.set_cons_zero, List.set_cons_succ])
  (refine wpAnyH_take (i := 16) (v := ?_) rfl (by decide +kernel) (by decide +kernel) (by decide +kernel) (fun _ _ _ h => h) (Or.inl ⟨by rfl, ?_⟩) (by assumption) ?_; rotate_left 1; (focus (intro w hSw; (try simp only [List.getElem_toArray, List.getElem_cons_succ, List.getElem_cons_zero]); first | (go_simp; done) | (go_simp; with_reducible rfl))); (try simp only [Act.put, List.getElem_toArray, List.getElem_cons_succ, List.getElem_cons_zero, List.setIfInBounds_toArray, List.set_cons_zero, List.set_cons_succ]))
  (refine wpAnyH_take (i := 17) (v := ?_) rfl (by decide +kernel) (by decide +kernel) (by decide +kernel) (fun _ _ _ h => h) (Or.inl ⟨by rfl, ?_⟩) (by assumption) ?_; rotate_left 1; (focus (intro w hSw; (try simp only [List.getElem_toArray, List.getElem_cons_succ, List.getElem_cons_zero]); first | (go_simp; done) | (go_simp; with_reducible rfl))); (try simp only [Act.put, List.getElem_toArray, List.getElem_cons_succ, List.getElem_cons_zero, List.setIfInBounds_toArray, List.set_cons_zero, List.set_cons_succ]))
  (refine wpAnyH_take (i := 18) (v := ?_) rfl (by decide +kernel) (by decide +kernel) (by decide +kernel) (fun _ _ _ h => h) (Or.inl ⟨by rfl, ?_⟩) (by assumption) ?_; rotate_left 1; (focus (intro w hSw; (try simp only [List.getElem_toArray, List.getElem_cons_succ, List.getElem_cons_zero]); first | (go_simp; done) | (go_simp; with_reducible rfl))); (try simp only [Act.put, List.getElem_toArray, List.getElem_cons_succ, List.getElem_cons_zero, List.setIfInBounds_toArray, List.set_cons_zero, List.set_cons_succ]))
  (refine wpAnyH_take (i := 19) rfl (by decide +kernel) (by decide +kernel) (by decide +kernel) (fun _ _ _ h => h) (yieldsIf_load_row (by rfl) _ (Operand.tmp 3) rfl w.heap.size rfl _ A (0, 0) _ (fun W hS => HQW.out W hS) Try.underlying29 rfl HI2.out) (by assumption) ?_; (try simp only [Act.put, List.getElem_toArray, List.getElem_cons_succ, List.getElem_cons_zero, List.setIfInBounds_toArray, List.set_cons_zero, List.set_cons_succ]))
  (refine wpAnyH_take (i := 20) (v := ?_) rfl (by decide +kernel) (by decide +kernel) (by decide +kernel) (fun _ _ _ h => h) (Or.inl ⟨by rfl, ?_⟩) (by assumption) ?_; rotate_left 1; (focus (intro w hSw; (try simp only [List.getElem_toArray, List.getElem_cons_succ, List.getElem_cons_zero]); first | (go_simp; done) | (go_simp; with_reducible rfl))); (try simp only [Act.put, List.getElem_toArray, List.getElem_cons_succ, List.getElem_cons_zero, List.setIfInBounds_toArray, List.set_cons_zero, List.set_cons_succ]))
  (refine wpAnyH_take (i := 22) rfl (by decide +kernel) (by decide +kernel) (by decide +kernel) (fun _ _ _ h => h) (yieldsIf_load_row (by rfl) _ (Operand.tmp 3) rfl w.heap.size rfl _ A (0, 0) _ (fun W hS => HQW.out W hS) Try.underlying29 rfl HI2.out) (by assumption) ?_; (try simp only [Act.put, List.getElem_toArray, List.getElem_cons_succ, List.getElem_cons_zero, List.setIfInBounds_toArray, List.set_cons_zero, List.set_cons_succ]))
  (refine wpAnyH_take (i := 23) (v := ?_) rfl (by decide +kernel) (by decide +kernel) (by decide +kernel) (fun _ _ _ h => h) (Or.inl ⟨by rfl, ?_⟩) (by assumption) ?_; rotate_left 1; (focus (intro w hSw; (try simp only [List.getElem_toArray, List.getElem_cons_succ, List.getElem_cons_zero]); first | (go_simp; done) | (go_simp; with_reducible rfl))); (try simp only [Act.put, List.getElem_toArray, List.getElem_cons_succ, List.getElem_cons_zero, List.setIfInBounds_toArray, List.set_cons_zero, List.set_cons_succ]))
  refine wpAnyH_ready (rs := [21]) (by decide +kernel) (by simp) ?_
  refine (AllReadyH.cons rfl (fun Kx hKx => ?_) AllReadyH.nil)
  go_simp
  go_at_call 13
  refine (HMY.out _ (HWZ.out _ hC4) HOK.out).mono ?_
  rintro e v5 ⟨a5, n5, c5, rfl, hr5, hb5⟩
  have hC5 : Below w1.heap.size w1 v5 := hC4.trans (hb5.mono hC4.size)
  refine hKx.out _ _ ?_ (fun hHeld => ?_)
  · exact hC5
  clear hKx Kx
  (try simp only [Act.put, List.getElem_toArray, List.getElem_cons_succ, List.getElem_cons_zero, List.setIfInBounds_toArray, List.set_cons_zero, List.set_cons_succ])
  refine wpAnyH_ready (rs := [24]) (by decide +kernel) (by simp) ?_
  refine (AllReadyH.cons rfl (fun Kx hKx => ?_) AllReadyH.nil)
  go_simp
  go_at_call 14
  refine (HRM.out _ (HWZ.out _ hC5) HOK.out).mono ?_
  rintro e v6 ⟨a6, n6, c6, rfl, hr6, hb6⟩
  have hC6 : Below w1.heap.size w1 v6 := hC5.trans (hb6.mono hC5.size)
  have HR6 := Lib.hid hr6
  have HR5 := Lib.hid (hr5.below hb6)
  clear hr6 hr5
  refine hKx.out _ _ ?_ (fun hHeld => ?_)
  · exact hC6
  clear hKx Kx
  (try simp only [Act.put, List.getElem_toArray, List.getElem_cons_succ, List.getElem_cons_zero, List.setIfInBounds_toArray, List.set_cons_zero, List.set_cons_succ])
  refine wpAnyH_ready (rs := [25]) (by decide +kernel) (by simp) ?_
  refine (AllReadyH.cons rfl (fun Kx hKx => ?_) AllReadyH.nil)
  go_simp
  go_at_call 12
  refine (HEQ.out _ _ _ ml HR5.out HR6.out).mono ?_
  rintro e v7 ⟨rfl, hb7⟩
  have hC7 : Below w1.heap.size w1 v7 := hC6.trans (hb7.mono hC6.size)
  refine hKx.out _ _ ?_ (fun hHeld => ?_)
  · exact hC7
  clear hKx Kx
  (try simp only [Act.put, List.getElem_toArray, List.getElem_cons_succ, List.getElem_cons_zero, List.setIfInBounds_toArray, List.set_cons_zero, List.set_cons_succ])
  (refine wpAnyH_take (i := 26) (v := ?_) rfl (by decide +kernel) (by decide +kernel) (by decide +kernel) (fun _ _ _ h => h) (Or.inl ⟨by rfl, ?_⟩) (by assumption) ?_; rotate_left 1; (focus (intro w hSw; (try simp only [List.getElem_toArray, List.getElem_cons_succ, List.getElem_cons_zero]); first | (go_simp; done) | (go_simp; with_reducible rfl))); (try simp only [Act.put, List.getElem_toArray, List.getElem_cons_succ, List.getElem_cons_zero, List.setIfInBounds_toArray, List.set_cons_zero, List.set_cons_succ]))
  (refine wpAnyH_take (i := 27) (v := ?_) rfl (by decide +kernel) (by decide +kernel) (by decide +kernel) (fun _ _ _ h => h) (Or.inl ⟨by rfl, ?_⟩) (by assumption) ?_; rotate_left 1; (focus (intro w hSw; (try simp only [List.getElem_toArray, List.getElem_cons_succ, List.getElem_cons_zero]); first | (go_simp; done) | (go_simp; with_reducible rfl))); (try simp only [Act.put, List.getElem_toArray, List.getElem_cons_succ, List.getElem_cons_zero, List.setIfInBounds_toArray, List.set_cons_zero, List.set_cons_succ]))
  refine wpAnyH_ready (rs := [28]) (by decide +kernel) (by simp) ?_
  refine (AllReadyH.cons rfl (fun Kx hKx => ?_) AllReadyH.nil)
  go_simp
  go_at_call 7
  refine (HAW.out _).mono ?_
  rintro e v8 ⟨rfl, hb8⟩
  have hC8 : Below w1.heap.size w1 v8 := hC7.trans (hb8.mono hC7.size)
  refine hKx.out _ _ ?_ (fun hHeld => ?_)
  · exact hC8
  clear hKx Kx
  (try simp only [Act.put, List.getElem_toArray, List.getElem_cons_succ, List.getElem_cons_zero, List.setIfInBounds_toArray, List.set_cons_zero, List.set_cons_succ])
  (refine wpAnyH_take (i := 29) (v := ?_) rfl (by decide +kernel) (by decide +kernel) (by decide +kernel) (fun _ _ _ h => h) (Or.inl ⟨by rfl, ?_⟩) (by assumption) ?_; rotate_left 1; (focus (intro w hSw; (try simp only [List.getElem_toArray, List.getElem_cons_succ, List.getElem_cons_zero]); first | (go_simp; done) | (go_simp; with_reducible rfl))); (try simp only [Act.put, List.getElem_toArray, List.getElem_cons_succ, List.getElem_cons_zero, List.setIfInBounds_toArray, List.set_cons_zero, List.set_cons_succ]))
  (refine wpAnyH_take (i := 30) (v := ?_) rfl (by decide +kernel) (by decide +kernel) (by decide +kernel) (fun _ _ _ h => h) (Or.inl ⟨by rfl, ?_⟩) (by assumption) ?_; rotate_left 1; (focus (intro w hSw; (try simp only [List.getElem_toArray, List.getElem_cons_succ, List.getElem_cons_zero]); first | (go_simp; done) | (go_simp; with_reducible rfl))); (try simp only [Act.put, List.getElem_toArray, List.getElem_cons_succ, List.getElem_cons_zero, List.setIfInBounds_toArray, List.set_cons_zero, List.set_cons_succ]))
  refine wpAnyH_done (by decide +kernel) ?_ _
  go_wp2_with fail
  go_ret
  exact ⟨by rfl, HWZ.out _ hC8⟩

-- FRAME
theorem own : ownKnob Try.prog.godebug = none := by kernel_rfl
theorem laidOut : laidOutB Try.prog = true := by kernel_rfl

set_option maxRecDepth 100000 in
theorem lifted (os : Os) (started : os.Started) (H : Type) (enc : TypeId × Value → H) :
    ReturnsInHanded {} Try.checked os 3 .any (Rows.rolesCheckSpec.pre6 enc Try.prog Try.f3 Rows.rolesCheckRow.domain false) (Rows.rolesCheckSpec.post enc Try.prog Try.f3 false true false false) := by
  refine returnsInHanded_of_change_sized (C := Try.checked) own started (by kernel_rfl) Try.func3
    (ChangeSpec.witness6 (enc := enc) (C := Try.checked) false ⟨#[], #[.agg #[.string ByteArray.empty, .string ByteArray.empty, .slice none 0 0, .slice none 0 0, .string ByteArray.empty, .string ByteArray.empty, .int .i64 0, .slice none 0 0, .slice none 0 0, .string ByteArray.empty, .string ByteArray.empty, .string ByteArray.empty, .bool false, .bool false, .int .i64 0, .slice none 0 0, .slice none 0 0, .slice none 0 0], .string ByteArray.empty, .string ByteArray.empty], []⟩ 8 (by kernel_rfl) (by kernel_rfl) (by kernel_rfl) (by kernel_rfl)) ?_
  intro W base args ds gs before hval0 hW hcnd hsz0 _
  have hsz : (DataW.weightsEach Try.prog (Try.f3.params.toList ++ Rows.rolesCheckSpec.plain.varTypes Try.prog) (ds ++ gs)).all (· ≤ reachBytes) = true := hsz0
  have hval : ∀ (j : Nat) t v, Try.f3.params[j]? = some t → args[j]? = some v → Value.okWide Try.prog W .any base t v := hval0
  have hW' := hW
  obtain ⟨p, q, hA0, hV, rfl, hfz, hnd⟩ := hW
  have hA : DataW.TrodAll enc Try.prog W 0 (fun _ => true) true Try.f3.params.toList args.toList ds p := hA0
  rw [Try.params3] at hA hval hsz
  obtain ⟨v0, vs0, d0, ds0, p0, q0, hargs, rfl, rfl, h0, r0⟩ := trodAll_cons hA
  obtain ⟨v1, vs1, d1, ds1, p1, q1, rfl, rfl, rfl, h1, r1⟩ := trodAll_cons r0
  obtain ⟨v2, vs2, d2, ds2, p2, q2, rfl, rfl, rfl, h2, r2⟩ := trodAll_cons r1
  obtain ⟨rfl, rfl, rfl⟩ := trodAll_nil r2
  obtain rfl : args = #[v0, v1, v2] := by cases args; simp_all
  obtain ⟨rfl, rfl⟩ := trodVars_none hV
  have k0 := h0
  have lt0 : ∀ x ∈ p0, x.block < W.heap.size := by obtain ⟨m, hm⟩ := k0; exact DataW.trod_lt m _ _ _ hm
  obtain ⟨c0, x0, dd0, rfl, o0⟩ := model_open (hval 0 29 v0 rfl rfl) h0 (fun n hn => of_decide_eq_true (List.all_eq_true.1 hsz _ (DataW.weights_mem_each (j := 0) rfl rfl n hn)))
  obtain ⟨a1, rfl, rfl, rfl, w1⟩ := open_string Try.underlying9 (hval 1 9 v1 rfl rfl) h1
  have s1 : a1.size ≤ 140737488351232 := by have := sized_string hsz (j := 1) (t := 9) rfl rfl; simpa [reachBytes] using this
  obtain ⟨a2, rfl, rfl, rfl, w2⟩ := open_string Try.underlying9 (hval 2 9 v2 rfl rfl) h2
  have s2 : a2.size ≤ 140737488351232 := by have := sized_string hsz (j := 2) (t := 9) rfl rfl; simpa [reachBytes] using this
  clear hA0 hval0
  refine (walk c0 x0 dd0 a1 a2 W o0 s1 s2).mono fun e W' ⟨he, bel⟩ => ?_
  subst he
  exact ⟨_, rfl, _, _, _, [], _, [], hW', trodAll_mk1 (shut_bool Try.underlying4 _), (trodAll_cons_mk (Below.trod laidOut (by kernel_rfl) (of_decide_eq_true (by kernel_rfl)) k0 bel lt0) (trodAll_cons_mk (shut_string Try.underlying9 w1) (trodAll_cons_mk (shut_string Try.underlying9 w2) trodAll_mk0))), rfl, bel.frame _, fun h => by cases h⟩

/-- The statement. -/
theorem proved : Rows.RolesCheckSaid :=
  OpenClaim.holds_of_wide 3 Try.f3 rfl rfl rfl rfl rfl rfl rfl ⟨rfl, rfl, rfl, rfl, rfl⟩ rfl rfl rfl rfl rfl (by kernel_rfl) Try.func3 (by kernel_rfl)
    (of_decide_eq_true (by kernel_rfl)) (by unfold Func.isWrapper; first | (rw [if_pos (by decide +kernel)]; kernel_rfl) | (rw [if_neg (by decide +kernel)]; exact ⟨rfl, rfl⟩))
    (fun os started H enc _ => lifted os started H enc)
end Go.Proofs.Ytkapelpbepejfaa.rolesCheck
