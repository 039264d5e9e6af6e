/- roles: the law's own question (awake); May where the role is none. Written by tools/gengp.py. -/
import Derived.Test.YtkapelpbepejfaaGn
namespace Go.Proofs.Ytkapelpbepejfaa
open Go Go.RowKit Go.Deep Go.Shelf
set_option linter.unusedVariables false
set_option linter.unusedSimpArgs false

/-- The items of that model. -/
def itA : IT := .mk ⟨#[97]⟩ ⟨#[]⟩ 1 [] [] ⟨#[]⟩ ⟨#[]⟩ ⟨#[]⟩ false false 0 [⟨#[114]⟩] [] []
def itP : IT := .mk ⟨#[112]⟩ ⟨#[]⟩ 0 [] [] ⟨#[]⟩ ⟨#[]⟩ ⟨#[]⟩ false false 0 [] [itA] []
def mod0 : MT := ⟨⟨#[]⟩, ⟨#[]⟩, [⟨#[114]⟩], itP⟩
theorem chk_a : chkP 2 mod0 ⟨#[97]⟩ ⟨#[114]⟩ = 0 := by decide +kernel
theorem chk_b : chkP 2 mod0 ⟨#[97]⟩ ⟨#[]⟩ = 41 := by decide +kernel
theorem ok0 : okI 2 0 mod0.plan ∧ cntI 2 mod0.plan ≤ 260 := by
  constructor
  · simp [okI, mod0, itP, itA, IT.entry, IT.exit, IT.roles, IT.kids, IT.table]
  · simp [cntI, mod0, itP, itA, IT.kids, IT.table]
theorem okTA : OkT itA := ⟨by decide, by decide, by decide, by decide, by decide, by decide, by decide⟩
theorem okTP : OkT itP := ⟨by decide, by decide, by decide, by decide, by decide, by decide, by decide⟩
/-- It lies in memory so. -/
theorem mod0_in (w w0 : World) (hw0 : w0 = (((w.alloc (.cells #[.string ⟨#[114]⟩] 9)).alloc (.cells #[.string ⟨#[114]⟩] 9)).alloc (.cells #[.string ⟨#[97]⟩, .string ⟨#[]⟩, .int .i64 1, .slice none 0 0, .slice none 0 0, .string ⟨#[]⟩, .string ⟨#[]⟩, .string ⟨#[]⟩, .bool false, .bool false, .int .i64 0, .slice (some ⟨w.heap.size + 1, 0, none⟩) 1 1, .slice none 0 0, .slice none 0 0] 27)).alloc (.cells #[.string ⟨#[]⟩, .string ⟨#[]⟩, .slice (some ⟨w.heap.size, 0, none⟩) 1 1, .slice none 0 0, .string ⟨#[112]⟩, .string ⟨#[]⟩, .int .i64 0, .slice none 0 0, .slice none 0 0, .string ⟨#[]⟩, .string ⟨#[]⟩, .string ⟨#[]⟩, .bool false, .bool false, .int .i64 0, .slice none 0 0, .slice (some ⟨w.heap.size + 2, 0, none⟩) 1 1, .slice none 0 0] 29)) :
    ModelV AnyG w0 2 (#[.string ⟨#[]⟩, .string ⟨#[]⟩, .slice (some ⟨w.heap.size, 0, none⟩) 1 1, .slice none 0 0, .string ⟨#[112]⟩, .string ⟨#[]⟩, .int .i64 0, .slice none 0 0, .slice none 0 0, .string ⟨#[]⟩, .string ⟨#[]⟩, .string ⟨#[]⟩, .bool false, .bool false, .int .i64 0, .slice none 0 0, .slice (some ⟨w.heap.size + 2, 0, none⟩) 1 1, .slice none 0 0]).toList mod0 ∧ Below w.heap.size w w0 ∧ w0.heap[w.heap.size + 3]? = some (.cells #[.string ⟨#[]⟩, .string ⟨#[]⟩, .slice (some ⟨w.heap.size, 0, none⟩) 1 1, .slice none 0 0, .string ⟨#[112]⟩, .string ⟨#[]⟩, .int .i64 0, .slice none 0 0, .slice none 0 0, .string ⟨#[]⟩, .string ⟨#[]⟩, .string ⟨#[]⟩, .bool false, .bool false, .int .i64 0, .slice none 0 0, .slice (some ⟨w.heap.size + 2, 0, none⟩) 1 1, .slice none 0 0] 29 (0, 0)) := by
  have q0 : w0.heap[w.heap.size]? = some (.cells #[.string ⟨#[114]⟩] 9 (0, 0)) := by
    rw [hw0]
    exact (Below.heap_alloc _ _ _ (by simp; omega)).trans ((Below.heap_alloc _ _ _ (by simp; omega)).trans ((Below.heap_alloc _ _ _ (by simp)).trans (heap_alloc_new w _)))
  have q1 : w0.heap[w.heap.size + 1]? = some (.cells #[.string ⟨#[114]⟩] 9 (0, 0)) := by
    rw [hw0]
    exact (Below.heap_alloc _ _ _ (by simp)).trans ((Below.heap_alloc _ _ _ (by simp)).trans (by simpa using heap_alloc_new (w.alloc (.cells #[.string ⟨#[114]⟩] 9)) (.cells #[.string ⟨#[114]⟩] 9)))
  have q2 : w0.heap[w.heap.size + 2]? = some (.cells #[.string ⟨#[97]⟩, .string ⟨#[]⟩, .int .i64 1, .slice none 0 0, .slice none 0 0, .string ⟨#[]⟩, .string ⟨#[]⟩, .string ⟨#[]⟩, .bool false, .bool false, .int .i64 0, .slice (some ⟨w.heap.size + 1, 0, none⟩) 1 1, .slice none 0 0, .slice none 0 0] 27 (0, 0)) := by
    rw [hw0]
    exact (Below.heap_alloc _ _ _ (by simp)).trans (by simpa using heap_alloc_new ((w.alloc (.cells #[.string ⟨#[114]⟩] 9)).alloc (.cells #[.string ⟨#[114]⟩] 9)) (.cells #[.string ⟨#[97]⟩, .string ⟨#[]⟩, .int .i64 1, .slice none 0 0, .slice none 0 0, .string ⟨#[]⟩, .string ⟨#[]⟩, .string ⟨#[]⟩, .bool false, .bool false, .int .i64 0, .slice (some ⟨w.heap.size + 1, 0, none⟩) 1 1, .slice none 0 0, .slice none 0 0] 27))
  have q3 : w0.heap[w.heap.size + 3]? = some (.cells #[.string ⟨#[]⟩, .string ⟨#[]⟩, .slice (some ⟨w.heap.size, 0, none⟩) 1 1, .slice none 0 0, .string ⟨#[112]⟩, .string ⟨#[]⟩, .int .i64 0, .slice none 0 0, .slice none 0 0, .string ⟨#[]⟩, .string ⟨#[]⟩, .string ⟨#[]⟩, .bool false, .bool false, .int .i64 0, .slice none 0 0, .slice (some ⟨w.heap.size + 2, 0, none⟩) 1 1, .slice none 0 0] 29 (0, 0)) := by
    rw [hw0]
    simpa using heap_alloc_new (((w.alloc (.cells #[.string ⟨#[114]⟩] 9)).alloc (.cells #[.string ⟨#[114]⟩] 9)).alloc (.cells #[.string ⟨#[97]⟩, .string ⟨#[]⟩, .int .i64 1, .slice none 0 0, .slice none 0 0, .string ⟨#[]⟩, .string ⟨#[]⟩, .string ⟨#[]⟩, .bool false, .bool false, .int .i64 0, .slice (some ⟨w.heap.size + 1, 0, none⟩) 1 1, .slice none 0 0, .slice none 0 0] 27)) (.cells #[.string ⟨#[]⟩, .string ⟨#[]⟩, .slice (some ⟨w.heap.size, 0, none⟩) 1 1, .slice none 0 0, .string ⟨#[112]⟩, .string ⟨#[]⟩, .int .i64 0, .slice none 0 0, .slice none 0 0, .string ⟨#[]⟩, .string ⟨#[]⟩, .string ⟨#[]⟩, .bool false, .bool false, .int .i64 0, .slice none 0 0, .slice (some ⟨w.heap.size + 2, 0, none⟩) 1 1, .slice none 0 0] 29)
  have text : ∀ b, w0.heap[b]? = some (.cells #[.string ⟨#[114]⟩] 9 (0, 0)) → TextsD AnyG w0 (.slice (some ⟨b, 0, none⟩) 1 1) [⟨#[114]⟩] := fun b hb =>
    ⟨⟨rfl, by simp [tcells, Value.oneCell'], _, 1, rfl, Nat.le_refl _, by unfold maxLen; omega, by simp, fun _ => ⟨b, 0, rfl, trivial, (Array.getElem?_eq_some_iff.1 hb).1, fun j u hu => by
      have hj : j = 0 := by
        have := (List.getElem?_eq_some_iff.1 hu).1
        simpa [tcells] using this
      subst hj
      rw [cell_of_row w0 b (0 + 0) _ _ _ hb, ← hu]
      rfl⟩⟩, by simp⟩
  refine ⟨⟨_, 1, none, 0, 0, _, rfl, text _ q0, okTP, .slice none 0 0, .slice none 0 0, .slice none 0 0, .slice (some ⟨w.heap.size + 2, 0, none⟩) 1 1, .slice none 0 0, rfl, SentsD.nil _ _, SentsD.nil _ _, TextsD.nil _ _, ?_, ItemsD.nil _ _ _⟩, ?_, q3⟩
  · refine ⟨[([.string ⟨#[97]⟩, .string ⟨#[]⟩, .int .i64 1, .slice none 0 0, .slice none 0 0, .string ⟨#[]⟩, .string ⟨#[]⟩, .string ⟨#[]⟩, .bool false, .bool false, .int .i64 0, .slice (some ⟨w.heap.size + 1, 0, none⟩) 1 1, .slice none 0 0, .slice none 0 0], itA)], rfl, ⟨rfl, by simp [Value.oneCell'], _, 1, rfl, Nat.le_refl _, by unfold maxLen; omega, by simp, fun _ => ⟨w.heap.size + 2, 0, rfl, trivial, (Array.getElem?_eq_some_iff.1 q2).1, fun j u hu => ?_⟩⟩, by simp, fun p hp => ?_⟩
    · rw [cell_of_row w0 (w.heap.size + 2) (0 + j) _ _ _ q2, Nat.zero_add, ← hu]
      simp
    · simp only [List.mem_singleton] at hp
      subst hp
      exact ⟨okTA, .slice none 0 0, .slice none 0 0, .slice (some ⟨w.heap.size + 1, 0, none⟩) 1 1, .slice none 0 0, .slice none 0 0, rfl, SentsD.nil _ _, SentsD.nil _ _, text _ q1, ItemsD.nil _ _ _, ItemsD.nil _ _ _⟩
  · rw [hw0]
    exact ((((Below.refl _ _).alloc (Nat.le_refl _) _).alloc (by simp) _).alloc (by simp; omega) _).alloc (by simp; omega) _

set_option maxRecDepth 100000 in
set_option maxHeartbeats 2000000 in
theorem awake_c (w : World) : Calls Try.prog 7 #[] w fun e w' => e = .returned (.bool true) ∧ Below w.heap.size w w' := by
  obtain ⟨w0, hw0⟩ : ∃ y, y = (((w.alloc (.cells #[.string ⟨#[114]⟩] 9)).alloc (.cells #[.string ⟨#[114]⟩] 9)).alloc (.cells #[.string ⟨#[97]⟩, .string ⟨#[]⟩, .int .i64 1, .slice none 0 0, .slice none 0 0, .string ⟨#[]⟩, .string ⟨#[]⟩, .string ⟨#[]⟩, .bool false, .bool false, .int .i64 0, .slice (some ⟨w.heap.size + 1, 0, none⟩) 1 1, .slice none 0 0, .slice none 0 0] 27)).alloc (.cells #[.string ⟨#[]⟩, .string ⟨#[]⟩, .slice (some ⟨w.heap.size, 0, none⟩) 1 1, .slice none 0 0, .string ⟨#[112]⟩, .string ⟨#[]⟩, .int .i64 0, .slice none 0 0, .slice none 0 0, .string ⟨#[]⟩, .string ⟨#[]⟩, .string ⟨#[]⟩, .bool false, .bool false, .int .i64 0, .slice none 0 0, .slice (some ⟨w.heap.size + 2, 0, none⟩) 1 1, .slice none 0 0] 29) := ⟨_, rfl⟩
  obtain ⟨hm, hb, hq⟩ := mod0_in w w0 hw0
  have HCA := Lib.hid (fun (W : World) (hW : Below w0.heap.size w0 W) => check_c W _ mod0 ⟨#[97]⟩ ⟨#[114]⟩ (hm.below hW) ok0.1 ok0.2)
  have HCB := Lib.hid (fun (W : World) (hW : Below w0.heap.size w0 W) => check_c W _ mod0 ⟨#[97]⟩ ⟨#[]⟩ (hm.below hW) ok0.1 ok0.2)
  rw [chk_a] at HCA
  rw [chk_b] at HCB
  have HB := Lib.hid hb
  have HQ := Lib.hid hq
  have HW0 := Lib.hid hw0
  have HI := Lib.hid infoGM18
  clear hm hb hq hw0
  go_enter Try.func7, Try.ntmps7
  go_upto_region 2 with (fail)
  rw [← HW0.out]
  go_wp2_with (refine wpList_load_rowG (by rfl) 29 (Operand.tmp 1) rfl (w.heap.size + 3) rfl 29 _ (0, 0) _ HQ.out Try.underlying29 rfl HI.out ?_)
  refine (HCA.out w0 (Below.refl _ _)).mono ?_
  rintro e w1 ⟨rfl, hb1⟩
  have HB1 := Lib.hid hb1
  have HQ1 := Lib.hid ((hb1.block _ (Array.getElem?_eq_some_iff.1 HQ.out).1).trans HQ.out)
  clear hb1
  go_wp2_with (refine wpList_load_rowG (by rfl) 29 (Operand.tmp 1) rfl (w.heap.size + 3) rfl 29 _ (0, 0) _ HQ1.out Try.underlying29 rfl HI.out ?_)
  refine (HCB.out w1 HB1.out).mono ?_
  rintro e w2 ⟨rfl, hb2⟩
  have HB2 := Lib.hid (HB.out.trans ((HB1.out.trans (hb2.mono HB1.out.size)).mono HB.out.size))
  clear hb2
  go_wp2_with fail
  go_ret
  exact ⟨by rfl, HB2.out⟩

set_option maxRecDepth 100000 in
set_option maxHeartbeats 1000000 in
/-- May, of a role that may give no commands. -/
theorem may_no {S : Nat → Prop} {d : Nat} (w : World) (cs : List Value) (m : MT) (s : ByteArray) (hm : ModelV S w d cs m) (hs : standsB m s = false) : Calls Try.prog 13 #[.agg cs.toArray, .string s] w fun e w' => e = .returned (.slice none 0 0) ∧ Below w.heap.size w w' := by
  have HK := Lib.hid (fun (W : World) (hW : Below w.heap.size w W) => stands_c W cs m s (hm.below hW))
  rw [hs] at HK
  obtain ⟨mi, mn, mroles, plan⟩ := m
  obtain ⟨ra, rc, fa, fn, fc, pc, rfl, h1, h2⟩ := hm
  simp only at h1 h2 HK ⊢
  obtain ⟨i0, i1, i2, a3, n3, q3, a4, n4, q4, i5, i6, i7, i8, i9, i10, a11, n11, q11, a12, n12, q12, a13, n13, q13, rfl⟩ := h2.shape
  generalize mroles.length = rn at *
  clear h1 h2 hs
  simp only [List.cons_append, List.nil_append] at *
  obtain ⟨w0, hw0⟩ : ∃ y, y = w.alloc (.cells #[.string mi, .string mn, .slice ra rn rc, .slice fa fn fc, .string i0, .string i1, .int .i64 i2, .slice a3 n3 q3, .slice a4 n4 q4, .string i5, .string i6, .string i7, .bool i8, .bool i9, .int .i64 i10, .slice a11 n11 q11, .slice a12 n12 q12, .slice a13 n13 q13] 29) := ⟨_, rfl⟩
  have HW0 := Lib.hid hw0
  have HB0 := Lib.hid (show Below w.heap.size w w0 from by rw [hw0]; exact (Below.refl _ _).alloc (Nat.le_refl _) _)
  have h0 : w0.heap[w.heap.size]? = some (.cells #[.string mi, .string mn, .slice ra rn rc, .slice fa fn fc, .string i0, .string i1, .int .i64 i2, .slice a3 n3 q3, .slice a4 n4 q4, .string i5, .string i6, .string i7, .bool i8, .bool i9, .int .i64 i10, .slice a11 n11 q11, .slice a12 n12 q12, .slice a13 n13 q13] 29 (0, 0)) := by rw [hw0]; exact heap_alloc_new w _
  have HQ0 := Lib.hid h0
  have HI := Lib.hid infoGM18
  clear hw0 h0
  go_enter Try.func13, Try.ntmps13
  go_upto_region 1 with (fail)
  rw [← HW0.out]
  go_wp2_with (refine wpList_load_rowG (by rfl) 29 (Operand.tmp 2) rfl w.heap.size rfl 29 _ (0, 0) _ HQ0.out Try.underlying29 rfl HI.out ?_)
  refine (HK.out _ HB0.out).mono ?_
  rintro e w1 ⟨rfl, hb1⟩
  have HB1 := Lib.hid (HB0.out.trans (hb1.mono HB0.out.size))
  clear hb1
  go_wp2_with fail
  go_ret
  exact ⟨by rfl, HB1.out⟩
end Go.Proofs.Ytkapelpbepejfaa
