/- Cases in order: the search where an instance may have many latches; the mathematics of putting: what was put is found, the paths stay, the order stays. Written by tools/genwg.py. -/
import Derived.Test.YtncloiimbclklaaWf
namespace Go.Proofs.Ytncloiimbclklaa
open Go Go.RowKit Go.Shelf
set_option linter.unusedVariables false
set_option linter.unusedSimpArgs false

set_option maxRecDepth 100000 in
set_option maxHeartbeats 2000000 in
theorem findB_c (w : World) (c : CV) (h : CVok w c) (p : ByteArray) (hs : ∀ x ∈ c.insts, x.ls.length ≤ 17592186044416) : Calls Try.prog 8 #[c.val, .string p] w (FoundAs w (c.insts.find? (hasP p))) := by
  obtain ⟨R, hR⟩ : ∃ R, R = c.insts.find? (hasP p) := ⟨_, rfl⟩
  have HR := Lib.hid hR
  rw [← hR]
  have HI := Lib.hid h.insts
  have hl := h.insts.1
  have HS := Lib.hid hs
  obtain ⟨id, mo, iv, dv, cl, is, ds⟩ := c
  dsimp only at HR HI HS hl
  obtain ⟨a, ca, hiv, hn1, hn2, _, _⟩ := hl
  subst hiv
  have hn : is.length ≤ 9223372036854775807 := by unfold maxLen at hn2; omega
  unfold CV.val
  dsimp only
  obtain ⟨w0, hw0⟩ : ∃ x, x = (w.alloc (.cells #[.int .i64 id, .string mo, .slice a is.length ca, dv, .int .i64 cl] 25)).alloc (.cells #[.string ⟨#[]⟩, .string ⟨#[]⟩, .int .i64 0, .int .i64 0, .slice none 0 0, .int .i64 0] 30) := ⟨_, rfl⟩
  have HBW := Lib.hid (show Below w.heap.size w w0 from by rw [hw0]; exact (box_bel' w _).alloc (box_bel' w _).size _)
  have HQ := Lib.hid (show w0.heap[w.heap.size + 1]? = some (.cells #[.string ⟨#[]⟩, .string ⟨#[]⟩, .int .i64 0, .int .i64 0, .slice none 0 0, .int .i64 0] 30 (0, 0)) from by rw [hw0]; exact two_new w _ _)
  have HQ0 := Lib.hid (show w0.heap[w.heap.size]? = some (.cells #[.int .i64 id, .string mo, .slice a is.length ca, dv, .int .i64 cl] 25 (0, 0)) from by rw [hw0]; exact two_old w _ _)
  have HSW := Lib.hid (show w0.heap.size = w.heap.size + 2 from by rw [hw0]; simp)
  have HC := Lib.hid (index_c w0 (.slice a is.length ca) is (HI.out.below HBW.out) p)
  have HW0 := Lib.hid hw0
  clear h hR hs hn1 hn2 hw0
  go_enter Try.func8, Try.ntmps8
  go_wp2_with fail
  rw [← HW0.out]
  refine (HC.out).mono ?_
  rintro e w2 ⟨⟨z, rfl, hz⟩, hb⟩
  have HB2 := Lib.hid hb
  have hq0 := (hb.block w.heap.size (by rw [HSW.out]; omega)).trans HQ0.out
  have hq1 := (hb.block (w.heap.size + 1) (by rw [HSW.out]; omega)).trans HQ.out
  have HQ2 := Lib.hid hq1
  obtain ⟨q0, q1, q2, q3, q4⟩ := cellsC hq0
  obtain ⟨z0, z1, z2, z3, z4, z5, zz⟩ := cells6 hq1
  clear hb hq0 hq1
  rcases hz with ⟨rfl, hz⟩ | ⟨k, hlt, rfl, hz⟩
  · have HE := Lib.hid (show R = none from by rw [HR.out]; exact hz)
    clear hz
    go_wp2_with fail
    refine bodyPost_ret (results_pfind _ _ (w.heap.size + 1) _ _ _ _ _ _ false rfl rfl (putI_at HQ2.out _ _ _ _ _ _)) rfl ?_
    rw [HE.out]
    exact ⟨rfl, putI_below (HBW.out.trans (HB2.out.mono HBW.out.size)) (Nat.le_succ _) _ _ _ _ _ _⟩
  · obtain ⟨x, hx⟩ : ∃ x, x = is[k] := ⟨_, rfl⟩
    have HX := Lib.hid hx
    have hrow : rowI is k = x.cells := by unfold rowI; rw [List.getElem?_eq_getElem hlt, ← hx]; rfl
    have hxo := HI.out.2 x (by rw [hx]; exact List.getElem_mem hlt)
    have HXO := Lib.hid ((hxo.below HBW.out).below HB2.out)
    have HX4 := Lib.hid (HS.out x (by rw [hx]; exact List.getElem_mem hlt))
    rw [← hx] at hz
    obtain ⟨pl, cp, hlv⟩ := hxo.rl.form
    obtain ⟨path, item, st, bf, lv, ls, due⟩ := x
    dsimp only at hlv HX4
    subst hlv
    obtain ⟨g, o, ha, hg, c0, c1, c2, c3, c4, c5⟩ := ((HI.out.1.below HBW.out).below HB2.out).row hlt hrow
    subst ha
    have HE := Lib.hid (show R = some ⟨path, item, st, bf, .slice pl (icells ls).length cp, ls, due⟩ from by rw [HR.out]; exact hz)
    have HC2 := Lib.hid (show Calls Try.prog 30 #[.agg #[.string path, .string item, .int .i64 st, .int .i64 bf, .slice pl (icells ls).length cp, .int .i64 due]] w2 (CopyAs w2 ⟨path, item, st, bf, .slice pl (icells ls).length cp, ls, due⟩) from copiedB_c w2 ⟨path, item, st, bf, .slice pl (icells ls).length cp, ls, due⟩ HXO.out HX4.out)
    clear hrow hxo hx hz
    have hd : decide ((k : Int) < 0) = false := decide_eq_false (by omega)
    go_wp2_with fail
    refine (HC2.out).mono ?_
    rintro e w3 ⟨v', rfl, hown, hb3⟩
    clear q0 q1 q2 q3 q4 z0 z1 z2 z3 z4 z5 zz c0 c1 c2 c3 c4 c5
    have hb4 : Below w0.heap.size w0 w3 := HB2.out.trans (hb3.mono HB2.out.size)
    have hq4 := (hb4.block (w.heap.size + 1) (by rw [HSW.out]; omega)).trans HQ.out
    obtain ⟨z0, z1, z2, z3, z4, z5, zz⟩ := cells6 hq4
    have HQ4 := Lib.hid hq4
    have HB4 := Lib.hid hb4
    have HOW := Lib.hid hown
    obtain ⟨pa, cc, hv', _⟩ := hown.form
    dsimp only at hv'
    subst hv'
    clear hown hb3 hb4 hq4
    go_wp2_with fail
    refine bodyPost_ret (results_pfind _ _ (w.heap.size + 1) _ _ _ _ _ _ true rfl rfl (putI_at HQ4.out _ _ _ _ _ _)) rfl ?_
    rw [HE.out]
    refine ⟨_, rfl, ?_, putI_below (HBW.out.trans (HB4.out.mono HBW.out.size)) (Nat.le_succ _) _ _ _ _ _ _⟩
    refine (HOW.out.keep (fun g hg => ?_)).up (Nat.le_trans HBW.out.size HB2.out.size)
    have hge := HOW.out.base g hg
    have h1 := HB2.out.size
    have h2 := HSW.out
    exact putI_far _ _ _ (by omega) _ _ _ _ _ _

def ordI (x y : IV) : Int := ordF x.path.data.toList y.path.data.toList
/-- In order: none of a later path stands right ahead of another. -/
def Ord (l : List IV) : Prop := ∀ i (h : i + 1 < l.length), 0 ≤ ordI l[i + 1] l[i]
theorem hasP_eq {p : ByteArray} {x : IV} : hasP p x = true ↔ x.path = p := by
  unfold hasP
  rw [beq_iff_eq, toList_bytes, toList_bytes]
  constructor
  · intro h
    exact ByteArray.ext (Array.toList_inj.1 h)
  · rintro rfl; rfl
theorem putF_len (l : List IV) (x : IV) : (putF l x).length ≤ l.length + 1 := by
  unfold putF
  split
  · simp
  · have := List.findIdx_le_length (p := gtP x.path) (xs := l)
    simp; omega
theorem mem_set_self {l : List IV} {k : Nat} {x : IV} (h : k < l.length) : x ∈ l.set k x := List.mem_iff_getElem.2 ⟨k, by simpa using h, by simp⟩
theorem putF_path (l : List IV) (x : IV) : ∀ y, y ∈ l ∨ y = x → ∃ z ∈ putF l x, z.path = y.path := by
  intro y hy
  unfold putF
  split
  · rename_i hk
    have hkp : l[l.findIdx (hasP x.path)].path = x.path := hasP_eq.1 (List.findIdx_getElem (w := hk))
    rcases hy with hy | rfl
    · obtain ⟨i, hi, rfl⟩ := List.getElem_of_mem hy
      by_cases he : l.findIdx (hasP x.path) = i
      · refine ⟨x, mem_set_self hk, ?_⟩
        subst he
        exact hkp.symm
      · exact ⟨l[i], List.mem_iff_getElem.2 ⟨i, by simpa using hi, by rw [List.getElem_set, if_neg he]⟩, rfl⟩
    · exact ⟨y, mem_set_self hk, rfl⟩
  · rcases hy with hy | rfl
    · refine ⟨y, ?_, rfl⟩
      rw [← List.take_append_drop (l.findIdx (gtP x.path)) l, List.mem_append] at hy
      simp only [List.mem_append, List.mem_singleton]
      rcases hy with hy | hy
      · exact .inl (.inl hy)
      · exact .inr hy
    · exact ⟨y, by simp, rfl⟩
end Go.Proofs.Ytncloiimbclklaa
