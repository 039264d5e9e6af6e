/- Cases: lists of instances that a call made are read; two that are the same (dossierplain.SameInsts). Written by tools/genyn.py. -/
import Derived.Test.YtncloiimbclklaaYm
namespace Go.Proofs.Ytncloiimbclklaa
open Go Go.RowKit Go.Shelf
set_option linter.unusedVariables false
set_option linter.unusedSimpArgs false

theorem flatI_get (l : List IV) (k : Nat) (hk : k < l.length) (j : Nat) (hj : j < 6) : (flatI l)[k * 6 + j]? = (l[k].cells)[j]? := by
  induction l generalizing k with
  | nil => simp at hk
  | cons x r ih =>
    have hx : x.cells.length = 6 := rfl
    cases k with
    | zero =>
      show (x.cells ++ flatI r)[0 * 6 + j]? = _
      rw [List.getElem?_append_left (by omega), Nat.zero_mul, Nat.zero_add]
      rfl
    | succ k =>
      show (x.cells ++ flatI r)[(k + 1) * 6 + j]? = _
      rw [List.getElem?_append_right (by omega), show (k + 1) * 6 + j - x.cells.length = k * 6 + j from by omega, ih k (by simpa using hk)]
      rfl
theorem rdv_of_ownS {w : World} {base : Nat} {e : TypeId} {v : Value} {xs : List Value} (h : OwnS w base e 1 v xs.length xs) : RdV w v xs := by
  rcases h.2 with ⟨rfl, h0⟩ | ⟨g, off, cap, cur, hv, hb, hg, h1, h2, h3, h4⟩
  · rw [List.eq_nil_of_length_eq_zero h0]
    exact RdV.nil w
  · refine ⟨_, cap, hv, h1, h2, by simp, fun hp => ⟨g, off, rfl, fun i hi => ?_⟩⟩
    rw [h.cell hv i xs[i] (List.getElem?_eq_getElem hi)]
theorem InstsOwn.is {w w0 : World} {base : Nat} {v : Value} {l : List IV} (h : InstsOwn w base v l) (hl : ∀ x ∈ l, IVok w0 x) : ∃ l', InstsIs w v l' ∧ l'.map IV.bare = l.map IV.bare := by
  obtain ⟨l', h1, h2, h3⟩ := h
  refine ⟨l', ⟨?_, fun x hx => ?_⟩, h1⟩
  · rcases h2.2 with ⟨rfl, h0⟩ | ⟨g, cap, cur, hv, hb, hg, e1, e2, e3, e4⟩
    · rw [h0]
      exact ⟨none, 0, rfl, by simp, by simp, by simp, by simp⟩
    · refine ⟨_, cap, hv, e1, e2, by simp, fun hp => ⟨g, 0, rfl, (Array.getElem?_eq_some_iff.1 hg).1, fun k hk j hj => ?_⟩⟩
      rw [Nat.zero_add, cell_of_row w g _ cur 30 (0, 0) hg]
      have := flatI_get l' k hk j hj
      rw [← e4, List.getElem?_take, if_pos (by omega)] at this
      unfold rowI
      rw [List.getElem?_eq_getElem hk]
      show _ = (l'[k].cells)[j]?
      rw [← this]
      simp
  · obtain ⟨y, hy, hxy⟩ : ∃ y ∈ l, y.bare = x.bare := by
      have : x.bare ∈ l.map IV.bare := by rw [← h1]; exact List.mem_map.2 ⟨x, hx, rfl⟩
      obtain ⟨y, hy, he⟩ := List.mem_map.1 this
      exact ⟨y, hy, he⟩
    have hk := hl y hy
    obtain ⟨path, item, st, bf, lv, ls, due⟩ := x
    obtain ⟨path2, item2, st2, bf2, lv2, ls2, due2⟩ := y
    simp only [IV.bare, IV.mk.injEq] at hxy
    obtain ⟨rfl, rfl, rfl, rfl, _, rfl, rfl⟩ := hxy
    refine ⟨hk.path, hk.item, hk.st, hk.bf, hk.due, ?_⟩
    have h4 := h3 _ hx
    dsimp only at h4 ⊢
    rw [show ls2.length = (icells ls2).length from by simp [icells]] at h4
    exact rdv_of_ownS h4
theorem sameI_bare {x y : IV} (h : x.bare = y.bare) : sameI x y = true := by
  obtain ⟨path, item, st, bf, lv, ls, due⟩ := x
  obtain ⟨path2, item2, st2, bf2, lv2, ls2, due2⟩ := y
  simp only [IV.bare, IV.mk.injEq] at h
  obtain ⟨rfl, rfl, rfl, rfl, _, rfl, rfl⟩ := h
  simp [sameI]

set_option maxRecDepth 100000 in
set_option maxHeartbeats 2000000 in
theorem equalI_c (w : World) (v1 v2 : Value) (l1 l2 : List IV) (h1 : InstsIs w v1 l1) (h2 : InstsIs w v2 l2) (hb : l1.map IV.bare = l2.map IV.bare) :
    Calls Try.prog 32 #[v1, v2, .func (.func 15) #[] #[]] w fun e w' => e = .returned (.bool true) ∧ Below w.heap.size w w' := by
  have H1 := Lib.hid h1
  have H2 := Lib.hid h2
  have HBB := Lib.hid hb
  have hE := enters_of Try.func15 (by kernel_rfl) rfl
  have hlen : l1.length = l2.length := by simpa using congrArg List.length hb
  obtain ⟨a1, c1, hv1, m1, n1, _, _⟩ := h1.1
  obtain ⟨a2, cap2, hv2, m2, n2, _, _⟩ := h2.1
  subst hv1 hv2
  have hn : l1.length ≤ 9223372036854775807 := by unfold maxLen at n1; omega
  have HL := Lib.hid hlen
  rw [← hlen] at H2 ⊢
  clear h1 h2 hb m1 n1 m2 n2 hlen
  go_enter Try.func32, Try.ntmps32
  go_wp2_with fail
  go_loopw [17] (fun i wr => ∃ k : Nat, k ≤ l1.length ∧ i = .int .i64 k ∧ Below w.heap.size w wr) (fun i _ => l1.length - (intOf i).toNat)
  case atStart => exact ⟨0, by omega, rfl, Below.refl _ _⟩
  case round =>
    obtain ⟨k, hk, rfl, hbr⟩ := hrel
    have HBR := Lib.hid hbr
    clear hbr
    by_cases hlt : k < l1.length
    · have hlt2 : k < l2.length := by rw [← HL.out]; exact hlt
      obtain ⟨x, hx⟩ : ∃ x, x = l1[k] := ⟨_, rfl⟩
      obtain ⟨y, hy⟩ : ∃ y, y = l2[k] := ⟨_, rfl⟩
      have hrow : rowI l1 k = x.cells := by unfold rowI; rw [List.getElem?_eq_getElem hlt, ← hx]; rfl
      have hrow2 : rowI l2 k = y.cells := by unfold rowI; rw [List.getElem?_eq_getElem hlt2, ← hy]; rfl
      have hxy : x.bare = y.bare := by
        have := congrArg (fun l => l[k]?) HBB.out
        simp only [List.getElem?_map, List.getElem?_eq_getElem hlt, List.getElem?_eq_getElem hlt2, Option.map_some, Option.some.injEq] at this
        rw [hx, hy]; exact this
      have hxo := (H1.out.2 x (by rw [hx]; exact List.getElem_mem hlt)).below HBR.out
      have hyo := (H2.out.2 y (by rw [hy]; exact List.getElem_mem hlt2)).below HBR.out
      have HC := Lib.hid (fun (W : World) (hb : Below wr.heap.size wr W) => (sameI_bare hxy ▸ rsame_c W x y (hxo.below hb) (hyo.below hb)))
      have HBX := Lib.hid (fun o o2 => (box_bel' wr o).alloc (box_bel' wr o).size o2)
      obtain ⟨g, o, ha, hg, c0, c1, c2, c3, c4, c5⟩ := (H1.out.1.below HBR.out).row hlt hrow
      have hr22 : Rows6 wr (.slice a2 l1.length cap2) l1.length (rowI l2) := by have := H2.out.1.below HBR.out; rwa [← HL.out] at this
      obtain ⟨g2, o2, ha2, hg2, d0, d1, d2, d3, d4, d5⟩ := hr22.row hlt hrow2
      subst ha ha2
      obtain ⟨pl, cp, hlv⟩ := hxo.rl.form
      obtain ⟨pl2, cp2, hlv2⟩ := hyo.rl.form
      obtain ⟨path, item, st, bf, lv, ls, due⟩ := x
      obtain ⟨path2, item2, st2, bf2, lv2, ls2, due2⟩ := y
      unfold IV.cells at HC
      dsimp only at HC hlv hlv2
      subst hlv hlv2
      clear hr22 hrow hrow2 hx hy hxy hxo hyo
      go_wp2_with fail
      refine (HC.out _ (HBX.out _ _)).mono ?_
      rintro e w' ⟨rfl, hb⟩
      have HX2 := Lib.hid (HBR.out.trans (((HBX.out _ _).trans (hb.mono (HBX.out _ _).size)).mono HBR.out.size))
      clear hb c0 c1 c2 c3 c4 c5 d0 d1 d2 d3 d4 d5
      go_wp2_with fail
      go_roundw
      case rel => exact ⟨k + 1, by omega, by go_num, HX2.out⟩
      case measure => simp [intOf]; omega
    · go_wp2_with fail
      go_ret
      exact ⟨rfl, HBR.out⟩
end Go.Proofs.Ytncloiimbclklaa
