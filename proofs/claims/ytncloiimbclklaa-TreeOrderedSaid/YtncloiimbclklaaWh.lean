/- Cases in order: the order stays; whether a list is in order (slices.IsSortedFunc with the law's closure). Written by tools/genwh.py. -/
import Derived.Test.YtncloiimbclklaaWg
import Derived.Test.YtncloiimbclklaaVq
namespace Go.Proofs.Ytncloiimbclklaa
open Go Go.RowKit Go.Shelf
set_option linter.unusedVariables false
set_option linter.unusedSimpArgs false

theorem ordF_neg (a b : List UInt8) (h : ordF a b ≤ 0) : 0 ≤ ordF b a := by
  rcases ordF_three a b with h1 | h1 | h1 <;> omega
theorem ord_path {l l' : List IV} (h : l'.map IV.path = l.map IV.path) (ho : Ord l) : Ord l' := by
  have hl : l'.length = l.length := by simpa using congrArg List.length h
  intro i hi
  have e : ∀ k (h1 : k < l'.length) (h2 : k < l.length), l'[k].path = l[k].path := fun k h1 h2 => by
    have := congrArg (fun x => x[k]?) h
    simpa [List.getElem?_eq_getElem, h1, h2] using this
  have := ho i (by omega)
  unfold ordI at this ⊢
  rw [e (i + 1) hi (by omega), e i (by omega) (by omega)]
  exact this
theorem putF_ord (l : List IV) (x : IV) (h : Ord l) : Ord (putF l x) := by
  unfold putF
  split
  · rename_i hk
    refine ord_path ?_ h
    rw [List.map_set]
    have hkp : l[l.findIdx (hasP x.path)].path = x.path := hasP_eq.1 (List.findIdx_getElem (w := hk))
    apply List.ext_getElem (by simp)
    intro i h1 h2
    rw [List.getElem_set]
    split
    · rename_i he
      subst he
      simp [hkp]
    · rfl
  · obtain ⟨j, hj⟩ : ∃ j, l.findIdx (gtP x.path) = j := ⟨_, rfl⟩
    rw [hj]
    have hjl : j ≤ l.length := by rw [← hj]; exact List.findIdx_le_length
    have hbef : ∀ i (h : i < l.length), i < j → ordI l[i] x ≤ 0 := fun i hi hij => by
      have := List.not_of_lt_findIdx (p := gtP x.path) (xs := l) (i := i) (by omega)
      unfold gtP at this
      simp only [Bool.not_eq_true, decide_eq_false_iff_not] at this
      unfold ordI
      have h2 := Int.not_lt.1 (by simpa using this)
      exact h2
    have hat : ∀ (h : j < l.length), 0 < ordI l[j] x := fun hjl' => by
      have := List.findIdx_getElem (xs := l) (p := gtP x.path) (w := by omega)
      simp only [hj] at this
      unfold gtP at this
      exact of_decide_eq_true this
    intro i hi
    have hlen : (l.take j ++ [x] ++ l.drop j).length = l.length + 1 := by simp; omega
    have hget : ∀ k (hk : k < (l.take j ++ [x] ++ l.drop j).length), (l.take j ++ [x] ++ l.drop j)[k] = if h1 : k < j then l[k] else if h2 : k = j then x else l[k - 1] := fun k hk => by
      by_cases h1 : k < j
      · rw [dif_pos h1, List.getElem_append_left (by simp; omega), List.getElem_append_left (by simp; omega), List.getElem_take]
      · rw [dif_neg h1]
        by_cases h2 : k = j
        · rw [dif_pos h2, List.getElem_append_left (by simp; omega), List.getElem_append_right (by simp; omega)]
          simp
        · rw [dif_neg h2, List.getElem_append_right (by simp; omega), List.getElem_drop]
          congr 1
          simp
          omega
    rw [hget (i + 1) hi, hget i (by omega)]
    by_cases h1 : i + 1 < j
    · rw [dif_pos h1, dif_pos (by omega)]
      exact h i (by omega)
    · rw [dif_neg h1]
      by_cases h2 : i + 1 = j
      · rw [dif_pos h2, dif_pos (by omega)]
        have := hbef i (by omega) (by omega)
        unfold ordI at this ⊢
        exact ordF_neg _ _ this
      · rw [dif_neg h2, dif_neg (by omega)]
        by_cases h3 : i = j
        · rw [dif_pos h3]
          subst h3
          have := hat (by omega)
          have e : i + 1 - 1 = i := by omega
          simp only [e]
          omega
        · rw [dif_neg h3]
          have := h (i - 1) (by omega)
          have e : i - 1 + 1 = i := by omega
          have e2 : i + 1 - 1 = i := by omega
          simp only [e] at this
          simp only [e2]
          exact this

set_option maxRecDepth 100000 in
theorem ord1_c (w : World) (x y : IV) (hx : x.path.size ≤ 400) (hy : y.path.size ≤ 400) :
    Calls Try.prog 25 #[.agg x.cells.toArray, .agg y.cells.toArray] w fun e w' => e = .returned (.int .i64 (ordI x y)) ∧ Below w.heap.size w w' := by
  obtain ⟨path, item, st, bf, lv, ls, due⟩ := x
  obtain ⟨path2, item2, st2, bf2, lv2, ls2, due2⟩ := y
  dsimp only at hx hy
  obtain ⟨R, hR⟩ : ∃ R : Int, ordF path.data.toList path2.data.toList = R := ⟨_, rfl⟩
  have HR := Lib.hid (show ordI ⟨path, item, st, bf, lv, ls, due⟩ ⟨path2, item2, st2, bf2, lv2, ls2, due2⟩ = R from hR)
  have HB := Lib.hid (fun o o2 => (box_bel' w o).alloc (box_bel' w o).size o2)
  have HO := Lib.hid (fun W => order_c W path path2 (by omega) (by omega))
  simp only [hR] at HO
  clear hR hx hy
  unfold IV.cells
  dsimp only
  go_enter Try.func25, Try.ntmps25
  go_wp2_with fail
  refine (HO.out _).mono ?_
  rintro e w' ⟨rfl, hb⟩
  have HB2 := Lib.hid (bel_tr (HB.out _ _) hb)
  clear hb
  go_wp2_with fail
  go_ret
  exact ⟨by rw [HR.out]; rfl, HB2.out⟩

set_option maxRecDepth 100000 in
set_option maxHeartbeats 2000000 in
theorem sorted_c (w : World) (v : Value) (l : List IV) (hl : InstsIs w v l) (ho : Ord l) (hps : ∀ x ∈ l, x.path.size ≤ 400) (hn : l.length ≤ 1000) :
    Calls Try.prog 24 #[v, .func (.func 25) #[] #[]] w fun e w' => e = .returned (.bool true) ∧ Below w.heap.size w w' := by
  have HI := Lib.hid hl
  have HO := Lib.hid ho
  have HPS := Lib.hid hps
  have hE := enters_of Try.func25 (by kernel_rfl) rfl
  obtain ⟨a, ca, hiv, -⟩ := hl.1
  subst hiv
  clear hl ho hps
  go_enter Try.func24, Try.ntmps24
  go_wp2_with fail
  go_loopw [5] (fun i wr => ∃ k : Int, i = .int .i64 k ∧ -1 ≤ k ∧ k < (l.length : Int) ∧ Below w.heap.size w wr) (fun i _ => (intOf i + 1).toNat)
  case atStart => exact ⟨(l.length : Int) - 1, by first | rfl | go_num, by omega, by omega, Below.refl _ _⟩
  case round =>
    obtain ⟨k, rfl, hk1, hk2, hbr⟩ := hrel
    have HBR := Lib.hid hbr
    clear hbr
    by_cases hpos : 0 < k
    · obtain ⟨m, rfl⟩ : ∃ m : Nat, k = (m : Int) + 1 := ⟨(k - 1).toNat, by omega⟩
      have hm1 : m + 1 < l.length := by omega
      have hm0 : m < l.length := by omega
      have hord := HO.out m hm1
      obtain ⟨x, hx⟩ : ∃ x, x = l[m + 1] := ⟨_, rfl⟩
      obtain ⟨y, hy⟩ : ∃ y, y = l[m] := ⟨_, rfl⟩
      rw [← hx, ← hy] at hord
      have hrow : rowI l (m + 1) = x.cells := by unfold rowI; rw [List.getElem?_eq_getElem hm1, ← hx]; rfl
      have hrow2 : rowI l m = y.cells := by unfold rowI; rw [List.getElem?_eq_getElem hm0, ← hy]; rfl
      have HC := Lib.hid (fun (W : World) => ord1_c W x y (HPS.out x (by rw [hx]; exact List.getElem_mem hm1)) (HPS.out y (by rw [hy]; exact List.getElem_mem hm0)))
      have hxo := (HI.out.2 x (by rw [hx]; exact List.getElem_mem hm1)).below HBR.out
      have hyo := (HI.out.2 y (by rw [hy]; exact List.getElem_mem hm0)).below HBR.out
      obtain ⟨pl, cp, hlv⟩ := hxo.rl.form
      obtain ⟨pl2, cp2, hlv2⟩ := hyo.rl.form
      obtain ⟨g, o, ha, hgl, c0, c1, c2, c3, c4, c5⟩ := (HI.out.1.below HBR.out).row hm1 hrow
      obtain ⟨g2, o2, ha2, hgl2, e0, e1, e2, e3, e4, e5⟩ := (HI.out.1.below HBR.out).row hm0 hrow2
      rw [ha] at ha2
      simp only [Option.some.injEq, Addr.mk.injEq, and_true] at ha2
      obtain ⟨rfl, rfl⟩ := ha2
      subst ha
      obtain ⟨path, item, st, bf, lv, ls, due⟩ := x
      obtain ⟨path2, item2, st2, bf2, lv2, ls2, due2⟩ := y
      dsimp only at hlv hlv2 c0 c1 c2 c3 c4 c5 e0 e1 e2 e3 e4 e5
      subst hlv hlv2
      unfold IV.cells at HC
      dsimp only at HC
      obtain ⟨R, hR⟩ : ∃ R : Int, ordI ⟨path, item, st, bf, .slice pl (icells ls).length cp, ls, due⟩ ⟨path2, item2, st2, bf2, .slice pl2 (icells ls2).length cp2, ls2, due2⟩ = R := ⟨_, rfl⟩
      rw [hR] at hord
      simp only [hR] at HC
      have hlt0 : decide (R < 0) = false := decide_eq_false (by omega)
      have hR0 : ¬ (R < 0) := by omega
      have HKP := Lib.hid (show ∀ W : World, Below wr.heap.size wr W → ((W.cell? ⟨g, o + (m + 1) * 6, none⟩ = some (.string path) ∧ W.cell? ⟨g, o + (m + 1) * 6 + 1, none⟩ = some (.string item) ∧ W.cell? ⟨g, o + (m + 1) * 6 + 2, none⟩ = some (.int .i64 st) ∧ W.cell? ⟨g, o + (m + 1) * 6 + 3, none⟩ = some (.int .i64 bf) ∧ W.cell? ⟨g, o + (m + 1) * 6 + 4, none⟩ = some (.slice pl (icells ls).length cp) ∧ W.cell? ⟨g, o + (m + 1) * 6 + 5, none⟩ = some (.int .i64 due)) ∧ (W.cell? ⟨g, o + m * 6, none⟩ = some (.string path2) ∧ W.cell? ⟨g, o + m * 6 + 1, none⟩ = some (.string item2) ∧ W.cell? ⟨g, o + m * 6 + 2, none⟩ = some (.int .i64 st2) ∧ W.cell? ⟨g, o + m * 6 + 3, none⟩ = some (.int .i64 bf2) ∧ W.cell? ⟨g, o + m * 6 + 4, none⟩ = some (.slice pl2 (icells ls2).length cp2) ∧ W.cell? ⟨g, o + m * 6 + 5, none⟩ = some (.int .i64 due2)) ∧ Below wr.heap.size wr W) from fun W h =>
        ⟨⟨(h.cell hgl).trans c0, (h.cell hgl).trans c1, (h.cell hgl).trans c2, (h.cell hgl).trans c3, (h.cell hgl).trans c4, (h.cell hgl).trans c5⟩, ⟨(h.cell hgl).trans e0, (h.cell hgl).trans e1, (h.cell hgl).trans e2, (h.cell hgl).trans e3, (h.cell hgl).trans e4, (h.cell hgl).trans e5⟩, h⟩)
      clear hR hrow hrow2 hx hy hxo hyo c0 c1 c2 c3 c4 c5 e0 e1 e2 e3 e4 e5 hgl hgl2 hord
      have hw1 : IntKind.i64.wrap ((m : Int) + 1 - 1) = (m : Int) := by rw [IntKind.wrap_i64]; omega
      have hw2 : IntKind.i64.wrap (m : Int) = (m : Int) := by rw [IntKind.wrap_i64]; omega
      have hb1 : (0 : Int) ≤ (m : Int) + 1 := by omega
      have htn : ((m : Int) + 1).toNat = m + 1 := by omega
      have hb2 : (m : Int) + 1 < (l.length : Int) := by omega
      have hb4 : (m : Int) < (l.length : Int) := by omega
      go_wp2_with fail
      go_region_held3 (fun W => (W.cell? ⟨g, o + (m + 1) * 6, none⟩ = some (.string path) ∧ W.cell? ⟨g, o + (m + 1) * 6 + 1, none⟩ = some (.string item) ∧ W.cell? ⟨g, o + (m + 1) * 6 + 2, none⟩ = some (.int .i64 st) ∧ W.cell? ⟨g, o + (m + 1) * 6 + 3, none⟩ = some (.int .i64 bf) ∧ W.cell? ⟨g, o + (m + 1) * 6 + 4, none⟩ = some (.slice pl (icells ls).length cp) ∧ W.cell? ⟨g, o + (m + 1) * 6 + 5, none⟩ = some (.int .i64 due)) ∧ (W.cell? ⟨g, o + m * 6, none⟩ = some (.string path2) ∧ W.cell? ⟨g, o + m * 6 + 1, none⟩ = some (.string item2) ∧ W.cell? ⟨g, o + m * 6 + 2, none⟩ = some (.int .i64 st2) ∧ W.cell? ⟨g, o + m * 6 + 3, none⟩ = some (.int .i64 bf2) ∧ W.cell? ⟨g, o + m * 6 + 4, none⟩ = some (.slice pl2 (icells ls2).length cp2) ∧ W.cell? ⟨g, o + m * 6 + 5, none⟩ = some (.int .i64 due2)) ∧ Below wr.heap.size wr W)
        (first
          | exact HKP.out _ (Below.refl _ _)
          | exact HKP.out _ ((Below.refl _ _).drew)
          | (refine HKP.out _ ?_; assumption)
          | (refine HKP.out _ (Below.drew ?_); assumption))
        (first
          | (go_split_ands; refine (HC.out _).mono ?_
             rintro e u1 ⟨rfl, hb1⟩
             have hB1 : Below wr.heap.size wr u1 := Below.trans (by assumption) (hb1.mono (Below.size (by assumption)))
             clear hb1)
          | fail "no arm")
      have HU := Lib.hid (HBR.out.trans (Below.mono (by assumption : Below wr.heap.size wr u1) HBR.out.size))
      clear hB1 HKP
      go_wp2_with fail
      go_roundw
      case rel => exact ⟨(m : Int), by first | rfl | go_num, by omega, by omega, HU.out⟩
      case measure => simp [intOf]; omega
    · go_wp2_with fail
      go_ret
      exact ⟨rfl, HBR.out⟩
end Go.Proofs.Ytncloiimbclklaa
