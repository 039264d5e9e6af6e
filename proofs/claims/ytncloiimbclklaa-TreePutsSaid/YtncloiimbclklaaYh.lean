/- Cases: where an instance of a path is, the instance of a path (the program's). Written by tools/genyh.py. -/
import Derived.Test.YtncloiimbclklaaYg
import Derived.Shelf.Abstract
namespace Go.Proofs.Ytncloiimbclklaa
open Go Go.RowKit Go.Shelf
set_option linter.unusedVariables false
set_option linter.unusedSimpArgs false

/-- An index of the first that has it. -/
def IdxIs (f : IV → Bool) (l : List IV) (z : Int) : Prop := (z = -1 ∧ l.find? f = none) ∨ ∃ (k : Nat) (h : k < l.length), z = (k : Int) ∧ l.find? f = some l[k]
theorem ffind_hit {f : IV → Bool} {l : List IV} {k : Nat} (h : k < l.length) (ht : (l.take k).find? f = none) (hb : f l[k] = true) : l.find? f = some l[k] := by
  conv => lhs; rw [← List.take_append_drop k l]
  rw [List.find?_append, ht, List.drop_eq_getElem_cons h, List.find?_cons_of_pos hb]
  rfl
theorem ffind_next {f : IV → Bool} {l : List IV} {k : Nat} (h : k < l.length) (ht : (l.take k).find? f = none) (hb : f l[k] = false) : (l.take (k + 1)).find? f = none := by
  rw [List.take_succ_eq_append_getElem h, List.find?_append, ht, List.find?_cons_of_neg (by rw [hb]; simp)]
  rfl

set_option maxRecDepth 100000 in
theorem index1_c (w : World) (x : IV) (b : Nat) (p : ByteArray) (hb : b < w.heap.size) (hp : w.cell? ⟨b, 0, none⟩ = some (.string p)) :
    Calls Try.prog 54 #[.agg x.cells.toArray, .pointer (some ⟨b, 0, none⟩)] w fun e w' => e = .returned (.bool (hasP p x)) ∧ Below w.heap.size w w' := by
  obtain ⟨path, item, st, bf, lv, ls, due⟩ := x
  have HR := Lib.hid (show hasP p ⟨path, item, st, bf, lv, ls, due⟩ = (path.toList == p.toList) from rfl)
  have HB := Lib.hid (fun o => box_bel' w o)
  unfold IV.cells
  dsimp only
  go_enter Try.func54, Try.ntmps54
  go_wp2_with fail
  go_ret
  exact ⟨by rw [HR.out]; rfl, HB.out _⟩

set_option maxRecDepth 100000 in
set_option maxHeartbeats 2000000 in
theorem indexF_c (w : World) (v : Value) (l : List IV) (hl : InstsIs w v l) (b : Nat) (p : ByteArray) (hb : b < w.heap.size) (hp : w.cell? ⟨b, 0, none⟩ = some (.string p)) :
    Calls Try.prog 46 #[v, .func (.func 54) #[] #[.pointer (some ⟨b, 0, none⟩)]] w fun e w' => (∃ z, e = .returned (.int .i64 z) ∧ IdxIs (hasP p) l z) ∧ Below w.heap.size w w' := by
  have HI := Lib.hid hl
  have HP := Lib.hid (fun (W : World) (h : Below w.heap.size w W) (x : IV) => index1_c W x b p (Nat.lt_of_lt_of_le hb h.size) ((h.cell (p := ⟨b, 0, none⟩) hb).trans hp))
  have hE := enters_of Try.func54 (by kernel_rfl) rfl
  obtain ⟨a, ca, hiv, hn1, hn2, _, _⟩ := hl.1
  subst hiv
  have hn : l.length ≤ 9223372036854775807 := by unfold maxLen at hn2; omega
  clear hl hn1 hn2 hb hp
  go_enter Try.func46, Try.ntmps46
  go_wp2_with fail
  go_loopw [8] (fun i wr => ∃ k : Nat, k ≤ l.length ∧ i = .int .i64 k ∧ Below w.heap.size w wr ∧ (l.take k).find? (hasP p) = none) (fun i _ => l.length - (intOf i).toNat)
  case atStart => exact ⟨0, by omega, rfl, Below.refl _ _, by simp⟩
  case round =>
    obtain ⟨k, hk, rfl, hbr, hall⟩ := hrel
    have HBR := Lib.hid hbr
    have HAL := Lib.hid hall
    clear hbr hall
    by_cases hlt : k < l.length
    · obtain ⟨x, hx⟩ : ∃ x, x = l[k] := ⟨_, rfl⟩
      have HX := Lib.hid hx
      have hrow : rowI l k = x.cells := by unfold rowI; rw [List.getElem?_eq_getElem hlt, ← hx]; rfl
      have HHIT := Lib.hid (fun (hb : hasP p x = true) => (ffind_hit hlt HAL.out (by rw [← HX.out]; exact hb)))
      have HNXT := Lib.hid (fun (hb : hasP p x = false) => (ffind_next hlt HAL.out (by rw [← HX.out]; exact hb)))
      have HC := Lib.hid (HP.out wr HBR.out x)
      obtain ⟨path, item, st, bf, lv, ls, due⟩ := x
      unfold IV.cells at HC
      dsimp only at HC
      obtain ⟨g, o, ha, hg, c0, c1, c2, c3, c4, c5⟩ := (HI.out.1.below HBR.out).row hlt hrow
      subst ha
      clear hrow hx
      obtain ⟨q, hq⟩ : ∃ q, hasP p ⟨path, item, st, bf, lv, ls, due⟩ = q := ⟨_, rfl⟩
      rw [hq] at HC HHIT HNXT
      clear hq
      cases q
      · have HN := Lib.hid (HNXT.out rfl)
        clear HHIT HNXT
        go_wp2_with fail
        refine (HC.out).mono ?_
        rintro e w' ⟨rfl, hb⟩
        have HX2 := Lib.hid (HBR.out.trans (hb.mono HBR.out.size))
        clear hb
        go_wp2_with fail
        go_roundw
        case rel => exact ⟨k + 1, by omega, by go_num, HX2.out, HN.out⟩
        case measure => simp [intOf]; omega
      · have HN := Lib.hid (HHIT.out rfl)
        clear HHIT HNXT
        go_wp2_with fail
        refine (HC.out).mono ?_
        rintro e w' ⟨rfl, hb⟩
        have HX2 := Lib.hid (HBR.out.trans (hb.mono HBR.out.size))
        clear hb
        go_wp2_with fail
        go_ret
        exact ⟨⟨k, rfl, .inr ⟨k, hlt, rfl, HN.out⟩⟩, HX2.out⟩
    · have HE := Lib.hid (show l.find? (hasP p) = none from by have := HAL.out; rwa [List.take_of_length_le (by omega)] at this)
      go_wp2_with fail
      go_ret
      exact ⟨⟨-1, rfl, .inl ⟨rfl, HE.out⟩⟩, HBR.out⟩
set_option maxRecDepth 100000 in
theorem index_c (w : World) (v : Value) (l : List IV) (hl : InstsIs w v l) (p : ByteArray) :
    Calls Try.prog 29 #[v, .string p] w fun e w' => (∃ z, e = .returned (.int .i64 z) ∧ IdxIs (hasP p) l z) ∧ Below w.heap.size w w' := by
  have HC := Lib.hid (indexF_c (w.alloc (.cells #[.string p] 9)) v l (hl.below (box_bel' w _)) w.heap.size p (by simp) (by simp only [World.cell?, heap_alloc_new]; rfl))
  have HB := Lib.hid (fun o => box_bel' w o)
  clear hl
  go_enter Try.func29, Try.ntmps29
  go_wp2_with fail
  refine (HC.out).mono ?_
  rintro e w' ⟨⟨z, rfl, hz⟩, hb⟩
  have HZ := Lib.hid hz
  have HX2 := Lib.hid ((HB.out _).trans (hb.mono (HB.out _).size))
  clear hb hz
  go_wp2_with fail
  go_ret
  exact ⟨⟨z, rfl, HZ.out⟩, HX2.out⟩

end Go.Proofs.Ytncloiimbclklaa
