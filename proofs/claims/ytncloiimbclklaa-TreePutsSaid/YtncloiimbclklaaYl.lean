/- Cases: those that a function tells of (the program's). Written by tools/genyl.py. -/
import Derived.Test.YtncloiimbclklaaYk
import Derived.Shelf.Abstract
import Derived.Deep.QuietTactic
import Derived.Deep.RegionHeld3
namespace Go.Proofs.Ytncloiimbclklaa
open Go Go.RowKit Go.Shelf
set_option linter.unusedVariables false
set_option linter.unusedSimpArgs false

set_option maxRecDepth 100000 in
theorem kids1_c (w : World) (x : IV) (b : Nat) (p : ByteArray) (hb : b < w.heap.size) (hp : w.cell? ⟨b, 0, none⟩ = some (.string p)) (hx : x.path.size ≤ 140737488355328) :
    Calls Try.prog 34 #[.agg x.cells.toArray, .pointer (some ⟨b, 0, none⟩)] w fun e w' => e = .returned (.bool (kidP p x)) ∧ Below w.heap.size w w' := by
  obtain ⟨path, item, st, bf, lv, ls, due⟩ := x
  have HR := Lib.hid (show kidP p ⟨path, item, st, bf, lv, ls, due⟩ = ((upB path).toList == p.toList) from rfl)
  have HB := Lib.hid (fun o => box_bel' w o)
  have HT := Lib.hid (fun W => upT_c W path hx)
  have HKP := Lib.hid (show ∀ W : World, W.heap[w.heap.size]? = some (.cells #[.string path, .string item, .int .i64 st, .int .i64 bf, lv, .int .i64 due] 30 (0, 0)) → Below w.heap.size w W → (W.cell? ⟨b, 0, none⟩ = some (.string p) ∧ W.cell? ⟨w.heap.size, 0, none⟩ = some (.string path) ∧ Below w.heap.size w W) from
    fun W h1 h2 => ⟨(h2.cell (p := ⟨b, 0, none⟩) hb).trans hp, (cells6 h1).1, h2⟩)
  clear hp
  unfold IV.cells
  dsimp only
  go_enter Try.func34, Try.ntmps34
  go_wp2_with fail
  go_region_held3 (fun w' => w'.cell? ⟨b, 0, none⟩ = some (.string p) ∧ w'.cell? ⟨w.heap.size, 0, none⟩ = some (.string path) ∧ Below w.heap.size w w')
    (first | exact HKP.out _ (heap_alloc_new w _) (HB.out _) | exact HKP.out _ (heap_alloc_new w _) ((HB.out _).drew) | (refine HKP.out _ ?_ (by assumption); assumption))
    (first
      | (go_at_call 28; refine (HT.out _).mono ?_; rintro e w' ⟨rfl, rfl⟩)
      | fail "no arm")
  all_goals
    go_wp2_with fail
    go_ret
    refine ⟨by rw [HR.out]; rfl, ?_⟩
    first | exact HB.out _ | exact (HB.out _).drew | assumption
set_option maxRecDepth 100000 in
theorem below1_c (w : World) (x : IV) (b : Nat) (p : ByteArray) (hb : b < w.heap.size) (hp : w.cell? ⟨b, 0, none⟩ = some (.string p)) (hx : x.path.size ≤ 140737488355328) (hpp : p.size ≤ 140737488355328) :
    Calls Try.prog 36 #[.agg x.cells.toArray, .pointer (some ⟨b, 0, none⟩)] w fun e w' => e = .returned (.bool (belP p x)) ∧ Below w.heap.size w w' := by
  obtain ⟨path, item, st, bf, lv, ls, due⟩ := x
  have HR := Lib.hid (show belP p ⟨path, item, st, bf, lv, ls, due⟩ = underB path p from rfl)
  have HB := Lib.hid (fun o => box_bel' w o)
  have HT := Lib.hid (fun W => under_c W path p hx hpp)
  unfold IV.cells
  dsimp only
  go_enter Try.func36, Try.ntmps36
  go_wp2_with (go_at_call 37; refine (HT.out _).mono ?_; rintro e w' ⟨rfl, rfl⟩)
  all_goals
    go_ret
    exact ⟨by rw [HR.out]; rfl, HB.out _⟩

set_option maxRecDepth 100000 in
set_option maxHeartbeats 2000000 in
theorem thoseK_c (w : World) (v : Value) (is : List IV) (hins : InstsIs w v is) (b : Nat) (p : ByteArray) (hb : b < w.heap.size) (hp : w.cell? ⟨b, 0, none⟩ = some (.string p)) (hs : ∀ x ∈ is, x.ls.length ≤ 40) (hps : ∀ x ∈ is, x.path.size ≤ 400) (hpp : p.size ≤ 140737488355328) (hc4 : is.length ≤ 40) :
    Calls Try.prog 33 #[v, .func (.func 34) #[] #[.pointer (some ⟨b, 0, none⟩)]] w fun e w' => ∃ v, e = .returned v ∧ InstsOwn w' w.heap.size v (is.filter (kidP p)) ∧ Below w.heap.size w w' := by
  obtain ⟨i0, hi, hz0, hz1, hz2⟩ := info_parts infoInst
  have HI := Lib.hid hins
  have HP := Lib.hid (fun (W : World) (h : Below w.heap.size w W) (x : IV) (hx : x.path.size ≤ 140737488355328) => kids1_c W x b p (Nat.lt_of_lt_of_le hb h.size) ((h.cell (p := ⟨b, 0, none⟩) hb).trans hp) hx )
  have hE := enters_of Try.func34 (by kernel_rfl) rfl
  have hl := hins.1
  have HS := Lib.hid hs
  have HPS := Lib.hid hps
  obtain ⟨a, ca, hiv, hn1, hn2, _, _⟩ := hl
  subst hiv
  have hn : is.length ≤ 9223372036854775807 := by unfold maxLen at hn2; omega
  have HC4 := Lib.hid hc4
  clear hs hps hn1 hn2 hpp hc4 hins hb hp
  go_enter Try.func33, Try.ntmps33
  go_wp2_with fail
  go_loopw [5, 10] (fun ov i wr => ∃ k : Nat, k ≤ is.length ∧ i = .int .i64 k ∧ Below w.heap.size w wr ∧ InstsOwn wr w.heap.size ov ((is.take k).filter (kidP p))) (fun _ i _ => is.length - (intOf i).toNat)
  case atStart => exact ⟨0, by omega, rfl, Below.refl _ _, InstsOwn.nil _ _⟩
  case round =>
    obtain ⟨k, hk, rfl, hbr, hall⟩ := hrel
    have HBR := Lib.hid hbr
    have HAL := Lib.hid hall
    obtain ⟨l', hb1, hown, hls⟩ := hall
    have HB1 := Lib.hid hb1
    have HOW := Lib.hid hown
    have HLS := Lib.hid hls
    have hll : l'.length ≤ is.length := by
      have := congrArg List.length hb1
      simp only [List.length_map] at this
      have h2 := List.length_filter_le (kidP p) (is.take k)
      rw [List.length_take] at h2
      omega
    clear hbr hb1 hown hls
    by_cases hlt : k < is.length
    · obtain ⟨x, hx⟩ : ∃ x, x = is[k] := ⟨_, rfl⟩
      have HX := Lib.hid hx
      have hrow : rowI is k = x.cells := by unfold rowI; rw [List.getElem?_eq_getElem hlt, ← hx]; rfl
      have hxo := HI.out.2 x (by rw [hx]; exact List.getElem_mem hlt)
      have HXO := Lib.hid (hxo.below HBR.out)
      have HX4 := Lib.hid (HS.out x (by rw [hx]; exact List.getElem_mem hlt))
      have HXP := Lib.hid (HPS.out x (by rw [hx]; exact List.getElem_mem hlt))
      have HN := Lib.hid (filter_next (f := kidP p) hlt)
      rw [← hx] at HN
      have HT := Lib.hid (fun (W : World) (h : Below wr.heap.size wr W) => HP.out W (HBR.out.trans (h.mono HBR.out.size)) x (by have := HXP.out; omega))
      obtain ⟨pl, cp, hlv⟩ := hxo.rl.form
      obtain ⟨path, item, st, bf, lv, ls, due⟩ := x
      dsimp only at hlv HX4 HXP
      subst hlv
      unfold IV.cells at HT
      dsimp only at HT
      obtain ⟨g, o, ha, hg, c0, c1, c2, c3, c4, c5⟩ := (HI.out.1.below HBR.out).row hlt hrow
      subst ha
      have HC := Lib.hid (fun (W : World) (hb : Below wr.heap.size wr W) => (show Calls Try.prog 30 #[.agg #[.string path, .string item, .int .i64 st, .int .i64 bf, .slice pl (icells ls).length cp, .int .i64 due]] W (CopyAs W ⟨path, item, st, bf, .slice pl (icells ls).length cp, ls, due⟩) from copied_c W ⟨path, item, st, bf, .slice pl (icells ls).length cp, ls, due⟩ (HXO.out.below hb) HX4.out))
      have HBX := Lib.hid (fun o => box_bel' wr o)
      have HXC := Lib.hid (cells6 (heap_alloc_new wr (.cells #[.string path, .string item, .int .i64 st, .int .i64 bf, .slice pl (icells ls).length cp, .int .i64 due] 30)))
      clear hrow hxo hx
      obtain ⟨q, hq⟩ : ∃ q, kidP p ⟨path, item, st, bf, .slice pl (icells ls).length cp, ls, due⟩ = q := ⟨_, rfl⟩
      rw [hq] at HN
      simp only [hq] at HT
      clear hq
      go_wp2_with fail
      refine (HT.out _ (HBX.out _)).mono ?_
      rintro e w2 ⟨rfl, hb2⟩
      have hb3 : Below wr.heap.size wr w2 := (HBX.out _).trans (hb2.mono (by simp))
      have HX2 := Lib.hid ((hb2.block wr.heap.size (by simp)).trans (heap_alloc_new wr _))
      have HB2 := Lib.hid hb3
      clear hb2 hb3 c0 c1 c2 c3 c4 c5
      obtain ⟨c0, c1, c2, c3, c4, c5, cz⟩ := cells6 HX2.out
      cases q
      · have HN2 := Lib.hid (show (is.take (k + 1)).filter (kidP p) = (is.take k).filter (kidP p) from by rw [HN.out]; simp)
        go_wp2_with fail
        go_roundw
        case rel => exact ⟨k + 1, by omega, by go_num, HBR.out.trans (HB2.out.mono HBR.out.size), by rw [HN2.out]; exact HAL.out.below HB2.out⟩
        case measure => simp [intOf]; omega
      · have HN2 := Lib.hid (show (is.take (k + 1)).filter (kidP p) = (is.take k).filter (kidP p) ++ [⟨path, item, st, bf, .slice pl (icells ls).length cp, ls, due⟩] from by rw [HN.out]; simp)
        go_wp2_with fail
        refine (HC.out _ HB2.out).mono ?_
        rintro e w3 ⟨v', rfl, hown3, hb3⟩
        have hb4 : Below wr.heap.size wr w3 := HB2.out.trans (hb3.mono HB2.out.size)
        obtain ⟨pa, cc, hv', _⟩ := hown3.form
        dsimp only at hv'
        subst hv'
        have HB4 := Lib.hid hb4
        have HO3 := Lib.hid (hown3.up (b' := w.heap.size) (Nat.le_trans HBR.out.size HB2.out.size))
        have hs3 : w.heap.size ≤ w3.heap.size := Nat.le_trans HBR.out.size hb4.size
        have HS3 := Lib.hid hs3
        have HOW3 := Lib.hid ((ownr_below HOW.out hb4))
        clear hown3 hb3 hb4 c0 c1 c2 c3 c4 c5 cz hs3
        go_wp2_with (at_builtin; refine wpList_append_own _ rfl _ _ 22 rfl w.heap.size 30 i0 (.agg #[.string ⟨#[]⟩, .string ⟨#[]⟩, .int .i64 0, .int .i64 0, .slice none 0 0, .int .i64 0]) 6 80 Try.underlying22 hi hz0 hz1 hz2 rfl (by decide) _ _ _ rfl (ownr_below HOW3.out ((Below.refl _ w3).alloc (Nat.le_refl _) _)) ⟨w3.heap.size, 0, none⟩ 1 1 [.string path, .string item, .int .i64 st, .int .i64 bf, .slice pa ls.length cc, .int .i64 due] rfl rfl (cells_new6 _ _ _ _ _ _ _ _) (by simp [Value.oneCell']) ?c3 ?c4 ?c5 ?_)
        case c3 => have := HC4.out; unfold maxLen; omega
        case c4 => have := HC4.out; omega
        case c5 => have := HS3.out; simp; omega
        intro v2 w4 hown4 hgrow _
        have HG := Lib.hid hgrow
        have HP4 := Lib.hid (InstsOwn.push (y := ⟨path, item, st, bf, .slice pl (icells ls).length cp, ls, due⟩) (x := ⟨path, item, st, bf, .slice pa ls.length cc, ls, due⟩) (l := (is.take k).filter (kidP p)) (W1 := w3) HB1.out HOW.out HLS.out HB4.out HO3.out rfl hown4 hgrow)
        have HB5 := Lib.hid ((HBR.out.trans (HB4.out.mono HBR.out.size)).trans ((((Below.refl _ w3).alloc (Nat.le_refl _) _).mono HS3.out).grown hgrow (by simp; have := HS3.out; omega) (fun g hg => (ownr_lt HOW.out g hg).1)))
        clear hown4 hgrow
        go_wp2_with fail
        go_roundw
        case rel => exact ⟨k + 1, by omega, by go_num, HB5.out, by rw [HN2.out]; exact HP4.out⟩
        case measure => simp [intOf]; omega
    · have HE := Lib.hid (show (is.take k).filter (kidP p) = is.filter (kidP p) from by rw [List.take_of_length_le (by omega)])
      go_wp2_with fail
      go_ret
      refine ⟨_, rfl, ?_, HBR.out⟩
      have := HAL.out
      rw [HE.out] at this
      exact this


set_option maxRecDepth 100000 in
set_option maxHeartbeats 2000000 in
theorem thoseB_c (w : World) (v : Value) (is : List IV) (hins : InstsIs w v is) (b : Nat) (p : ByteArray) (hb : b < w.heap.size) (hp : w.cell? ⟨b, 0, none⟩ = some (.string p)) (hs : ∀ x ∈ is, x.ls.length ≤ 40) (hps : ∀ x ∈ is, x.path.size ≤ 400) (hpp : p.size ≤ 140737488355328) (hc4 : is.length ≤ 40) :
    Calls Try.prog 33 #[v, .func (.func 36) #[] #[.pointer (some ⟨b, 0, none⟩)]] w fun e w' => ∃ v, e = .returned v ∧ InstsOwn w' w.heap.size v (is.filter (belP p)) ∧ Below w.heap.size w w' := by
  obtain ⟨i0, hi, hz0, hz1, hz2⟩ := info_parts infoInst
  have HI := Lib.hid hins
  have HP := Lib.hid (fun (W : World) (h : Below w.heap.size w W) (x : IV) (hx : x.path.size ≤ 140737488355328) => below1_c W x b p (Nat.lt_of_lt_of_le hb h.size) ((h.cell (p := ⟨b, 0, none⟩) hb).trans hp) hx hpp)
  have hE := enters_of Try.func36 (by kernel_rfl) rfl
  have hl := hins.1
  have HS := Lib.hid hs
  have HPS := Lib.hid hps
  obtain ⟨a, ca, hiv, hn1, hn2, _, _⟩ := hl
  subst hiv
  have hn : is.length ≤ 9223372036854775807 := by unfold maxLen at hn2; omega
  have HC4 := Lib.hid hc4
  clear hs hps hn1 hn2 hpp hc4 hins hb hp
  go_enter Try.func33, Try.ntmps33
  go_wp2_with fail
  go_loopw [5, 10] (fun ov i wr => ∃ k : Nat, k ≤ is.length ∧ i = .int .i64 k ∧ Below w.heap.size w wr ∧ InstsOwn wr w.heap.size ov ((is.take k).filter (belP p))) (fun _ i _ => is.length - (intOf i).toNat)
  case atStart => exact ⟨0, by omega, rfl, Below.refl _ _, InstsOwn.nil _ _⟩
  case round =>
    obtain ⟨k, hk, rfl, hbr, hall⟩ := hrel
    have HBR := Lib.hid hbr
    have HAL := Lib.hid hall
    obtain ⟨l', hb1, hown, hls⟩ := hall
    have HB1 := Lib.hid hb1
    have HOW := Lib.hid hown
    have HLS := Lib.hid hls
    have hll : l'.length ≤ is.length := by
      have := congrArg List.length hb1
      simp only [List.length_map] at this
      have h2 := List.length_filter_le (belP p) (is.take k)
      rw [List.length_take] at h2
      omega
    clear hbr hb1 hown hls
    by_cases hlt : k < is.length
    · obtain ⟨x, hx⟩ : ∃ x, x = is[k] := ⟨_, rfl⟩
      have HX := Lib.hid hx
      have hrow : rowI is k = x.cells := by unfold rowI; rw [List.getElem?_eq_getElem hlt, ← hx]; rfl
      have hxo := HI.out.2 x (by rw [hx]; exact List.getElem_mem hlt)
      have HXO := Lib.hid (hxo.below HBR.out)
      have HX4 := Lib.hid (HS.out x (by rw [hx]; exact List.getElem_mem hlt))
      have HXP := Lib.hid (HPS.out x (by rw [hx]; exact List.getElem_mem hlt))
      have HN := Lib.hid (filter_next (f := belP p) hlt)
      rw [← hx] at HN
      have HT := Lib.hid (fun (W : World) (h : Below wr.heap.size wr W) => HP.out W (HBR.out.trans (h.mono HBR.out.size)) x (by have := HXP.out; omega))
      obtain ⟨pl, cp, hlv⟩ := hxo.rl.form
      obtain ⟨path, item, st, bf, lv, ls, due⟩ := x
      dsimp only at hlv HX4 HXP
      subst hlv
      unfold IV.cells at HT
      dsimp only at HT
      obtain ⟨g, o, ha, hg, c0, c1, c2, c3, c4, c5⟩ := (HI.out.1.below HBR.out).row hlt hrow
      subst ha
      have HC := Lib.hid (fun (W : World) (hb : Below wr.heap.size wr W) => (show Calls Try.prog 30 #[.agg #[.string path, .string item, .int .i64 st, .int .i64 bf, .slice pl (icells ls).length cp, .int .i64 due]] W (CopyAs W ⟨path, item, st, bf, .slice pl (icells ls).length cp, ls, due⟩) from copied_c W ⟨path, item, st, bf, .slice pl (icells ls).length cp, ls, due⟩ (HXO.out.below hb) HX4.out))
      have HBX := Lib.hid (fun o => box_bel' wr o)
      have HXC := Lib.hid (cells6 (heap_alloc_new wr (.cells #[.string path, .string item, .int .i64 st, .int .i64 bf, .slice pl (icells ls).length cp, .int .i64 due] 30)))
      clear hrow hxo hx
      obtain ⟨q, hq⟩ : ∃ q, belP p ⟨path, item, st, bf, .slice pl (icells ls).length cp, ls, due⟩ = q := ⟨_, rfl⟩
      rw [hq] at HN
      simp only [hq] at HT
      clear hq
      go_wp2_with fail
      refine (HT.out _ (HBX.out _)).mono ?_
      rintro e w2 ⟨rfl, hb2⟩
      have hb3 : Below wr.heap.size wr w2 := (HBX.out _).trans (hb2.mono (by simp))
      have HX2 := Lib.hid ((hb2.block wr.heap.size (by simp)).trans (heap_alloc_new wr _))
      have HB2 := Lib.hid hb3
      clear hb2 hb3 c0 c1 c2 c3 c4 c5
      obtain ⟨c0, c1, c2, c3, c4, c5, cz⟩ := cells6 HX2.out
      cases q
      · have HN2 := Lib.hid (show (is.take (k + 1)).filter (belP p) = (is.take k).filter (belP p) from by rw [HN.out]; simp)
        go_wp2_with fail
        go_roundw
        case rel => exact ⟨k + 1, by omega, by go_num, HBR.out.trans (HB2.out.mono HBR.out.size), by rw [HN2.out]; exact HAL.out.below HB2.out⟩
        case measure => simp [intOf]; omega
      · have HN2 := Lib.hid (show (is.take (k + 1)).filter (belP p) = (is.take k).filter (belP p) ++ [⟨path, item, st, bf, .slice pl (icells ls).length cp, ls, due⟩] from by rw [HN.out]; simp)
        go_wp2_with fail
        refine (HC.out _ HB2.out).mono ?_
        rintro e w3 ⟨v', rfl, hown3, hb3⟩
        have hb4 : Below wr.heap.size wr w3 := HB2.out.trans (hb3.mono HB2.out.size)
        obtain ⟨pa, cc, hv', _⟩ := hown3.form
        dsimp only at hv'
        subst hv'
        have HB4 := Lib.hid hb4
        have HO3 := Lib.hid (hown3.up (b' := w.heap.size) (Nat.le_trans HBR.out.size HB2.out.size))
        have hs3 : w.heap.size ≤ w3.heap.size := Nat.le_trans HBR.out.size hb4.size
        have HS3 := Lib.hid hs3
        have HOW3 := Lib.hid ((ownr_below HOW.out hb4))
        clear hown3 hb3 hb4 c0 c1 c2 c3 c4 c5 cz hs3
        go_wp2_with (at_builtin; refine wpList_append_own _ rfl _ _ 22 rfl w.heap.size 30 i0 (.agg #[.string ⟨#[]⟩, .string ⟨#[]⟩, .int .i64 0, .int .i64 0, .slice none 0 0, .int .i64 0]) 6 80 Try.underlying22 hi hz0 hz1 hz2 rfl (by decide) _ _ _ rfl (ownr_below HOW3.out ((Below.refl _ w3).alloc (Nat.le_refl _) _)) ⟨w3.heap.size, 0, none⟩ 1 1 [.string path, .string item, .int .i64 st, .int .i64 bf, .slice pa ls.length cc, .int .i64 due] rfl rfl (cells_new6 _ _ _ _ _ _ _ _) (by simp [Value.oneCell']) ?c3 ?c4 ?c5 ?_)
        case c3 => have := HC4.out; unfold maxLen; omega
        case c4 => have := HC4.out; omega
        case c5 => have := HS3.out; simp; omega
        intro v2 w4 hown4 hgrow _
        have HG := Lib.hid hgrow
        have HP4 := Lib.hid (InstsOwn.push (y := ⟨path, item, st, bf, .slice pl (icells ls).length cp, ls, due⟩) (x := ⟨path, item, st, bf, .slice pa ls.length cc, ls, due⟩) (l := (is.take k).filter (belP p)) (W1 := w3) HB1.out HOW.out HLS.out HB4.out HO3.out rfl hown4 hgrow)
        have HB5 := Lib.hid ((HBR.out.trans (HB4.out.mono HBR.out.size)).trans ((((Below.refl _ w3).alloc (Nat.le_refl _) _).mono HS3.out).grown hgrow (by simp; have := HS3.out; omega) (fun g hg => (ownr_lt HOW.out g hg).1)))
        clear hown4 hgrow
        go_wp2_with fail
        go_roundw
        case rel => exact ⟨k + 1, by omega, by go_num, HB5.out, by rw [HN2.out]; exact HP4.out⟩
        case measure => simp [intOf]; omega
    · have HE := Lib.hid (show (is.take k).filter (belP p) = is.filter (belP p) from by rw [List.take_of_length_le (by omega)])
      go_wp2_with fail
      go_ret
      refine ⟨_, rfl, ?_, HBR.out⟩
      have := HAL.out
      rw [HE.out] at this
      exact this

end Go.Proofs.Ytncloiimbclklaa
