/- Cases: an instance of a path (the reference's). Written by tools/genyg.py. -/
import Derived.Test.YtncloiimbclklaaYf
import Derived.Test.YtncloiimbclklaaYc
namespace Go.Proofs.Ytncloiimbclklaa
open Go Go.RowKit
set_option linter.unusedVariables false
set_option linter.unusedSimpArgs false

/-- What a search for an instance gives. -/
def FoundAs (w : World) (o : Option IV) (e : Ending) (w' : World) : Prop :=
  match o with
  | none => e = .returned (.tuple #[.agg #[.string ⟨#[]⟩, .string ⟨#[]⟩, .int .i64 0, .int .i64 0, .slice none 0 0, .int .i64 0], .bool false]) ∧ Below w.heap.size w w'
  | some x => ∃ v', e = .returned (.tuple #[.agg #[.string x.path, .string x.item, .int .i64 x.st, .int .i64 x.bf, v', .int .i64 x.due], .bool true]) ∧ OwnS w' w.heap.size 3 1 v' x.ls.length (icells x.ls) ∧ Below w.heap.size w w'
def hasP (p : ByteArray) (x : IV) : Bool := x.path.toList == p.toList
theorem find_hit {l : List IV} {p : ByteArray} {k : Nat} (h : k < l.length) (ht : (l.take k).find? (hasP p) = none) (hb : hasP p l[k] = true) : l.find? (hasP p) = some l[k] := by
  conv => lhs; rw [← List.take_append_drop k l]
  rw [List.find?_append, ht, List.drop_eq_getElem_cons h, List.find?_cons_of_pos hb]
  rfl
theorem find_next {l : List IV} {p : ByteArray} {k : Nat} (h : k < l.length) (ht : (l.take k).find? (hasP p) = none) (hb : hasP p l[k] = false) : (l.take (k + 1)).find? (hasP p) = none := by
  rw [List.take_succ_eq_append_getElem h, List.find?_append, ht, List.find?_cons_of_neg (by rw [hb]; simp)]
  rfl

theorem results_find (tm : Array Value) (V : World) (b : Nat) (c0 c1 c2 c3 c4 c5 : Value) (q : Bool) (h4 : tm.getD 4 undef = .pointer (some ⟨b, 0, none⟩)) (h5 : tm.getD 5 undef = .bool q) (h : V.heap[b]? = some (.cells #[c0, c1, c2, c3, c4, c5] 30 (0, 0))) :
    (results Try.f9 tm).run Try.prog V = .ok (.tuple #[.agg #[c0, c1, c2, c3, c4, c5], .bool q]) V := by
  obtain ⟨e0, e1, e2, e3, e4, e5, _⟩ := cells6 h
  have h4' : tm[4]?.getD undef = .pointer (some ⟨b, 0, none⟩) := by simpa using h4
  have h5' : tm[5]?.getD undef = .bool q := by simpa using h5
  simp [results, Try.results9, go_sem, h4', h5', e0, e1, e2, e3, e4, e5]

set_option maxRecDepth 100000 in
set_option maxHeartbeats 2000000 in
theorem rfind_c (w : World) (c : CV) (h : CVok w c) (p : ByteArray) (hs : ∀ x ∈ c.insts, x.ls.length ≤ 40) : Calls Try.prog 9 #[c.val, .string p] w (FoundAs w (c.insts.find? (hasP p))) := by
  obtain ⟨R, hR⟩ : ∃ R, R = c.insts.find? (hasP p) := ⟨_, rfl⟩
  have HR := Lib.hid hR
  rw [← hR]
  have HI := Lib.hid h.insts
  have hl := h.insts.1
  have HS := Lib.hid hs
  obtain ⟨id, mo, iv, dv, cl, is, ds⟩ := c
  dsimp only at HR HI HS hl
  obtain ⟨a, ca, hiv, hn1, hn2, _, _⟩ := hl
  subst hiv
  have hn : is.length ≤ 9223372036854775807 := by unfold maxLen at hn2; omega
  unfold CV.val
  dsimp only
  obtain ⟨w0, hw0⟩ : ∃ x, x = (w.alloc (.cells #[.int .i64 id, .string mo, .slice a is.length ca, dv, .int .i64 cl] 25)).alloc (.cells #[.string ⟨#[]⟩, .string ⟨#[]⟩, .int .i64 0, .int .i64 0, .slice none 0 0, .int .i64 0] 30) := ⟨_, rfl⟩
  have HBW := Lib.hid (show Below w.heap.size w w0 from by rw [hw0]; exact (box_bel' w _).alloc (box_bel' w _).size _)
  have HQ := Lib.hid (show w0.heap[w.heap.size + 1]? = some (.cells #[.string ⟨#[]⟩, .string ⟨#[]⟩, .int .i64 0, .int .i64 0, .slice none 0 0, .int .i64 0] 30 (0, 0)) from by rw [hw0]; exact two_new w _ _)
  have HSW := Lib.hid (show w0.heap.size = w.heap.size + 2 from by rw [hw0]; simp)
  have HW0 := Lib.hid hw0
  clear h hR hs hn1 hn2 hw0
  go_enter Try.func9, Try.ntmps9
  go_wp2_with fail
  rw [← HW0.out]
  go_loopw [11] (fun i wr => ∃ k : Nat, k ≤ is.length ∧ i = .int .i64 k ∧ Below w0.heap.size w0 wr ∧ (is.take k).find? (hasP p) = none) (fun i _ => is.length - (intOf i).toNat)
  case atStart => exact ⟨0, by omega, rfl, Below.refl _ _, by simp⟩
  case round =>
    obtain ⟨k, hk, rfl, hbr, hall⟩ := hrel
    have HBR := Lib.hid hbr
    have HAL := Lib.hid hall
    clear hbr hall
    by_cases hlt : k < is.length
    · obtain ⟨x, hx⟩ : ∃ x, x = is[k] := ⟨_, rfl⟩
      have HX := Lib.hid hx
      have hrow : rowI is k = x.cells := by unfold rowI; rw [List.getElem?_eq_getElem hlt, ← hx]; rfl
      have hxo := HI.out.2 x (by rw [hx]; exact List.getElem_mem hlt)
      have HXO := Lib.hid ((hxo.below HBW.out).below HBR.out)
      have HX4 := Lib.hid (HS.out x (by rw [hx]; exact List.getElem_mem hlt))
      have HHIT := Lib.hid (fun (hb : hasP p x = true) => (find_hit hlt HAL.out (by rw [← HX.out]; exact hb)))
      have HNXT := Lib.hid (fun (hb : hasP p x = false) => (find_next hlt HAL.out (by rw [← HX.out]; exact hb)))
      rw [← hx] at HHIT
      obtain ⟨pl, cp, hlv⟩ := hxo.rl.form
      obtain ⟨path, item, st, bf, lv, ls, due⟩ := x
      dsimp only at hlv HX4
      subst hlv
      obtain ⟨g, o, ha, hg, c0, c1, c2, c3, c4, c5⟩ := ((HI.out.1.below HBW.out).below HBR.out).row hlt hrow
      subst ha
      have HC := Lib.hid (fun (W : World) (hb : Below wr.heap.size wr W) => (show Calls Try.prog 31 #[.agg #[.string path, .string item, .int .i64 st, .int .i64 bf, .slice pl (icells ls).length cp, .int .i64 due]] W (CopyAs W ⟨path, item, st, bf, .slice pl (icells ls).length cp, ls, due⟩) from rcopied_c W ⟨path, item, st, bf, .slice pl (icells ls).length cp, ls, due⟩ (HXO.out.below hb) HX4.out))
      have HB1 := Lib.hid (fun o => box_bel' wr o)
      clear hrow hxo hx
      obtain ⟨q, hq⟩ : ∃ q, (path.toList == p.toList) = q := ⟨_, rfl⟩
      cases q
      · have HN := Lib.hid (HNXT.out hq)
        go_wp2_with fail
        exact ⟨⟨k + 1, by omega, by go_num, HBR.out.alloc HBR.out.size _, HN.out⟩, by simp [intOf]; omega⟩
      · have HE := Lib.hid (show R = some ⟨path, item, st, bf, .slice pl (icells ls).length cp, ls, due⟩ from by rw [HR.out]; exact HHIT.out hq)
        go_wp2_with (go_at_call 31; refine (HC.out _ (HB1.out _)).mono ?_)
        rintro e w3 ⟨v', rfl, hown, hb3⟩
        have hb4 : Below w0.heap.size w0 w3 := HBR.out.trans (((HB1.out _).trans (hb3.mono (by simp))).mono HBR.out.size)
        have hq4 := (hb4.block (w.heap.size + 1) (by rw [HSW.out]; omega)).trans HQ.out
        obtain ⟨z0, z1, z2, z3, z4, z5, zz⟩ := cells6 hq4
        have HQ4 := Lib.hid hq4
        have HB4 := Lib.hid hb4
        have HOW := Lib.hid hown
        obtain ⟨pa, cc, hv', _⟩ := hown.form
        dsimp only at hv'
        subst hv'
        clear hown hb3 hb4 hq4
        go_wp2_with fail
        refine bodyPost_ret (results_find _ _ (w.heap.size + 1) _ _ _ _ _ _ true rfl rfl (putI_at HQ4.out _ _ _ _ _ _)) rfl ?_
        rw [HE.out]
        refine ⟨_, rfl, ?_, putI_below (HBW.out.trans (HB4.out.mono HBW.out.size)) (Nat.le_succ _) _ _ _ _ _ _⟩
        refine (HOW.out.keep (fun g hg => ?_)).up (Nat.le_trans HBW.out.size (Nat.le_trans HBR.out.size (HB1.out _).size))
        have hge := HOW.out.base g hg
        have h1 := HBR.out.size
        have h2 := HSW.out
        have h3 := (HB1.out (.cells #[.string path, .string item, .int .i64 st, .int .i64 bf, .slice pl (icells ls).length cp, .int .i64 due] 30)).size
        exact putI_far _ _ _ (by omega) _ _ _ _ _ _
    · have HE := Lib.hid (show R = none from by rw [HR.out]; have := HAL.out; rwa [List.take_of_length_le (by omega)] at this)
      have hq4 := (HBR.out.block (w.heap.size + 1) (by rw [HSW.out]; omega)).trans HQ.out
      obtain ⟨z0, z1, z2, z3, z4, z5, zz⟩ := cells6 hq4
      have HQ4 := Lib.hid hq4
      clear hq4
      go_wp2_with fail
      refine bodyPost_ret (results_find _ _ (w.heap.size + 1) _ _ _ _ _ _ false rfl rfl (putI_at HQ4.out _ _ _ _ _ _)) rfl ?_
      rw [HE.out]
      exact ⟨rfl, putI_below (HBW.out.trans (HBR.out.mono HBW.out.size)) (Nat.le_succ _) _ _ _ _ _ _⟩

end Go.Proofs.Ytncloiimbclklaa
