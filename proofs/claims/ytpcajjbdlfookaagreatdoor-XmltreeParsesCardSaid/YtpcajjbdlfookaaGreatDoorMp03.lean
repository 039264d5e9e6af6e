/- xmllex: Unescape. -/
import Derived.Test.YtpcajjbdlfookaaGreatDoorMp02
import Derived.Deep.QuietTactic
import Derived.BigQuiet
namespace Go.Proofs.YtpcajjbdlfookaaGreatDoor
open Go.RowKit
set_option linter.unusedVariables false

theorem BI.below {B b : Nat} {l : List UInt8} {w w' : World} (h : BI B b l w) (hb : Below w.heap.size w w') : BI B b l w' := by
  have key : ∀ pv, Lib.BuilderAt 131 5 B b pv (bcells l) w → Lib.BuilderAt 131 5 B b pv (bcells l) w' := by
    intro pv ⟨hB, v, hbk, hown, hne⟩
    have hl : b < w.heap.size := (Array.getElem?_eq_some_iff.1 hbk).1
    exact ⟨hB, v, by rw [hb.block b hl]; exact hbk, own_below hown hb (B' := 0), hne⟩
  rcases h with h | h
  · exact .inl (key _ h)
  · exact .inr (key _ h)
theorem E_len4 (c : Int) : (E c).length ≤ 4 := by
  unfold E
  split
  · simp
  · split
    · simp
    · split
      · simp
      · split <;> simp
theorem refB_two {s : List UInt8} {c : Nat} (h : refB s = some c) : 2 ≤ s.length := by
  unfold refB at h
  by_cases h1 : s = [108, 116]
  · rw [h1]; simp
  · rw [if_neg h1] at h
    by_cases h2 : s = [103, 116]
    · rw [h2]; simp
    · rw [if_neg h2] at h
      by_cases h3 : s = [97, 109, 112]
      · rw [h3]; simp
      · rw [if_neg h3] at h
        by_cases h4 : s = [97, 112, 111, 115]
        · rw [h4]; simp
        · rw [if_neg h4] at h
          by_cases h5 : s = [113, 117, 111, 116]
          · rw [h5]; simp
          · rw [if_neg h5] at h
            match s, h with
            | [], h => simp [Lib.hasPrefix, List.isPrefixOf] at h
            | [x], h =>
              exfalso
              have e1 : Lib.hasPrefix [x] [35, 120] = false := by simp [Lib.hasPrefix, List.isPrefixOf]
              rw [e1] at h
              simp [chNum] at h
            | x :: y :: r, _ => simp
theorem refA_E {r : List UInt8} {c n : Nat} (h : refA r = some (c, n)) : (E c).length ≤ n := by
  have h4 := E_len4 (c : Int)
  unfold refA at h
  split at h
  · simp at h
  · rename_i h1
    cases hb : refB ((r.drop 1).take ((Lib.index r [59]).toNat - 1)) with
    | none => rw [hb] at h; simp at h
    | some d =>
      rw [hb] at h
      simp only [Option.map_some, Option.some.injEq, Prod.mk.injEq] at h
      have := refB_two hb
      rw [List.length_take] at this
      omega
theorem rsF_fuel : ∀ (f g : Nat) (v : Bool) (r : List UInt8) (a : Nat) (out : List UInt8), r.length < f → r.length < g → rsF f v r a out = rsF g v r a out
  | 0, _, _, _, _, _, h, _ => by omega
  | _, 0, _, _, _, _, _, h => by omega
  | f + 1, g + 1, v, r, a, out, h1, h2 => by
    rw [rsF, rsF]
    by_cases hr : r = []
    · rw [if_pos hr, if_pos hr]
    · rw [if_neg hr, if_neg hr]
      have hl := List.length_pos_iff.2 hr
      by_cases h38 : r.head? = some 38
      · rw [if_pos h38, if_pos h38]
        cases hA : refA r with
        | none => rfl
        | some q =>
          obtain ⟨c, n⟩ := q
          have := refA_len hA
          exact rsF_fuel f g v _ _ _ (by rw [List.length_drop]; omega) (by rw [List.length_drop]; omega)
      · rw [if_neg h38, if_neg h38]
        have := (upto_split r hr h38).2.2.2.2
        exact rsF_fuel f g v _ _ _ (by rw [List.length_drop]; omega) (by rw [List.length_drop]; omega)
theorem pl_nil (v : Bool) : pl v [] = [] := by cases v <;> rfl
/-- No reference any more. -/
theorem rs_miss {f : Nat} {v : Bool} {r : List UInt8} {a : Nat} {out : List UInt8} (h : Lib.index r [38] < 0) (hf : r.length < f) : rsF f v r a out = .ok (out ++ pl v r) := by
  obtain ⟨f, rfl⟩ : ∃ k, f = k + 1 := ⟨f - 1, by omega⟩
  rw [rsF]
  by_cases hr : r = []
  · rw [if_pos hr, hr, pl_nil, List.append_nil]
  · rw [if_neg hr]
    have hn := (idx1_none _ _).1 h
    rw [if_neg (by
      cases r with
      | nil => simp
      | cons c t => simp; exact hn c (by simp))]
    have hu : upto r = r.length := by unfold upto; rw [if_pos h]
    rw [hu, List.drop_length, List.take_length]
    cases f <;> simp [rsF]
/-- Up to the next reference. -/
theorem rs_upto {f : Nat} {v : Bool} {r : List UInt8} {a i : Nat} {out : List UInt8} (h : Lib.index r [38] = i) (hf : r.length < f) : ∃ g, (r.drop i).length < g ∧ rsF f v r a out = rsF g v (r.drop i) (a + i) (out ++ pl v (r.take i)) := by
  rcases Nat.eq_zero_or_pos i with h0 | h0
  · subst h0
    exact ⟨f, by simpa using hf, by rw [List.drop_zero, List.take_zero, pl_nil, List.append_nil]; rfl⟩
  · obtain ⟨f, rfl⟩ : ∃ k, f = k + 1 := ⟨f - 1, by omega⟩
    obtain ⟨e1, e2, e3⟩ := idx1_split r 38 i h
    have hu : upto r = i := by unfold upto; rw [if_neg (by omega), h]; rfl
    refine ⟨f, by rw [List.length_drop]; omega, ?_⟩
    rw [rsF, if_neg (by intro e; rw [e] at e3; simp at e3), if_neg ?_, hu]
    intro hh
    cases r with
    | nil => simp at hh
    | cons c t =>
      simp at hh
      rw [hh, idx1_cons, if_pos rfl] at h
      omega
theorem rs_bad {f : Nat} {v : Bool} {t : List UInt8} {a : Nat} {out : List UInt8} (h : refA (38 :: t) = none) (hf : (38 :: t).length < f) : rsF f v (38 :: t) a out = .error a := by
  obtain ⟨f, rfl⟩ : ∃ k, f = k + 1 := ⟨f - 1, by omega⟩
  rw [rsF, if_neg (by simp), if_pos (show (38 :: t).head? = some 38 from rfl), h]
theorem rs_good {f : Nat} {v : Bool} {t : List UInt8} {a c n : Nat} {out : List UInt8} (h : refA (38 :: t) = some (c, n)) (hf : (38 :: t).length < f) : ∃ g, ((38 :: t).drop n).length < g ∧ rsF f v (38 :: t) a out = rsF g v ((38 :: t).drop n) (a + n) (out ++ E c) := by
  obtain ⟨f, rfl⟩ : ∃ k, f = k + 1 := ⟨f - 1, by omega⟩
  have hl := refA_len h
  refine ⟨f, by rw [List.length_drop]; simp at hl hf ⊢; omega, ?_⟩
  rw [rsF, if_neg (by simp), if_pos (show (38 :: t).head? = some 38 from rfl), h]

theorem drop_at {r : List UInt8} {q : UInt8} {i : Nat} (h : Lib.index r [q] = i) : r.drop i = q :: r.drop (i + 1) := by
  obtain ⟨e1, e2, e3⟩ := idx1_split r q i h
  conv => lhs; rw [e1]
  rw [List.drop_append_of_le_length (by simp; omega), List.drop_take]
  simp
/-- How a text with its references resolved is told. -/
def UnAft (w : World) (R : Except Nat (List UInt8)) (e : Ending) (w' : World) : Prop := (match R with
  | .error a => e = .returned (.tuple #[.string ⟨#[]⟩, .int .i64 (a : Nat), .int .i64 13])
  | .ok s => e = .returned (.tuple #[.string ⟨s.toArray⟩, .int .i64 0, .int .i64 0])) ∧ Below w.heap.size w w'
def UnI (w : World) (xs : List UInt8) (R : Except Nat (List UInt8)) (a : Nat) (out : List UInt8) (wr : World) : Prop :=
  a ≤ xs.length ∧ BI w.heap.size w.heap.size out wr ∧ Below w.heap.size w wr ∧ out.length ≤ a ∧ ∃ f, xs.length - a < f ∧ rsF f false (xs.drop a) a out = R

set_option maxRecDepth 100000 in
set_option maxHeartbeats 2000000 in
theorem unescape_c (w : World) (hw : BW w) (v : Value) (xs : List UInt8) (h : Rd w v xs) (hl : xs.length ≤ 8388608) :
    Calls Tryz.prog 138 #[v] w (UnAft w (rsT false xs)) := by
  have kc := fun (w : World) (C : Array Value) (n c : Nat) => Lib.run_convert_bytes_const (P := Tryz.prog) w 22 5 C n c Tryz.underlying22 Tryz.underlying5
  obtain ⟨p, c, rfl⟩ := rd_form h
  have HI0 := Lib.hid (show UnI w xs (rsT false xs) 0 [] (w.alloc (.cells #[.pointer none, .slice none 0 0] 131)) from
    ⟨by omega, Lib.fresh_isBuilder 131 5 w, bel_alloc w _, by simp, xs.length + 1, by omega, rfl⟩)
  obtain ⟨R, hR⟩ : ∃ R, R = rsT false xs := ⟨_, rfl⟩
  rw [← hR] at HI0 ⊢
  obtain ⟨L, hL⟩ : ∃ L, L = xs.length := ⟨_, rfl⟩
  rw [← hL] at h ⊢
  have HR := Lib.hid h
  have HW := Lib.hid hw
  have HL := Lib.hid hL
  have hL2 : L ≤ 8388608 := by omega
  clear h hw hL hl hR
  go_enter Tryz.func138, Tryz.ntmps138
  go_wp2_with fail
  go_loopw [6] (fun s6 wr => ∃ (a : Nat) (out : List UInt8), s6 = .int .i64 a ∧ UnI w xs R a out wr) (fun s6 _ => L - (intOf s6).toNat)
  case atStart => exact ⟨0, [], rfl, HI0.out⟩
  case round =>
    obtain ⟨a, out, rfl, ha, hb, hbl, ho, f, hf, hrs⟩ := hrel
    have haL : a ≤ L := by have := HL.out; omega
    obtain ⟨p', m, c', hs, hr⟩ := slice_from (HR.out.below hbl) a haL
    obtain ⟨r, hrr⟩ : ∃ r, r = xs.drop a := ⟨_, rfl⟩
    rw [← hrr] at hr hrs
    have hrl : r.length = L - a := by rw [hrr, List.length_drop, HL.out]
    have b1 := bel_alloc wr (.cells #[.int .u8 38] 5 (1, 2))
    have r1 := rd_new wr [38] #[.int .u8 38] 5 1 2 1 rfl rfl (by omega)
    have hbl1 := hbl.trans (b1.mono hbl.size)
    have HBL1 := Lib.hid hbl1
    have HBB := Lib.hid (hb.below b1)
    have HRR := Lib.hid (hr.below b1)
    have HWW := Lib.hid (HW.out.below hbl1)
    have HO := Lib.hid ho
    by_cases hi : Lib.index r [38] < 0
    · have HC := Lib.hid (cut_miss _ p' m c' _ r [38] (hr.below b1) r1 HWW.out.mx (by omega) (by simp) hi)
      rw [rs_miss hi (by have := HL.out; omega)] at hrs
      have HRS := Lib.hid hrs
      have HRL := Lib.hid hrl
      clear hrr hf hrs hr r1 b1 hbl1 hb hbl ho hi hrl
      go_wp2_with fail
      refine HC.out.mono ?_
      rintro e w1 ⟨rfl, q, hq⟩
      have hb0 : Below (wr.alloc (.cells #[.int .u8 38] 5 (1, 2))).heap.size (wr.alloc (.cells #[.int .u8 38] 5 (1, 2))) w1 := hq ▸ Go.below_drewN (Below.refl _ _) q
      have HX1 := Lib.hid (HBL1.out.trans (hb0.mono HBL1.out.size))
      have HB1 := Lib.hid (HBB.out.below hb0)
      have HLN := Lib.hid (lines_c w1 _ r (HRR.out.below hb0) (HWW.out.below hb0).mx (by have := HRL.out; omega))
      clear hq hb0 HC HRR HWW HBB HBL1
      go_wp2_with fail
      refine HLN.out.mono ?_
      rintro e w2 ⟨v2, rfl, hown, hb2⟩
      have HX2 := Lib.hid (HX1.out.trans (hb2.mono HX1.out.size))
      have HWT := Lib.hid (wwrite w2 _ _ out (lns r) v2 (HB1.out.below hb2) hown.rd (by have := HO.out; omega) (by have := lns_len r; have := HRL.out; omega) (HX2.out.size))
      clear hown hb2 HLN HB1 HX1
      go_wp2_with fail
      refine HWT.out.mono ?_
      rintro e w3 ⟨⟨n, rfl⟩, hba, hb3⟩
      have HX3 := Lib.hid (HX2.out.trans hb3)
      have HTX := Lib.hid (btext w3 _ _ _ (.inr hba) HX3.out.size)
      clear hba hb3 HWT HX2
      go_wp2_with fail
      refine HTX.out.mono ?_
      rintro e w4 ⟨rfl, hb4⟩
      have HX4 := Lib.hid (HX3.out.trans hb4)
      clear hb4 HTX HX3
      go_wp2_with fail
      go_ret3
      rw [← HRS.out]
      exact ⟨rfl, HX4.out⟩
    · obtain ⟨i, hi'⟩ : ∃ i : Nat, Lib.index r [38] = i := ⟨(Lib.index r [38]).toNat, by omega⟩
      obtain ⟨e1, e2, e3⟩ := idx1_split r 38 i hi'
      have HC := Lib.hid (cut_hit _ p' m c' i _ r [38] (hr.below b1) r1 HWW.out.mx (by omega) (by simp) hi')
      have hm := hr.len
      have HRT := Lib.hid ((hr.below b1).to i (by omega))
      obtain ⟨g, hg, hrs2⟩ := rs_upto (f := f) (v := false) (a := a) (out := out) hi' (by have := HL.out; omega)
      rw [hrs2] at hrs
      obtain ⟨t, ht⟩ : ∃ t, r.drop i = 38 :: t := ⟨_, drop_at hi'⟩
      rw [ht] at hrs hg
      have hxd : xs.drop (a + i) = 38 :: t := by rw [← List.drop_drop, ← hrr, ht]
      have hti : (r.take i).length = i := by rw [List.length_take]; omega
      obtain ⟨tk, htk⟩ : ∃ tk, tk = r.take i := ⟨_, rfl⟩
      rw [← htk] at HRT hrs hti
      have htl : t.length + 1 = L - a - i := by have := congrArg List.length ht; rw [List.length_drop, hrl] at this; simp at this; omega
      have hai : a + i ≤ L := by omega
      have HS2 := Lib.hid (fun (wx : World) (hx : Below w.heap.size w wx) => slice_from (HR.out.below hx) (a + i) hai)
      rw [hxd] at HS2
      have HXD := Lib.hid hxd
      have HTI := Lib.hid hti
      have HRS := Lib.hid hrs
      have HG := Lib.hid hg
      have HTL := Lib.hid htl
      have hpl := lns_len tk
      have HPL := Lib.hid hpl
      clear hrr hf hrs hr r1 b1 hbl1 hb hbl ho hi hrl hi' e1 e2 e3 hm hrs2 ht hxd hti htk htl hg hpl
      go_wp2_with fail
      refine HC.out.mono ?_
      rintro e w1 ⟨⟨x, rfl⟩, q, hq⟩
      have hb0 : Below (wr.alloc (.cells #[.int .u8 38] 5 (1, 2))).heap.size (wr.alloc (.cells #[.int .u8 38] 5 (1, 2))) w1 := hq ▸ Go.below_drewN (Below.refl _ _) q
      have HX1 := Lib.hid (HBL1.out.trans (hb0.mono HBL1.out.size))
      have HB1 := Lib.hid (HBB.out.below hb0)
      have HLN := Lib.hid (lines_c w1 _ tk (HRT.out.below hb0) (HWW.out.below hb0).mx (by have := HTI.out; omega))
      clear hq hb0 HC HRR HWW HBB HBL1 HRT
      go_wp2_with fail
      refine HLN.out.mono ?_
      rintro e w2 ⟨v2, rfl, hown, hb2⟩
      have HX2 := Lib.hid (HX1.out.trans (hb2.mono HX1.out.size))
      have HWT := Lib.hid (wwrite w2 _ _ out (lns tk) v2 (HB1.out.below hb2) hown.rd (by have := HO.out; omega) (by have := HPL.out; have := HTI.out; omega) (HX2.out.size))
      clear hown hb2 HLN HB1 HX1
      go_wp2_with fail
      refine HWT.out.mono ?_
      rintro e w3 ⟨⟨n, rfl⟩, hba, hb3⟩
      have HX3 := Lib.hid (HX2.out.trans hb3)
      have HBA := Lib.hid hba
      obtain ⟨p2, m2, c2, hs2, hr2⟩ := HS2.out w3 HX3.out
      rw [show ((a + i : Nat) : Int) = (a : Int) + (i : Int) by omega] at hs2
      have HRF := reference_c w3 (HW.out.below HX3.out) _ t hr2 (by have := HTL.out; omega)
      clear hba hb3 HWT HX2 hr2
      cases hA : refA (38 :: t) with
      | none =>
        rw [hA] at HRF
        have HRF2 : Hid (Calls Tryz.prog 149 #[.slice p2 m2 c2] w3 fun e w' => e = .returned (.tuple #[.string ⟨#[]⟩, .int .i64 0]) ∧ Below w3.heap.size w3 w') := HRF
        have HRE := Lib.hid (show .error (a + i) = R from by rw [← HRS.out]; exact (rs_bad hA HG.out).symm)
        clear hA HRF
        go_wp2_with fail
        refine HRF2.out.mono ?_
        rintro e w4 ⟨rfl, hb4⟩
        have HX4 := Lib.hid (HX3.out.trans (hb4.mono HX3.out.size))
        clear hb4
        go_wp2_with fail
        go_ret3
        rw [← HRE.out]
        exact ⟨rfl, HX4.out⟩
      | some cn =>
        obtain ⟨ch, n1⟩ := cn
        rw [hA] at HRF
        have HRF2 : Hid (Calls Tryz.prog 149 #[.slice p2 m2 c2] w3 fun e w' => e = .returned (.tuple #[.string ⟨(E ch).toArray⟩, .int .i64 (n1 : Nat)]) ∧ Below w3.heap.size w3 w') := HRF
        have hlen := refA_len hA
        have hE := refA_E hA
        have hE4 := E_len4 (ch : Int)
        obtain ⟨g2, hg2, hrs3⟩ := rs_good (a := a + i) (out := out ++ pl false tk) hA HG.out
        rw [HRS.out] at hrs3
        rw [List.length_drop] at hg2
        simp only [List.length_cons] at hlen hg2
        have hn1 : ((n1 : Int) == 0) = false := beq_eq_false_iff_ne.2 (by omega)
        have hle : a + i + n1 ≤ L := by have := HTL.out; omega
        have HNX := Lib.hid (fun (wx : World) (hb : BI w.heap.size w.heap.size (out ++ lns tk ++ E ch) wx) (hx : Below w.heap.size w wx) => show UnI w xs R (a + i + n1) (out ++ lns tk ++ E ch) wx from
          ⟨by have := HL.out; omega, hb, hx, by rw [List.length_append, List.length_append]; have := HO.out; have := HPL.out; have := HTI.out; omega, g2, by have := HL.out; have := HTL.out; omega, by rw [show xs.drop (a + i + n1) = (38 :: t).drop n1 from by rw [← HXD.out, List.drop_drop], hrs3]; rfl⟩)
        have hn1p : 1 ≤ n1 := hlen.1
        have hOL : (out ++ lns tk).length ≤ 33554432 := by rw [List.length_append]; have := HO.out; have := HPL.out; have := HTI.out; omega
        have HOL := Lib.hid hOL
        have HE4 := Lib.hid hE4
        obtain ⟨EC, hEC⟩ : ∃ EC, EC = E ch := ⟨_, rfl⟩
        rw [← hEC] at HRF2 HNX HE4
        clear hA HRF hlen hE hE4 hg2 hrs3 hEC hOL
        go_wp2_with fail
        refine HRF2.out.mono ?_
        rintro e w4 ⟨rfl, hb4⟩
        have HX4 := Lib.hid (HX3.out.trans (hb4.mono HX3.out.size))
        have HWS := Lib.hid (wstring w4 _ _ (out ++ lns tk) EC (BI.below (.inr HBA.out) hb4) HOL.out (by have := HE4.out; omega) HX4.out.size)
        clear hb4
        go_wp2_with fail
        refine HWS.out.mono ?_
        rintro e w5 ⟨⟨n5, rfl⟩, hba5, hb5⟩
        have HN5 := Lib.hid (HNX.out w5 (.inr hba5) (HX4.out.trans hb5))
        clear hba5 hb5
        go_wp2_with fail
        go_roundw
        case rel => exact ⟨a + i + n1, _, by go_num, HN5.out⟩
        case measure => simp [intOf]; omega
end Go.Proofs.YtpcajjbdlfookaaGreatDoor

/- xmllex: the scanner: its state; rest, fail, take, need, through. -/
namespace Go.Proofs.YtpcajjbdlfookaaGreatDoor
open Go.RowKit
set_option linter.unusedVariables false

def Far (pb : Nat) : Prop := 0 ≠ pb ∧ 1 ≠ pb ∧ 2 ≠ pb ∧ 3 ≠ pb ∧ 4 ≠ pb
theorem chg_cell {pb g o : Nat} {w w' : World} {u : Value} (h : Chg [pb] w w') (hc : w.cell? ⟨g, o, none⟩ = some u) (hg : g ≠ pb) : w'.cell? ⟨g, o, none⟩ = some u := by
  rw [World.cell?_of_block (w := w) (h.block g (World.block_lt_of_cell? w _ hc) (by simpa using hg))]
  exact hc
theorem BW.chg {pb : Nat} {w w' : World} (h : BW w) (hc : Chg [pb] w w') (hf : Far pb) : BW w' := by
  obtain ⟨f1, f2, f3, f4, f5⟩ := hf
  refine ⟨⟨fun c hx => chg_cell hc (h.tab.1 c hx) f1, fun i hi => ⟨chg_cell hc (h.tab.2 i hi).1 f2, chg_cell hc (h.tab.2 i hi).2 f2⟩⟩, ?_, ?_, ?_⟩
  · obtain ⟨m, hm⟩ := h.mx
    exact ⟨m, chg_cell hc hm f3⟩
  · obtain ⟨ev, h1, h2⟩ := h.es
    exact ⟨ev, chg_cell hc h1 f4, h2⟩
  · obtain ⟨ev, h1, h2⟩ := h.er
    exact ⟨ev, chg_cell hc h1 f5, h2⟩
/-- The scanner at block pb reads these bytes, from a on; f: where the present piece begins. -/
structure SC (w : World) (pb : Nat) (xs : List UInt8) (a f : Nat) : Prop where
  bw : BW w
  far : Far pb
  box : ∃ p c, w.heap[pb]? = some (.cells #[.slice p xs.length c, .int .i64 (a : Nat), .int .i64 (f : Nat)] 155 (0, 0)) ∧ Rd w (.slice p xs.length c) xs ∧ (0 < xs.length → ∀ g o m, p = some ⟨g, o, m⟩ → g < pb)
  le : a ≤ xs.length ∧ xs.length ≤ 1048576 ∧ f ≤ 1048576
theorem SC.lt {w : World} {pb : Nat} {xs : List UInt8} {a f : Nat} (h : SC w pb xs a f) : pb < w.heap.size := by
  obtain ⟨p, c, hb, _⟩ := h.box
  exact (Array.getElem?_eq_some_iff.1 hb).1
theorem rd_chg {pb : Nat} {w w' : World} {v s0 : Value} {n1 n2 : Int} {xs : List UInt8} (h : Rd w v xs) (hc : Chg [pb] w w') (hb : w.heap[pb]? = some (.cells #[s0, .int .i64 n1, .int .i64 n2] 155 (0, 0))) (hs : ∃ p n c, s0 = .slice p n c) : Rd w' v xs := by
  obtain ⟨sp, sn, sc, rfl⟩ := hs
  obtain ⟨p, c, rfl, h1, h2, h3, h4⟩ := h
  refine ⟨p, c, rfl, h1, h2, h3, fun hp => ?_⟩
  obtain ⟨g, o, hg, hx⟩ := h4 hp
  refine ⟨g, o, hg, fun i hi => chg_cell hc (hx i hi) ?_⟩
  rintro rfl
  have := hx i hi
  simp only [World.cell?, hb] at this
  match o + i, this with
  | 0, hc => simp at hc
  | 1, hc => simp at hc
  | 2, hc => simp at hc
  | k + 3, hc => simp at hc
theorem SC.rd {w w' : World} {pb : Nat} {xs ys : List UInt8} {a f : Nat} {v : Value} (h : SC w pb xs a f) (hr : Rd w v ys) (hc : Chg [pb] w w') : Rd w' v ys := by
  obtain ⟨p, c, hb, _⟩ := h.box
  exact rd_chg hr hc hb ⟨_, _, _, rfl⟩
theorem SC.below {w w' : World} {pb : Nat} {xs : List UInt8} {a f : Nat} (h : SC w pb xs a f) (hb : Below w.heap.size w w') : SC w' pb xs a f := by
  obtain ⟨p, c, h1, h2, h9⟩ := h.box
  exact ⟨h.bw.below hb, h.far, ⟨p, c, (hb.block _ h.lt).trans h1, h2.below hb, h9⟩, h.le⟩
theorem cells3 {w : World} {b : Nat} {c0 c1 c2 : Value} {T : TypeId} (h : w.heap[b]? = some (.cells #[c0, c1, c2] T (0, 0))) : w.cell? ⟨b, 0, none⟩ = some c0 ∧ w.cell? ⟨b, 1, none⟩ = some c1 ∧ w.cell? ⟨b, 2, none⟩ = some c2 ∧ (∀ o, w.frozen? ⟨b, o, none⟩ = false) := by
  refine ⟨?_, ?_, ?_, fun o => ?_⟩ <;> simp [World.cell?, World.frozen?, h]
/-- The offset goes on; the piece's beginning is set. -/
theorem SC.go {w w' : World} {pb : Nat} {xs : List UInt8} {a f : Nat} (h : SC w pb xs a f) (hb : Below w.heap.size w w') (a' : Nat) (ha : a' ≤ xs.length) : SC (w'.setCell ⟨pb, 1, none⟩ (.int .i64 (a' : Nat))) pb xs a' f ∧ Chg [pb] w (w'.setCell ⟨pb, 1, none⟩ (.int .i64 (a' : Nat))) := by
  have h' := h.below hb
  obtain ⟨p, c, h1, h2, h9⟩ := h'.box
  have hc : Chg [pb] w' (w'.setCell ⟨pb, 1, none⟩ (.int .i64 (a' : Nat))) := (Chg.refl _ _).set' _ _ _ (.inl (by simp))
  refine ⟨⟨h'.bw.chg hc h.far, h.far, ⟨p, c, ?_, rd_chg h2 hc h1 ⟨_, _, _, rfl⟩, h9⟩, ha, h.le.2⟩, (Chg.of_below hb).trans hc⟩
  rw [block_set _ _ _ _ _ _ _ h1]
  rfl
theorem SC.mark {w : World} {pb : Nat} {xs : List UInt8} {a f : Nat} (h : SC w pb xs a f) : SC (w.setCell ⟨pb, 2, none⟩ (.int .i64 (a : Nat))) pb xs a a ∧ Chg [pb] w (w.setCell ⟨pb, 2, none⟩ (.int .i64 (a : Nat))) := by
  obtain ⟨p, c, h1, h2, h9⟩ := h.box
  have hc : Chg [pb] w (w.setCell ⟨pb, 2, none⟩ (.int .i64 (a : Nat))) := (Chg.refl _ _).set' _ _ _ (.inl (by simp))
  refine ⟨⟨h.bw.chg hc h.far, h.far, ⟨p, c, ?_, rd_chg h2 hc h1 ⟨_, _, _, rfl⟩, h9⟩, h.le.1, h.le.2.1, by have := h.le; omega⟩, hc⟩
  rw [block_set _ _ _ _ _ _ _ h1]
  rfl

/-- What is raised. -/
def Boom (f : Nat) (c : Int) (e : Ending) : Prop := e = .panicked [{ v := .iface 153 (.agg #[.int .i64 (f : Nat), .int .i64 c]), recovered := false }]
theorem fail_c {w : World} {pb : Nat} {xs : List UInt8} {a f : Nat} (h : SC w pb xs a f) (c : Int) : Calls Tryz.prog 110 #[.pointer (some ⟨pb, 0, none⟩), .int .i64 c] w fun e w' => Boom f c e ∧ w = w' := by
  obtain ⟨p, cc, hb, _⟩ := h.box
  obtain ⟨c0, c1, c2, _⟩ := cells3 hb
  clear h hb c0 c1
  go_enter Tryz.func110, Tryz.ntmps110
  go_wp2
  exact ⟨rfl, rfl, rfl⟩
set_option maxRecDepth 100000 in
theorem rest_c {w : World} {pb : Nat} {xs : List UInt8} {a f : Nat} (h : SC w pb xs a f) : Calls Tryz.prog 121 #[.pointer (some ⟨pb, 0, none⟩)] w fun e w' =>
    ∃ p m c, e = .returned (.slice p m c) ∧ Rd w' (.slice p m c) (xs.drop a) ∧ Below w.heap.size w w' := by
  obtain ⟨p, cc, hb, hr, _⟩ := h.box
  obtain ⟨c0, c1, c2, _⟩ := cells3 hb
  obtain ⟨p', m, c', hs, hr'⟩ := slice_from hr a h.le.1
  have HR := Lib.hid hr'
  have HB := Lib.hid (Below.refl w.heap.size w)
  obtain ⟨L, hL⟩ : ∃ L, L = xs.length := ⟨_, rfl⟩
  rw [← hL] at hs c0
  clear h hb c2 hr hr' hL
  go_enter Tryz.func121, Tryz.ntmps121
  go_wp2_with fail
  go_quiet (fail)
  go_wp2
  go_ret
  exact ⟨_, _, _, rfl, HR.out.below (Go.below_drewN (Below.refl _ _) _), Go.below_drewN (Below.refl _ _) _⟩

def adv : Bool → Nat → Nat → Nat
  | true, a, n => a + n
  | false, a, _ => a
theorem pre_len {r m : List UInt8} (h : Lib.hasPrefix r m = true) : m.length ≤ r.length := by
  unfold Lib.hasPrefix at h
  exact (List.isPrefixOf_iff_prefix.1 h).length_le
set_option maxRecDepth 100000 in
set_option maxHeartbeats 1000000 in
theorem take_c {w : World} {pb : Nat} {xs : List UInt8} {a f : Nat} (h : SC w pb xs a f) (ms : ByteArray) (hms : ms.size ≤ 100) (b : Bool) (hb : Lib.hasPrefix (xs.drop a) ms.data.toList = b) : Calls Tryz.prog 105 #[.pointer (some ⟨pb, 0, none⟩), .string ms] w fun e w' =>
    e = .returned (.bool b) ∧ SC w' pb xs (adv b a ms.size) f ∧ Chg [pb] w w' := by
  have hml : ms.data.toList.length = ms.size := by rw [Array.length_toList]; rfl
  have HRC := Lib.hid (rest_c h)
  have HS := Lib.hid h
  have HB := Lib.hid hb
  have hcv := fun (w : World) => Lib.run_convert_string_bytes (P := Tryz.prog) w 9 22 5 ms (u := .string) Tryz.underlying9 Tryz.underlying22 Tryz.underlying5
  have hle := h.le
  clear h hb
  cases b with
  | false =>
    go_enter Tryz.func105, Tryz.ntmps105
    go_wp2_with fail
    refine HRC.out.mono ?_
    rintro e w1 ⟨p, m, c, rfl, hr, hb1⟩
    have hbw := bytesW_below w1 5 ms
    have HP := hasPrefix_c (Lib.bytesWorld w1 5 ms) _ _ _ _ (hr.below hbw) (bytesW_rd w1 5 ms (by omega))
    rw [HB.out] at HP
    have HPP := Lib.hid HP
    have HX := Lib.hid (hb1.trans (hbw.mono hb1.size))
    have hcv1 := hcv w1
    obtain ⟨W, hW⟩ : ∃ W, W = Lib.bytesWorld w1 5 ms := ⟨_, rfl⟩
    rw [← hW] at HPP HX hcv1
    clear hb1 hr hbw hW HP hcv
    go_wp2_with (go_at_call 120; refine (HPP.out).mono ?_; rintro e w2 ⟨rfl, rfl⟩)
    go_ret
    exact ⟨rfl, HS.out.below HX.out, Chg.of_below HX.out⟩
  | true =>
    have hpl := pre_len HB.out
    rw [hml, List.length_drop] at hpl
    go_enter Tryz.func105, Tryz.ntmps105
    go_wp2_with fail
    refine HRC.out.mono ?_
    rintro e w1 ⟨p, m, c, rfl, hr, hb1⟩
    have hbw := bytesW_below w1 5 ms
    have HP := hasPrefix_c (Lib.bytesWorld w1 5 ms) _ _ _ _ (hr.below hbw) (bytesW_rd w1 5 ms (by omega))
    rw [HB.out] at HP
    have HPP := Lib.hid HP
    have hx := hb1.trans (hbw.mono hb1.size)
    have HX := Lib.hid hx
    have hcv1 := hcv w1
    obtain ⟨sp, sc, hbox, _⟩ := (HS.out.below hx).box
    obtain ⟨c0, c1, c2, cz⟩ := cells3 hbox
    have HG := Lib.hid (HS.out.go hx (a + ms.size) (by omega))
    rw [show ((a + ms.size : Nat) : Int) = (a : Int) + (ms.size : Int) by omega] at HG
    obtain ⟨W, hW⟩ : ∃ W, W = Lib.bytesWorld w1 5 ms := ⟨_, rfl⟩
    rw [← hW] at HPP HX hcv1 c1 cz HG
    clear hb1 hr hbw hW HP hcv hx hbox c0 c2
    go_wp2_with (go_at_call 120; refine (HPP.out).mono ?_; rintro e w2 ⟨rfl, rfl⟩)
    go_ret
    exact ⟨rfl, HG.out.1, HG.out.2⟩
end Go.Proofs.YtpcajjbdlfookaaGreatDoor

/- xmllex: the scanner: need, through, blanks, name, tagName. -/
namespace Go.Proofs.YtpcajjbdlfookaaGreatDoor
open Go.RowKit
set_option linter.unusedVariables false

/-- A method that goes on by so many bytes, or raises. -/
def Aft {α : Type} (w : World) (pb : Nat) (xs : List UInt8) (a f : Nat) (val : α → World → Value → Prop) (R : Except Nat (α × Nat)) (e : Ending) (w' : World) : Prop := match R with
  | .error c => Boom f (c : Nat) e ∧ Chg [pb] w w'
  | .ok (x, n) => ∃ v, e = .returned v ∧ val x w' v ∧ SC w' pb xs (a + n) f ∧ Chg [pb] w w'
def VU : Unit → World → Value → Prop := fun _ _ v => v = .tuple #[]

set_option maxRecDepth 100000 in
theorem need_c {w : World} {pb : Nat} {xs : List UInt8} {a f : Nat} (h : SC w pb xs a f) (ms : ByteArray) (hms : ms.size ≤ 100) : Calls Tryz.prog 107 #[.pointer (some ⟨pb, 0, none⟩), .string ms] w
    (Aft w pb xs a f VU (if Lib.hasPrefix (xs.drop a) ms.data.toList then .ok ((), ms.size) else .error 11)) := by
  cases hb : Lib.hasPrefix (xs.drop a) ms.data.toList with
  | true =>
    have HT := Lib.hid (take_c h ms hms true hb)
    rw [if_pos rfl]
    clear h hb
    go_enter Tryz.func107, Tryz.ntmps107
    go_wp2_with (go_at_call 105; refine (HT.out).mono ?_; rintro e w1 ⟨rfl, hs, hc⟩; have HC := Lib.hid (And.intro hs hc); clear hs hc)
    go_end0
    exact ⟨_, rfl, rfl, HC.out.1, HC.out.2⟩
  | false =>
    have HT := Lib.hid (take_c h ms hms false hb)
    rw [if_neg (by simp)]
    clear h hb
    go_enter Tryz.func107, Tryz.ntmps107
    go_wp2_with fail
    refine HT.out.mono ?_
    rintro e w1 ⟨rfl, hs, hc⟩
    have HF := Lib.hid (fail_c hs 11)
    have HC := Lib.hid hc
    clear hs hc
    go_wp2_with (go_at_call 110; refine (HF.out).mono ?_; rintro e w2 ⟨he, rfl⟩; unfold Boom at he; subst he)
    exact ⟨rfl, rfl, HC.out⟩

/-- What stands ahead of the next mark. -/
def VB : List UInt8 → World → Value → Prop := fun l w v => Rd w v l
def thr (r m : List UInt8) : Except Nat (List UInt8 × Nat) := if Lib.index r m < 0 then .error 11 else .ok (r.take (Lib.index r m).toNat, (Lib.index r m).toNat + m.length)
set_option maxRecDepth 100000 in
set_option maxHeartbeats 1000000 in
theorem through_c {w : World} {pb : Nat} {xs : List UInt8} {a f : Nat} (h : SC w pb xs a f) (ms : ByteArray) (hms : ms.size ≤ 100) : Calls Tryz.prog 106 #[.pointer (some ⟨pb, 0, none⟩), .string ms] w
    (Aft w pb xs a f VB (thr (xs.drop a) ms.data.toList)) := by
  have hml : ms.data.toList.length = ms.size := by rw [Array.length_toList]; rfl
  have HRC := Lib.hid (rest_c h)
  have HS := Lib.hid h
  have hcv := fun (w : World) => Lib.run_convert_string_bytes (P := Tryz.prog) w 9 22 5 ms (u := .string) Tryz.underlying9 Tryz.underlying22 Tryz.underlying5
  have hle := h.le
  have hdl : (xs.drop a).length = xs.length - a := List.length_drop ..
  clear h
  by_cases hi : Lib.index (xs.drop a) ms.data.toList < 0
  · have HTH := Lib.hid (show thr (xs.drop a) ms.data.toList = .error 11 from by unfold thr; rw [if_pos hi])
    rw [HTH.out]
    go_enter Tryz.func106, Tryz.ntmps106
    go_wp2_with fail
    refine HRC.out.mono ?_
    rintro e w1 ⟨p, m, c, rfl, hr, hb1⟩
    have hbw := bytesW_below w1 5 ms
    have HP := Lib.hid (cut_miss (Lib.bytesWorld w1 5 ms) p m c _ _ _ (hr.below hbw) (bytesW_rd w1 5 ms (by omega)) ((HS.out.bw.below hb1).below hbw).mx (by omega) (by omega) hi)
    have HX := Lib.hid (hb1.trans (hbw.mono hb1.size))
    have hcv1 := hcv w1
    obtain ⟨W, hW⟩ : ∃ W, W = Lib.bytesWorld w1 5 ms := ⟨_, rfl⟩
    rw [← hW] at HP HX hcv1
    clear hb1 hr hbw hW hcv hi
    go_wp2_with fail
    refine HP.out.mono ?_
    rintro e w2 ⟨rfl, q, hq⟩
    have hx2 : Below w.heap.size w w2 := hq ▸ Go.below_drewN HX.out q
    have HF := Lib.hid (fail_c (HS.out.below hx2) 11)
    have HC := Lib.hid (Chg.of_below (S := [pb]) hx2)
    clear hq hx2
    go_wp2_with (go_at_call 110; refine (HF.out).mono ?_; rintro e w3 ⟨he, rfl⟩; unfold Boom at he; subst he)
    exact ⟨rfl, rfl, HC.out⟩
  · obtain ⟨i, hi'⟩ : ∃ i : Nat, Lib.index (xs.drop a) ms.data.toList = i := ⟨(Lib.index (xs.drop a) ms.data.toList).toNat, by omega⟩
    have hroom := Lib.index_room (xs.drop a) ms.data.toList (by omega)
    rw [hi', hml, hdl] at hroom
    have HTH := Lib.hid (show thr (xs.drop a) ms.data.toList = .ok ((xs.drop a).take i, i + ms.size) from by unfold thr; rw [if_neg hi, hi', hml]; rfl)
    rw [HTH.out]
    go_enter Tryz.func106, Tryz.ntmps106
    go_wp2_with fail
    refine HRC.out.mono ?_
    rintro e w1 ⟨p, m, c, rfl, hr, hb1⟩
    have hbw := bytesW_below w1 5 ms
    have HP := Lib.hid (cut_hit (Lib.bytesWorld w1 5 ms) p m c i _ _ _ (hr.below hbw) (bytesW_rd w1 5 ms (by omega)) ((HS.out.bw.below hb1).below hbw).mx (by omega) (by omega) hi')
    have HX := Lib.hid (hb1.trans (hbw.mono hb1.size))
    have hml := hr.len
    have HT := Lib.hid ((hr.below hbw).to i (by omega))
    have hcv1 := hcv w1
    obtain ⟨W, hW⟩ : ∃ W, W = Lib.bytesWorld w1 5 ms := ⟨_, rfl⟩
    rw [← hW] at HP HX hcv1 HT
    clear hb1 hr hbw hW hcv hi hml
    go_wp2_with fail
    refine HP.out.mono ?_
    rintro e w2 ⟨⟨x, rfl⟩, q, hq⟩
    have hx2 : Below w.heap.size w w2 := hq ▸ Go.below_drewN HX.out q
    have HT2 := Lib.hid (show Rd w2 (.slice p i c) ((xs.drop a).take i) from HT.out.below (hq ▸ Go.below_drewN (Below.refl _ _) q))
    have hs2 := HS.out.below hx2
    have HS2 := Lib.hid hs2
    obtain ⟨sp, sc, hbox, _⟩ := hs2.box
    obtain ⟨c0, c1, c2, cz⟩ := cells3 hbox
    have HG := Lib.hid (HS.out.go hx2 (a + (i + ms.size)) (by omega))
    rw [show ((a + (i + ms.size) : Nat) : Int) = (a : Int) + ((i : Int) + (ms.size : Int)) by omega] at HG
    have HG2 := Lib.hid ((hs2.go (Below.refl _ _) (a + (i + ms.size)) (by omega)).2)
    rw [show ((a + (i + ms.size) : Nat) : Int) = (a : Int) + ((i : Int) + (ms.size : Int)) by omega] at HG2
    clear hq hx2 hs2 hbox c0 c2 hi'
    go_wp2_with fail
    go_ret
    exact ⟨_, rfl, HS2.out.rd HT2.out HG2.out, HG.out.1, HG.out.2⟩
end Go.Proofs.YtpcajjbdlfookaaGreatDoor
