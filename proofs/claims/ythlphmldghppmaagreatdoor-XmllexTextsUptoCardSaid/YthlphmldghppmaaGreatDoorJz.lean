/- xmllex: the reference: plain. -/
import Derived.Test.YthlphmldghppmaaGreatDoorHh
import Derived.Test.YthlphmldghppmaaGreatDoorHm
import Derived.Test.YthlphmldghppmaaGreatDoorJy
import Derived.Test.YthlphmldghppmaaGreatDoorHt
import Derived.Deep.Cut
import Derived.Test.YthlphmldghppmaaGreatDoorIb
import Derived.Test.YthlphmldghppmaaGreatDoorHu
import Derived.Test.YthlphmldghppmaaGreatDoorHw
import Derived.Laws.StructEq
import Derived.Deep.QuietTactic
import Derived.BigQuiet
import Derived.Test.YthlphmldghppmaaGreatDoorIc
namespace Go.Proofs.YthlphmldghppmaaGreatDoor
open Go.RowKit
set_option linter.unusedVariables false

theorem lns_skip {xs : List UInt8} {k : Nat} (h : k + 1 < xs.length) (h0 : xs[k]'(by omega) = 13) (h1 : xs[k + 1] = 10) : lns (xs.drop k) = lns (xs.drop (k + 1)) := by
  rw [List.drop_eq_getElem_cons (show k < xs.length by omega), lns, if_pos h0, if_pos]
  rw [List.drop_eq_getElem_cons h, h1]
  rfl
theorem lns_turn {xs : List UInt8} {k : Nat} (h : k < xs.length) (h0 : xs[k] = 13) (h1 : ∀ (q : k + 1 < xs.length), xs[k + 1] ≠ 10) : lns (xs.drop k) = 10 :: lns (xs.drop (k + 1)) := by
  rw [List.drop_eq_getElem_cons h, lns, if_pos h0, if_neg]
  intro e
  by_cases q : k + 1 < xs.length
  · rw [List.drop_eq_getElem_cons q] at e
    exact h1 q (by simpa [List.getElem?_eq_getElem q] using e)
  · rw [List.drop_eq_nil_of_le (by omega)] at e
    simp at e
theorem lns_keep {xs : List UInt8} {k : Nat} (h : k < xs.length) (h0 : xs[k] ≠ 13) : lns (xs.drop k) = xs[k] :: lns (xs.drop (k + 1)) := by
  rw [List.drop_eq_getElem_cons h, lns, if_neg h0]
/-- What is gathered by now. -/
def PlI (w : World) (xs : List UInt8) (k : Nat) (l : List UInt8) (v : Value) (wr : World) : Prop :=
  l.length ≤ k ∧ l ++ lns (xs.drop k) = lns xs ∧ wr.ownsRow w.heap.size 5 1 v l.length (bcells l) ∧ Below w.heap.size w wr
theorem PlI.skip {w wr : World} {xs l : List UInt8} {k : Nat} {v : Value} (h : PlI w xs k l v wr) (he : lns (xs.drop k) = lns (xs.drop (k + 1))) : PlI w xs (k + 1) l v wr :=
  ⟨by have := h.1; omega, by rw [← he]; exact h.2.1, h.2.2⟩
theorem PlI.push {w wr w1 : World} {xs l : List UInt8} {k : Nat} {v v1 : Value} {o : Obj} {X : Int} (h : PlI w xs k l v wr) (b : UInt8) (he : lns (xs.drop k) = b :: lns (xs.drop (k + 1))) (hX : X = (b.toNat : Int))
    (hown : w1.ownsRow w.heap.size 5 1 v1 (l.length + 1) (bcells l ++ [.int .u8 X])) (hg : (wr.alloc o).grownBy w1 v.ownBlock) : PlI w xs (k + 1) (l ++ [b]) v1 w1 := by
  refine ⟨by have := h.1; simp; omega, ?_, own_push hown b hX, below_push hg h.2.2.1 h.2.2.2 h.2.2.2.size⟩
  rw [List.append_assoc, List.singleton_append, ← he]
  exact h.2.1

set_option maxRecDepth 100000 in
set_option maxHeartbeats 2000000 in
theorem rplain_c (w : World) (v : Value) (xs : List UInt8) (h : Rd w v xs) (hl : xs.length ≤ 16777216) (vb : Bool) : Calls Tryz.prog 46 #[v, .bool vb] w fun e w' => ∃ v', e = .returned v' ∧ Rd w' v' (pl vb xs) ∧ Below w.heap.size w w' := by
  obtain ⟨p, c, rfl⟩ := rd_form h
  obtain ⟨i0, hi, hz0, hz1, hz2⟩ := info_parts info8
  obtain ⟨L, hL⟩ : ∃ L, L = xs.length := ⟨_, rfl⟩
  rw [← hL] at h hl ⊢
  have HI0 := Lib.hid (show PlI w xs 0 [] (.slice none 0 0) w from ⟨by simp, by simp, World.ownsRow_nil _ _ _ _, Below.refl _ _⟩)
  have HL := Lib.hid hL
  have HR := Lib.hid h
  clear h hL
  go_enter Tryz.func46, Tryz.ntmps46
  go_wp2_with fail
  go_loopw [12, 5] (fun s12 s5 wr => ∃ (k : Nat) (l : List UInt8) (v5 : Value), s12 = .int .i64 k ∧ v5 = s5 ∧ k ≤ L ∧ PlI w xs k l v5 wr) (fun s12 _ _ => L - (intOf s12).toNat)
  case atStart => exact ⟨0, [], _, rfl, rfl, by omega, HI0.out⟩
  case round =>
    obtain ⟨k, l, s5, rfl, rfl, hk, hI⟩ := hrel
    have hb := hI.2.2.2
    have HI := Lib.hid hI
    have hlen : l.length ≤ 16777216 := by have := hI.1; omega
    have HSZ := Lib.hid hb.size
    obtain ⟨p', c', hv, h1, h2, h3, h4⟩ := HR.out.below hb
    have hpc : p = p' := by cases hv; rfl
    subst hpc
    by_cases hkn : k < L
    · have hkx : k < xs.length := by rw [← HL.out]; exact hkn
      obtain ⟨b, o, hp, hx⟩ := h4 (by omega)
      subst hp
      have hx1 := hx k hkx
      obtain ⟨x, hxe⟩ : ∃ x, x = xs[k]'hkx := ⟨_, rfl⟩
      rw [← hxe] at hx1
      have hx256 := x.toNat_lt
      have hkI : (k : Int) < (L : Int) := by omega
      by_cases h13 : x = 13
      · have t13 : ((x.toNat : Int) == 13) = true := by rw [h13]; rfl
        by_cases hk1 : k + 1 < L
        · have hkx1 : k + 1 < xs.length := by rw [← HL.out]; exact hk1
          have hx2 := hx (k + 1) hkx1
          obtain ⟨y, hye⟩ : ∃ y, y = xs[k + 1]'hkx1 := ⟨_, rfl⟩
          rw [← hye] at hx2
          have hy256 := y.toNat_lt
          have hk1I : (k : Int) + 1 < (L : Int) := by omega
          by_cases h10 : y = 10
          · have t10 : ((y.toNat : Int) == 10) = true := by rw [h10]; rfl
            have HN := Lib.hid (hI.skip (lns_skip hkx1 (by rw [← hxe]; exact h13) (by rw [← hye]; exact h10)))
            clear hI hb hv h1 h2 h3 h4 hx hxe hye h13 h10 hkx hkx1
            go_wp2_with fail
            go_roundw
            case rel => exact ⟨k + 1, l, _, by go_num, rfl, by omega, HN.out⟩
            case measure => simp [intOf]; omega
          · have t10 : ((y.toNat : Int) == 10) = false := by
              rw [beq_eq_false_iff_ne]
              intro e
              exact h10 (UInt8.toNat_inj.1 (by simp; omega))
            have HE := Lib.hid (lns_turn hkx (by rw [← hxe]; exact h13) (fun q => by rw [← hye]; exact h10))
            clear hI hb hv h1 h2 h3 h4 hx hxe hye h13 h10 hkx hkx1
            go_wp2_with (at_builtin; refine wpList_append_src rfl _ _ 22 22 rfl w.heap.size 5 i0 (.int .u8 0) 1 Tryz.underlying22 hi hz0 hz1 hz2 rfl _ l.length (bcells l) rfl (HI.out.2.2.1.alloc _) _ 1 _ rfl (src_one Tryz.underlying22 _ _ _ rfl) ?c1 ?c2 ?c3 ?_)
            case c1 => unfold maxLen; omega
            case c2 => omega
            case c3 => have := HSZ.out; simp; omega
            intro v' w2 hown1 hgrow1
            have HN := Lib.hid (HI.out.push 10 HE.out (by rfl) hown1 hgrow1)
            clear hown1 hgrow1
            go_wp2_with fail
            go_roundw
            case rel => exact ⟨k + 1, l ++ [10], _, by go_num, rfl, by omega, HN.out⟩
            case measure => simp [intOf]; omega
        · have hk1I : ¬ (k : Int) + 1 < (L : Int) := by omega
          have hk1D : decide ((k : Int) + 1 < (L : Int)) = false := by simpa using hk1I
          have HE := Lib.hid (lns_turn hkx (by rw [← hxe]; exact h13) (fun q => absurd q (by rw [← HL.out]; exact hk1)))
          clear hI hb hv h1 h2 h3 h4 hx hxe h13 hkx
          go_wp2_with (at_builtin; refine wpList_append_src rfl _ _ 22 22 rfl w.heap.size 5 i0 (.int .u8 0) 1 Tryz.underlying22 hi hz0 hz1 hz2 rfl _ l.length (bcells l) rfl (HI.out.2.2.1.alloc _) _ 1 _ rfl (src_one Tryz.underlying22 _ _ _ rfl) ?c1 ?c2 ?c3 ?_)
          case c1 => unfold maxLen; omega
          case c2 => omega
          case c3 => have := HSZ.out; simp; omega
          intro v' w2 hown1 hgrow1
          have HN := Lib.hid (HI.out.push 10 HE.out (by rfl) hown1 hgrow1)
          clear hown1 hgrow1
          go_wp2_with fail
          go_roundw
          case rel => exact ⟨k + 1, l ++ [10], _, by go_num, rfl, by omega, HN.out⟩
          case measure => simp [intOf]; omega
      · have t13 : ((x.toNat : Int) == 13) = false := by
          rw [beq_eq_false_iff_ne]
          intro e
          exact h13 (UInt8.toNat_inj.1 (by simp; omega))
        have HE := Lib.hid (lns_keep hkx (by rw [← hxe]; exact h13))
        rw [← hxe] at HE
        clear hI hb hv h1 h2 h3 h4 hx hxe h13 hkx
        go_wp2_with (at_builtin; refine wpList_append_src rfl _ _ 22 22 rfl w.heap.size 5 i0 (.int .u8 0) 1 Tryz.underlying22 hi hz0 hz1 hz2 rfl _ l.length (bcells l) rfl (HI.out.2.2.1.alloc _) _ 1 _ rfl (src_one Tryz.underlying22 _ _ _ rfl) ?c1 ?c2 ?c3 ?_)
        case c1 => unfold maxLen; omega
        case c2 => omega
        case c3 => have := HSZ.out; simp; omega
        intro v' w2 hown1 hgrow1
        have HN := Lib.hid (HI.out.push x HE.out (by rfl) hown1 hgrow1)
        clear hown1 hgrow1
        go_wp2_with fail
        go_roundw
        case rel => exact ⟨k + 1, l ++ [x], _, by go_num, rfl, by omega, HN.out⟩
        case measure => simp [intOf]; omega
    · have hkL : k = L := by omega
      have hown := hI.2.2.1
      have hll : l = lns xs := by
        have := hI.2.1
        rw [List.drop_eq_nil_of_le (by rw [← HL.out]; omega), show lns [] = [] from rfl, List.append_nil] at this
        exact this
      have hO : OwnB w.heap.size wr s5 l := OwnB.of_own hown
      have HP1 := Lib.hid (show pl true xs = flK l l.length from by rw [hll]; simp [pl, flK])
      have HP0 := Lib.hid (show pl false xs = l from by rw [hll]; rfl)
      have HBr := Lib.hid hb
      clear hI hv h1 h2 h3 h4 hown hll HI HL HR hb
      rcases hO with ⟨rfl, rfl⟩ | ⟨g, c5, hv, hr⟩
      · have HW := Lib.hid (show Rd wr (.slice none 0 0) (pl vb xs) from by
          have : pl vb xs = [] := by cases vb; exact HP0.out; rw [HP1.out]; rfl
          rw [this]
          exact Rd.nil _)
        go_wp2_with fail
        go_loopw [48] (fun s48 wx => s48 = .int .i64 0 ∧ wx = wr) (fun _ _ => 0)
        case atStart => exact ⟨rfl, rfl⟩
        case round =>
          obtain ⟨rfl, rfl⟩ := hrel
          go_wp2
          go_ret
          exact ⟨_, rfl, HW.out, HBr.out⟩
      · have hown : OwnB w.heap.size wr s5 l := .inr ⟨g, c5, hv, hr⟩
        rw [hv] at hown
        subst hv
        obtain ⟨hn, hBg, hnc, hcm, _⟩ := ownB_at hown
        obtain ⟨n, hn'⟩ : ∃ n, n = l.length := ⟨_, rfl⟩
        rw [← hn'] at hown hnc hlen ⊢
        have HO := Lib.hid hown
        have HN := Lib.hid hn'
        unfold maxLen at hcm
        clear hown hr hn hn'
        cases vb with
        | false =>
          go_wp2_with fail
          go_loopw [48] (fun s48 wx => ∃ k : Nat, k ≤ n ∧ s48 = .int .i64 k ∧ wx = wr) (fun s48 _ => n - (intOf s48).toNat)
          case atStart => exact ⟨0, by omega, rfl, rfl⟩
          case round =>
            obtain ⟨j, hj, rfl, rfl⟩ := hrel
            by_cases hlt : j < n
            · have hjl : j < l.length := by have := HN.out; omega
              obtain ⟨_, _, _, _, hcell⟩ := ownB_at HO.out
              obtain ⟨c1, f1⟩ := hcell j hjl
              obtain ⟨x, hx⟩ : ∃ x, x = l[j] := ⟨_, rfl⟩
              rw [← hx] at c1
              have hxl := x.toNat_lt
              have hjI : (j : Int) < (n : Int) := by omega
              clear hcell hx hjl
              go_wp2_with fail
              go_roundw
              case rel => exact ⟨j + 1, by omega, by go_num, by first | rfl | trivial⟩
              case measure => simp [intOf]; omega
            · go_wp2_with fail
              go_ret
              exact ⟨_, rfl, by rw [HP0.out]; exact HO.out.rd, HBr.out⟩
        | true =>
          go_wp2_with fail
          go_loopw [48] (fun s48 wx => ∃ k : Nat, k ≤ n ∧ s48 = .int .i64 k ∧ OwnB w.heap.size wx (.slice (some ⟨g, 0, none⟩) n c5) (flK l k) ∧ Below w.heap.size w wx) (fun s48 _ => n - (intOf s48).toNat)
          case atStart => exact ⟨0, by omega, rfl, by simpa [flK] using HO.out, HBr.out⟩
          case round =>
            obtain ⟨j, hj, rfl, hown, hb⟩ := hrel
            have HW := Lib.hid hown
            have HBx := Lib.hid hb
            by_cases hlt : j < n
            · have hkl : j < l.length := by have := HN.out; omega
              obtain ⟨_, _, _, _, hcell⟩ := ownB_at hown
              obtain ⟨c1, f1⟩ := hcell j (by rw [flK_len]; exact hkl)
              rw [flK_at l j hkl] at c1
              obtain ⟨x, hx⟩ : ∃ x, x = l[j] := ⟨_, rfl⟩
              rw [← hx] at c1
              have hxl := x.toNat_lt
              have HS := Lib.hid (fun (y : UInt8) (hy : tr x = y) => show OwnB w.heap.size (wr.setCell ⟨g, j, none⟩ (.int .u8 (y.toNat : Int))) (.slice (some ⟨g, 0, none⟩) n c5) (flK l (j + 1)) from by rw [← flK_set l j hkl, ← hx, hy]; exact ownB_set hown j (by rw [flK_len]; exact hkl) y)
              have HZ := Lib.hid (fun (hy : tr x = x) => show OwnB w.heap.size wr (.slice (some ⟨g, 0, none⟩) n c5) (flK l (j + 1)) from by rw [flK_same l j hkl (by rw [← hx]; exact hy)]; exact hown)
              clear hcell hown hb hx hkl
              by_cases h9 : x = 9
              · subst h9
                have hz := HS.out 32 rfl
                have HZZ := Lib.hid hz
                clear hz
                go_wp2_with fail
                go_roundw
                case rel => exact ⟨j + 1, by omega, by go_num, HZZ.out, HBx.out.setCell (p := ⟨g, j, none⟩) hBg _⟩
                case measure => simp [intOf]; omega
              · have t9 : ((x.toNat : Int) == 9) = false := by
                  rw [beq_eq_false_iff_ne]
                  intro e
                  exact h9 (UInt8.toNat_inj.1 (by simp; omega))
                by_cases h10 : x = 10
                · subst h10
                  have hz := HS.out 32 rfl
                  have HZZ := Lib.hid hz
                  clear hz h9
                  go_wp2_with fail
                  go_roundw
                  case rel => exact ⟨j + 1, by omega, by go_num, HZZ.out, HBx.out.setCell (p := ⟨g, j, none⟩) hBg _⟩
                  case measure => simp [intOf]; omega
                · have hz := HZ.out (by rw [tr, if_neg (by simp [h9, h10])])
                  have HZZ := Lib.hid hz
                  have t10 : ((x.toNat : Int) == 10) = false := by
                    rw [beq_eq_false_iff_ne]
                    intro e
                    exact h10 (UInt8.toNat_inj.1 (by simp; omega))
                  clear hz h9 h10
                  go_wp2_with fail
                  go_roundw
                  case rel => exact ⟨j + 1, by omega, by go_num, HZZ.out, HBx.out⟩
                  case measure => simp [intOf]; omega
            · obtain rfl : j = n := by omega
              have HF := Lib.hid (show Rd wr (.slice (some ⟨g, 0, none⟩) j c5) (pl true xs) from by rw [HP1.out, ← HN.out]; exact hown.rd)
              clear hown hb
              go_wp2_with fail
              go_ret
              exact ⟨_, rfl, HF.out, HBx.out⟩
end Go.Proofs.YthlphmldghppmaaGreatDoor

/- xmllex: the reference: resolve, Unescape. -/
namespace Go.Proofs.YthlphmldghppmaaGreatDoor
open Go.RowKit
set_option linter.unusedVariables false

theorem rs_end {f : Nat} {v : Bool} {a : Nat} {out : List UInt8} : rsF f v [] a out = .ok out := by cases f <;> simp [rsF]
theorem rs_text {f : Nat} {v : Bool} {r : List UInt8} {a : Nat} {out : List UInt8} (hr : r ≠ []) (h : r.head? ≠ some 38) : rsF (f + 1) v r a out = rsF f v (r.drop (upto r)) (a + upto r) (out ++ pl v (r.take (upto r))) := by
  rw [rsF, if_neg hr, if_neg h]
theorem rs_no {f : Nat} {v : Bool} {r : List UInt8} {a : Nat} {out : List UInt8} (h : r.head? = some 38) (hA : refA r = none) : rsF (f + 1) v r a out = .error a := by
  rw [rsF, if_neg (by intro e; rw [e] at h; simp at h), if_pos h, hA]
theorem rs_yes {f : Nat} {v : Bool} {r : List UInt8} {a c n : Nat} {out : List UInt8} (h : r.head? = some 38) (hA : refA r = some (c, n)) : rsF (f + 1) v r a out = rsF f v (r.drop n) (a + n) (out ++ E c) := by
  rw [rsF, if_neg (by intro e; rw [e] at h; simp at h), if_pos h, hA]
theorem upto_le (r : List UInt8) : upto r ≤ r.length := by
  unfold upto
  split
  · omega
  · have := idx1_lt r 38
    omega
theorem pl_len (v : Bool) (xs : List UInt8) : (pl v xs).length ≤ xs.length := by
  cases v
  · exact lns_len xs
  · exact fl_len xs
theorem refB_xml {s : List UInt8} {c : Nat} (h : refB s = some c) : c ≤ 1114111 := by
  have key : ∀ base r, chNum base r = some c → c ≤ 1114111 := by
    intro base r hc
    unfold chNum at hc
    split at hc
    · simp at hc
    · cases hn : numB base 4294967295 0 r with
      | none => rw [hn] at hc; simp at hc
      | some n =>
        rw [hn] at hc
        dsimp only at hc
        by_cases hx : xmlB n = true
        · rw [if_pos hx] at hc
          simp only [Option.some.injEq] at hc
          subst hc
          unfold xmlB at hx
          have h1 : ∀ m : Nat, spaceB (m : Int) = true → m ≤ 32 := by
            intro m hm
            have : ((m : Int) == 9 || (m : Int) == 10 || (m : Int) == 13 || (m : Int) == 32) = true := hm
            simp at this
            omega
          by_cases hs : spaceB (n : Int) = true
          · have := h1 n hs
            omega
          · simp [btw, hs] at hx
            omega
        · rw [if_neg hx] at hc
          simp at hc
  unfold refB at h
  repeat' split at h
  all_goals first | (simp only [Option.some.injEq] at h; omega) | exact key _ _ h | simp at h

/-- As far as the text is resolved. -/
def RsI (w : World) (vb : Bool) (xs : List UInt8) (R : Except Nat (List UInt8)) (a : Nat) (out : List UInt8) (v : Value) (wr : World) : Prop :=
  a ≤ xs.length ∧ out.length ≤ a ∧ (∃ f, xs.length - a < f ∧ rsF f vb (xs.drop a) a out = R) ∧ wr.ownsRow w.heap.size 5 1 v out.length (bcells out) ∧ Below w.heap.size w wr
set_option maxRecDepth 100000 in
set_option maxHeartbeats 4000000 in
theorem resolve_c (w : World) (v : Value) (xs : List UInt8) (h : Rd w v xs) (hl : xs.length ≤ 8388608) (vb : Bool) : Calls Tryz.prog 34 #[v, .bool vb] w (UnAft w (rsT vb xs)) := by
  obtain ⟨p, c, rfl⟩ := rd_form h
  obtain ⟨i0, hin, hz0, hz1, hz2⟩ := info_parts info8
  have HI0 := Lib.hid (show RsI w vb xs (rsT vb xs) 0 [] (.slice none 0 0) w from ⟨by omega, by simp, ⟨xs.length + 1, by omega, rfl⟩, World.ownsRow_nil _ _ _ _, Below.refl _ _⟩)
  obtain ⟨R, hR⟩ : ∃ R, R = rsT vb xs := ⟨_, rfl⟩
  rw [← hR] at HI0 ⊢
  obtain ⟨L, hL⟩ : ∃ L, L = xs.length := ⟨_, rfl⟩
  rw [← hL] at h hl ⊢
  have HL := Lib.hid hL
  have HR := Lib.hid h
  clear h hL hR
  go_enter Tryz.func34, Tryz.ntmps34
  go_wp2_with fail
  go_loopw [8, 7] (fun s8 s7 wr => ∃ (a : Nat) (out : List UInt8), s8 = .int .i64 a ∧ RsI w vb xs R a out s7 wr) (fun s8 _ _ => L - (intOf s8).toNat)
  case atStart => exact ⟨0, [], rfl, HI0.out⟩
  case round =>
    obtain ⟨a, out, rfl, hI⟩ := hrel
    obtain ⟨ha, ho, ⟨f, hf, hrs⟩, hown, hb⟩ := hI
    have haL : a ≤ L := by rw [HL.out]; exact ha
    have hol : out.length ≤ 8388608 := by omega
    have HSZ := Lib.hid hb.size
    have HB := Lib.hid hb
    have HOW := Lib.hid hown
    have hrr := HR.out.below hb
    by_cases hlt : a < L
    · have hax : a < xs.length := by rw [← HL.out]; exact hlt
      obtain ⟨p', c', hv, h1, h2, h3, h4⟩ := id hrr
      have hpc : p = p' := by cases hv; rfl
      subst hpc
      obtain ⟨b, o, hp, hx⟩ := h4 (by omega)
      subst hp
      have hx1 := hx a hax
      obtain ⟨x, hxe⟩ : ∃ x, x = xs[a]'hax := ⟨_, rfl⟩
      rw [← hxe] at hx1
      have hx256 := x.toNat_lt
      have haI : (a : Int) < (L : Int) := by omega
      have hd : xs.drop a = x :: xs.drop (a + 1) := by rw [hxe]; exact List.drop_eq_getElem_cons _
      obtain ⟨f, rfl⟩ : ∃ q, f = q + 1 := ⟨f - 1, by omega⟩
      obtain ⟨p1, m1, c1, hs1, hr1⟩ := slice_from hrr a haL
      have hrl : (xs.drop a).length = L - a := by rw [List.length_drop, ← HL.out]
      by_cases h38 : x = 38
      · have t38 : ((x.toNat : Int) != 38) = false := by rw [h38]; rfl
        have hhd : (xs.drop a).head? = some 38 := by rw [hd, h38]; rfl
        have HFD := find_c wr _ (xs.drop a) ⟨#[59]⟩ hr1 (by decide) (by omega)
        rw [show (⟨#[59]⟩ : ByteArray).data.toList = [59] from rfl] at HFD
        by_cases hi : Lib.index (xs.drop a) [59] < 0
        · have HE := Lib.hid (show .error a = R from by rw [← hrs, rs_no hhd (by unfold refA; rw [if_pos hi])])
          obtain ⟨j, hj⟩ : ∃ j, j = Lib.index (xs.drop a) [59] := ⟨_, rfl⟩
          rw [← hj] at HFD hi
          have HFD := Lib.hid HFD
          have tj : decide (j < 0) = true := by simpa using hi
          clear hv h1 h2 h3 h4 hx hxe hd hr1 hrl hhd hj hrs hrr hown hb ho hf
          go_wp2_with fail
          refine HFD.out.mono ?_
          rintro e w3 ⟨rfl, rfl⟩
          go_wp2_with fail
          go_ret3
          rw [← HE.out]
          exact ⟨rfl, HB.out⟩
        · obtain ⟨j, hj⟩ : ∃ j : Nat, Lib.index (xs.drop a) [59] = j := ⟨(Lib.index (xs.drop a) [59]).toNat, by omega⟩
          obtain ⟨e1, e2, e3⟩ := idx1_split (xs.drop a) 59 j hj
          have hj1 : 1 ≤ j := by
            rcases Nat.eq_zero_or_pos j with h0 | h0
            · exfalso
              subst h0
              rw [hd, h38, idx1_cons, if_neg (by decide)] at hj
              have := Lib.index_ge (xs.drop (a + 1)) [59]
              split at hj <;> omega
            · exact h0
          rw [hj] at HFD
          have HFD := Lib.hid HFD
          have tj : decide ((j : Int) < 0) = false := by simp
          have hajL : a + j < L := by omega
          obtain ⟨p2, m2, c2, hs2, hr2⟩ := slice_mid hrr (a + 1) (a + j) (by omega) (by omega)
          rw [show ((a + 1 : Nat) : Int) = (a : Int) + 1 by omega, show ((a + j : Nat) : Int) = (a : Int) + (j : Int) by omega] at hs2
          have hbod : (xs.drop (a + 1)).take (a + j - (a + 1)) = ((xs.drop a).drop 1).take (j - 1) := by
            rw [List.drop_drop, show a + j - (a + 1) = j - 1 by omega]
          rw [hbod] at hr2
          have HRF := rreference_c wr _ _ hr2 (by rw [List.length_take, List.length_drop]; omega)
          have hrA : refA (xs.drop a) = (refB (((xs.drop a).drop 1).take (j - 1))).map fun c => (c, j + 1) := by
            unfold refA
            rw [if_neg hi, hj]
            rfl
          obtain ⟨B, hB⟩ : ∃ B, B = refB (((xs.drop a).drop 1).take (j - 1)) := ⟨_, rfl⟩
          rw [← hB] at HRF hrA
          cases B with
          | none =>
            have HE := Lib.hid (show .error a = R from by rw [← hrs, rs_no hhd hrA])
            have HRF := Lib.hid HRF
            clear hv h1 h2 h3 h4 hx hxe hd hr1 hrl hhd hj hrs hrr hown hb ho hf hrA hB hbod hr2 e1 e2 e3 hi
            go_wp2_with fail
            refine HFD.out.mono ?_
            rintro e w3 ⟨rfl, rfl⟩
            go_wp2_with fail
            refine HRF.out.mono ?_
            rintro e w4 ⟨⟨u, rfl⟩, hb4⟩
            have HB4 := Lib.hid (HB.out.trans (hb4.mono HB.out.size))
            clear hb4
            go_wp2_with fail
            go_ret3
            rw [← HE.out]
            exact ⟨rfl, HB4.out⟩
          | some ch =>
            have hxml := refB_xml hB.symm
            have hEl := refA_E hrA
            have hE4 := E_len4 (ch : Int)
            have hen := refA_len hrA
            obtain ⟨EC, hEC⟩ : ∃ EC, EC = E (ch : Int) := ⟨_, rfl⟩
            have HNX := Lib.hid (fun (v2 : Value) (wx : World) (hown2 : wx.ownsRow w.heap.size 5 1 v2 (out ++ EC).length (bcells (out ++ EC))) (hbx : Below w.heap.size w wx) => show RsI w vb xs R (a + (j + 1)) (out ++ EC) v2 wx from
              ⟨by have := HL.out; omega, by rw [List.length_append, hEC]; omega, ⟨f, by have := HL.out; omega, by rw [← hrs, rs_yes hhd hrA, List.drop_drop, hEC]⟩, hown2, hbx⟩)
            have HEN := Lib.hid (fun (wx : World) => rencode_c wx (ch : Int) (by omega) (by omega))
            rw [← hEC] at HEN hE4
            have HRF := Lib.hid HRF
            clear hv h1 h2 h3 h4 hx hxe hd hr1 hhd hj hrs hrr hown hb ho hf hrA hB hbod hr2 e1 e2 hi hEl hEC
            go_wp2_with fail
            refine HFD.out.mono ?_
            rintro e w3 ⟨rfl, rfl⟩
            go_wp2_with fail
            refine HRF.out.mono ?_
            rintro e w4 ⟨he4, hb4⟩
            dsimp only at he4
            subst he4
            have HB4 := Lib.hid (HB.out.trans (hb4.mono HB.out.size))
            have HO4 := Lib.hid (own_below (B' := 0) HOW.out hb4)
            clear hb4
            go_wp2_with fail
            refine (HEN.out _).mono ?_
            rintro e w5 ⟨v5, rfl, hr5, hb5⟩
            have HB5 := Lib.hid (HB4.out.trans (hb5.mono HB4.out.size))
            have HO5 := Lib.hid (own_below (B' := 0) HO4.out hb5)
            have HS5 := Lib.hid (hr5.src Tryz.underlying22)
            clear hb5 hr5
            go_wp2_with (at_builtin; refine wpList_append_src rfl _ _ 22 22 rfl w.heap.size 5 i0 (.int .u8 0) 1 Tryz.underlying22 hin hz0 hz1 hz2 rfl _ out.length (bcells out) rfl HO5.out _ EC.length (bcells EC) rfl HS5.out ?c1 ?c2 ?c3 ?_)
            case c1 => unfold maxLen; omega
            case c2 => omega
            case c3 => exact HB5.out.size
            intro v6 w6 hown6 hgrow6
            have HN := Lib.hid (HNX.out v6 w6 (own_bytes hown6 (by simp [bcells])) (HB5.out.trans ((below_own hgrow6 HO5.out HB5.out.size))))
            clear hown6 hgrow6
            go_wp2_with fail
            go_roundw
            case rel => exact ⟨a + (j + 1), out ++ EC, by go_num, HN.out⟩
            case measure => simp [intOf]; omega
      · have t38 : ((x.toNat : Int) != 38) = true := by
          rw [bne_iff_ne]
          intro e
          exact h38 (UInt8.toNat_inj.1 (by simp; omega))
        have hhd : (xs.drop a).head? ≠ some 38 := by rw [hd]; simpa using h38
        have hne : xs.drop a ≠ [] := by rw [hd]; simp
        have HFD := find_c wr _ (xs.drop a) ⟨#[38]⟩ hr1 (by decide) (by omega)
        rw [show (⟨#[38]⟩ : ByteArray).data.toList = [38] from rfl] at HFD
        obtain ⟨n, hn⟩ : ∃ n, n = upto (xs.drop a) := ⟨_, rfl⟩
        have hnl := upto_le (xs.drop a)
        have hup := upto_split (xs.drop a) hne hhd
        rw [← hn] at hnl hup
        have hn1 : 1 ≤ n := hup.2.2.2.2.1
        have hanL : a + n ≤ L := by omega
        obtain ⟨p2, m2, c2, hs2, hr2⟩ := slice_mid hrr a (a + n) (by omega) (by omega)
        rw [show ((a + n : Nat) : Int) = (a : Int) + (n : Int) by omega] at hs2
        rw [show a + n - a = n by omega] at hr2
        have HPL := Lib.hid (rplain_c wr _ _ hr2 (by rw [List.length_take]; omega) vb)
        have hpl := pl_len vb ((xs.drop a).take n)
        rw [List.length_take] at hpl
        obtain ⟨PL, hPL⟩ : ∃ PL, PL = pl vb ((xs.drop a).take n) := ⟨_, rfl⟩
        rw [← hPL] at HPL hpl
        have HNX := Lib.hid (fun (v2 : Value) (wx : World) (hown2 : wx.ownsRow w.heap.size 5 1 v2 (out ++ PL).length (bcells (out ++ PL))) (hbx : Below w.heap.size w wx) => show RsI w vb xs R (a + n) (out ++ PL) v2 wx from
          ⟨by have := HL.out; omega, by rw [List.length_append]; omega, ⟨f, by have := HL.out; omega, by rw [← hrs, rs_text hne hhd, ← hn, List.drop_drop, hPL]⟩, hown2, hbx⟩)
        by_cases hi : Lib.index (xs.drop a) [38] < 0
        · have hnL : (n : Int) = (L : Int) - (a : Int) := by
            rw [hn]; unfold upto; rw [if_pos hi]; omega
          obtain ⟨j, hj⟩ : ∃ j, j = Lib.index (xs.drop a) [38] := ⟨_, rfl⟩
          rw [← hj] at HFD hi
          have HFD := Lib.hid HFD
          have tj : decide (j < 0) = true := by simpa using hi
          rw [hnL] at hs2
          have HNL := Lib.hid hnL
          clear hv h1 h2 h3 h4 hx hxe hd hr1 hrl hhd hne hj hrs hrr hown hb ho hf hn hup hr2 hPL hnL
          go_wp2_with fail
          refine HFD.out.mono ?_
          rintro e w3 ⟨rfl, rfl⟩
          go_wp2_with fail
          refine HPL.out.mono ?_
          rintro e w5 ⟨v5, rfl, hr5, hb5⟩
          have HB5 := Lib.hid (HB.out.trans (hb5.mono HB.out.size))
          have HO5 := Lib.hid (own_below (B' := 0) HOW.out hb5)
          have HS5 := Lib.hid (hr5.src Tryz.underlying22)
          clear hb5 hr5
          go_wp2_with (at_builtin; refine wpList_append_src rfl _ _ 22 22 rfl w.heap.size 5 i0 (.int .u8 0) 1 Tryz.underlying22 hin hz0 hz1 hz2 rfl _ out.length (bcells out) rfl HO5.out _ PL.length (bcells PL) rfl HS5.out ?c1 ?c2 ?c3 ?_)
          case c1 => unfold maxLen; omega
          case c2 => omega
          case c3 => exact HB5.out.size
          intro v6 w6 hown6 hgrow6
          have HN := Lib.hid (HNX.out v6 w6 (own_bytes hown6 (by simp [bcells])) (HB5.out.trans (below_own hgrow6 HO5.out HB5.out.size)))
          clear hown6 hgrow6
          go_wp2_with fail
          go_roundw
          case rel => exact ⟨a + n, out ++ PL, by first | go_num | (congr 1; have := HNL.out; omega), HN.out⟩
          case measure => simp [intOf]; omega
        · have hj : Lib.index (xs.drop a) [38] = n := by
            rw [hn]; unfold upto; rw [if_neg hi]; omega
          rw [hj] at HFD
          have HFD := Lib.hid HFD
          have tj : decide ((n : Int) < 0) = false := by simp
          clear hv h1 h2 h3 h4 hx hxe hd hr1 hrl hhd hne hj hrs hrr hown hb ho hf hn hup hr2 hPL hi
          go_wp2_with fail
          refine HFD.out.mono ?_
          rintro e w3 ⟨rfl, rfl⟩
          go_wp2_with fail
          refine HPL.out.mono ?_
          rintro e w5 ⟨v5, rfl, hr5, hb5⟩
          have HB5 := Lib.hid (HB.out.trans (hb5.mono HB.out.size))
          have HO5 := Lib.hid (own_below (B' := 0) HOW.out hb5)
          have HS5 := Lib.hid (hr5.src Tryz.underlying22)
          clear hb5 hr5
          go_wp2_with (at_builtin; refine wpList_append_src rfl _ _ 22 22 rfl w.heap.size 5 i0 (.int .u8 0) 1 Tryz.underlying22 hin hz0 hz1 hz2 rfl _ out.length (bcells out) rfl HO5.out _ PL.length (bcells PL) rfl HS5.out ?c1 ?c2 ?c3 ?_)
          case c1 => unfold maxLen; omega
          case c2 => omega
          case c3 => exact HB5.out.size
          intro v6 w6 hown6 hgrow6
          have HN := Lib.hid (HNX.out v6 w6 (own_bytes hown6 (by simp [bcells])) (HB5.out.trans (below_own hgrow6 HO5.out HB5.out.size)))
          clear hown6 hgrow6
          go_wp2_with fail
          go_roundw
          case rel => exact ⟨a + n, out ++ PL, by go_num, HN.out⟩
          case measure => simp [intOf]; omega
    · have haE : a = L := by omega
      have HE := Lib.hid (show .ok out = R from by rw [← hrs, List.drop_eq_nil_of_le (by rw [← HL.out]; omega), rs_end])
      obtain ⟨po, co, rfl⟩ := rd_form (Rd.of_own hown)
      have hcv := (Rd.of_own hown).conv (P := Tryz.prog) 22 5 9 Tryz.underlying22 Tryz.underlying5 Tryz.underlying9
      clear hrs hrr hown hb ho hf
      go_wp2_with fail
      go_ret3
      rw [← HE.out]
      exact ⟨rfl, HB.out⟩
set_option maxRecDepth 100000 in
theorem runescape_c (w : World) (v : Value) (xs : List UInt8) (h : Rd w v xs) (hl : xs.length ≤ 8388608) : Calls Tryz.prog 15 #[v] w (UnAft w (rsT false xs)) := by
  obtain ⟨p, c, rfl⟩ := rd_form h
  obtain ⟨L, hL⟩ : ∃ L, L = xs.length := ⟨_, rfl⟩
  have HC := Lib.hid (resolve_c w _ xs h hl false)
  obtain ⟨R, hR⟩ : ∃ R, R = rsT false xs := ⟨_, rfl⟩
  rw [← hR] at HC ⊢
  rw [← hL] at HC ⊢
  clear h hl hL hR
  cases R with
  | error a =>
    go_enter Tryz.func15, Tryz.ntmps15
    go_wp2_with fail
    refine HC.out.mono ?_
    rintro e w2 ⟨he, hb⟩
    have HB := Lib.hid hb
    dsimp only at he
    subst he
    clear hb
    go_wp2_with fail
    go_ret3
    exact ⟨rfl, HB.out⟩
  | ok s =>
    go_enter Tryz.func15, Tryz.ntmps15
    go_wp2_with fail
    refine HC.out.mono ?_
    rintro e w2 ⟨he, hb⟩
    have HB := Lib.hid hb
    dsimp only at he
    subst he
    clear hb
    go_wp2_with fail
    go_ret3
    exact ⟨rfl, HB.out⟩
end Go.Proofs.YthlphmldghppmaaGreatDoor

/- xmllex: the reference: attribute. -/
namespace Go.Proofs.YthlphmldghppmaaGreatDoor
open Go.RowKit
set_option linter.unusedVariables false

theorem tagR_le (r : List UInt8) : tagR r ≤ r.length := by
  have h1 := nameAt_le r
  unfold tagR
  split
  · exact h1
  · rename_i h
    split
    · exact h1
    · have h2 := nameAt_le (r.drop (nameAt r + 1))
      rw [List.length_drop] at h2
      have h3 : Lib.hasPrefix (r.drop (nameAt r)) [58] = true := by
        cases hb : Lib.hasPrefix (r.drop (nameAt r)) [58] with
        | true => rfl
        | false => exact absurd (.inr hb) h
      have := pre_len h3
      rw [List.length_drop] at this
      simp at this
      omega
theorem put2_below {w W : World} (h : Below w.heap.size w W) (c0 c1 : Value) : Below w.heap.size w (put2 W w.heap.size c0 c1) :=
  (h.setCell (p := ⟨w.heap.size, 0, none⟩) (Nat.le_refl _) _).setCell (p := ⟨w.heap.size, 1, none⟩) (Nat.le_refl _) _
theorem results_att (tm : Array Value) (V : World) (b : Nat) (c0 c1 k z : Value) (h2 : tm.getD 2 undef = .pointer (some ⟨b, 0, none⟩)) (h3 : tm.getD 3 undef = k) (h4 : tm.getD 4 undef = z) (h : V.heap[b]? = some (.cells #[c0, c1] 49 (0, 0))) :
    (results Tryz.f68 tm).run Tryz.prog V = .ok (.tuple #[.agg #[c0, c1], k, z]) V := by
  obtain ⟨e0, e1, _⟩ := cells2 h
  have h2' : tm[2]?.getD undef = .pointer (some ⟨b, 0, none⟩) := by simpa using h2
  have h3' : tm[3]?.getD undef = k := by simpa using h3
  have h4' : tm[4]?.getD undef = z := by simpa using h4
  simp [results, Tryz.results68, go_sem, h2', h3', h4', e0, e1]
/-- How attribute ends. -/
def AtEnd (w : World) (R : Except Nat ((List UInt8 × List UInt8) × Nat)) (e : Ending) (w' : World) : Prop := (match R with
  | .error z => ∃ s1 s2 n, e = .returned (.tuple #[.agg #[.string s1, .string s2], .int .i64 n, .int .i64 (z : Nat)])
  | .ok (x, m) => e = .returned (.tuple #[.agg #[.string ⟨x.1.toArray⟩, .string ⟨x.2.toArray⟩], .int .i64 (m : Nat), .int .i64 0])) ∧ Below w.heap.size w w'
theorem AtEnd.err {w w' : World} {e : Ending} {z : Nat} {s1 s2 : ByteArray} {n : Int} (h : e = .returned (.tuple #[.agg #[.string s1, .string s2], .int .i64 n, .int .i64 (z : Nat)])) (hb : Below w.heap.size w w') : AtEnd w (.error z) e w' := ⟨⟨s1, s2, n, h⟩, hb⟩

/-- What attrR says, step by step. -/
theorem attr_no {r : List UInt8} (h : tagR r = 0) : attrR r = .error 11 := by
  unfold attrR
  rw [if_pos (.inl h)]
theorem attr_eq1 {r : List UInt8} {n k : Nat} (hn : n = tagR r) (hk : k = blN (r.drop n)) (h : Lib.hasPrefix (r.drop (n + k)) [61] = false) : attrR r = .error 11 := by
  unfold attrR
  rw [← hn, ← hk, if_pos (.inr h)]
theorem attr_go {r : List UInt8} {n k k2 : Nat} (hn : n = tagR r) (hk : k = blN (r.drop n)) (h0 : n ≠ 0) (h : Lib.hasPrefix (r.drop (n + k)) [61] = true) (hk2 : k2 = blN (r.drop (n + k + 1))) :
    attrR r = if Lib.hasPrefix (r.drop (n + k + 1 + k2)) [39] = false ∧ Lib.hasPrefix (r.drop (n + k + 1 + k2)) [34] = false then .error 11 else
      match valR ((r.drop (n + k + 1 + k2)).headD 0) (r.drop (n + k + 1 + k2 + 1)) with
      | .error e => .error e
      | .ok (s, m) => .ok ((r.take n, s), n + k + 1 + k2 + m) := by
  unfold attrR
  rw [← hn, ← hk, if_neg (by rw [h]; simp [h0])]
  simp only [← hk2]
  rfl
def valV (nm : List UInt8) (at2 : Nat) (R : Except Nat (List UInt8 × Nat)) : Except Nat ((List UInt8 × List UInt8) × Nat) := match R with
  | .error e => .error e
  | .ok (s, m) => .ok ((nm, s), at2 + m)
theorem val_no {q : UInt8} {t : List UInt8} {i j : Int} (hi : i = Lib.index t [q]) (hj : j = Lib.index t [60]) (h : i < 0 ∨ (0 ≤ j ∧ j < i)) : valR q t = .error 11 := by
  unfold valR
  rw [← hi, ← hj, if_pos h]
def resV (i : Nat) (R : Except Nat (List UInt8)) : Except Nat (List UInt8 × Nat) := match R with
  | .error _ => .error 13
  | .ok s => .ok (s, i + 2)
theorem val_go {q : UInt8} {t : List UInt8} {i : Nat} {j : Int} (hi : (i : Int) = Lib.index t [q]) (hj : j = Lib.index t [60]) (h : ¬ (0 ≤ j ∧ j < (i : Int))) : valR q t = resV i (rsT true (t.take i)) := by
  unfold valR
  rw [← hi, ← hj, if_neg (by omega), Int.toNat_natCast]
  rfl
set_option maxRecDepth 100000 in
set_option maxHeartbeats 4000000 in
theorem rattribute_c (w : World) (v : Value) (xs : List UInt8) (h : Rd w v xs) (hl : xs.length ≤ 8388608) : Calls Tryz.prog 68 #[v] w (AtEnd w (attrR xs)) := by
  obtain ⟨p, c, rfl⟩ := rd_form h
  obtain ⟨L, hL⟩ : ∃ L, L = xs.length := ⟨_, rfl⟩
  rw [← hL] at h hl
  have h0 := h.below (bel_alloc w RESA)
  have HNM := Lib.hid (rname_c (w.alloc RESA) _ xs h0 (by omega))
  have hnl := tagR_le xs
  obtain ⟨n, hn⟩ : ∃ n, n = tagR xs := ⟨_, rfl⟩
  rw [← hn] at HNM hnl
  rw [← hL] at hnl ⊢
  have HR := Lib.hid h
  have HL := Lib.hid hL
  have HN := Lib.hid hn
  obtain ⟨RA, hRA⟩ : ∃ RA, RA = attrR xs := ⟨_, rfl⟩
  rw [← hRA]
  have HRA := Lib.hid hRA
  clear h h0 hL hn hRA
  go_enter Tryz.func68, Tryz.ntmps68
  go_wp2_with fail
  refine HNM.out.mono ?_
  rintro e w1 ⟨rfl, hb1⟩
  have hsz1 : w.heap.size < w1.heap.size := by have := hb1.size; simp at this; omega
  have hbx : w1.heap[w.heap.size]? = some RESA := (hb1.block _ (by simp)).trans (heap_alloc_new w _)
  have hbw : Below w.heap.size w w1 := (bel_alloc w RESA).trans (hb1.mono (by simp))
  have hr1 := HR.out.below hbw
  obtain ⟨pA, mA, cA, hsA, hrA⟩ := slice_to hr1 n hnl
  have hcA := hrA.conv (P := Tryz.prog) 22 5 9 Tryz.underlying22 Tryz.underlying5 Tryz.underlying9
  obtain ⟨S, hS⟩ : ∃ S, S = (⟨(xs.take n).toArray⟩ : ByteArray) := ⟨_, rfl⟩
  rw [← hS] at hcA
  have HSS := Lib.hid hS
  clear hS
  obtain ⟨W2, hW2⟩ : ∃ W2, W2 = w1.alloc (.cells #[.string S, .string ⟨#[]⟩] 49) := ⟨_, rfl⟩
  have hb2 : Below w1.heap.size w1 W2 := hW2 ▸ bel_alloc w1 _
  have hbx2 : W2.heap[w.heap.size]? = some RESA := (hb2.block _ hsz1).trans hbx
  have hby2 : W2.heap[w1.heap.size]? = some (.cells #[.string S, .string ⟨#[]⟩] 49 (0, 0)) := by rw [hW2]; exact heap_alloc_new w1 _
  have hbw2 : Below w.heap.size w W2 := hbw.trans (hb2.mono hbw.size)
  have hr2 := HR.out.below hbw2
  have HBW2 := Lib.hid hbw2
  have HBX2 := Lib.hid hbx2
  have HBY2 := Lib.hid hby2
  have HBY2s := Lib.hid hb2.size
  have HW3s := Lib.hid (show w1.heap.size < W2.heap.size from by rw [hW2]; simp)
  have HR2 := Lib.hid hr2
  have HRES := Lib.hid (put2_at (HBX2.out) (.string ⟨#[]⟩) (.string ⟨#[]⟩))
  have HRB := Lib.hid (put2_below HBW2.out (.string ⟨#[]⟩) (.string ⟨#[]⟩))
  obtain ⟨pB, mB, cB, hsB, hrB⟩ := slice_from hr2 n hnl
  have HBL := rblanks_c W2 _ (xs.drop n) hrB (by rw [List.length_drop, ← HL.out]; omega)
  have hkl := blN_le (xs.drop n)
  obtain ⟨k, hk⟩ : ∃ k, k = blN (xs.drop n) := ⟨_, rfl⟩
  rw [← hk] at HBL hkl
  rw [List.length_drop, ← HL.out] at hkl
  have HBL := Lib.hid HBL
  obtain ⟨z0, z1, zz⟩ := cells2 hbx2
  go_wp2_with fail
  rw [← hW2]
  clear hW2
  refine HBL.out.mono ?_
  rintro e w3 ⟨rfl, rfl⟩
  by_cases h0 : n = 0
  · have t0 : ((n : Int) == 0) = true := by simpa using h0
    have HQ := Lib.hid (HRA.out.trans (attr_no (by rw [← HN.out]; exact h0)))
    clear hr1 hrA hrB hb1 hbw hbx hb2 hbx2 hby2 hbw2 hr2 hk h0
    go_wp2_with fail
    refine bodyPost_ret (results_att _ _ w.heap.size _ _ _ _ rfl rfl rfl HRES.out) rfl ?_
    rw [HQ.out]
    exact ⟨⟨_, _, _, rfl⟩, HRB.out⟩
  have t0 : ((n : Int) == 0) = false := by simpa using h0
  obtain ⟨pC, mC, cC, hsC, hrC⟩ := slice_from hr2 (n + k) (by omega)
  rw [show ((n + k : Nat) : Int) = (n : Int) + (k : Int) by omega] at hsC
  have HB61 := begins_c w3 _ (xs.drop (n + k)) ⟨#[61]⟩ hrC
  rw [show (⟨#[61]⟩ : ByteArray).data.toList = [61] from rfl] at HB61
  cases hp61 : Lib.hasPrefix (xs.drop (n + k)) [61] with
  | false =>
    rw [hp61] at HB61
    have HB61 := Lib.hid HB61
    have HQ := Lib.hid (HRA.out.trans (attr_eq1 HN.out hk hp61))
    clear hr1 hrA hrB hrC hb1 hbw hbx hb2 hbx2 hby2 hbw2 hr2 hk h0 hp61
    go_wp2_with fail
    refine HB61.out.mono ?_
    rintro e w4 ⟨rfl, rfl⟩
    go_wp2_with fail
    refine bodyPost_ret (results_att _ _ w.heap.size _ _ _ _ rfl rfl rfl HRES.out) rfl ?_
    rw [HQ.out]
    exact ⟨⟨_, _, _, rfl⟩, HRB.out⟩
  | true =>
    have hpl := pre_len hp61
    rw [List.length_drop, ← HL.out] at hpl
    simp only [List.length_singleton] at hpl
    have hkL1 : n + k + 1 ≤ L := by omega
    rw [hp61] at HB61
    have HB61 := Lib.hid HB61
    obtain ⟨pD, mD, cD, hsD, hrD⟩ := slice_from hr2 (n + k + 1) hkL1
    rw [show ((n + k + 1 : Nat) : Int) = (n : Int) + (k : Int) + 1 by omega] at hsD
    have HBL2 := rblanks_c w3 _ (xs.drop (n + k + 1)) hrD (by rw [List.length_drop, ← HL.out]; omega)
    have hkl2 := blN_le (xs.drop (n + k + 1))
    obtain ⟨k2, hk2⟩ : ∃ k2, k2 = blN (xs.drop (n + k + 1)) := ⟨_, rfl⟩
    rw [← hk2] at HBL2 hkl2
    rw [List.length_drop, ← HL.out] at hkl2
    have HBL2 := Lib.hid HBL2
    have HGO := Lib.hid (attr_go HN.out hk h0 hp61 hk2)
    obtain ⟨a2, ha2⟩ : ∃ a2, a2 = n + k + 1 + k2 := ⟨_, rfl⟩
    rw [← ha2] at HGO
    have ha2L : a2 ≤ L := by omega
    have ha2I : (n : Int) + (k : Int) + 1 + (k2 : Int) = (a2 : Int) := by omega
    obtain ⟨pE, mE, cE, hsE, hrE⟩ := slice_from hr2 a2 ha2L
    have HB39 := begins_c w3 _ (xs.drop a2) ⟨#[39]⟩ hrE
    rw [show (⟨#[39]⟩ : ByteArray).data.toList = [39] from rfl] at HB39
    have HB34 := begins_c w3 _ (xs.drop a2) ⟨#[34]⟩ hrE
    rw [show (⟨#[34]⟩ : ByteArray).data.toList = [34] from rfl] at HB34
    have HA2 := Lib.hid ha2I
    clear hr1 hrA hrB hrC hrD hb1 hbw hbx hb2 hbx2 hby2 hbw2 hk hk2 h0 hp61 ha2
    go_wp2_with fail
    refine HB61.out.mono ?_
    rintro e w4 ⟨rfl, rfl⟩
    go_wp2_with fail
    refine HBL2.out.mono ?_
    rintro e w5 ⟨rfl, rfl⟩
    have hb2s := HBY2s.out
    have hW3s := HW3s.out
    cases h39 : Lib.hasPrefix (xs.drop a2) [39] with
    | true =>
      rw [h39] at HB39
      have HB39 := Lib.hid HB39
      clear HB34
      have hqd : xs.drop a2 = 39 :: xs.drop (a2 + 1) := by
        obtain ⟨u, hu⟩ := pre_head h39
        have h9 := congrArg (List.drop 1) hu
        rw [List.drop_drop] at h9
        rw [hu, h9]
        rfl
      have hplq := pre_len h39
      rw [List.length_drop, ← HL.out] at hplq
      simp only [List.length_singleton] at hplq
      have ha3 : a2 + 1 ≤ L := by omega
      have HG2 := Lib.hid (show attrR xs = valV (xs.take n) a2 (valR 39 (xs.drop (a2 + 1))) from by
        rw [HGO.out, if_neg (by rw [h39]; simp), hqd]
        rfl)
      obtain ⟨pF, mF, cF, hsF, hrF⟩ := slice_from hr2 (a2 + 1) ha3
      rw [show ((a2 + 1 : Nat) : Int) = (a2 : Int) + 1 by omega] at hsF
      obtain ⟨pG, mG, cG, hsG, hrG⟩ := slice_mid hr2 a2 (a2 + 1) (by omega) ha3
      rw [show ((a2 + 1 : Nat) : Int) = (a2 : Int) + 1 by omega] at hsG
      rw [show a2 + 1 - a2 = 1 by omega, hqd, List.take_succ_cons, List.take_zero] at hrG
      have hcG := fun d => (hrG.below (below_drewN (Below.refl _ w5) d)).conv (P := Tryz.prog) 22 5 9 Tryz.underlying22 Tryz.underlying5 Tryz.underlying9
      have hcG0 := hrG.conv (P := Tryz.prog) 22 5 9 Tryz.underlying22 Tryz.underlying5 Tryz.underlying9
      have HFQ := fun d => find_c (w5.drewN d) _ (xs.drop (a2 + 1)) ⟨#[39]⟩ (hrF.below (below_drewN (Below.refl _ w5) d)) (by decide) (by rw [List.length_drop, ← HL.out]; omega)
      rw [show (⟨#[39]⟩ : ByteArray).data.toList = [39] from rfl] at HFQ
      have HFL := fun d => find_c (w5.drewN d) _ (xs.drop (a2 + 1)) ⟨#[60]⟩ (hrF.below (below_drewN (Below.refl _ w5) d)) (by decide) (by rw [List.length_drop, ← HL.out]; omega)
      rw [show (⟨#[60]⟩ : ByteArray).data.toList = [60] from rfl] at HFL
      obtain ⟨i, hi⟩ : ∃ i, i = Lib.index (xs.drop (a2 + 1)) [39] := ⟨_, rfl⟩
      obtain ⟨j, hj⟩ : ∃ j, j = Lib.index (xs.drop (a2 + 1)) [60] := ⟨_, rfl⟩
      rw [← hi] at HFQ
      rw [← hj] at HFL
      have HFQ := Lib.hid HFQ
      have HFL := Lib.hid HFL
      have HRESD := Lib.hid (fun d => put2_at ((((below_drewN (Below.refl _ w5) d).block _ (Nat.lt_of_lt_of_le hsz1 hb2s)).trans HBX2.out)) (.string ⟨#[]⟩) (.string ⟨#[]⟩))
      have HRBD := Lib.hid (fun d => put2_below (HBW2.out.trans ((below_drewN (Below.refl _ w5) d).mono HBW2.out.size)) (.string ⟨#[]⟩) (.string ⟨#[]⟩))
      have hzd := fun d => (cells2 (((below_drewN (Below.refl _ w5) d).block _ (Nat.lt_of_lt_of_le hsz1 hb2s)).trans HBX2.out))
      have z0d := fun d => (hzd d).1
      have z1d := fun d => (hzd d).2.1
      by_cases h1 : i < 0 ∨ (0 ≤ j ∧ j < i)
      · have HQ := Lib.hid (show RA = .error 11 from by rw [HRA.out, HG2.out, val_no hi hj h1]; rfl)
        have HI1 := Lib.hid h1
        clear hr2 hrE hrF hrG hi hj hqd hplq h39 h1 hzd
        go_upto_region 10 with ((go_at_call 24; refine (HB39.out).mono ?_; rintro e w8 ⟨rfl, rfl⟩))
        go_quiet ((go_at_call 25; exact Calls.quiet_of_same (HFQ.out _)))
        go_wp2_with fail
        refine (HFL.out _).mono ?_
        rintro e w6 ⟨rfl, rfl⟩
        by_cases hi0 : i < 0
        · have ti : decide (i < 0) = true := by simpa using hi0
          clear hi0
          go_wp2_with fail
          refine bodyPost_ret (results_att _ _ w.heap.size _ _ _ _ rfl rfl rfl (HRESD.out _)) rfl ?_
          rw [HQ.out]
          exact ⟨⟨_, _, _, rfl⟩, HRBD.out _⟩
        · have hjj := HI1.out.resolve_left hi0
          have ti : decide (i < 0) = false := by simpa using hi0
          have tj : decide (0 ≤ j) = true := by simpa using hjj.1
          have tji : decide (j < i) = true := by simpa using hjj.2
          clear hi0 hjj
          go_wp2_with fail
          refine bodyPost_ret (results_att _ _ w.heap.size _ _ _ _ rfl rfl rfl (HRESD.out _)) rfl ?_
          rw [HQ.out]
          exact ⟨⟨_, _, _, rfl⟩, HRBD.out _⟩
      · obtain ⟨i, rfl⟩ : ∃ q : Nat, i = (q : Int) := ⟨i.toNat, by omega⟩
        have hlt := idx1_lt (xs.drop (a2 + 1)) 39
        rw [← hi, List.length_drop, ← HL.out] at hlt
        have hiL : a2 + 1 + i ≤ L := by rcases hlt with h9 | h9 <;> omega
        have h2 : ¬ (0 ≤ j ∧ j < (i : Int)) := fun h9 => h1 (.inr h9)
        obtain ⟨pH, mH, cH, hsH, hrH⟩ := slice_mid hr2 (a2 + 1) (a2 + 1 + i) (by omega) hiL
        rw [show ((a2 + 1 + i : Nat) : Int) = (a2 : Int) + 1 + (i : Int) by omega, show ((a2 + 1 : Nat) : Int) = (a2 : Int) + 1 by omega] at hsH
        rw [show a2 + 1 + i - (a2 + 1) = i by omega] at hrH
        have HRS := fun d => resolve_c (w5.drewN d) _ _ (hrH.below (below_drewN (Below.refl _ w5) d)) (by rw [List.length_take, List.length_drop, ← HL.out]; omega) true
        have HVG := Lib.hid (val_go hi hj h2)
        obtain ⟨R, hR⟩ : ∃ R, R = rsT true ((xs.drop (a2 + 1)).take i) := ⟨_, rfl⟩
        rw [← hR] at HRS HVG
        have HRS := Lib.hid HRS
        have ti : decide ((i : Int) < 0) = false := by simp
        have HJ := Lib.hid h2
        have HQ := Lib.hid (show RA = valV (xs.take n) a2 (resV i R) from by rw [HRA.out, HG2.out, HVG.out])
        have HBD := Lib.hid (fun d => below_drewN (Below.refl w5.heap.size w5) d)
        have hszd : w1.heap.size < w5.heap.size := hW3s
        have HZD := Lib.hid hszd
        clear hr2 hrE hrF hrG hi hj hqd hplq h39 h1 hrH hlt h2 hR hzd hszd
        go_upto_region 10 with ((go_at_call 24; refine (HB39.out).mono ?_; rintro e w8 ⟨rfl, rfl⟩))
        go_quiet ((go_at_call 25; exact Calls.quiet_of_same (HFQ.out _)))
        go_wp2_with fail
        refine (HFL.out _).mono ?_
        rintro e w6 ⟨rfl, rfl⟩
        by_cases hj0 : 0 ≤ j
        all_goals
          first | have tj : decide (0 ≤ j) = true := by simpa using hj0 | have tj : decide (0 ≤ j) = false := by simpa using hj0
          have tji : 0 ≤ j → decide (j < (i : Int)) = false := by have := HJ.out; intro q; simp; omega
          first | (have tji := tji hj0) | clear tji
          clear hj0
          go_wp2_with fail
          refine (HRS.out _).mono ?_
          rintro e w7 ⟨he, hb7⟩
          have hb37 := (HBD.out _).trans (hb7.mono (HBD.out _).size)
          have HB7 := Lib.hid (HBW2.out.trans (hb37.mono HBW2.out.size))
          have hbx7 := (hb37.block _ (Nat.lt_trans hsz1 HZD.out)).trans HBX2.out
          have hby7 := (hb37.block _ HZD.out).trans HBY2.out
          obtain ⟨x0, x1, xz⟩ := cells2 hbx7
          obtain ⟨y0, y1, yz⟩ := cells2 hby7
          cases R with
          | error z =>
            dsimp only at he
            subst he
            have hbz := (Below.heap_setCell w7 ⟨w1.heap.size, 1, none⟩ (.string ⟨#[]⟩) w.heap.size (by simp; omega)).trans hbx7
            have HRE := Lib.hid (put2_at hbz (.string S) (.string ⟨#[]⟩))
            have HBE := Lib.hid (put2_below (HB7.out.setCell (p := ⟨w1.heap.size, 1, none⟩) (Nat.le_of_lt hsz1) (.string ⟨#[]⟩)) (.string S) (.string ⟨#[]⟩))
            clear hb7 hb37 hbx7 hby7 hbz
            go_wp2_with fail
            refine bodyPost_ret (results_att _ _ w.heap.size _ _ _ _ rfl rfl rfl HRE.out) rfl ?_
            rw [HQ.out]
            exact ⟨⟨_, _, _, rfl⟩, HBE.out⟩
          | ok t =>
            dsimp only at he
            obtain ⟨S2, hS2⟩ : ∃ S2, S2 = (⟨t.toArray⟩ : ByteArray) := ⟨_, rfl⟩
            rw [← hS2] at he
            subst he
            have HS2 := Lib.hid hS2
            have hbz := (Below.heap_setCell w7 ⟨w1.heap.size, 1, none⟩ (.string S2) w.heap.size (by simp; omega)).trans hbx7
            have HRE := Lib.hid (put2_at hbz (.string S) (.string S2))
            have HBE := Lib.hid (put2_below (HB7.out.setCell (p := ⟨w1.heap.size, 1, none⟩) (Nat.le_of_lt hsz1) (.string S2)) (.string S) (.string S2))
            clear hb7 hb37 hbx7 hby7 hbz hS2
            go_wp2_with fail
            refine bodyPost_ret (results_att _ _ w.heap.size _ _ _ _ rfl rfl rfl HRE.out) rfl ?_
            rw [HQ.out]
            refine ⟨?_, HBE.out⟩
            show _ = _
            rw [HSS.out, HS2.out]
            first | rfl | (congr 4; omega) | (congr 5; omega)
    | false =>
      rw [h39] at HB39
      have HB39 := Lib.hid HB39
      cases h34 : Lib.hasPrefix (xs.drop a2) [34] with
      | true =>
        rw [h34] at HB34
        have HB34 := Lib.hid HB34
        have hqd : xs.drop a2 = 34 :: xs.drop (a2 + 1) := by
          obtain ⟨u, hu⟩ := pre_head h34
          have h9 := congrArg (List.drop 1) hu
          rw [List.drop_drop] at h9
          rw [hu, h9]
          rfl
        have hplq := pre_len h34
        rw [List.length_drop, ← HL.out] at hplq
        simp only [List.length_singleton] at hplq
        have ha3 : a2 + 1 ≤ L := by omega
        have HG2 := Lib.hid (show attrR xs = valV (xs.take n) a2 (valR 34 (xs.drop (a2 + 1))) from by
          rw [HGO.out, if_neg (by rw [h34]; simp), hqd]
          rfl)
        obtain ⟨pF, mF, cF, hsF, hrF⟩ := slice_from hr2 (a2 + 1) ha3
        rw [show ((a2 + 1 : Nat) : Int) = (a2 : Int) + 1 by omega] at hsF
        obtain ⟨pG, mG, cG, hsG, hrG⟩ := slice_mid hr2 a2 (a2 + 1) (by omega) ha3
        rw [show ((a2 + 1 : Nat) : Int) = (a2 : Int) + 1 by omega] at hsG
        rw [show a2 + 1 - a2 = 1 by omega, hqd, List.take_succ_cons, List.take_zero] at hrG
        have hcG := fun d => (hrG.below (below_drewN (Below.refl _ w5) d)).conv (P := Tryz.prog) 22 5 9 Tryz.underlying22 Tryz.underlying5 Tryz.underlying9
        have hcG0 := hrG.conv (P := Tryz.prog) 22 5 9 Tryz.underlying22 Tryz.underlying5 Tryz.underlying9
        have HFQ := fun d => find_c (w5.drewN d) _ (xs.drop (a2 + 1)) ⟨#[34]⟩ (hrF.below (below_drewN (Below.refl _ w5) d)) (by decide) (by rw [List.length_drop, ← HL.out]; omega)
        rw [show (⟨#[34]⟩ : ByteArray).data.toList = [34] from rfl] at HFQ
        have HFL := fun d => find_c (w5.drewN d) _ (xs.drop (a2 + 1)) ⟨#[60]⟩ (hrF.below (below_drewN (Below.refl _ w5) d)) (by decide) (by rw [List.length_drop, ← HL.out]; omega)
        rw [show (⟨#[60]⟩ : ByteArray).data.toList = [60] from rfl] at HFL
        obtain ⟨i, hi⟩ : ∃ i, i = Lib.index (xs.drop (a2 + 1)) [34] := ⟨_, rfl⟩
        obtain ⟨j, hj⟩ : ∃ j, j = Lib.index (xs.drop (a2 + 1)) [60] := ⟨_, rfl⟩
        rw [← hi] at HFQ
        rw [← hj] at HFL
        have HFQ := Lib.hid HFQ
        have HFL := Lib.hid HFL
        have HRESD := Lib.hid (fun d => put2_at ((((below_drewN (Below.refl _ w5) d).block _ (Nat.lt_of_lt_of_le hsz1 hb2s)).trans HBX2.out)) (.string ⟨#[]⟩) (.string ⟨#[]⟩))
        have HRBD := Lib.hid (fun d => put2_below (HBW2.out.trans ((below_drewN (Below.refl _ w5) d).mono HBW2.out.size)) (.string ⟨#[]⟩) (.string ⟨#[]⟩))
        have hzd := fun d => (cells2 (((below_drewN (Below.refl _ w5) d).block _ (Nat.lt_of_lt_of_le hsz1 hb2s)).trans HBX2.out))
        have z0d := fun d => (hzd d).1
        have z1d := fun d => (hzd d).2.1
        by_cases h1 : i < 0 ∨ (0 ≤ j ∧ j < i)
        · have HQ := Lib.hid (show RA = .error 11 from by rw [HRA.out, HG2.out, val_no hi hj h1]; rfl)
          have HI1 := Lib.hid h1
          clear hr2 hrE hrF hrG hi hj hqd hplq h34 h1 hzd
          go_upto_region 10 with (first | (go_at_call 24; with_reducible refine (HB34.out).mono ?_; rintro e w8 ⟨rfl, rfl⟩) | (go_at_call 24; with_reducible refine (HB39.out).mono ?_; rintro e w8 ⟨rfl, rfl⟩))
          go_quiet ((go_at_call 25; exact Calls.quiet_of_same (HFQ.out _)))
          go_wp2_with fail
          refine (HFL.out _).mono ?_
          rintro e w6 ⟨rfl, rfl⟩
          by_cases hi0 : i < 0
          · have ti : decide (i < 0) = true := by simpa using hi0
            clear hi0
            go_wp2_with fail
            refine bodyPost_ret (results_att _ _ w.heap.size _ _ _ _ rfl rfl rfl (HRESD.out _)) rfl ?_
            rw [HQ.out]
            exact ⟨⟨_, _, _, rfl⟩, HRBD.out _⟩
          · have hjj := HI1.out.resolve_left hi0
            have ti : decide (i < 0) = false := by simpa using hi0
            have tj : decide (0 ≤ j) = true := by simpa using hjj.1
            have tji : decide (j < i) = true := by simpa using hjj.2
            clear hi0 hjj
            go_wp2_with fail
            refine bodyPost_ret (results_att _ _ w.heap.size _ _ _ _ rfl rfl rfl (HRESD.out _)) rfl ?_
            rw [HQ.out]
            exact ⟨⟨_, _, _, rfl⟩, HRBD.out _⟩
        · obtain ⟨i, rfl⟩ : ∃ q : Nat, i = (q : Int) := ⟨i.toNat, by omega⟩
          have hlt := idx1_lt (xs.drop (a2 + 1)) 34
          rw [← hi, List.length_drop, ← HL.out] at hlt
          have hiL : a2 + 1 + i ≤ L := by rcases hlt with h9 | h9 <;> omega
          have h2 : ¬ (0 ≤ j ∧ j < (i : Int)) := fun h9 => h1 (.inr h9)
          obtain ⟨pH, mH, cH, hsH, hrH⟩ := slice_mid hr2 (a2 + 1) (a2 + 1 + i) (by omega) hiL
          rw [show ((a2 + 1 + i : Nat) : Int) = (a2 : Int) + 1 + (i : Int) by omega, show ((a2 + 1 : Nat) : Int) = (a2 : Int) + 1 by omega] at hsH
          rw [show a2 + 1 + i - (a2 + 1) = i by omega] at hrH
          have HRS := fun d => resolve_c (w5.drewN d) _ _ (hrH.below (below_drewN (Below.refl _ w5) d)) (by rw [List.length_take, List.length_drop, ← HL.out]; omega) true
          have HVG := Lib.hid (val_go hi hj h2)
          obtain ⟨R, hR⟩ : ∃ R, R = rsT true ((xs.drop (a2 + 1)).take i) := ⟨_, rfl⟩
          rw [← hR] at HRS HVG
          have HRS := Lib.hid HRS
          have ti : decide ((i : Int) < 0) = false := by simp
          have HJ := Lib.hid h2
          have HQ := Lib.hid (show RA = valV (xs.take n) a2 (resV i R) from by rw [HRA.out, HG2.out, HVG.out])
          have HBD := Lib.hid (fun d => below_drewN (Below.refl w5.heap.size w5) d)
          have hszd : w1.heap.size < w5.heap.size := hW3s
          have HZD := Lib.hid hszd
          clear hr2 hrE hrF hrG hi hj hqd hplq h34 h1 hrH hlt h2 hR hzd hszd
          go_upto_region 10 with (first | (go_at_call 24; with_reducible refine (HB34.out).mono ?_; rintro e w8 ⟨rfl, rfl⟩) | (go_at_call 24; with_reducible refine (HB39.out).mono ?_; rintro e w8 ⟨rfl, rfl⟩))
          go_quiet ((go_at_call 25; exact Calls.quiet_of_same (HFQ.out _)))
          go_wp2_with fail
          refine (HFL.out _).mono ?_
          rintro e w6 ⟨rfl, rfl⟩
          by_cases hj0 : 0 ≤ j
          all_goals
            first | have tj : decide (0 ≤ j) = true := by simpa using hj0 | have tj : decide (0 ≤ j) = false := by simpa using hj0
            have tji : 0 ≤ j → decide (j < (i : Int)) = false := by have := HJ.out; intro q; simp; omega
            first | (have tji := tji hj0) | clear tji
            clear hj0
            go_wp2_with fail
            refine (HRS.out _).mono ?_
            rintro e w7 ⟨he, hb7⟩
            have hb37 := (HBD.out _).trans (hb7.mono (HBD.out _).size)
            have HB7 := Lib.hid (HBW2.out.trans (hb37.mono HBW2.out.size))
            have hbx7 := (hb37.block _ (Nat.lt_trans hsz1 HZD.out)).trans HBX2.out
            have hby7 := (hb37.block _ HZD.out).trans HBY2.out
            obtain ⟨x0, x1, xz⟩ := cells2 hbx7
            obtain ⟨y0, y1, yz⟩ := cells2 hby7
            cases R with
            | error z =>
              dsimp only at he
              subst he
              have hbz := (Below.heap_setCell w7 ⟨w1.heap.size, 1, none⟩ (.string ⟨#[]⟩) w.heap.size (by simp; omega)).trans hbx7
              have HRE := Lib.hid (put2_at hbz (.string S) (.string ⟨#[]⟩))
              have HBE := Lib.hid (put2_below (HB7.out.setCell (p := ⟨w1.heap.size, 1, none⟩) (Nat.le_of_lt hsz1) (.string ⟨#[]⟩)) (.string S) (.string ⟨#[]⟩))
              clear hb7 hb37 hbx7 hby7 hbz
              go_wp2_with fail
              refine bodyPost_ret (results_att _ _ w.heap.size _ _ _ _ rfl rfl rfl HRE.out) rfl ?_
              rw [HQ.out]
              exact ⟨⟨_, _, _, rfl⟩, HBE.out⟩
            | ok t =>
              dsimp only at he
              obtain ⟨S2, hS2⟩ : ∃ S2, S2 = (⟨t.toArray⟩ : ByteArray) := ⟨_, rfl⟩
              rw [← hS2] at he
              subst he
              have HS2 := Lib.hid hS2
              have hbz := (Below.heap_setCell w7 ⟨w1.heap.size, 1, none⟩ (.string S2) w.heap.size (by simp; omega)).trans hbx7
              have HRE := Lib.hid (put2_at hbz (.string S) (.string S2))
              have HBE := Lib.hid (put2_below (HB7.out.setCell (p := ⟨w1.heap.size, 1, none⟩) (Nat.le_of_lt hsz1) (.string S2)) (.string S) (.string S2))
              clear hb7 hb37 hbx7 hby7 hbz hS2
              go_wp2_with fail
              refine bodyPost_ret (results_att _ _ w.heap.size _ _ _ _ rfl rfl rfl HRE.out) rfl ?_
              rw [HQ.out]
              refine ⟨?_, HBE.out⟩
              show _ = _
              rw [HSS.out, HS2.out]
              first | rfl | (congr 4; omega) | (congr 5; omega)
      | false =>
        rw [h34] at HB34
        have HB34 := Lib.hid HB34
        have HQ := Lib.hid (show RA = .error 11 from by rw [HRA.out, HGO.out, if_pos ⟨h39, h34⟩])
        clear h39 h34 hr2 hrE
        go_wp2_with (first | (go_at_call 24; with_reducible refine (HB34.out).mono ?_; rintro e w8 ⟨rfl, rfl⟩) | (go_at_call 24; with_reducible refine (HB39.out).mono ?_; rintro e w8 ⟨rfl, rfl⟩))
        refine bodyPost_ret (results_att _ _ w.heap.size _ _ _ _ rfl rfl rfl HRES.out) rfl ?_
        rw [HQ.out]
        exact ⟨⟨_, _, _, rfl⟩, HRB.out⟩
end Go.Proofs.YthlphmldghppmaaGreatDoor

/- xmllex: the reference: opening. -/
namespace Go.Proofs.YthlphmldghppmaaGreatDoor
open Go.RowKit
set_option linter.unusedVariables false

abbrev ZT : Value := .agg #[.int .i64 0, .string ⟨#[]⟩, .slice none 0 0, .bool false, .string ⟨#[]⟩]
theorem tup3 {v z : Value} {a b : Int} (h : a = b) : Ending.returned (.tuple #[v, .int .i64 a, z]) = .returned (.tuple #[v, .int .i64 b, z]) := by rw [h]
/-- How opening and token end. -/
def TkEnd (w : World) (R : Except Nat (Tk × Nat)) (e : Ending) (w' : World) : Prop := (match R with
  | .error z => e = .returned (.tuple #[ZT, .int .i64 0, .int .i64 (z : Nat)])
  | .ok (t, m) => ∃ v, e = .returned (.tuple #[v, .int .i64 (m : Nat), .int .i64 0]) ∧ VT t w' v) ∧ Below w.heap.size w w'
theorem OwnS.below {w w' : World} {base : Nat} {e : TypeId} {size : Nat} {v : Value} {n : Nat} {xs : List Value} (h : OwnS w base e size v n xs) (hb : Below w.heap.size w w') : OwnS w' base e size v n xs :=
  h.keep fun g hg => hb.block g (h.lt g hg)
theorem OwnS.base {w : World} {base : Nat} {e : TypeId} {size : Nat} {v : Value} {n : Nat} {xs : List Value} (h : OwnS w base e size v n xs) : ∀ g, v.ownBlock = some g → base ≤ g := by
  intro k hk
  rcases h.2 with ⟨rfl, _⟩ | ⟨g, off, cap, cur, rfl, hb, _⟩
  · simp [Value.ownBlock] at hk
  · simp [Value.ownBlock] at hk
    omega
theorem OwnS.ne {w : World} {base n size : Nat} {e : TypeId} {v : Value} {xs : List Value} (h : OwnS w base e size v n xs) {b : Nat} {cs : Array Value} {T : TypeId} {z : Nat × Nat} (hb : w.heap[b]? = some (.cells cs T z)) (hT : e ≠ T) : ∀ g, v.ownBlock = some g → g ≠ b := by
  intro k hk
  rcases h.2 with ⟨rfl, _⟩ | ⟨g, off, cap, cur, rfl, _, hg, _⟩
  · simp [Value.ownBlock] at hk
  · simp [Value.ownBlock] at hk
    subst hk
    rintro rfl
    rw [hg] at hb
    cases hb
    exact hT rfl
theorem AtsIs.ofOwnS {w : World} {base : Nat} {v : Value} {l : List (List UInt8 × List UInt8)} (h : OwnS w base 49 2 v l.length (acells l)) : AtsIs w v l := by
  obtain ⟨p, c, hv, h1, h2, h3⟩ := h.form
  refine ⟨p, c, hv, h1, h2, h3, fun hp => ?_⟩
  rcases h.2 with ⟨_, h0⟩ | ⟨g, off, cap, cur, hv2, _⟩
  · omega
  · rw [hv] at hv2
    cases hv2
    exact ⟨g, off, rfl, fun j u hu => h.cell hv j u hu⟩
theorem srcA (w : World) (B : Nat) (s1 s2 : ByteArray) (hB : w.heap.size = B) : Src Tryz.prog 2 24 (.slice (some ⟨B, 0, none⟩) 1 1) 1 [.string s1, .string s2] (w.alloc (.cells #[.string s1, .string s2] 49)) := by
  subst hB
  refine Src.ofSlice _ Tryz.underlying24 _ 1 1 _ rfl (fun j u hj => ?_) (fun u hu => ?_)
  · match j, hj with
    | 0, hj => simp at hj; subst hj; simp [Addr.add]
    | 1, hj => simp at hj; subst hj; simp [Addr.add]
    | j + 2, hj => simp at hj
  · simp at hu
    rcases hu with rfl | rfl <;> rfl
theorem val_len {q : UInt8} {t s : List UInt8} {m : Nat} (h : valR q t = .ok (s, m)) : m ≤ t.length + 1 ∧ 1 ≤ t.length := by
  unfold valR at h
  split at h
  · simp at h
  · rename_i hi
    cases hr : rsT true (t.take (Lib.index t [q]).toNat) with
    | error z => rw [hr] at h; simp at h
    | ok u =>
      rw [hr] at h
      simp only [Except.ok.injEq, Prod.mk.injEq] at h
      have := idx1_lt t q
      omega
theorem attr_len {r : List UInt8} {x : List UInt8 × List UInt8} {m : Nat} (h : attrR r = .ok (x, m)) : m ≤ r.length := by
  by_cases h0 : tagR r = 0
  · rw [attr_no h0] at h
    simp at h
  cases hp : Lib.hasPrefix (r.drop (tagR r + blN (r.drop (tagR r)))) [61] with
  | false =>
    rw [attr_eq1 rfl rfl hp] at h
    simp at h
  | true =>
    rw [attr_go rfl rfl h0 hp rfl] at h
    generalize tagR r + blN (r.drop (tagR r)) + 1 + blN (r.drop (tagR r + blN (r.drop (tagR r)) + 1)) = a2 at h
    split at h
    · simp at h
    · cases hv : valR ((r.drop a2).headD 0) (r.drop (a2 + 1)) with
      | error z => rw [hv] at h; simp at h
      | ok sm =>
        obtain ⟨s, m2⟩ := sm
        rw [hv] at h
        simp only [Except.ok.injEq, Prod.mk.injEq] at h
        have := val_len hv
        rw [List.length_drop] at this
        omega

/-- The tag as far as it is read. -/
structure OqS (w : World) (b1 : Nat) (S : ByteArray) (l : List (List UInt8 × List UInt8)) (sv : Value) (wr : World) : Prop where
  bel : Below w.heap.size w wr
  za : wr.heap[w.heap.size]? = some REST
  zb : wr.heap[b1]? = some (.cells #[.int .i64 1, .string S, sv, .bool false, .string ⟨#[]⟩] 26 (0, 0))
  own : OwnS wr w.heap.size 49 2 sv l.length (acells l)
  hi : w.heap.size < b1
theorem OqS.go {w wr w' : World} {b1 : Nat} {S : ByteArray} {l : List (List UInt8 × List UInt8)} {sv : Value} (h : OqS w b1 S l sv wr) (hb : Below wr.heap.size wr w') : OqS w b1 S l sv w' :=
  ⟨h.bel.trans (hb.mono h.bel.size), (hb.block _ (Array.getElem?_eq_some_iff.1 h.za).1).trans h.za, (hb.block _ (Array.getElem?_eq_some_iff.1 h.zb).1).trans h.zb, h.own.below hb, h.hi⟩
theorem OqS.push {w wr w3 w4 : World} {b1 : Nat} {S : ByteArray} {l : List (List UInt8 × List UInt8)} {sv sv' : Value} {x : List UInt8 × List UInt8} (h : OqS w b1 S l sv wr) (hb : Below wr.heap.size wr w3) (hg : w3.grownBy w4 sv.ownBlock)
    (hown : OwnS w4 w.heap.size 49 2 sv' (l.length + 1) (acells l ++ [.string ⟨x.1.toArray⟩, .string ⟨x.2.toArray⟩])) : OqS w b1 S (l ++ [x]) sv' (w4.setCell ⟨b1, 2, none⟩ sv') := by
  have h3 := h.go hb
  have hz : ∀ i, i < w3.heap.size → sv.ownBlock ≠ some i → w4.heap[i]? = w3.heap[i]? := fun i hi hn => hg.block i hi (fun e => hn e.symm)
  have hb1 : w4.heap[b1]? = some (.cells #[.int .i64 1, .string S, sv, .bool false, .string ⟨#[]⟩] 26 (0, 0)) :=
    (hz b1 (Array.getElem?_eq_some_iff.1 h3.zb).1 (fun e => h3.own.ne h3.zb (by decide) b1 e rfl)).trans h3.zb
  refine ⟨(h3.bel.grown hg h3.bel.size h3.own.base).setCell (p := ⟨b1, 2, none⟩) (Nat.le_of_lt h.hi) _, ?_, ?_, ?_, h.hi⟩
  · rw [Below.heap_setCell _ _ _ _ (by have := h.hi; simp; omega)]
    exact (hz _ (Array.getElem?_eq_some_iff.1 h3.za).1 (fun e => h3.own.ne h3.za (by decide) _ e rfl)).trans h3.za
  · rw [block_set _ _ _ _ _ _ _ hb1]
    rfl
  · have hl : acells (l ++ [x]) = acells l ++ [.string ⟨x.1.toArray⟩, .string ⟨x.2.toArray⟩] := by unfold acells; rw [List.flatMap_append]; rfl
    rw [hl, List.length_append]
    exact hown.keep fun g hg2 => Below.heap_setCell _ _ _ _ (hown.ne hb1 (by decide) g hg2)
theorem OqS.zb4 {w wr w3 w4 : World} {b1 : Nat} {S : ByteArray} {l : List (List UInt8 × List UInt8)} {sv : Value} (h : OqS w b1 S l sv wr) (hb : Below wr.heap.size wr w3) (hg : w3.grownBy w4 sv.ownBlock) : w4.heap[b1]? = some (.cells #[.int .i64 1, .string S, sv, .bool false, .string ⟨#[]⟩] 26 (0, 0)) :=
  (hg.block b1 (Array.getElem?_eq_some_iff.1 (h.go hb).zb).1 (fun e => (h.go hb).own.ne (h.go hb).zb (by decide) b1 e.symm rfl)).trans (h.go hb).zb
theorem OqS.give {w wr w5 : World} {b1 : Nat} {S : ByteArray} {l : List (List UInt8 × List UInt8)} {sv : Value} (h : OqS w b1 S l sv wr) (hw : w5 = wr ∨ w5 = wr.setCell ⟨b1, 3, none⟩ (.bool true)) (em : Bool) :
    (put5 w5 w.heap.size (.int .i64 1) (.string S) sv (.bool em) (.string ⟨#[]⟩)).heap[w.heap.size]? = some (.cells #[.int .i64 1, .string S, sv, .bool em, .string ⟨#[]⟩] 26 (0, 0)) ∧
    Below w.heap.size w (put5 w5 w.heap.size (.int .i64 1) (.string S) sv (.bool em) (.string ⟨#[]⟩)) ∧ AtsIs (put5 w5 w.heap.size (.int .i64 1) (.string S) sv (.bool em) (.string ⟨#[]⟩)) sv l := by
  have hk1 : Chg [b1] wr w5 := by
    rcases hw with rfl | rfl
    · exact Chg.refl _ _
    · exact (Chg.refl _ _).set' _ _ _ (.inl (by simp))
  have hb5 : w5.heap[w.heap.size]? = some REST := (hk1.block _ (Array.getElem?_eq_some_iff.1 h.za).1 (by have := h.hi; simp; omega)).trans h.za
  have hk5 := put5_chg w5 w.heap.size (.int .i64 1) (.string S) sv (.bool em) (.string ⟨#[]⟩)
  refine ⟨put5_at hb5 _ _ _ _ _, ?_, AtsIs.ofOwnS (h.own.keep fun g hg => ?_)⟩
  · have hc : Chg [] w (put5 w5 w.heap.size (.int .i64 1) (.string S) sv (.bool em) (.string ⟨#[]⟩)) := ((Chg.of_below (S := []) h.bel).then hk1 (fun i hi => by simp at hi; subst hi; exact .inr (Nat.le_of_lt h.hi))).then hk5 (fun i hi => by simp at hi; subst hi; exact .inr (Nat.le_refl _))
    exact hc.below (Nat.le_refl _) (by simp)
  · have hgl := h.own.lt g hg
    exact (hk5.block g (Nat.lt_of_lt_of_le hgl hk1.size) (by simpa using h.own.ne h.za (by decide) g hg)).trans (hk1.block g hgl (by simpa using h.own.ne h.zb (by decide) g hg))
theorem put5_below {w W : World} (h : Below w.heap.size w W) (c0 c1 c2 c3 c4 : Value) : Below w.heap.size w (put5 W w.heap.size c0 c1 c2 c3 c4) :=
  ((Chg.of_below (S := []) h).then (put5_chg W w.heap.size c0 c1 c2 c3 c4) (fun i hi => by simp at hi; subst hi; exact .inr (Nat.le_refl _))).below (Nat.le_refl _) (by simp)
theorem results_opn (tm : Array Value) (V : World) (b : Nat) (c0 c1 c2 c3 c4 k z : Value) (h2 : tm.getD 2 undef = .pointer (some ⟨b, 0, none⟩)) (h3 : tm.getD 3 undef = k) (h4 : tm.getD 4 undef = z) (h : V.heap[b]? = some (.cells #[c0, c1, c2, c3, c4] 26 (0, 0))) :
    (results Tryz.f48 tm).run Tryz.prog V = .ok (.tuple #[.agg #[c0, c1, c2, c3, c4], k, z]) V := by
  obtain ⟨e0, e1, e2, e3, e4, _⟩ := cellsX5 h
  have h2' : tm[2]?.getD undef = .pointer (some ⟨b, 0, none⟩) := by simpa using h2
  have h3' : tm[3]?.getD undef = k := by simpa using h3
  have h4' : tm[4]?.getD undef = z := by simpa using h4
  simp [results, Tryz.results48, go_sem, h2', h3', h4', e0, e1, e2, e3, e4]
/-- The empty token is handed out. -/
theorem zero_give {w W : World} (hb : W.heap[w.heap.size]? = some REST) (h : Below w.heap.size w W) :
    (put5 W w.heap.size (.int .i64 0) (.string ⟨#[]⟩) (.slice none 0 0) (.bool false) (.string ⟨#[]⟩)).heap[w.heap.size]? = some (.cells #[.int .i64 0, .string ⟨#[]⟩, .slice none 0 0, .bool false, .string ⟨#[]⟩] 26 (0, 0)) ∧ Below w.heap.size w (put5 W w.heap.size (.int .i64 0) (.string ⟨#[]⟩) (.slice none 0 0) (.bool false) (.string ⟨#[]⟩)) :=
  ⟨put5_at hb _ _ _ _ _, put5_below h _ _ _ _ _⟩
theorem zero_give_alloc {w W : World} (hb : W.heap[w.heap.size]? = some REST) (h : Below w.heap.size w W) (o : Obj) :
    ((put5 W w.heap.size (.int .i64 0) (.string ⟨#[]⟩) (.slice none 0 0) (.bool false) (.string ⟨#[]⟩)).alloc o).heap[w.heap.size]? = some (.cells #[.int .i64 0, .string ⟨#[]⟩, .slice none 0 0, .bool false, .string ⟨#[]⟩] 26 (0, 0)) ∧ Below w.heap.size w ((put5 W w.heap.size (.int .i64 0) (.string ⟨#[]⟩) (.slice none 0 0) (.bool false) (.string ⟨#[]⟩)).alloc o) := by
  obtain ⟨h1, h2⟩ := zero_give hb h
  exact ⟨((bel_alloc _ o).block _ (Array.getElem?_eq_some_iff.1 h1).1).trans h1, h2.trans ((bel_alloc _ o).mono h2.size)⟩

def OqI (w : World) (b1 : Nat) (S : ByteArray) (xs : List UInt8) (R : Except Nat ((List (List UInt8 × List UInt8) × Bool) × Nat)) (k : Nat) (wr : World) : Prop :=
  ∃ g l sv, 1 + k ≤ xs.length ∧ l.length ≤ k ∧ xs.length - (1 + k) < g ∧ opnF attrR g (xs.drop (1 + k)) k l = R ∧ OqS w b1 S l sv wr
def upO (nm : List UInt8) (R : Except Nat ((List (List UInt8 × List UInt8) × Bool) × Nat)) : Except Nat (Tk × Nat) := upT 1 (opnV nm R)
set_option maxRecDepth 100000 in
set_option maxHeartbeats 4000000 in
theorem ropening_c (w : World) (v : Value) (xs : List UInt8) (h : Rd w v xs) (h1 : 1 ≤ xs.length) (hl : xs.length ≤ 8388608) : Calls Tryz.prog 48 #[v] w (TkEnd w (upT 1 (opnR (xs.drop 1)))) := by
  obtain ⟨p, c, rfl⟩ := rd_form h
  obtain ⟨L, hL⟩ : ∃ L, L = xs.length := ⟨_, rfl⟩
  obtain ⟨i0, hin, hz0, hz1, hz2⟩ := infoAtX
  rw [← hL] at h hl h1
  have h0 := h.below (bel_alloc w REST)
  obtain ⟨pA, mA, cA, hsA, hrA⟩ := slice_from h0 1 h1
  rw [show ((1 : Nat) : Int) = 1 from rfl] at hsA
  have HNM := Lib.hid (rname_c (w.alloc REST) _ (xs.drop 1) hrA (by rw [List.length_drop]; omega))
  have hnl := tagR_le (xs.drop 1)
  obtain ⟨n, hn⟩ : ∃ n, n = tagR (xs.drop 1) := ⟨_, rfl⟩
  rw [← hn] at HNM hnl
  rw [List.length_drop, ← hL] at hnl
  rw [← hL]
  have HR := Lib.hid h
  have HL := Lib.hid hL
  have HN := Lib.hid hn
  clear h h0 hL hn hrA
  by_cases hn0 : n = 0
  · rw [show opnR (xs.drop 1) = .error 11 from by unfold opnR; rw [← HN.out, if_pos hn0]]
    have t0 : ((n : Int) == 0) = true := by simpa using hn0
    clear hn0
    go_enter Tryz.func48, Tryz.ntmps48
    go_wp2_with fail
    refine HNM.out.mono ?_
    rintro e w1 ⟨rfl, hb1⟩
    have hbx : w1.heap[w.heap.size]? = some REST := (hb1.block _ (by simp)).trans (heap_alloc_new w _)
    have hbw : Below w.heap.size w w1 := (bel_alloc w REST).trans (hb1.mono (by simp))
    have HZ := Lib.hid (zero_give hbx hbw)
    obtain ⟨z0, z1, z2, z3, z4, zz⟩ := cellsX5 hbx
    clear hb1 hbx hbw
    go_wp2_with fail
    refine bodyPost_ret (results_opn _ _ w.heap.size _ _ _ _ _ _ _ rfl rfl rfl HZ.out.1) rfl ?_
    exact ⟨rfl, HZ.out.2⟩
  obtain ⟨R, hR⟩ : ∃ R, R = opnF attrR ((xs.drop 1).length + 1) (xs.drop (1 + n)) n [] := ⟨_, rfl⟩
  have hA : upT 1 (opnR (xs.drop 1)) = upO ((xs.drop 1).take n) R := by
    unfold opnR
    rw [← HN.out, if_neg hn0, List.drop_drop, hR]
    rfl
  rw [hA]
  obtain ⟨nm, hnm⟩ : ∃ nm, nm = (xs.drop 1).take n := ⟨_, rfl⟩
  rw [← hnm]
  obtain ⟨S, hS⟩ : ∃ S, S = (⟨nm.toArray⟩ : ByteArray) := ⟨_, rfl⟩
  have HNM2 := Lib.hid hnm
  have HSS := Lib.hid hS
  have HRR := Lib.hid hR
  have t0 : ((n : Int) == 0) = false := by simpa using hn0
  clear hn0 hA hR hS hnm
  go_enter Tryz.func48, Tryz.ntmps48
  go_wp2_with fail
  refine HNM.out.mono ?_
  rintro e w1 ⟨rfl, hb1⟩
  have hsz1 : w.heap.size < w1.heap.size := by have := hb1.size; simp at this; omega
  have hbx : w1.heap[w.heap.size]? = some REST := (hb1.block _ (by simp)).trans (heap_alloc_new w _)
  have hbw : Below w.heap.size w w1 := (bel_alloc w REST).trans (hb1.mono (by simp))
  obtain ⟨pB, mB, cB, hsB, hrB⟩ := slice_mid (HR.out.below hbw) 1 (1 + n) (by omega) (by omega)
  rw [show ((1 + n : Nat) : Int) = 1 + (n : Int) by omega, show ((1 : Nat) : Int) = 1 from rfl] at hsB
  rw [show 1 + n - 1 = n by omega] at hrB
  have hcB := hrB.conv (P := Tryz.prog) 22 5 9 Tryz.underlying22 Tryz.underlying5 Tryz.underlying9
  rw [← HNM2.out, ← HSS.out] at hcB
  have HI := Lib.hid (show OqI w w1.heap.size S xs R n (w1.alloc (.cells #[.int .i64 1, .string S, .slice none 0 0, .bool false, .string ⟨#[]⟩] 26)) from
    ⟨_, [], .slice none 0 0, by have := HL.out; omega, Nat.zero_le _, by rw [List.length_drop]; omega, HRR.out.symm, ⟨hbw.trans ((bel_alloc w1 _).mono hbw.size), ((bel_alloc w1 _).block _ hsz1).trans hbx, heap_alloc_new w1 _, OwnS.nil _ _ _ _, hsz1⟩⟩)
  clear hb1 hbx hbw hrB
  go_wp2_with fail
  go_loopw [7] (fun s7 wr => ∃ k : Nat, s7 = .int .i64 (1 + (k : Int)) ∧ OqI w w1.heap.size S xs R k wr) (fun s7 _ => L + 1 - (intOf s7).toNat)
  case atStart => exact ⟨n, rfl, HI.out⟩
  case round =>
    obtain ⟨k, rfl, g, l, sv, hkL, hlk, hg, hop, ho⟩ := hrel
    obtain ⟨g, rfl⟩ : ∃ q, g = q + 1 := ⟨g - 1, by omega⟩
    have HO := Lib.hid ho
    have hkL1 : 1 + k ≤ L := by rw [HL.out]; exact hkL
    have HLK := Lib.hid hlk
    have HG := Lib.hid hg
    have hrr := HR.out.below ho.bel
    obtain ⟨p1, m1, c1, hs1, hr1⟩ := slice_from hrr (1 + k) hkL1
    rw [show ((1 + k : Nat) : Int) = 1 + (k : Int) by omega] at hs1
    have HBL := rblanks_c wr _ (xs.drop (1 + k)) hr1 (by rw [List.length_drop, ← HL.out]; omega)
    have hml := blN_le (xs.drop (1 + k))
    obtain ⟨m0, hm0⟩ : ∃ m0, m0 = blN (xs.drop (1 + k)) := ⟨_, rfl⟩
    rw [← hm0] at HBL hml
    rw [List.length_drop, ← HL.out] at hml
    have HBL := Lib.hid HBL
    have hdd : (xs.drop (1 + k)).drop m0 = xs.drop (1 + k + m0) := by rw [List.drop_drop]
    have hkm : 1 + k + m0 ≤ L := by omega
    obtain ⟨p2, m2, c2, hs2, hr2⟩ := slice_from hrr (1 + k + m0) hkm
    rw [show ((1 + k + m0 : Nat) : Int) = 1 + (k : Int) + (m0 : Int) by omega] at hs2
    have HB62 := begins_c wr _ (xs.drop (1 + k + m0)) ⟨#[62]⟩ hr2
    rw [show (⟨#[62]⟩ : ByteArray).data.toList = [62] from rfl] at HB62
    have HB47 := begins_c wr _ (xs.drop (1 + k + m0)) ⟨#[47, 62]⟩ hr2
    rw [show (⟨#[47, 62]⟩ : ByteArray).data.toList = [47, 62] from rfl] at HB47
    have hsv := ho.own.form
    obtain ⟨pv, cv, hsv, _⟩ := hsv
    subst hsv
    obtain ⟨q0, q1, q2, q3, q4, qz⟩ := cellsX5 ho.zb
    obtain ⟨z0, z1, z2, z3, z4, zz⟩ := cellsX5 ho.za
    have hlt1 := ho.hi
    cases hx1 : Lib.hasPrefix (xs.drop (1 + k + m0)) [62] with
    | true =>
      rw [hx1] at HB62
      have HB62 := Lib.hid HB62
      have HGV := Lib.hid (ho.give (.inl rfl) false)
      rw [opn_gt (by rw [← hm0, hdd]; exact hx1), ← hm0] at hop
      have HRE := Lib.hid hop
      clear ho hop hx1 hdd hm0 hrr hr1 hr2 hg HB47
      go_wp2_with fail
      refine HBL.out.mono ?_
      rintro e w2 ⟨rfl, rfl⟩
      go_wp2_with fail
      refine HB62.out.mono ?_
      rintro e w3 ⟨rfl, rfl⟩
      go_wp2_with fail
      refine bodyPost_ret (results_opn _ _ w.heap.size _ _ _ _ _ _ _ rfl rfl rfl HGV.out.1) rfl ?_
      rw [← HRE.out]
      exact ⟨⟨_, tup3 (by omega), ⟨_, by rw [HSS.out]; rfl, HGV.out.2.2⟩⟩, HGV.out.2.1⟩
    | false =>
      rw [hx1] at HB62
      have HB62 := Lib.hid HB62
      cases hx2 : Lib.hasPrefix (xs.drop (1 + k + m0)) [47, 62] with
      | true =>
        rw [hx2] at HB47
        have HB47 := Lib.hid HB47
        have HGV := Lib.hid (ho.give (.inr rfl) true)
        rw [opn_em (by rw [← hm0, hdd]; exact hx1) (by rw [← hm0, hdd]; exact hx2), ← hm0] at hop
        have HRE := Lib.hid hop
        have hz0 := (cellsX5 ((Below.heap_setCell wr ⟨w1.heap.size, 3, none⟩ (.bool true) w.heap.size (by simp; omega)).trans ho.za))
        obtain ⟨y0, y1, y2, y3, y4, yz⟩ := hz0
        clear ho hop hx1 hx2 hdd hm0 hrr hr1 hr2 hg
        go_wp2_with fail
        refine HBL.out.mono ?_
        rintro e w2 ⟨rfl, rfl⟩
        go_wp2_with fail
        refine HB62.out.mono ?_
        rintro e w3 ⟨rfl, rfl⟩
        go_wp2_with fail
        refine HB47.out.mono ?_
        rintro e w4 ⟨rfl, rfl⟩
        go_wp2_with fail
        refine bodyPost_ret (results_opn _ _ w.heap.size _ _ _ _ _ _ _ rfl rfl rfl HGV.out.1) rfl ?_
        rw [← HRE.out]
        exact ⟨⟨_, tup3 (by omega), ⟨_, by rw [HSS.out]; rfl, HGV.out.2.2⟩⟩, HGV.out.2.1⟩
      | false =>
        rw [hx2] at HB47
        have HB47 := Lib.hid HB47
        have HZV := Lib.hid (zero_give ho.za ho.bel)
        by_cases hm : m0 = 0
        · rw [opn_ap (by rw [← hm0, hdd]; exact hx1) (by rw [← hm0, hdd]; exact hx2) (by rw [← hm0]; exact hm)] at hop
          have HRE := Lib.hid hop
          have tm : ((m0 : Int) == 0) = true := by simpa using hm
          clear ho hop hx1 hx2 hdd hm0 hrr hr1 hr2 hg hm
          go_wp2_with fail
          refine HBL.out.mono ?_
          rintro e w2 ⟨rfl, rfl⟩
          go_wp2_with fail
          refine HB62.out.mono ?_
          rintro e w3 ⟨rfl, rfl⟩
          go_wp2_with fail
          refine HB47.out.mono ?_
          rintro e w4 ⟨rfl, rfl⟩
          go_wp2_with fail
          refine bodyPost_ret (results_opn _ _ w.heap.size _ _ _ _ _ _ _ rfl rfl rfl HZV.out.1) rfl ?_
          rw [← HRE.out]
          exact ⟨rfl, HZV.out.2⟩
        · have tm : ((m0 : Int) == 0) = false := by simpa using hm
          rw [opn_go (by rw [← hm0, hdd]; exact hx1) (by rw [← hm0, hdd]; exact hx2) (by rw [← hm0]; exact hm), ← hm0, hdd] at hop
          have HAT := rattribute_c wr _ (xs.drop (1 + k + m0)) hr2 (by rw [List.length_drop, ← HL.out]; omega)
          have hnz := nz_attrP (xs.drop (1 + k + m0))
          rw [attr_eq] at hnz
          obtain ⟨A, hA⟩ : ∃ A, A = attrR (xs.drop (1 + k + m0)) := ⟨_, rfl⟩
          rw [← hA] at HAT hop hnz
          have HAT := Lib.hid HAT
          cases A with
          | error z =>
            have hzz := hnz z rfl
            have tz : ((z : Int) != 0) = true := by simpa using hzz
            have HRE := Lib.hid (show .error z = R from hop)
            clear ho hop hx1 hx2 hdd hm0 hrr hr1 hr2 hg hm hA hnz hzz
            go_wp2_with fail
            refine HBL.out.mono ?_
            rintro e w2 ⟨rfl, rfl⟩
            go_wp2_with fail
            refine HB62.out.mono ?_
            rintro e w3 ⟨rfl, rfl⟩
            go_wp2_with fail
            refine HB47.out.mono ?_
            rintro e w4 ⟨rfl, rfl⟩
            go_wp2_with fail
            refine HAT.out.mono ?_
            rintro e w5 ⟨⟨s1, s2, n5, rfl⟩, hb5⟩
            have ho5 := (HO.out.go hb5).go (bel_alloc w5 (.cells #[.string s1, .string s2] 49))
            obtain ⟨y0, y1, y2, y3, y4, yz⟩ := cellsX5 (HO.out.go hb5).za
            have HZ5 := Lib.hid (zero_give_alloc (HO.out.go hb5).za (HO.out.go hb5).bel (.cells #[.string s1, .string s2] 49))
            have hlt5 : w.heap.size < w5.heap.size := (Array.getElem?_eq_some_iff.1 (HO.out.go hb5).za).1
            clear ho5 hb5
            go_wp2_with fail
            refine bodyPost_ret (results_opn _ _ w.heap.size _ _ _ _ _ _ _ rfl rfl rfl HZ5.out.1) rfl ?_
            rw [← HRE.out]
            exact ⟨rfl, HZ5.out.2⟩
          | ok xm =>
            obtain ⟨x, m⟩ := xm
            have hop : opnF attrR g (xs.drop (1 + k + m0 + m)) (k + m0 + m) (l ++ [x]) = R := by
              rw [← hop]
              dsimp only
              rw [List.drop_drop, Nat.add_assoc (1 + k) m0 m]
            have hmL : 1 + k + m0 + m ≤ L := by
              have := attr_len hA.symm
              rw [List.length_drop, ← HL.out] at this
              omega
            have HOP := Lib.hid hop
            have HMM := Lib.hid (show 1 ≤ m0 from by omega)
            obtain ⟨S1, hS1⟩ : ∃ S1, S1 = (⟨x.1.toArray⟩ : ByteArray) := ⟨_, rfl⟩
            obtain ⟨S2, hS2⟩ : ∃ S2, S2 = (⟨x.2.toArray⟩ : ByteArray) := ⟨_, rfl⟩
            have HAT : Hid (Calls Tryz.prog 68 #[.slice p2 m2 c2] wr fun e w' => e = .returned (.tuple #[.agg #[.string S1, .string S2], .int .i64 (m : Nat), .int .i64 0]) ∧ Below wr.heap.size wr w') := by
              rw [hS1, hS2]
              exact HAT
            have HS1 := Lib.hid hS1
            have HS2 := Lib.hid hS2
            clear ho hop hx1 hx2 hdd hm0 hrr hr1 hr2 hg hm hA hnz hS1 hS2
            go_wp2_with fail
            refine HBL.out.mono ?_
            rintro e w2 ⟨rfl, rfl⟩
            go_wp2_with fail
            refine HB62.out.mono ?_
            rintro e w3 ⟨rfl, rfl⟩
            go_wp2_with fail
            refine HB47.out.mono ?_
            rintro e w4 ⟨rfl, rfl⟩
            go_wp2_with fail
            refine HAT.out.mono ?_
            rintro e w5 ⟨rfl, hb5⟩
            have ho5 := HO.out.go hb5
            have ho6 := ho5.go (bel_alloc w5 (.cells #[.string S1, .string S2] 49))
            have HO5 := Lib.hid ho5
            have HO6 := Lib.hid ho6
            obtain ⟨y0, y1, y2, y3, y4, yz⟩ := cellsX5 ho5.zb
            have hlt5 : w1.heap.size < w5.heap.size := (Array.getElem?_eq_some_iff.1 ho5.zb).1
            have HSZ5 := Lib.hid ho5.bel.size
            have hll : l.length ≤ 8388608 := by have := HLK.out; omega
            clear ho5 ho6 hb5 q0 q1 q2 q3 q4 qz z0 z1 z2 z3 z4 zz
            go_wp2_with (at_builtin; refine wpList_append_S rfl _ _ 24 24 rfl w.heap.size 49 i0 (.agg #[.string ⟨#[]⟩, .string ⟨#[]⟩]) 2 32 Tryz.underlying24 hin hz0 hz1 hz2 rfl (Nat.succ_pos _) (.slice pv l.length cv) l.length (acells l) rfl ((HO6.out.go (bel_alloc _ _)).own) _ 1 _ rfl (srcA (w5.alloc _) (w5.heap.size + 1) S1 S2 (by simp)) ?c1 ?c2 ?c3 ?_)
            case c1 => unfold maxLen; omega
            case c2 => omega
            case c3 => have := HSZ5.out; simp; omega
            intro v' w6 hown6 hgrow6 _
            obtain ⟨tp, tc, rfl, htc, _⟩ := hown6.form
            have HP := Lib.hid (OqS.push (x := x) HO6.out (bel_alloc _ _) hgrow6 (by rw [← HS1.out, ← HS2.out]; exact hown6))
            obtain ⟨x0, x1, x2, x3, x4, xz⟩ := cellsX5 (HO6.out.zb4 (bel_alloc _ _) hgrow6)
            clear hown6 hgrow6 htc y0 y1 y2 y3 y4 yz
            go_wp2_with fail
            go_roundw
            case rel => exact ⟨k + m0 + m, by go_num, g, l ++ [x], _, by have := HL.out; omega, by have := HLK.out; have := HMM.out; simp; omega, by have := HG.out; have := HMM.out; have := HL.out; omega, by rw [← HOP.out, show 1 + (k + m0 + m) = 1 + k + m0 + m by omega], HP.out⟩
            case measure => have := HMM.out; simp [intOf]; omega
end Go.Proofs.YthlphmldghppmaaGreatDoor

/- xmllex: the reference: token. -/
namespace Go.Proofs.YthlphmldghppmaaGreatDoor
open Go.RowKit
set_option linter.unusedVariables false

theorem results_tok (tm : Array Value) (V : World) (b : Nat) (c0 c1 c2 c3 c4 k z : Value) (h2 : tm.getD 2 undef = .pointer (some ⟨b, 0, none⟩)) (h3 : tm.getD 3 undef = k) (h4 : tm.getD 4 undef = z) (h : V.heap[b]? = some (.cells #[c0, c1, c2, c3, c4] 26 (0, 0))) :
    (results Tryz.f22 tm).run Tryz.prog V = .ok (.tuple #[.agg #[c0, c1, c2, c3, c4], k, z]) V := by
  obtain ⟨e0, e1, e2, e3, e4, _⟩ := cellsX5 h
  have h2' : tm[2]?.getD undef = .pointer (some ⟨b, 0, none⟩) := by simpa using h2
  have h3' : tm[3]?.getD undef = k := by simpa using h3
  have h4' : tm[4]?.getD undef = z := by simpa using h4
  simp [results, Tryz.results22, go_sem, h2', h3', h4', e0, e1, e2, e3, e4]
/-- A token without attributes is handed out. -/
theorem plain_give {w W : World} (hb : W.heap[w.heap.size]? = some REST) (h : Below w.heap.size w W) (k : Nat) (S1 S2 : ByteArray) {n1 n2 : List UInt8} (h1 : S1 = ⟨n1.toArray⟩) (h2 : S2 = ⟨n2.toArray⟩) :
    (put5 W w.heap.size (.int .i64 (k : Nat)) (.string S1) (.slice none 0 0) (.bool false) (.string S2)).heap[w.heap.size]? = some (.cells #[.int .i64 (k : Nat), .string S1, .slice none 0 0, .bool false, .string S2] 26 (0, 0)) ∧ Below w.heap.size w (put5 W w.heap.size (.int .i64 (k : Nat)) (.string S1) (.slice none 0 0) (.bool false) (.string S2)) ∧
    VT ⟨k, n1, [], false, n2⟩ (put5 W w.heap.size (.int .i64 (k : Nat)) (.string S1) (.slice none 0 0) (.bool false) (.string S2)) (.agg #[.int .i64 (k : Nat), .string S1, .slice none 0 0, .bool false, .string S2]) :=
  ⟨put5_at hb _ _ _ _ _, put5_below h _ _ _ _ _, ⟨_, by rw [h1, h2], AtsIs.nil _⟩⟩
theorem idx_ge0 {i : Int} (h : ¬ i < 0) : ∃ n : Nat, i = n := ⟨i.toNat, by omega⟩
def datV (n : Nat) (R : Except Nat (List UInt8)) : Except Nat (Tk × Nat) := match R with
  | .error _ => .error 13
  | .ok s => .ok (⟨3, [], [], false, s⟩, n)
theorem dat_no {r : List UInt8} {n : Nat} (hn : n = (if Lib.index r [60] < 0 then r.length else (Lib.index r [60]).toNat)) (h : 0 ≤ Lib.index (r.take n) [93, 93, 62]) : datP r = .error 11 := by
  subst hn
  unfold datP
  rw [if_pos h]
theorem dat_go {r : List UInt8} {n : Nat} (hn : n = (if Lib.index r [60] < 0 then r.length else (Lib.index r [60]).toNat)) (h : ¬ 0 ≤ Lib.index (r.take n) [93, 93, 62]) : datP r = datV n (rsT false (r.take n)) := by
  subst hn
  unfold datP
  rw [if_neg h]
  rfl
set_option maxRecDepth 100000 in
set_option maxHeartbeats 4000000 in
theorem rtoken_c (w : World) (v : Value) (xs : List UInt8) (h : Rd w v xs) (hl : xs.length ≤ 8388608) : Calls Tryz.prog 22 #[v] w (TkEnd w (tokG opnR cloR xs)) := by
  obtain ⟨p, c, rfl⟩ := rd_form h
  obtain ⟨L, hL⟩ : ∃ L, L = xs.length := ⟨_, rfl⟩
  rw [← hL] at h hl
  have h0 := h.below (bel_alloc w REST)
  have hbx : (w.alloc REST).heap[w.heap.size]? = some REST := heap_alloc_new w _
  have hbw := bel_alloc w REST
  have HZ := Lib.hid (And.intro hbx hbw)
  obtain ⟨z0, z1, z2, z3, z4, zz⟩ := cellsX5 hbx
  have HB1 := begins_c (w.alloc REST) _ xs ⟨#[60, 33, 91, 67, 68, 65, 84, 65, 91]⟩ h0
  rw [show (⟨#[60, 33, 91, 67, 68, 65, 84, 65, 91]⟩ : ByteArray).data.toList = [60, 33, 91, 67, 68, 65, 84, 65, 91] from rfl] at HB1
  have HB2 := begins_c (w.alloc REST) _ xs ⟨#[60, 33, 68, 79, 67, 84, 89, 80, 69]⟩ h0
  rw [show (⟨#[60, 33, 68, 79, 67, 84, 89, 80, 69]⟩ : ByteArray).data.toList = [60, 33, 68, 79, 67, 84, 89, 80, 69] from rfl] at HB2
  have HB3 := begins_c (w.alloc REST) _ xs ⟨#[60, 47]⟩ h0
  rw [show (⟨#[60, 47]⟩ : ByteArray).data.toList = [60, 47] from rfl] at HB3
  have HB4 := begins_c (w.alloc REST) _ xs ⟨#[60]⟩ h0
  rw [show (⟨#[60]⟩ : ByteArray).data.toList = [60] from rfl] at HB4
  have HR := Lib.hid h
  have HL := Lib.hid hL
  have HBW := Lib.hid hbw
  have HBX := Lib.hid hbx
  rw [← hL]
  cases h1 : Lib.hasPrefix xs [60, 33, 91, 67, 68, 65, 84, 65, 91] with
  | true =>
    rw [h1] at HB1
    have HB1 := Lib.hid HB1
    have hpl := pre_len h1
    rw [← HL.out] at hpl
    have hpl : 9 ≤ L := by simpa using hpl
    rw [tok_cd h1]
    obtain ⟨pA, mA, cA, hsA, hrA⟩ := slice_from h0 9 hpl
    rw [show ((9 : Nat) : Int) = 9 from rfl] at hsA
    have HFD := find_c (w.alloc REST) _ (xs.drop 9) ⟨#[93, 93, 62]⟩ hrA (by decide) (by rw [List.length_drop, ← HL.out]; omega)
    rw [show (⟨#[93, 93, 62]⟩ : ByteArray).data.toList = [93, 93, 62] from rfl] at HFD
    by_cases hi : Lib.index (xs.drop 9) [93, 93, 62] < 0
    · rw [if_pos hi]
      obtain ⟨j, hj⟩ : ∃ j, j = Lib.index (xs.drop 9) [93, 93, 62] := ⟨_, rfl⟩
      rw [← hj] at HFD hi
      have HFD := Lib.hid HFD
      have tj : decide (j < 0) = true := by simpa using hi
      clear h h0 hL hbx hbw h1 hrA hj hi HB2 HB3 HB4
      go_enter Tryz.func22, Tryz.ntmps22
      go_wp2_with fail
      refine HB1.out.mono ?_
      rintro e w1 ⟨rfl, rfl⟩
      go_wp2_with fail
      refine HFD.out.mono ?_
      rintro e w2 ⟨rfl, rfl⟩
      go_wp2_with fail
      refine bodyPost_ret (results_tok _ _ w.heap.size _ _ _ _ _ _ _ rfl rfl rfl HZ.out.1) rfl ?_
      exact ⟨rfl, HZ.out.2⟩
    · rw [if_neg hi]
      obtain ⟨i, hi'⟩ := idx_ge0 hi
      have hroom := Lib.index_room (xs.drop 9) [93, 93, 62] (by omega)
      rw [hi', List.length_drop, ← HL.out] at hroom
      have hroom : 9 + i + 3 ≤ L := by simp at hroom; omega
      rw [hi'] at HFD ⊢
      have HFD := Lib.hid HFD
      have ti : decide ((i : Int) < 0) = false := by simp
      obtain ⟨pB, mB, cB, hsB, hrB⟩ := slice_mid h0 9 (9 + i) (by omega) (by omega)
      rw [show ((9 + i : Nat) : Int) = 9 + (i : Int) by omega, show ((9 : Nat) : Int) = 9 from rfl] at hsB
      rw [show 9 + i - 9 = i by omega] at hrB
      have HPL := rplain_c (w.alloc REST) _ _ hrB (by rw [List.length_take, List.length_drop]; omega) false
      rw [show pl false ((xs.drop 9).take i) = lns ((xs.drop 9).take i) from rfl] at HPL
      rw [Int.toNat_natCast]
      obtain ⟨T, hT⟩ : ∃ T, T = lns ((xs.drop 9).take i) := ⟨_, rfl⟩
      rw [← hT] at HPL ⊢
      have HPL := Lib.hid HPL
      clear h h0 hL hbx hbw h1 hrA hrB hi' hi HB2 HB3 HB4 hT
      go_enter Tryz.func22, Tryz.ntmps22
      go_wp2_with fail
      refine HB1.out.mono ?_
      rintro e w1 ⟨rfl, rfl⟩
      go_wp2_with fail
      refine HFD.out.mono ?_
      rintro e w2 ⟨rfl, rfl⟩
      go_wp2_with fail
      refine HPL.out.mono ?_
      rintro e w3 ⟨v3, rfl, hr3, hb3⟩
      have hbx3 := (hb3.block _ (by simp)).trans HBX.out
      have hbw3 := HBW.out.trans (hb3.mono HBW.out.size)
      obtain ⟨y0, y1, y2, y3, y4, yz⟩ := cellsX5 hbx3
      have hcv := hr3.conv (P := Tryz.prog) 22 5 9 Tryz.underlying22 Tryz.underlying5 Tryz.underlying9
      obtain ⟨S, hS⟩ : ∃ S, S = (⟨T.toArray⟩ : ByteArray) := ⟨_, rfl⟩
      rw [← hS] at hcv
      have HGV := Lib.hid (plain_give hbx3 hbw3 3 ⟨#[]⟩ S (n1 := []) rfl hS)
      clear hr3 hb3 hbx3 hbw3 hS
      go_wp2_with fail
      refine bodyPost_ret (results_tok _ _ w.heap.size _ _ _ _ _ _ _ rfl rfl rfl HGV.out.1) rfl ?_
      exact ⟨⟨_, tup3 (by omega), HGV.out.2.2⟩, HGV.out.2.1⟩
  | false =>
    rw [h1] at HB1
    have HB1 := Lib.hid HB1
    cases h2 : Lib.hasPrefix xs [60, 33, 68, 79, 67, 84, 89, 80, 69] with
    | true =>
      rw [h2] at HB2
      have HB2 := Lib.hid HB2
      rw [tok_dt h1 h2]
      clear h h0 hL hbx hbw h1 h2 HB3 HB4
      go_enter Tryz.func22, Tryz.ntmps22
      go_wp2_with fail
      refine HB1.out.mono ?_
      rintro e w1 ⟨rfl, rfl⟩
      go_wp2_with fail
      refine HB2.out.mono ?_
      rintro e w2 ⟨rfl, rfl⟩
      go_wp2_with fail
      refine bodyPost_ret (results_tok _ _ w.heap.size _ _ _ _ _ _ _ rfl rfl rfl HZ.out.1) rfl ?_
      exact ⟨rfl, HZ.out.2⟩
    | false =>
      rw [h2] at HB2
      have HB2 := Lib.hid HB2
      cases h3 : Lib.hasPrefix xs [60, 47] with
      | true =>
        rw [h3] at HB3
        have HB3 := Lib.hid HB3
        rw [tok_cl h1 h2 h3]
        have hpl := pre_len h3
        rw [← HL.out] at hpl
        have hpl : 2 ≤ L := by simpa using hpl
        obtain ⟨pA, mA, cA, hsA, hrA⟩ := slice_from h0 2 hpl
        rw [show ((2 : Nat) : Int) = 2 from rfl] at hsA
        have HNM := rname_c (w.alloc REST) _ (xs.drop 2) hrA (by rw [List.length_drop]; omega)
        have hnl := tagR_le (xs.drop 2)
        rw [List.length_drop, ← HL.out] at hnl
        obtain ⟨t, ht⟩ : ∃ t, t = xs.drop 2 := ⟨_, rfl⟩
        obtain ⟨n, hn⟩ : ∃ n, n = tagR (xs.drop 2) := ⟨_, rfl⟩
        rw [← hn] at HNM hnl
        have HNM := Lib.hid HNM
        obtain ⟨k, hk⟩ : ∃ k, k = blN (xs.drop (2 + n)) := ⟨_, rfl⟩
        have hkl := blN_le (xs.drop (2 + n))
        rw [← hk, List.length_drop, ← HL.out] at hkl
        have hcl : cloR (xs.drop 2) = if n = 0 ∨ Lib.hasPrefix (xs.drop (2 + n + k)) [62] = false then .error 11 else .ok (⟨2, (xs.drop 2).take n, [], false, []⟩, n + k + 1) := by
          unfold cloR
          rw [← hn]
          simp only [List.drop_drop]
          rw [← hk, show 2 + (n + k) = 2 + n + k by omega]
        obtain ⟨RC, hRC⟩ : ∃ RC, RC = cloR (xs.drop 2) := ⟨_, rfl⟩
        rw [← hRC] at hcl ⊢
        obtain ⟨nm, hnm⟩ : ∃ nm, nm = (xs.drop 2).take n := ⟨_, rfl⟩
        rw [← hnm] at hcl
        have HCL := Lib.hid hcl
        have HNMX := Lib.hid hnm
        have h2n : 2 + n ≤ L := by omega
        have h2k : 2 + n + k ≤ L := by omega
        have HK := Lib.hid hk
        clear h h0 hL hbx hbw h1 h2 h3 hrA HB4 hn hcl ht hk hRC hnm
        go_enter Tryz.func22, Tryz.ntmps22
        go_wp2_with fail
        refine HB1.out.mono ?_
        rintro e w1 ⟨rfl, rfl⟩
        go_wp2_with fail
        refine HB2.out.mono ?_
        rintro e w2 ⟨rfl, rfl⟩
        go_wp2_with fail
        refine HB3.out.mono ?_
        rintro e w3 ⟨rfl, rfl⟩
        go_wp2_with fail
        refine HNM.out.mono ?_
        rintro e w4 ⟨rfl, hb4⟩
        have hbx4 := (hb4.block _ (by simp)).trans HBX.out
        have hbw4 := HBW.out.trans (hb4.mono HBW.out.size)
        obtain ⟨y0, y1, y2, y3, y4, yz⟩ := cellsX5 hbx4
        have hr4 := HR.out.below hbw4
        obtain ⟨pC, mC, cC, hsC, hrC⟩ := slice_from hr4 (2 + n) h2n
        rw [show ((2 + n : Nat) : Int) = 2 + (n : Int) by omega] at hsC
        have HBL := rblanks_c w4 _ (xs.drop (2 + n)) hrC (by rw [List.length_drop, ← HL.out]; omega)
        rw [← HK.out] at HBL
        have HBL := Lib.hid HBL
        obtain ⟨pD, mD, cD, hsD, hrD⟩ := slice_from hr4 (2 + n + k) h2k
        rw [show ((2 + n + k : Nat) : Int) = (n : Int) + 2 + (k : Int) by omega] at hsD
        have HGT := begins_c w4 _ (xs.drop (2 + n + k)) ⟨#[62]⟩ hrD
        rw [show (⟨#[62]⟩ : ByteArray).data.toList = [62] from rfl] at HGT
        have HZ4 := Lib.hid (zero_give hbx4 hbw4)
        by_cases hn0 : n = 0
        · have HQ := Lib.hid (HCL.out.trans (if_pos (.inl hn0)))
          have t0 : ((n : Int) == 0) = true := by simpa using hn0
          clear hb4 hbx4 hbw4 hr4 hrC hrD hn0 HGT
          go_wp2_with fail
          refine HBL.out.mono ?_
          rintro e w5 ⟨rfl, rfl⟩
          go_wp2_with fail
          refine bodyPost_ret (results_tok _ _ w.heap.size _ _ _ _ _ _ _ rfl rfl rfl HZ4.out.1) rfl ?_
          rw [HQ.out]
          exact ⟨rfl, HZ4.out.2⟩
        · have t0 : ((n : Int) == 0) = false := by simpa using hn0
          cases hp : Lib.hasPrefix (xs.drop (2 + n + k)) [62] with
          | false =>
            rw [hp] at HGT
            have HGT := Lib.hid HGT
            have HQ := Lib.hid (HCL.out.trans (if_pos (.inr hp)))
            clear hb4 hbx4 hbw4 hr4 hrC hrD hn0 hp
            go_wp2_with fail
            refine HBL.out.mono ?_
            rintro e w5 ⟨rfl, rfl⟩
            go_wp2_with fail
            refine HGT.out.mono ?_
            rintro e w6 ⟨rfl, rfl⟩
            go_wp2_with fail
            refine bodyPost_ret (results_tok _ _ w.heap.size _ _ _ _ _ _ _ rfl rfl rfl HZ4.out.1) rfl ?_
            rw [HQ.out]
            exact ⟨rfl, HZ4.out.2⟩
          | true =>
            rw [hp] at HGT
            have HGT := Lib.hid HGT
            have HQ := Lib.hid (HCL.out.trans (if_neg (by rw [hp]; simp [hn0])))
            obtain ⟨pE, mE, cE, hsE, hrE⟩ := slice_mid hr4 2 (2 + n) (by omega) h2n
            rw [show ((2 + n : Nat) : Int) = 2 + (n : Int) by omega, show ((2 : Nat) : Int) = 2 from rfl] at hsE
            rw [show 2 + n - 2 = n by omega] at hrE
            have hcv := hrE.conv (P := Tryz.prog) 22 5 9 Tryz.underlying22 Tryz.underlying5 Tryz.underlying9
            rw [← HNMX.out] at hcv
            obtain ⟨S, hS⟩ : ∃ S, S = (⟨nm.toArray⟩ : ByteArray) := ⟨_, rfl⟩
            rw [← hS] at hcv
            have HGV := Lib.hid (plain_give hbx4 hbw4 2 S ⟨#[]⟩ (n2 := []) hS rfl)
            clear hb4 hbx4 hbw4 hr4 hrC hrD hn0 hp hrE hS
            go_wp2_with fail
            refine HBL.out.mono ?_
            rintro e w5 ⟨rfl, rfl⟩
            go_wp2_with fail
            refine HGT.out.mono ?_
            rintro e w6 ⟨rfl, rfl⟩
            go_wp2_with fail
            refine bodyPost_ret (results_tok _ _ w.heap.size _ _ _ _ _ _ _ rfl rfl rfl HGV.out.1) rfl ?_
            rw [HQ.out]
            exact ⟨⟨_, tup3 (by omega), HGV.out.2.2⟩, HGV.out.2.1⟩
      | false =>
        rw [h3] at HB3
        have HB3 := Lib.hid HB3
        cases h4 : Lib.hasPrefix xs [60] with
        | true =>
          rw [h4] at HB4
          have HB4 := Lib.hid HB4
          rw [tok_op h1 h2 h3 h4]
          have hpl := pre_len h4
          rw [← HL.out] at hpl
          have hpl : 1 ≤ L := by simpa using hpl
          have HOP := Lib.hid (ropening_c (w.alloc REST) _ xs h0 (by rw [← HL.out]; exact hpl) (by rw [← HL.out]; exact hl))
          obtain ⟨R, hR⟩ : ∃ R, R = upT 1 (opnR (xs.drop 1)) := ⟨_, rfl⟩
          rw [← hR] at HOP
          rw [← hR]
          clear h h0 hL hbx hbw h1 h2 h3 h4 hR
          cases R with
          | error z =>
            go_enter Tryz.func22, Tryz.ntmps22
            go_wp2_with fail
            refine HB1.out.mono ?_
            rintro e w1 ⟨rfl, rfl⟩
            go_wp2_with fail
            refine HB2.out.mono ?_
            rintro e w2 ⟨rfl, rfl⟩
            go_wp2_with fail
            refine HB3.out.mono ?_
            rintro e w3 ⟨rfl, rfl⟩
            go_wp2_with fail
            refine HB4.out.mono ?_
            rintro e w4 ⟨rfl, rfl⟩
            go_wp2_with fail
            refine HOP.out.mono ?_
            rintro e w5 ⟨he, hb5⟩
            dsimp only at he
            subst he
            have hbx5 := (hb5.block _ (by simp)).trans HBX.out
            have hbw5 := HBW.out.trans (hb5.mono HBW.out.size)
            obtain ⟨y0, y1, y2, y3, y4, yz⟩ := cellsX5 hbx5
            have HZ5 := Lib.hid (zero_give hbx5 hbw5)
            clear hb5 hbx5 hbw5
            go_wp2_with fail
            refine bodyPost_ret (results_tok _ _ w.heap.size _ _ _ _ _ _ _ rfl rfl rfl HZ5.out.1) rfl ?_
            exact ⟨rfl, HZ5.out.2⟩
          | ok tm =>
            obtain ⟨t, m⟩ := tm
            go_enter Tryz.func22, Tryz.ntmps22
            go_wp2_with fail
            refine HB1.out.mono ?_
            rintro e w1 ⟨rfl, rfl⟩
            go_wp2_with fail
            refine HB2.out.mono ?_
            rintro e w2 ⟨rfl, rfl⟩
            go_wp2_with fail
            refine HB3.out.mono ?_
            rintro e w3 ⟨rfl, rfl⟩
            go_wp2_with fail
            refine HB4.out.mono ?_
            rintro e w4 ⟨rfl, rfl⟩
            go_wp2_with fail
            refine HOP.out.mono ?_
            rintro e w5 ⟨⟨v5, rfl, ⟨s5, rfl, hat⟩⟩, hb5⟩
            have hbx5 := (hb5.block _ (by simp)).trans HBX.out
            have hbw5 := HBW.out.trans (hb5.mono HBW.out.size)
            obtain ⟨y0, y1, y2, y3, y4, yz⟩ := cellsX5 hbx5
            obtain ⟨p7, c7, hsv, _⟩ := id hat
            obtain ⟨N7, hN7⟩ : ∃ N7, N7 = t.attrs.length := ⟨_, rfl⟩
            rw [← hN7] at hsv
            subst hsv
            obtain ⟨S1, hS1⟩ : ∃ S1, S1 = (⟨t.name.toArray⟩ : ByteArray) := ⟨_, rfl⟩
            obtain ⟨S2, hS2⟩ : ∃ S2, S2 = (⟨t.text.toArray⟩ : ByteArray) := ⟨_, rfl⟩
            obtain ⟨kd, hkd⟩ : ∃ kd, kd = t.kind := ⟨_, rfl⟩
            obtain ⟨em, hem⟩ : ∃ em, em = t.empty := ⟨_, rfl⟩
            rw [← hS1, ← hS2, ← hkd, ← hem]
            have HP := Lib.hid (put5_at hbx5 (.int .i64 (kd : Nat)) (.string S1) (.slice p7 N7 c7) (.bool em) (.string S2))
            have HBP := Lib.hid (put5_below hbw5 (.int .i64 (kd : Nat)) (.string S1) (.slice p7 N7 c7) (.bool em) (.string S2))
            have HAT := Lib.hid (hat.poke hbx5 (put5_chg w5 w.heap.size (.int .i64 (kd : Nat)) (.string S1) (.slice p7 N7 c7) (.bool em) (.string S2)))
            have HKD := Lib.hid (And.intro (And.intro hS1 hS2) (And.intro hkd hem))
            clear hb5 hbx5 hbw5 hat hN7 hS1 hS2 hkd hem
            go_wp2_with fail
            refine bodyPost_ret (results_tok _ _ w.heap.size _ _ _ _ _ _ _ rfl rfl rfl HP.out) rfl ?_
            exact ⟨⟨_, rfl, ⟨_, by rw [HKD.out.1.1, HKD.out.1.2, HKD.out.2.1, HKD.out.2.2], HAT.out⟩⟩, HBP.out⟩
        | false =>
          rw [h4] at HB4
          have HB4 := Lib.hid HB4
          rw [tok_da h1 h2 h3 h4]
          obtain ⟨n, hn⟩ : ∃ n, n = (if Lib.index xs [60] < 0 then xs.length else (Lib.index xs [60]).toNat) := ⟨_, rfl⟩
          have hil := idx1_lt xs 60
          have hnL : n ≤ L := by
            rw [hn]
            split
            · omega
            · have := HL.out; rcases hil with h9 | h9 <;> omega
          have HFL := find_c (w.alloc REST) _ xs ⟨#[60]⟩ h0 (by decide) (by rw [← HL.out]; omega)
          rw [show (⟨#[60]⟩ : ByteArray).data.toList = [60] from rfl] at HFL
          obtain ⟨pT, mT, cT, hsT, hrT⟩ := slice_to h0 n hnL
          have HFB := find_c (w.alloc REST) _ (xs.take n) ⟨#[93, 93, 62]⟩ hrT (by decide) (by rw [List.length_take]; omega)
          rw [show (⟨#[93, 93, 62]⟩ : ByteArray).data.toList = [93, 93, 62] from rfl] at HFB
          have HRS := Lib.hid (resolve_c (w.alloc REST) _ (xs.take n) hrT (by rw [List.length_take]; omega) false)
          obtain ⟨j, hj⟩ : ∃ j, j = Lib.index (xs.take n) [93, 93, 62] := ⟨_, rfl⟩
          rw [← hj] at HFB
          have HFB := Lib.hid HFB
          have hpref : ∃ D, datP xs = D ∧ ((0 ≤ j ∧ D = .error 11) ∨ (¬ 0 ≤ j ∧ D = datV n (rsT false (xs.take n)))) := by
            by_cases hj0 : 0 ≤ j
            · exact ⟨_, rfl, .inl ⟨hj0, dat_no hn (by rw [← hj]; exact hj0)⟩⟩
            · exact ⟨_, rfl, .inr ⟨hj0, dat_go hn (by rw [← hj]; exact hj0)⟩⟩
          obtain ⟨D, hD, hDD⟩ := hpref
          rw [hD]
          obtain ⟨R, hR⟩ : ∃ R, R = rsT false (xs.take n) := ⟨_, rfl⟩
          rw [← hR] at HRS hDD
          have HDD := Lib.hid hDD
          have hix : ∃ i, i = Lib.index xs [60] := ⟨_, rfl⟩
          obtain ⟨i, hi⟩ := hix
          rw [← hi] at HFL hn
          have HFL := Lib.hid HFL
          have hii : (i < 0 ∧ n = L) ∨ (¬ i < 0 ∧ i = (n : Int)) := by
            by_cases h9 : i < 0
            · rw [if_pos h9] at hn
              exact .inl ⟨h9, by rw [hn, HL.out]⟩
            · rw [if_neg h9] at hn
              exact .inr ⟨h9, by omega⟩
          have HII := Lib.hid hii
          clear h h0 hL hbx hbw h1 h2 h3 h4 hn hil hrT hj hD hDD hR hi hii
          go_enter Tryz.func22, Tryz.ntmps22
          go_wp2_with fail
          refine HB1.out.mono ?_
          rintro e w1 ⟨rfl, rfl⟩
          go_wp2_with fail
          refine HB2.out.mono ?_
          rintro e w2 ⟨rfl, rfl⟩
          go_wp2_with fail
          refine HB3.out.mono ?_
          rintro e w3 ⟨rfl, rfl⟩
          go_wp2_with fail
          refine HB4.out.mono ?_
          rintro e w4 ⟨rfl, rfl⟩
          go_wp2_with fail
          refine HFL.out.mono ?_
          rintro e w5 ⟨rfl, rfl⟩
          rcases HII.out with ⟨hi0, rfl⟩ | ⟨hi0, rfl⟩
          all_goals
            first | (have ti : decide (i < 0) = true := by simpa using hi0) | (have ti : decide ((n : Int) < 0) = false := by simp)
            clear hi0
            go_wp2_with fail
            refine HFB.out.mono ?_
            rintro e w6 ⟨rfl, rfl⟩
            rcases HDD.out with ⟨hj0, rfl⟩ | ⟨hj0, rfl⟩
            · have tj : decide (0 ≤ j) = true := by simpa using hj0
              clear hj0
              go_wp2_with fail
              refine bodyPost_ret (results_tok _ _ w.heap.size _ _ _ _ _ _ _ rfl rfl rfl HZ.out.1) rfl ?_
              exact ⟨rfl, HZ.out.2⟩
            · have tj : decide (0 ≤ j) = false := by simpa using hj0
              clear hj0
              go_wp2_with fail
              refine HRS.out.mono ?_
              rintro e w7 ⟨he, hb7⟩
              have hbx7 := (hb7.block _ (by simp)).trans HBX.out
              have hbw7 := HBW.out.trans (hb7.mono HBW.out.size)
              obtain ⟨y0, y1, y2, y3, y4, yz⟩ := cellsX5 hbx7
              cases R with
              | error z =>
                dsimp only at he
                subst he
                have HZ7 := Lib.hid (zero_give hbx7 hbw7)
                clear hb7 hbx7 hbw7
                go_wp2_with fail
                refine bodyPost_ret (results_tok _ _ w.heap.size _ _ _ _ _ _ _ rfl rfl rfl HZ7.out.1) rfl ?_
                exact ⟨rfl, HZ7.out.2⟩
              | ok T =>
                dsimp only at he
                obtain ⟨S, hS⟩ : ∃ S, S = (⟨T.toArray⟩ : ByteArray) := ⟨_, rfl⟩
                rw [← hS] at he
                subst he
                have HGV := Lib.hid (plain_give hbx7 hbw7 3 ⟨#[]⟩ S (n1 := []) rfl hS)
                clear hb7 hbx7 hbw7 hS
                go_wp2_with fail
                refine bodyPost_ret (results_tok _ _ w.heap.size _ _ _ _ _ _ _ rfl rfl rfl HGV.out.1) rfl ?_
                exact ⟨⟨_, rfl, HGV.out.2.2⟩, HGV.out.2.1⟩
end Go.Proofs.YthlphmldghppmaaGreatDoor

/- xmllex: the reference: Next. -/
namespace Go.Proofs.YthlphmldghppmaaGreatDoor
open Go.RowKit
set_option linter.unusedVariables false

theorem com_le {t : List UInt8} {n : Nat} (h : comP t = some n) : n ≤ t.length := by
  unfold comP at h
  split at h
  · simp at h
  · split at h
    · rename_i hp
      have := pre_len hp
      rw [List.length_drop] at this
      simp only [List.length_singleton, Option.some.injEq] at this h
      omega
    · simp at h
theorem insR_le {t : List UInt8} {n : Nat} (h : insR t = some n) : n ≤ t.length := by
  unfold insR at h
  split at h
  · simp at h
  · split at h
    · simp at h
    · rename_i hi
      have h1 := Lib.index_room (t.drop (nameAt t)) [63, 62] (by omega)
      have h2 := nameAt_le t
      rw [List.length_drop] at h1
      simp only [List.length_cons, List.length_nil, Option.some.injEq] at h1 h
      omega
theorem skp_ub : ∀ (g : Nat) (r : List UInt8) (a k : Nat) (b : Bool), skpF insR g r a = (k, b) → k ≤ a + r.length
  | 0, r, a, k, b, h => by
    rw [skpF] at h
    simp only [Prod.mk.injEq] at h
    omega
  | g + 1, r, a, k, b, h => by
    cases h1 : Lib.hasPrefix r [60, 33, 45, 45] with
    | true =>
      have hl := pre_len h1
      simp only [List.length_cons, List.length_nil] at hl
      cases hc : comP (r.drop 4) with
      | none =>
        rw [skp_no h1 hc] at h
        simp only [Prod.mk.injEq] at h
        omega
      | some n =>
        rw [skp_go h1 hc] at h
        have h2 := com_le hc
        have h3 := skp_ub g _ _ _ _ h
        rw [List.length_drop] at h2 h3
        omega
    | false =>
      cases h2 : Lib.hasPrefix r [60, 63] with
      | true =>
        have hl := pre_len h2
        simp only [List.length_cons, List.length_nil] at hl
        cases hc : insR (r.drop 2) with
        | none =>
          rw [ski_no h1 h2 hc] at h
          simp only [Prod.mk.injEq] at h
          omega
        | some n =>
          rw [ski_go h1 h2 hc] at h
          have h4 := insR_le hc
          have h3 := skp_ub g _ _ _ _ h
          rw [List.length_drop] at h4 h3
          omega
      | false =>
        rw [skp_end h1 h2] at h
        simp only [Prod.mk.injEq] at h
        omega
theorem skA_ub {xs : List UInt8} {at_ : Int} {k z : Nat} (h : skA insR xs at_ = (k, z)) : k ≤ xs.length := by
  unfold skA at h
  split at h
  · simp only [Prod.mk.injEq] at h
    omega
  · rename_i ho
    cases hs : skpF insR (xs.length + 1) (xs.drop at_.toNat) at_.toNat with
    | mk q b =>
      have hu := skp_ub _ _ _ _ _ hs
      rw [List.length_drop] at hu
      rw [hs] at h
      cases b
      all_goals
        simp only [Prod.mk.injEq] at h
        omega
/-- What is told where no more comments stand. -/
def tokV (k : Nat) (R : Except Nat (Tk × Nat)) : Tk × Nat × Nat := match R with
  | .error e => (noT, k, e)
  | .ok (t, n) => (t, k + n, 0)
theorem nxt_no {xs : List UInt8} {at_ : Int} {k z : Nat} (h : skA insR xs at_ = (k, z)) (hz : z ≠ 0) : nxt insR opnR cloR xs at_ = (noT, k, z) := by
  unfold skA at h
  unfold nxt
  split at h
  · rename_i ho
    simp only [Prod.mk.injEq] at h
    rw [if_pos ho, ← h.1, ← h.2]
  · rename_i ho
    rw [if_neg ho]
    cases hs : skpF insR (xs.length + 1) (xs.drop at_.toNat) at_.toNat with
    | mk q b =>
      rw [hs] at h
      cases b
      · simp only [Prod.mk.injEq] at h
        rw [← h.1, ← h.2]
      · simp only [Prod.mk.injEq] at h
        omega
theorem nxt_yes {xs : List UInt8} {at_ : Int} {k : Nat} (h : skA insR xs at_ = (k, 0)) : nxt insR opnR cloR xs at_ = if xs.drop k = [] then (noT, k, 0) else tokV k (tokG opnR cloR (xs.drop k)) := by
  unfold skA at h
  unfold nxt
  split at h
  · simp at h
  · rename_i ho
    rw [if_neg ho]
    cases hs : skpF insR (xs.length + 1) (xs.drop at_.toNat) at_.toNat with
    | mk q b =>
      rw [hs] at h
      cases b
      · simp at h
      · simp only [Prod.mk.injEq, and_true] at h
        subst h
        rfl
theorem nz_tokR (r : List UInt8) (hr : r ≠ []) : NZ (tokG opnR cloR r) := by
  have h := nz_tokA r
  unfold tokA at h
  rw [if_neg hr] at h
  rwa [show opnP = opnR from funext opn_eq, show cloP = cloR from funext clo_eq] at h
theorem opnF_len : ∀ (g : Nat) (r : List UInt8) (a : Nat) (l : List (List UInt8 × List UInt8)) (x : List (List UInt8 × List UInt8) × Bool) (m : Nat), opnF attrR g r a l = .ok (x, m) → m ≤ a + r.length
  | 0, r, a, l, x, m, h => by
    rw [opnF] at h
    simp at h
  | g + 1, r, a, l, x, m, h => by
    have hb := blN_le r
    cases h1 : Lib.hasPrefix (r.drop (blN r)) [62] with
    | true =>
      rw [opn_gt h1] at h
      have := pre_len h1
      rw [List.length_drop] at this
      simp only [List.length_singleton, Except.ok.injEq, Prod.mk.injEq] at this h
      omega
    | false =>
      cases h2 : Lib.hasPrefix (r.drop (blN r)) [47, 62] with
      | true =>
        rw [opn_em h1 h2] at h
        have := pre_len h2
        rw [List.length_drop] at this
        simp only [List.length_cons, List.length_nil, Except.ok.injEq, Prod.mk.injEq] at this h
        omega
      | false =>
        by_cases h3 : blN r = 0
        · rw [opn_ap h1 h2 h3] at h
          simp at h
        · rw [opn_go h1 h2 h3] at h
          cases hA : attrR (r.drop (blN r)) with
          | error z => rw [hA] at h; simp at h
          | ok xm =>
            obtain ⟨y, q⟩ := xm
            rw [hA] at h
            have h4 := opnF_len g _ _ _ _ _ h
            have h5 := attr_len hA
            rw [List.length_drop] at h4 h5
            omega
theorem opnR_len {t : List UInt8} {k : Tk} {m : Nat} (h : opnR t = .ok (k, m)) : m ≤ t.length := by
  unfold opnR at h
  split at h
  · simp at h
  · cases ho : opnF attrR (t.length + 1) (t.drop (tagR t)) (tagR t) [] with
    | error z => rw [ho] at h; simp at h
    | ok xm =>
      obtain ⟨⟨l, b⟩, q⟩ := xm
      rw [ho] at h
      simp only [Except.ok.injEq, Prod.mk.injEq] at h
      have h1 := opnF_len _ _ _ _ _ _ ho
      have h2 := tagR_le t
      rw [List.length_drop] at h1
      omega
theorem cloR_len {t : List UInt8} {k : Tk} {m : Nat} (h : cloR t = .ok (k, m)) : m ≤ t.length := by
  unfold cloR at h
  split at h
  · simp at h
  · rename_i hp
    have h1 : Lib.hasPrefix (t.drop (tagR t + blN (t.drop (tagR t)))) [62] = true := by
      cases hb : Lib.hasPrefix (t.drop (tagR t + blN (t.drop (tagR t)))) [62] with
      | true => rfl
      | false => exact absurd (.inr hb) hp
    have h2 := pre_len h1
    rw [List.length_drop] at h2
    simp only [List.length_singleton, Except.ok.injEq, Prod.mk.injEq] at h2 h
    omega
theorem upT_ok {n : Nat} {x : Except Nat (Tk × Nat)} {t : Tk} {m : Nat} (h : upT n x = .ok (t, m)) : ∃ q, x = .ok (t, q) ∧ m = n + q := by
  cases x with
  | error z => simp [upT] at h
  | ok tm =>
    obtain ⟨t', q⟩ := tm
    simp only [upT, Except.ok.injEq, Prod.mk.injEq] at h
    obtain ⟨rfl, rfl⟩ := h
    exact ⟨q, rfl, rfl⟩
theorem tok_len {r : List UInt8} {t : Tk} {m : Nat} (h : tokG opnR cloR r = .ok (t, m)) : m ≤ r.length := by
  cases h1 : Lib.hasPrefix r [60, 33, 91, 67, 68, 65, 84, 65, 91] with
  | true =>
    rw [tok_cd h1] at h
    split at h
    · simp at h
    · rename_i hi
      have hp := pre_len h1
      have hr := Lib.index_room (r.drop 9) [93, 93, 62] (by omega)
      rw [List.length_drop] at hr
      simp only [List.length_cons, List.length_nil, Except.ok.injEq, Prod.mk.injEq] at hp hr h
      omega
  | false =>
    cases h2 : Lib.hasPrefix r [60, 33, 68, 79, 67, 84, 89, 80, 69] with
    | true => rw [tok_dt h1 h2] at h; simp at h
    | false =>
      cases h3 : Lib.hasPrefix r [60, 47] with
      | true =>
        rw [tok_cl h1 h2 h3] at h
        obtain ⟨q, hq, rfl⟩ := upT_ok h
        have h4 := cloR_len hq
        have hp := pre_len h3
        rw [List.length_drop] at h4
        simp only [List.length_cons, List.length_nil] at hp
        omega
      | false =>
        cases h4 : Lib.hasPrefix r [60] with
        | true =>
          rw [tok_op h1 h2 h3 h4] at h
          obtain ⟨q, hq, rfl⟩ := upT_ok h
          have h5 := opnR_len hq
          have hp := pre_len h4
          rw [List.length_drop] at h5
          simp only [List.length_cons, List.length_nil] at hp
          omega
        | false =>
          rw [tok_da h1 h2 h3 h4] at h
          obtain ⟨n, hn, hd⟩ := dat_eq r
          rw [hd] at h
          have hil := idx1_lt r 60
          have hnl : n ≤ r.length := by
            rw [hn]
            split
            · omega
            · rcases hil with h9 | h9 <;> omega
          split at h
          · simp at h
          · cases hz : rsT false (r.take n) with
            | error z => rw [hz] at h; simp at h
            | ok u =>
              rw [hz] at h
              simp only [Except.ok.injEq, Prod.mk.injEq] at h
              omega
theorem AtsIs.below {w w' : World} {v : Value} {l : List (List UInt8 × List UInt8)} (h : AtsIs w v l) (hb : Below w.heap.size w w') : AtsIs w' v l := by
  obtain ⟨p, c, hv, h1, h2, h3, h4⟩ := h
  refine ⟨p, c, hv, h1, h2, h3, fun hp => ?_⟩
  obtain ⟨b, o, hbo, hx⟩ := h4 hp
  exact ⟨b, o, hbo, fun j u hu => chg_cell (pb := b + 1) (Chg.of_below hb) (hx j u hu) (by omega)⟩
theorem VT.below {t : Tk} {w w' : World} {v : Value} (h : VT t w v) (hb : Below w.heap.size w w') : VT t w' v := by
  obtain ⟨s, hv, hat⟩ := h
  exact ⟨s, hv, hat.below hb⟩
theorem results_nxt (tm : Array Value) (V : World) (b : Nat) (c0 c1 c2 c3 c4 k z : Value) (h2 : tm.getD 4 undef = .pointer (some ⟨b, 0, none⟩)) (h3 : tm.getD 5 undef = k) (h4 : tm.getD 6 undef = z) (h : V.heap[b]? = some (.cells #[c0, c1, c2, c3, c4] 26 (0, 0))) :
    (results Tryz.f8 tm).run Tryz.prog V = .ok (.tuple #[.agg #[c0, c1, c2, c3, c4], k, z]) V := by
  obtain ⟨e0, e1, e2, e3, e4, _⟩ := cellsX5 h
  have h2' : tm[4]?.getD undef = .pointer (some ⟨b, 0, none⟩) := by simpa using h2
  have h3' : tm[5]?.getD undef = k := by simpa using h3
  have h4' : tm[6]?.getD undef = z := by simpa using h4
  simp [results, Tryz.results8, go_sem, h2', h3', h4', e0, e1, e2, e3, e4]
/-- How Next ends. -/
def NxEnd (w : World) (R : Tk × Nat × Nat) (e : Ending) (w' : World) : Prop :=
  ∃ v, e = .returned (.tuple #[v, .int .i64 (R.2.1 : Nat), .int .i64 (R.2.2 : Nat)]) ∧ VT R.1 w' v ∧ Below w.heap.size w w'
theorem vt_no (w : World) : VT noT w ZT := ⟨_, rfl, AtsIs.nil _⟩
set_option maxRecDepth 100000 in
set_option maxHeartbeats 4000000 in
theorem rnext_c (w : World) (v : Value) (xs : List UInt8) (h : Rd w v xs) (hl : xs.length ≤ 8388608) (at_ : Int) : Calls Tryz.prog 8 #[v, .int .i64 at_] w (NxEnd w (nxt insR opnR cloR xs at_)) := by
  obtain ⟨p, c, rfl⟩ := rd_form h
  obtain ⟨L, hL⟩ : ∃ L, L = xs.length := ⟨_, rfl⟩
  rw [← hL] at h hl
  have h0 := h.below (bel_alloc w REST)
  have HSK := Lib.hid (rskip_c (w.alloc REST) _ xs h0 (by omega) at_)
  obtain ⟨⟨k, z⟩, hS⟩ : ∃ S, S = skA insR xs at_ := ⟨_, rfl⟩
  rw [← hS] at HSK
  have hkL := skA_ub hS.symm
  rw [← hL] at hkL
  obtain ⟨R, hR⟩ : ∃ R, R = nxt insR opnR cloR xs at_ := ⟨_, rfl⟩
  rw [← hR, ← hL]
  have HR := Lib.hid h
  have HL := Lib.hid hL
  have HBX := Lib.hid (show (w.alloc REST).heap[w.heap.size]? = some REST from heap_alloc_new w _)
  have HBW := Lib.hid (bel_alloc w REST)
  by_cases hz : z = 0
  · subst hz
    have hY := hR.trans (nxt_yes hS.symm)
    by_cases hk : k = L
    · rw [if_pos (List.drop_eq_nil_of_le (by rw [← hL]; omega))] at hY
      have HQ := Lib.hid hY
      have tk : ((k : Int) == (L : Int)) = true := by simp; omega
      clear h h0 hL hS hR hY hk
      go_enter Tryz.func8, Tryz.ntmps8
      go_wp2_with fail
      refine HSK.out.mono ?_
      rintro e w1 ⟨rfl, hb1⟩
      have hbx1 := (hb1.block _ (by simp)).trans HBX.out
      have hbw1 := HBW.out.trans (hb1.mono HBW.out.size)
      obtain ⟨y0, y1, y2, y3, y4, yz⟩ := cellsX5 hbx1
      have HZ := Lib.hid (zero_give hbx1 hbw1)
      clear hb1 hbx1 hbw1
      go_wp2_with fail
      refine bodyPost_ret (results_nxt _ _ w.heap.size _ _ _ _ _ _ _ rfl rfl rfl HZ.out.1) rfl ?_
      rw [HQ.out]
      exact ⟨_, rfl, vt_no _, HZ.out.2⟩
    · have hne : xs.drop k ≠ [] := fun e => by have := congrArg List.length e; rw [List.length_drop] at this; simp at this; omega
      rw [if_neg hne] at hY
      have hnz := nz_tokR _ hne
      have tk : ((k : Int) == (L : Int)) = false := by simp; omega
      obtain ⟨T, hT⟩ : ∃ T, T = tokG opnR cloR (xs.drop k) := ⟨_, rfl⟩
      rw [← hT] at hY hnz
      have HQ := Lib.hid hY
      have HTK := Lib.hid (fun (wx : World) (v : Value) (h : Rd wx v (xs.drop k)) => rtoken_c wx v (xs.drop k) h (by rw [List.length_drop]; have := HL.out; omega))
      rw [← hT] at HTK
      have HT2 := Lib.hid hT
      clear h h0 hL hS hR hY hk hne hT
      cases T with
      | error z =>
        have tz : ((z : Int) != 0) = true := by simpa using hnz z rfl
        clear hnz
        go_enter Tryz.func8, Tryz.ntmps8
        go_wp2_with fail
        refine HSK.out.mono ?_
        rintro e w1 ⟨rfl, hb1⟩
        have hbx1 := (hb1.block _ (by simp)).trans HBX.out
        have hbw1 := HBW.out.trans (hb1.mono HBW.out.size)
        have HBX1 := Lib.hid hbx1
        have HBW1 := Lib.hid hbw1
        obtain ⟨pA, mA, cA, hsA, hrA⟩ := slice_from (HR.out.below hbw1) k hkL
        have HTK1 := Lib.hid (HTK.out _ _ hrA)
        clear hb1 hbx1 hbw1 hrA
        go_wp2_with fail
        refine HTK1.out.mono ?_
        rintro e w2 ⟨he, hb2⟩
        dsimp only at he
        subst he
        have hbx2 := (hb2.block _ (Array.getElem?_eq_some_iff.1 HBX1.out).1).trans HBX1.out
        have hbw2 := HBW1.out.trans (hb2.mono HBW1.out.size)
        obtain ⟨y0, y1, y2, y3, y4, yz⟩ := cellsX5 hbx2
        have hlt2 : w.heap.size < w2.heap.size := (Array.getElem?_eq_some_iff.1 hbx2).1
        have HZ := Lib.hid (zero_give_alloc hbx2 hbw2 REST)
        clear hb2 hbx2 hbw2
        go_wp2_with fail
        refine bodyPost_ret (results_nxt _ _ w.heap.size _ _ _ _ _ _ _ rfl rfl rfl HZ.out.1) rfl ?_
        rw [HQ.out]
        exact ⟨_, rfl, vt_no _, HZ.out.2⟩
      | ok tm =>
        obtain ⟨t, m⟩ := tm
        have hm := tok_len HT2.out.symm
        rw [List.length_drop, ← HL.out] at hm
        have hkm : k + m ≤ L := by omega
        clear hnz
        go_enter Tryz.func8, Tryz.ntmps8
        go_wp2_with fail
        refine HSK.out.mono ?_
        rintro e w1 ⟨rfl, hb1⟩
        have hbx1 := (hb1.block _ (by simp)).trans HBX.out
        have hbw1 := HBW.out.trans (hb1.mono HBW.out.size)
        have HBX1 := Lib.hid hbx1
        have HBW1 := Lib.hid hbw1
        obtain ⟨pA, mA, cA, hsA, hrA⟩ := slice_from (HR.out.below hbw1) k hkL
        have HTK1 := Lib.hid (HTK.out _ _ hrA)
        clear hb1 hbx1 hbw1 hrA
        go_wp2_with fail
        refine HTK1.out.mono ?_
        rintro e w2 ⟨⟨v2, rfl, ⟨s2, rfl, hat⟩⟩, hb2⟩
        have hbx2 := (hb2.block _ (Array.getElem?_eq_some_iff.1 HBX1.out).1).trans HBX1.out
        have hbw2 := HBW1.out.trans (hb2.mono HBW1.out.size)
        obtain ⟨y0, y1, y2, y3, y4, yz⟩ := cellsX5 hbx2
        have hlt2 : w.heap.size < w2.heap.size := (Array.getElem?_eq_some_iff.1 hbx2).1
        obtain ⟨p7, c7, hsv, _⟩ := id hat
        obtain ⟨N7, hN7⟩ : ∃ N7, N7 = t.attrs.length := ⟨_, rfl⟩
        rw [← hN7] at hsv
        subst hsv
        obtain ⟨S1, hS1⟩ : ∃ S1, S1 = (⟨t.name.toArray⟩ : ByteArray) := ⟨_, rfl⟩
        obtain ⟨S2, hS2⟩ : ∃ S2, S2 = (⟨t.text.toArray⟩ : ByteArray) := ⟨_, rfl⟩
        obtain ⟨kd, hkd⟩ : ∃ kd, kd = t.kind := ⟨_, rfl⟩
        obtain ⟨em, hem⟩ : ∃ em, em = t.empty := ⟨_, rfl⟩
        rw [← hS1, ← hS2, ← hkd, ← hem]
        have hp5 := put5_at hbx2 (.int .i64 (kd : Nat)) (.string S1) (.slice p7 N7 c7) (.bool em) (.string S2)
        have hbe := bel_alloc (put5 w2 w.heap.size (.int .i64 (kd : Nat)) (.string S1) (.slice p7 N7 c7) (.bool em) (.string S2)) (.cells #[.int .i64 (kd : Nat), .string S1, .slice p7 N7 c7, .bool em, .string S2] 26)
        have HP := Lib.hid ((hbe.block _ (Array.getElem?_eq_some_iff.1 hp5).1).trans hp5)
        have hbp := put5_below hbw2 (.int .i64 (kd : Nat)) (.string S1) (.slice p7 N7 c7) (.bool em) (.string S2)
        have HBP := Lib.hid (hbp.trans (hbe.mono hbp.size))
        have HAT := Lib.hid ((hat.poke hbx2 (put5_chg w2 w.heap.size (.int .i64 (kd : Nat)) (.string S1) (.slice p7 N7 c7) (.bool em) (.string S2))).below hbe)
        have HKD := Lib.hid (And.intro (And.intro hS1 hS2) (And.intro hkd hem))
        clear hb2 hbx2 hbw2 hat hN7 hS1 hS2 hkd hem hp5 hbe hbp
        go_wp2_with fail
        refine bodyPost_ret (results_nxt _ _ w.heap.size _ _ _ _ _ _ _ rfl rfl rfl HP.out) rfl ?_
        rw [HQ.out]
        exact ⟨_, tup3 (show ((k : Int) + (m : Int)) = ((k + m : Nat) : Int) by omega), ⟨_, by rw [HKD.out.1.1, HKD.out.1.2, HKD.out.2.1, HKD.out.2.2]; rfl, HAT.out⟩, HBP.out⟩
  · have HQ := Lib.hid (hR.trans (nxt_no hS.symm hz))
    have tz : ((z : Int) != 0) = true := by simpa using hz
    clear h h0 hL hS hR hz
    go_enter Tryz.func8, Tryz.ntmps8
    go_wp2_with fail
    refine HSK.out.mono ?_
    rintro e w1 ⟨rfl, hb1⟩
    have hbx1 := (hb1.block _ (by simp)).trans HBX.out
    have hbw1 := HBW.out.trans (hb1.mono HBW.out.size)
    obtain ⟨y0, y1, y2, y3, y4, yz⟩ := cellsX5 hbx1
    have HZ := Lib.hid (zero_give hbx1 hbw1)
    clear hb1 hbx1 hbw1
    go_wp2_with fail
    refine bodyPost_ret (results_nxt _ _ w.heap.size _ _ _ _ _ _ _ rfl rfl rfl HZ.out.1) rfl ?_
    rw [HQ.out]
    exact ⟨_, rfl, vt_no _, HZ.out.2⟩
end Go.Proofs.YthlphmldghppmaaGreatDoor

/- xmllex: the reference: Same, of equal tokens. -/
namespace Go.Proofs.YthlphmldghppmaaGreatDoor
open Go.RowKit
set_option linter.unusedVariables false
set_option linter.unusedSimpArgs false

theorem fieldsA : (Tryz.prog.fieldsOf 49).toList.map (fun f => (f.name != "_", f.type, f.offset)) = [(true, 9, 0), (true, 9, 1)] := by kernel_rfl
theorem structA : Tryz.prog.underlying 49 = some (.struct (Tryz.prog.fieldsOf 49)) := by kernel_rfl
theorem heldA : Tryz.prog.stoodInHeld 49 = false := by kernel_rfl
theorem run_neqA (w : World) (s t : ByteArray) : (binOp .neq 49 (.agg #[.string s, .string t]) (.agg #[.string s, .string t])).run Tryz.prog w = .ok (.bool false) w := by
  rw [run_neq_struct, run_equalIn_agg _ _ _ _ _ structA heldA]
  have hf := fieldsA
  generalize (Tryz.prog.fieldsOf 49).toList = fs at hf
  rcases fs with _ | ⟨f0, _ | ⟨f1, _ | ⟨f2, r⟩⟩⟩
  · simp at hf
  · simp at hf
  · simp only [List.map_cons, List.map_nil, List.cons.injEq, Prod.mk.injEq, and_true] at hf
    obtain ⟨⟨n0, t0, o0⟩, n1, t1, o1⟩ := hf
    simp only [Op.eqFields, t0, t1, o0, o1]
    simp only [bne_iff_ne] at n0 n1
    rw [if_pos n0, if_pos n1]
    simp [go_sem, part]
  · simp at hf
theorem AtsIs.at {w : World} {p : Option Addr} {n c : Nat} {l : List (List UInt8 × List UInt8)} (h : AtsIs w (.slice p n c) l) {k : Nat} (hk : k < l.length) : ∃ b o, p = some ⟨b, o, none⟩ ∧ w.cell? ⟨b, o + k * 2, none⟩ = some (.string ⟨l[k].1.toArray⟩) ∧ w.cell? ⟨b, o + k * 2 + 1, none⟩ = some (.string ⟨l[k].2.toArray⟩) := by
  obtain ⟨p0, c0, hv, h1, h2, h3, h4⟩ := h
  cases hv
  obtain ⟨b, o, hbo, hx⟩ := h4 (by omega)
  have key : ∀ (l : List (List UInt8 × List UInt8)) (k : Nat) (hk : k < l.length), (acells l)[k * 2]? = some (.string ⟨l[k].1.toArray⟩) ∧ (acells l)[k * 2 + 1]? = some (.string ⟨l[k].2.toArray⟩) := by
    intro l
    induction l with
    | nil => intro k hk; simp at hk
    | cons x t ih =>
      intro k hk
      cases k with
      | zero => exact ⟨rfl, rfl⟩
      | succ k =>
        have := ih k (by simpa using hk)
        have e1 : (k + 1) * 2 = k * 2 + 1 + 1 := by omega
        rw [e1]
        exact ⟨this.1, this.2⟩
  obtain ⟨k1, k2⟩ := key l k hk
  exact ⟨b, o, hbo, hx _ _ k1, by rw [Nat.add_assoc]; exact hx _ _ k2⟩

set_option maxRecDepth 100000 in
set_option maxHeartbeats 2000000 in
theorem rsame_c (w : World) (t : Tk) (v u : Value) (h1 : VT t w v) (h2 : VT t w u) : Calls Tryz.prog 11 #[v, u] w fun e w' => e = .returned (.bool true) ∧ Below w.heap.size w w' := by
  obtain ⟨s1, rfl, a1⟩ := h1
  obtain ⟨s2, rfl, a2⟩ := h2
  obtain ⟨p1, c1, hs1, _, hm1, _⟩ := id a1
  obtain ⟨p2, c2, hs2, _⟩ := id a2
  obtain ⟨N, hN⟩ : ∃ N, N = t.attrs.length := ⟨_, rfl⟩
  rw [← hN] at hs1 hs2
  subst hs1 hs2
  obtain ⟨S1, hS1⟩ : ∃ S1, S1 = (⟨t.name.toArray⟩ : ByteArray) := ⟨_, rfl⟩
  obtain ⟨S2, hS2⟩ : ∃ S2, S2 = (⟨t.text.toArray⟩ : ByteArray) := ⟨_, rfl⟩
  obtain ⟨kd, hkd⟩ : ∃ kd, kd = t.kind := ⟨_, rfl⟩
  obtain ⟨em, hem⟩ : ∃ em, em = t.empty := ⟨_, rfl⟩
  rw [← hS1, ← hS2, ← hkd, ← hem]
  have hNm : N ≤ 9223372036854775807 := by unfold maxLen at hm1; omega
  have q1 : ((kd : Int) != (kd : Int)) = false := by simp
  have q2 : ((N : Int) != (N : Int)) = false := by simp
  have q3 : (S1.toList == S1.toList) = true := by simp
  have q4 : (S2.toList == S2.toList) = true := by simp
  have q5 : (em != em) = false := by cases em <;> rfl
  have HA1 := Lib.hid a1
  have HA2 := Lib.hid a2
  have HNN := Lib.hid hN
  have b1 := bel_alloc w (.cells #[.int .i64 (kd : Nat), .string S1, .slice p1 N c1, .bool em, .string S2] 26)
  have b2 := bel_alloc (w.alloc (.cells #[.int .i64 (kd : Nat), .string S1, .slice p1 N c1, .bool em, .string S2] 26)) (.cells #[.int .i64 (kd : Nat), .string S1, .slice p2 N c2, .bool em, .string S2] 26)
  have HB0 := Lib.hid (b1.trans (b2.mono (by simp)))
  have HX0 := Lib.hid ((b2.block w.heap.size (by simp)).trans (heap_alloc_new w (.cells #[.int .i64 (kd : Nat), .string S1, .slice p1 N c1, .bool em, .string S2] 26)))
  have HX1 := Lib.hid (show ((w.alloc (.cells #[.int .i64 (kd : Nat), .string S1, .slice p1 N c1, .bool em, .string S2] 26)).alloc (.cells #[.int .i64 (kd : Nat), .string S1, .slice p2 N c2, .bool em, .string S2] 26)).heap[w.heap.size + 1]? = some (.cells #[.int .i64 (kd : Nat), .string S1, .slice p2 N c2, .bool em, .string S2] 26 (0, 0)) from by
    have := heap_alloc_new (w.alloc (.cells #[.int .i64 (kd : Nat), .string S1, .slice p1 N c1, .bool em, .string S2] 26)) (.cells #[.int .i64 (kd : Nat), .string S1, .slice p2 N c2, .bool em, .string S2] 26)
    rwa [World.size_alloc] at this)
  clear a1 a2 hN hS1 hS2 hkd hem hm1 b1 b2
  go_enter Tryz.func11, Tryz.ntmps11
  go_wp2_with fail
  go_loopw [44] (fun s44 wr => ∃ k : Nat, k ≤ N ∧ s44 = .int .i64 k ∧ Below w.heap.size w wr ∧ wr.heap[w.heap.size]? = some (.cells #[.int .i64 (kd : Nat), .string S1, .slice p1 N c1, .bool em, .string S2] 26 (0, 0)) ∧ wr.heap[w.heap.size + 1]? = some (.cells #[.int .i64 (kd : Nat), .string S1, .slice p2 N c2, .bool em, .string S2] 26 (0, 0))) (fun s44 _ => N - (intOf s44).toNat)
  case atStart => exact ⟨0, by omega, rfl, HB0.out, HX0.out, HX1.out⟩
  case round =>
    obtain ⟨k, hk, rfl, hb, hx0, hx1⟩ := hrel
    have HB := Lib.hid hb
    have HY0 := Lib.hid hx0
    have HY1 := Lib.hid hx1
    by_cases hlt : k < N
    · have hd : decide ((k : Int) < (N : Int)) = true := decide_eq_true (by omega)
      have hkl : k < t.attrs.length := by rw [← HNN.out]; exact hlt
      obtain ⟨b, o, hp, d0, d1⟩ := (HA1.out.below hb).at hkl
      obtain ⟨b', o', hp', e0, e1⟩ := (HA2.out.below hb).at hkl
      subst hp hp'
      obtain ⟨T1, hT1⟩ : ∃ T1, T1 = (⟨t.attrs[k].1.toArray⟩ : ByteArray) := ⟨_, rfl⟩
      obtain ⟨T2, hT2⟩ : ∃ T2, T2 = (⟨t.attrs[k].2.toArray⟩ : ByteArray) := ⟨_, rfl⟩
      rw [← hT1] at d0 e0
      rw [← hT2] at d1 e1
      obtain ⟨x0, x1, x2, x3, x4, xz⟩ := cellsX5 hx0
      obtain ⟨y0, y1, y2, y3, y4, yz⟩ := cellsX5 hx1
      have hneq := fun W => run_neqA W T1 T2
      clear hb hx0 hx1 hT1 hT2 hkl x0 x1 x3 x4 y0 y1 y3 y4
      go_wp2_with fail
      go_quiet (fail)
      go_wp2_with fail
      go_roundw
      case rel => exact ⟨k + 1, by omega, by go_num, below_drewN HB.out _, HY0.out, HY1.out⟩
      case measure => simp [intOf]; omega
    · have hd : decide ((k : Int) < (N : Int)) = false := decide_eq_false (by omega)
      clear hb hx0 hx1
      go_wp2_with fail
      go_ret
      exact ⟨rfl, HB.out⟩
end Go.Proofs.YthlphmldghppmaaGreatDoor

/- xmllex: all tokens: the law's walk. -/
namespace Go.Proofs.YthlphmldghppmaaGreatDoor
open Go.RowKit
set_option linter.unusedVariables false

/-- A token by value, its fields named. -/
theorem VT.open {t : Tk} {w : World} {v : Value} (h : VT t w v) {S1 S2 : ByteArray} {kd N : Nat} {em : Bool} (h1 : S1 = ⟨t.name.toArray⟩) (h2 : S2 = ⟨t.text.toArray⟩) (h3 : kd = t.kind) (h4 : em = t.empty) (h5 : N = t.attrs.length) :
    ∃ p c, v = .agg #[.int .i64 (kd : Nat), .string S1, .slice p N c, .bool em, .string S2] := by
  obtain ⟨s, rfl, p, c, rfl, _⟩ := h
  exact ⟨p, c, by rw [h1, h2, h3, h4, h5]⟩
set_option maxRecDepth 100000 in
set_option maxHeartbeats 4000000 in
theorem all_w (v0 : Value) (xs : List UInt8) (w : World) (hw : BW w) (h : Rd w v0 xs) (hl : xs.length ≤ 140737488351232) : Calls Tryz.prog 4 #[v0] w fun e w' => e = .returned (.bool true) ∧ Below w.heap.size w w' := by
  obtain ⟨p, c, rfl⟩ := rd_form h
  obtain ⟨L, hL⟩ : ∃ L, L = xs.length := ⟨_, rfl⟩
  rw [← hL] at h hl ⊢
  obtain ⟨pS, mS, cS, hsS, hrS⟩ := slice_to h (min L 4000) (by omega)
  rw [show ((min L 4000 : Nat) : Int) = min (L : Int) 4000 by omega] at hsS
  have hml := hrS.len
  rw [List.length_take] at hml
  obtain ⟨ys, hys⟩ : ∃ ys, ys = xs.take (min L 4000) := ⟨_, rfl⟩
  rw [← hys] at hrS
  have hyl := hrS.len
  have hm4 : mS ≤ 4000 := by omega
  have HR := Lib.hid (And.intro hrS hyl)
  have HW := Lib.hid hw
  clear h hL hrS hml hys hyl hw
  go_enter Tryz.func4, Tryz.ntmps4
  go_wp2_with fail
  go_loopw [3] (fun s3 wr => ∃ k : Nat, s3 = .int .i64 k ∧ k ≤ mS ∧ Below w.heap.size w wr) (fun s3 _ => mS - (intOf s3).toNat)
  case atStart => exact ⟨0, rfl, by omega, Below.refl _ _⟩
  case round =>
    obtain ⟨k, rfl, hk, hb⟩ := hrel
    have HNX := next_c (HW.out.below hb) (HR.out.1.below hb) (by rw [HR.out.2]; omega) (k : Int)
    have HRX := fun (wx : World) (hx : Below w.heap.size w wx) => rnext_c wx _ ys (HR.out.1.below hx) (by rw [HR.out.2]; omega) (k : Int)
    rw [← nxt_eq] at HRX
    obtain ⟨⟨t, n, z⟩, hR⟩ : ∃ R, R = nxt insP opnP cloP ys (k : Int) := ⟨_, rfl⟩
    rw [← hR] at HNX HRX
    rw [HR.out.2] at HNX
    have HNX := Lib.hid HNX
    have HRX := Lib.hid HRX
    have HQ := Lib.hid hR
    have HB := Lib.hid hb
    obtain ⟨S1, hS1⟩ : ∃ S1, S1 = (⟨t.name.toArray⟩ : ByteArray) := ⟨_, rfl⟩
    obtain ⟨S2, hS2⟩ : ∃ S2, S2 = (⟨t.text.toArray⟩ : ByteArray) := ⟨_, rfl⟩
    obtain ⟨kd, hkd⟩ : ∃ kd, kd = t.kind := ⟨_, rfl⟩
    obtain ⟨em, hem⟩ : ∃ em, em = t.empty := ⟨_, rfl⟩
    obtain ⟨N, hN⟩ : ∃ N, N = t.attrs.length := ⟨_, rfl⟩
    have HF := Lib.hid (And.intro hS1 (And.intro hS2 (And.intro hkd (And.intro hem hN))))
    clear hR hb hS1 hS2 hkd hem hN
    go_wp2_with fail
    refine HNX.out.mono ?_
    rintro e w2 ⟨v2, rfl, hv2, hb2, hle⟩
    dsimp only at hle
    obtain ⟨pa, ca, hva⟩ := hv2.open HF.out.1 HF.out.2.1 HF.out.2.2.1 HF.out.2.2.2.1 HF.out.2.2.2.2
    subst hva
    have HV2 := Lib.hid hv2
    have hbA := HB.out.trans (hb2.mono HB.out.size)
    have hbB := hbA.trans ((bel_alloc w2 (.cells #[.int .i64 (kd : Nat), .string S1, .slice pa N ca, .bool em, .string S2] 26)).mono hbA.size)
    have HBB := Lib.hid hbB
    have HRX1 := Lib.hid (HRX.out _ hbB)
    have HLE := Lib.hid hle
    clear hv2 hb2 hle hbA hbB
    go_wp2_with fail
    refine HRX1.out.mono ?_
    rintro e w3 ⟨v3, rfl, hv3, hb3⟩
    obtain ⟨pb, cb, hvb⟩ := hv3.open HF.out.1 HF.out.2.1 HF.out.2.2.1 HF.out.2.2.2.1 HF.out.2.2.2.2
    subst hvb
    have hx4 := (hb3.block w2.heap.size (by simp)).trans (heap_alloc_new w2 _)
    obtain ⟨q0, q1, q2, q3, q4, qz⟩ := cellsX5 hx4
    have hlt4 : w2.heap.size < w3.heap.size := (Array.getElem?_eq_some_iff.1 hx4).1
    have hbC := HBB.out.trans (hb3.mono HBB.out.size)
    have hbx := bel_alloc w3 (.cells #[.int .i64 (kd : Nat), .string S1, .slice pb N cb, .bool em, .string S2] 26)
    have hbD := hbC.trans (hbx.mono hbC.size)
    have HBD := Lib.hid hbD
    have HSM := Lib.hid (rsame_c (w3.alloc (.cells #[.int .i64 (kd : Nat), .string S1, .slice pb N cb, .bool em, .string S2] 26)) t _ _ (((HV2.out.below (bel_alloc w2 _)).below hb3).below hbx) (hv3.below hbx))
    have HX7 := Lib.hid (heap_alloc_new w3 (.cells #[.int .i64 (kd : Nat), .string S1, .slice pb N cb, .bool em, .string S2] 26))
    clear hv3 hb3 hx4 hbC hbx hbD
    have tn : ((n : Int) != (n : Int)) = false := by simp
    have tz : ((z : Int) != (z : Int)) = false := by simp
    go_wp2_with fail
    refine HSM.out.mono ?_
    rintro e w4 ⟨rfl, hb4⟩
    have hx7 := (hb4.block w3.heap.size (by simp)).trans HX7.out
    obtain ⟨y0, y1, y2, y3, y4, yz⟩ := cellsX5 hx7
    have hbE := HBD.out.trans (hb4.mono HBD.out.size)
    have HBE := Lib.hid hbE
    have HAW := Lib.hid (awake_c w4 (HW.out.below hbE))
    clear hb4 hx7 hbE q0 q1 q2 q3 q4 qz
    by_cases hz : z = 0
    · subst hz
      have hg := nxt_goes HQ.out.symm
      rw [← HF.out.2.2.1] at hg
      by_cases hkd : kd = 0
      · have tk : ((kd : Int) == 0) = true := by simpa using hkd
        clear hg hkd
        go_wp2_with fail
        refine HAW.out.mono ?_
        rintro e w5 ⟨rfl, hb5⟩
        have HB5 := Lib.hid (HBE.out.trans (hb5.mono HBE.out.size))
        clear hb5
        go_wp2_with fail
        go_ret
        exact ⟨rfl, HB5.out⟩
      · have tk : ((kd : Int) == 0) = false := by simpa using hkd
        have hkn : k < n := by rcases hg.2 with h9 | h9 <;> omega
        have hnM := HLE.out rfl
        clear hg hkd
        go_wp2_with fail
        go_roundw
        case rel => exact ⟨n, rfl, hnM, HBE.out⟩
        case measure => simp [intOf]; omega
    · have tz2 : ((z : Int) != 0) = true := by simpa using hz
      clear hz
      go_wp2_with fail
      refine HAW.out.mono ?_
      rintro e w5 ⟨rfl, hb5⟩
      have HB5 := Lib.hid (HBE.out.trans (hb5.mono HBE.out.size))
      clear hb5
      go_wp2_with fail
      go_ret
      exact ⟨rfl, HB5.out⟩
end Go.Proofs.YthlphmldghppmaaGreatDoor
