/- xmllex: the reference: plain. -/
import Derived.Test.YtpcajjbdlfookaaGreatDoorHh
import Derived.Test.YtpcajjbdlfookaaGreatDoorMp04
import Derived.Test.YtpcajjbdlfookaaGreatDoorMp12
namespace Go.Proofs.YtpcajjbdlfookaaGreatDoor
open Go.RowKit
set_option linter.unusedVariables false

theorem lns_skip {xs : List UInt8} {k : Nat} (h : k + 1 < xs.length) (h0 : xs[k]'(by omega) = 13) (h1 : xs[k + 1] = 10) : lns (xs.drop k) = lns (xs.drop (k + 1)) := by
  rw [List.drop_eq_getElem_cons (show k < xs.length by omega), lns, if_pos h0, if_pos]
  rw [List.drop_eq_getElem_cons h, h1]
  rfl
theorem lns_turn {xs : List UInt8} {k : Nat} (h : k < xs.length) (h0 : xs[k] = 13) (h1 : ∀ (q : k + 1 < xs.length), xs[k + 1] ≠ 10) : lns (xs.drop k) = 10 :: lns (xs.drop (k + 1)) := by
  rw [List.drop_eq_getElem_cons h, lns, if_pos h0, if_neg]
  intro e
  by_cases q : k + 1 < xs.length
  · rw [List.drop_eq_getElem_cons q] at e
    exact h1 q (by simpa [List.getElem?_eq_getElem q] using e)
  · rw [List.drop_eq_nil_of_le (by omega)] at e
    simp at e
theorem lns_keep {xs : List UInt8} {k : Nat} (h : k < xs.length) (h0 : xs[k] ≠ 13) : lns (xs.drop k) = xs[k] :: lns (xs.drop (k + 1)) := by
  rw [List.drop_eq_getElem_cons h, lns, if_neg h0]
/-- What is gathered by now. -/
def PlI (w : World) (xs : List UInt8) (k : Nat) (l : List UInt8) (v : Value) (wr : World) : Prop :=
  l.length ≤ k ∧ l ++ lns (xs.drop k) = lns xs ∧ wr.ownsRow w.heap.size 5 1 v l.length (bcells l) ∧ Below w.heap.size w wr
theorem PlI.skip {w wr : World} {xs l : List UInt8} {k : Nat} {v : Value} (h : PlI w xs k l v wr) (he : lns (xs.drop k) = lns (xs.drop (k + 1))) : PlI w xs (k + 1) l v wr :=
  ⟨by have := h.1; omega, by rw [← he]; exact h.2.1, h.2.2⟩
theorem PlI.push {w wr w1 : World} {xs l : List UInt8} {k : Nat} {v v1 : Value} {o : Obj} {X : Int} (h : PlI w xs k l v wr) (b : UInt8) (he : lns (xs.drop k) = b :: lns (xs.drop (k + 1))) (hX : X = (b.toNat : Int))
    (hown : w1.ownsRow w.heap.size 5 1 v1 (l.length + 1) (bcells l ++ [.int .u8 X])) (hg : (wr.alloc o).grownBy w1 v.ownBlock) : PlI w xs (k + 1) (l ++ [b]) v1 w1 := by
  refine ⟨by have := h.1; simp; omega, ?_, own_push hown b hX, below_push hg h.2.2.1 h.2.2.2 h.2.2.2.size⟩
  rw [List.append_assoc, List.singleton_append, ← he]
  exact h.2.1

set_option maxRecDepth 100000 in
set_option maxHeartbeats 2000000 in
theorem rplain_c (w : World) (v : Value) (xs : List UInt8) (h : Rd w v xs) (hl : xs.length ≤ 16777216) (vb : Bool) : Calls Tryz.prog 97 #[v, .bool vb] w fun e w' => ∃ v', e = .returned v' ∧ Rd w' v' (pl vb xs) ∧ Below w.heap.size w w' := by
  obtain ⟨p, c, rfl⟩ := rd_form h
  obtain ⟨i0, hi, hz0, hz1, hz2⟩ := info_parts info8
  obtain ⟨L, hL⟩ : ∃ L, L = xs.length := ⟨_, rfl⟩
  rw [← hL] at h hl ⊢
  have HI0 := Lib.hid (show PlI w xs 0 [] (.slice none 0 0) w from ⟨by simp, by simp, World.ownsRow_nil _ _ _ _, Below.refl _ _⟩)
  have HL := Lib.hid hL
  have HR := Lib.hid h
  clear h hL
  go_enter Tryz.func97, Tryz.ntmps97
  go_wp2_with fail
  go_loopw [12, 5] (fun s12 s5 wr => ∃ (k : Nat) (l : List UInt8) (v5 : Value), s12 = .int .i64 k ∧ v5 = s5 ∧ k ≤ L ∧ PlI w xs k l v5 wr) (fun s12 _ _ => L - (intOf s12).toNat)
  case atStart => exact ⟨0, [], _, rfl, rfl, by omega, HI0.out⟩
  case round =>
    obtain ⟨k, l, s5, rfl, rfl, hk, hI⟩ := hrel
    have hb := hI.2.2.2
    have HI := Lib.hid hI
    have hlen : l.length ≤ 16777216 := by have := hI.1; omega
    have HSZ := Lib.hid hb.size
    obtain ⟨p', c', hv, h1, h2, h3, h4⟩ := HR.out.below hb
    have hpc : p = p' := by cases hv; rfl
    subst hpc
    by_cases hkn : k < L
    · have hkx : k < xs.length := by rw [← HL.out]; exact hkn
      obtain ⟨b, o, hp, hx⟩ := h4 (by omega)
      subst hp
      have hx1 := hx k hkx
      obtain ⟨x, hxe⟩ : ∃ x, x = xs[k]'hkx := ⟨_, rfl⟩
      rw [← hxe] at hx1
      have hx256 := x.toNat_lt
      have hkI : (k : Int) < (L : Int) := by omega
      by_cases h13 : x = 13
      · have t13 : ((x.toNat : Int) == 13) = true := by rw [h13]; rfl
        by_cases hk1 : k + 1 < L
        · have hkx1 : k + 1 < xs.length := by rw [← HL.out]; exact hk1
          have hx2 := hx (k + 1) hkx1
          obtain ⟨y, hye⟩ : ∃ y, y = xs[k + 1]'hkx1 := ⟨_, rfl⟩
          rw [← hye] at hx2
          have hy256 := y.toNat_lt
          have hk1I : (k : Int) + 1 < (L : Int) := by omega
          by_cases h10 : y = 10
          · have t10 : ((y.toNat : Int) == 10) = true := by rw [h10]; rfl
            have HN := Lib.hid (hI.skip (lns_skip hkx1 (by rw [← hxe]; exact h13) (by rw [← hye]; exact h10)))
            clear hI hb hv h1 h2 h3 h4 hx hxe hye h13 h10 hkx hkx1
            go_wp2_with fail
            go_roundw
            case rel => exact ⟨k + 1, l, _, by go_num, rfl, by omega, HN.out⟩
            case measure => simp [intOf]; omega
          · have t10 : ((y.toNat : Int) == 10) = false := by
              rw [beq_eq_false_iff_ne]
              intro e
              exact h10 (UInt8.toNat_inj.1 (by simp; omega))
            have HE := Lib.hid (lns_turn hkx (by rw [← hxe]; exact h13) (fun q => by rw [← hye]; exact h10))
            clear hI hb hv h1 h2 h3 h4 hx hxe hye h13 h10 hkx hkx1
            go_wp2_with (at_builtin; refine wpList_append_src rfl _ _ 22 22 rfl w.heap.size 5 i0 (.int .u8 0) 1 Tryz.underlying22 hi hz0 hz1 hz2 rfl _ l.length (bcells l) rfl (HI.out.2.2.1.alloc _) _ 1 _ rfl (src_one Tryz.underlying22 _ _ _ rfl) ?c1 ?c2 ?c3 ?_)
            case c1 => unfold maxLen; omega
            case c2 => omega
            case c3 => have := HSZ.out; simp; omega
            intro v' w2 hown1 hgrow1
            have HN := Lib.hid (HI.out.push 10 HE.out (by rfl) hown1 hgrow1)
            clear hown1 hgrow1
            go_wp2_with fail
            go_roundw
            case rel => exact ⟨k + 1, l ++ [10], _, by go_num, rfl, by omega, HN.out⟩
            case measure => simp [intOf]; omega
        · have hk1I : ¬ (k : Int) + 1 < (L : Int) := by omega
          have hk1D : decide ((k : Int) + 1 < (L : Int)) = false := by simpa using hk1I
          have HE := Lib.hid (lns_turn hkx (by rw [← hxe]; exact h13) (fun q => absurd q (by rw [← HL.out]; exact hk1)))
          clear hI hb hv h1 h2 h3 h4 hx hxe h13 hkx
          go_wp2_with (at_builtin; refine wpList_append_src rfl _ _ 22 22 rfl w.heap.size 5 i0 (.int .u8 0) 1 Tryz.underlying22 hi hz0 hz1 hz2 rfl _ l.length (bcells l) rfl (HI.out.2.2.1.alloc _) _ 1 _ rfl (src_one Tryz.underlying22 _ _ _ rfl) ?c1 ?c2 ?c3 ?_)
          case c1 => unfold maxLen; omega
          case c2 => omega
          case c3 => have := HSZ.out; simp; omega
          intro v' w2 hown1 hgrow1
          have HN := Lib.hid (HI.out.push 10 HE.out (by rfl) hown1 hgrow1)
          clear hown1 hgrow1
          go_wp2_with fail
          go_roundw
          case rel => exact ⟨k + 1, l ++ [10], _, by go_num, rfl, by omega, HN.out⟩
          case measure => simp [intOf]; omega
      · have t13 : ((x.toNat : Int) == 13) = false := by
          rw [beq_eq_false_iff_ne]
          intro e
          exact h13 (UInt8.toNat_inj.1 (by simp; omega))
        have HE := Lib.hid (lns_keep hkx (by rw [← hxe]; exact h13))
        rw [← hxe] at HE
        clear hI hb hv h1 h2 h3 h4 hx hxe h13 hkx
        go_wp2_with (at_builtin; refine wpList_append_src rfl _ _ 22 22 rfl w.heap.size 5 i0 (.int .u8 0) 1 Tryz.underlying22 hi hz0 hz1 hz2 rfl _ l.length (bcells l) rfl (HI.out.2.2.1.alloc _) _ 1 _ rfl (src_one Tryz.underlying22 _ _ _ rfl) ?c1 ?c2 ?c3 ?_)
        case c1 => unfold maxLen; omega
        case c2 => omega
        case c3 => have := HSZ.out; simp; omega
        intro v' w2 hown1 hgrow1
        have HN := Lib.hid (HI.out.push x HE.out (by rfl) hown1 hgrow1)
        clear hown1 hgrow1
        go_wp2_with fail
        go_roundw
        case rel => exact ⟨k + 1, l ++ [x], _, by go_num, rfl, by omega, HN.out⟩
        case measure => simp [intOf]; omega
    · have hkL : k = L := by omega
      have hown := hI.2.2.1
      have hll : l = lns xs := by
        have := hI.2.1
        rw [List.drop_eq_nil_of_le (by rw [← HL.out]; omega), show lns [] = [] from rfl, List.append_nil] at this
        exact this
      have hO : OwnB w.heap.size wr s5 l := OwnB.of_own hown
      have HP1 := Lib.hid (show pl true xs = flK l l.length from by rw [hll]; simp [pl, flK])
      have HP0 := Lib.hid (show pl false xs = l from by rw [hll]; rfl)
      have HBr := Lib.hid hb
      clear hI hv h1 h2 h3 h4 hown hll HI HL HR hb
      rcases hO with ⟨rfl, rfl⟩ | ⟨g, c5, hv, hr⟩
      · have HW := Lib.hid (show Rd wr (.slice none 0 0) (pl vb xs) from by
          have : pl vb xs = [] := by cases vb; exact HP0.out; rw [HP1.out]; rfl
          rw [this]
          exact Rd.nil _)
        go_wp2_with fail
        go_loopw [48] (fun s48 wx => s48 = .int .i64 0 ∧ wx = wr) (fun _ _ => 0)
        case atStart => exact ⟨rfl, rfl⟩
        case round =>
          obtain ⟨rfl, rfl⟩ := hrel
          go_wp2
          go_ret
          exact ⟨_, rfl, HW.out, HBr.out⟩
      · have hown : OwnB w.heap.size wr s5 l := .inr ⟨g, c5, hv, hr⟩
        rw [hv] at hown
        subst hv
        obtain ⟨hn, hBg, hnc, hcm, _⟩ := ownB_at hown
        obtain ⟨n, hn'⟩ : ∃ n, n = l.length := ⟨_, rfl⟩
        rw [← hn'] at hown hnc hlen ⊢
        have HO := Lib.hid hown
        have HN := Lib.hid hn'
        unfold maxLen at hcm
        clear hown hr hn hn'
        cases vb with
        | false =>
          go_wp2_with fail
          go_loopw [48] (fun s48 wx => ∃ k : Nat, k ≤ n ∧ s48 = .int .i64 k ∧ wx = wr) (fun s48 _ => n - (intOf s48).toNat)
          case atStart => exact ⟨0, by omega, rfl, rfl⟩
          case round =>
            obtain ⟨j, hj, rfl, rfl⟩ := hrel
            by_cases hlt : j < n
            · have hjl : j < l.length := by have := HN.out; omega
              obtain ⟨_, _, _, _, hcell⟩ := ownB_at HO.out
              obtain ⟨c1, f1⟩ := hcell j hjl
              obtain ⟨x, hx⟩ : ∃ x, x = l[j] := ⟨_, rfl⟩
              rw [← hx] at c1
              have hxl := x.toNat_lt
              have hjI : (j : Int) < (n : Int) := by omega
              clear hcell hx hjl
              go_wp2_with fail
              go_roundw
              case rel => exact ⟨j + 1, by omega, by go_num, by first | rfl | trivial⟩
              case measure => simp [intOf]; omega
            · go_wp2_with fail
              go_ret
              exact ⟨_, rfl, by rw [HP0.out]; exact HO.out.rd, HBr.out⟩
        | true =>
          go_wp2_with fail
          go_loopw [48] (fun s48 wx => ∃ k : Nat, k ≤ n ∧ s48 = .int .i64 k ∧ OwnB w.heap.size wx (.slice (some ⟨g, 0, none⟩) n c5) (flK l k) ∧ Below w.heap.size w wx) (fun s48 _ => n - (intOf s48).toNat)
          case atStart => exact ⟨0, by omega, rfl, by simpa [flK] using HO.out, HBr.out⟩
          case round =>
            obtain ⟨j, hj, rfl, hown, hb⟩ := hrel
            have HW := Lib.hid hown
            have HBx := Lib.hid hb
            by_cases hlt : j < n
            · have hkl : j < l.length := by have := HN.out; omega
              obtain ⟨_, _, _, _, hcell⟩ := ownB_at hown
              obtain ⟨c1, f1⟩ := hcell j (by rw [flK_len]; exact hkl)
              rw [flK_at l j hkl] at c1
              obtain ⟨x, hx⟩ : ∃ x, x = l[j] := ⟨_, rfl⟩
              rw [← hx] at c1
              have hxl := x.toNat_lt
              have HS := Lib.hid (fun (y : UInt8) (hy : tr x = y) => show OwnB w.heap.size (wr.setCell ⟨g, j, none⟩ (.int .u8 (y.toNat : Int))) (.slice (some ⟨g, 0, none⟩) n c5) (flK l (j + 1)) from by rw [← flK_set l j hkl, ← hx, hy]; exact ownB_set hown j (by rw [flK_len]; exact hkl) y)
              have HZ := Lib.hid (fun (hy : tr x = x) => show OwnB w.heap.size wr (.slice (some ⟨g, 0, none⟩) n c5) (flK l (j + 1)) from by rw [flK_same l j hkl (by rw [← hx]; exact hy)]; exact hown)
              clear hcell hown hb hx hkl
              by_cases h9 : x = 9
              · subst h9
                have hz := HS.out 32 rfl
                have HZZ := Lib.hid hz
                clear hz
                go_wp2_with fail
                go_roundw
                case rel => exact ⟨j + 1, by omega, by go_num, HZZ.out, HBx.out.setCell (p := ⟨g, j, none⟩) hBg _⟩
                case measure => simp [intOf]; omega
              · have t9 : ((x.toNat : Int) == 9) = false := by
                  rw [beq_eq_false_iff_ne]
                  intro e
                  exact h9 (UInt8.toNat_inj.1 (by simp; omega))
                by_cases h10 : x = 10
                · subst h10
                  have hz := HS.out 32 rfl
                  have HZZ := Lib.hid hz
                  clear hz h9
                  go_wp2_with fail
                  go_roundw
                  case rel => exact ⟨j + 1, by omega, by go_num, HZZ.out, HBx.out.setCell (p := ⟨g, j, none⟩) hBg _⟩
                  case measure => simp [intOf]; omega
                · have hz := HZ.out (by rw [tr, if_neg (by simp [h9, h10])])
                  have HZZ := Lib.hid hz
                  have t10 : ((x.toNat : Int) == 10) = false := by
                    rw [beq_eq_false_iff_ne]
                    intro e
                    exact h10 (UInt8.toNat_inj.1 (by simp; omega))
                  clear hz h9 h10
                  go_wp2_with fail
                  go_roundw
                  case rel => exact ⟨j + 1, by omega, by go_num, HZZ.out, HBx.out⟩
                  case measure => simp [intOf]; omega
            · obtain rfl : j = n := by omega
              have HF := Lib.hid (show Rd wr (.slice (some ⟨g, 0, none⟩) j c5) (pl true xs) from by rw [HP1.out, ← HN.out]; exact hown.rd)
              clear hown hb
              go_wp2_with fail
              go_ret
              exact ⟨_, rfl, HF.out, HBx.out⟩
end Go.Proofs.YtpcajjbdlfookaaGreatDoor

/- xmllex: the reference: begins, find, blanks, name. -/
namespace Go.Proofs.YtpcajjbdlfookaaGreatDoor
open Go.RowKit
set_option linter.unusedVariables false

theorem prefix_take (xs ms : List UInt8) : Lib.hasPrefix xs ms = (xs.take ms.length == ms) := by
  unfold Lib.hasPrefix
  by_cases h : ms <+: xs
  · rw [List.isPrefixOf_iff_prefix.2 h, List.prefix_iff_eq_take.1 h]
    simp
  · have h1 : ms.isPrefixOf xs = false := by
      cases hb : ms.isPrefixOf xs with
      | false => rfl
      | true => exact absurd (List.isPrefixOf_iff_prefix.1 hb) h
    rw [h1]
    refine (beq_eq_false_iff_ne.2 fun e => h ?_).symm
    rw [← e]
    exact List.take_prefix _ _
theorem slice_to {w : World} {p : Option Addr} {n c : Nat} {xs : List UInt8} (h : Rd w (.slice p n c) xs) (k : Nat) (hk : k ≤ n) :
    ∃ p' m c', (∀ W, (Instr.slice 22 (.slice p n c) none (some (.int .i64 (k : Int))) none).run Tryz.prog W = .ok (.slice p' m c') W) ∧ Rd w (.slice p' m c') (xs.take k) := by
  have hn := h.len
  have h1 := (h.from 0 (by omega)).to (k - 0) (by omega)
  rw [List.drop_zero, Nat.sub_zero] at h1
  obtain ⟨_, _, _, _, hc, _⟩ := rd_in h
  refine ⟨if c = 0 then p else p.map (·.add (0 * 1)), k - 0, c - 0, fun W => ?_, h1⟩
  have ht' : Tryz.prog.underlying 22 = some (.slice (Tryz.prog.elem 22)) := by simp [Program.elem, Tryz.underlying22]
  have he : Tryz.prog.elem 22 = 5 := by simp [Program.elem, Tryz.underlying22]
  rw [run_slice_h W 22 _ _ _ ht' .i64 _ (by omega) (by omega), he, sizeRun8]
  simp only [Result.andThen, sliced, Int.toNat_natCast]
set_option maxRecDepth 100000 in
theorem begins_c (w : World) (v : Value) (xs : List UInt8) (s : ByteArray) (h : Rd w v xs) : Calls Tryz.prog 65 #[v, .string s] w fun e w' => e = .returned (.bool (Lib.hasPrefix xs s.data.toList)) ∧ w' = w := by
  obtain ⟨p, c, rfl⟩ := rd_form h
  obtain ⟨L, hL⟩ : ∃ L, L = xs.length := ⟨_, rfl⟩
  rw [← hL] at h ⊢
  have hsl : s.data.toList.length = s.size := by rw [Array.length_toList]; rfl
  by_cases hle : s.size ≤ L
  · obtain ⟨p', m', c', hs, hr⟩ := slice_to h s.size hle
    have hcv := hr.conv (P := Tryz.prog) 22 5 9 Tryz.underlying22 Tryz.underlying5 Tryz.underlying9
    obtain ⟨X, hX⟩ : ∃ X, X = (⟨(xs.take s.size).toArray⟩ : ByteArray) := ⟨_, rfl⟩
    rw [← hX] at hcv
    obtain ⟨b, hb⟩ : ∃ b, b = Lib.hasPrefix xs s.data.toList := ⟨_, rfl⟩
    have tb : (X.toList == s.toList) = b := by
      rw [hb, prefix_take, hsl, ByteArray.toList_eq, ByteArray.toList_eq, hX]
    rw [← hb]
    have t1 : decide (s.size ≤ L) = true := by simpa using hle
    clear h hr hL hX hb hsl
    go_enter Tryz.func65, Tryz.ntmps65
    go_wp2_with fail
    go_ret
    exact ⟨rfl, rfl⟩
  · have hb : Lib.hasPrefix xs s.data.toList = false := by
      rw [prefix_take]
      refine beq_eq_false_iff_ne.2 fun e => ?_
      have := congrArg List.length e
      rw [List.length_take] at this
      omega
    rw [hb]
    have t1 : decide (s.size ≤ L) = false := by simpa using hle
    clear h hL hb hsl
    go_enter Tryz.func65, Tryz.ntmps65
    go_wp2_with fail
    go_ret
    exact ⟨rfl, rfl⟩
end Go.Proofs.YtpcajjbdlfookaaGreatDoor

/- xmllex: the reference: find, blanks, name. -/
namespace Go.Proofs.YtpcajjbdlfookaaGreatDoor
open Go.RowKit
set_option linter.unusedVariables false

def off (i : Int) (k : Nat) : Int := if i < 0 then -1 else i + (k : Nat)
theorem off_hit {xs ms : List UInt8} {k : Nat} (h : Lib.hasPrefix (xs.drop k) ms = true) : off (Lib.index (xs.drop k) ms) k = k := by
  have h0 : Lib.index (xs.drop k) ms = 0 := by
    unfold Lib.hasPrefix at h
    cases hd : xs.drop k with
    | nil =>
      rw [hd] at h
      have : ms = [] := by cases ms with
        | nil => rfl
        | cons a t => simp [List.isPrefixOf] at h
      subst this
      rfl
    | cons a t =>
      rw [hd] at h
      unfold Lib.index
      rw [if_pos h]
  rw [h0]
  unfold off
  rw [if_neg (by omega)]
  omega
theorem off_miss {xs ms : List UInt8} {k : Nat} (hk : k < xs.length) (h : Lib.hasPrefix (xs.drop k) ms = false) : off (Lib.index (xs.drop k) ms) k = off (Lib.index (xs.drop (k + 1)) ms) (k + 1) := by
  have hd : xs.drop k = xs[k] :: xs.drop (k + 1) := List.drop_eq_getElem_cons hk
  rw [hd] at h ⊢
  have hg := Lib.index_ge (xs.drop (k + 1)) ms
  unfold Lib.hasPrefix at h
  conv => lhs; unfold Lib.index
  rw [if_neg (by rw [h]; simp)]
  unfold off
  generalize Lib.index (xs.drop (k + 1)) ms = j at hg ⊢
  by_cases hj : j = -1
  · subst hj
    rfl
  · have : (j == -1) = false := by simpa using hj
    rw [this]
    simp only [Bool.false_eq_true, if_false]
    rw [if_neg (by omega), if_neg (by omega)]
    push_cast
    omega
theorem off_end {ms : List UInt8} {k : Nat} (h : ms ≠ []) : off (Lib.index [] ms) k = -1 := by
  cases ms with
  | nil => exact absurd rfl h
  | cons a t => rfl
set_option maxRecDepth 100000 in
set_option maxHeartbeats 1000000 in
theorem find_c (w : World) (v : Value) (xs : List UInt8) (s : ByteArray) (h : Rd w v xs) (hs : s.data.toList ≠ []) (hl : xs.length ≤ 16777216) : Calls Tryz.prog 66 #[v, .string s] w fun e w' => e = .returned (.int .i64 (Lib.index xs s.data.toList)) ∧ w' = w := by
  obtain ⟨p, c, rfl⟩ := rd_form h
  obtain ⟨L, hL⟩ : ∃ L, L = xs.length := ⟨_, rfl⟩
  rw [← hL] at h hl ⊢
  obtain ⟨ms, hms⟩ : ∃ ms, ms = s.data.toList := ⟨_, rfl⟩
  have HB := Lib.hid (fun (w : World) (v : Value) (xs : List UInt8) (h : Rd w v xs) => begins_c w v xs s h)
  rw [← hms] at hs HB ⊢
  obtain ⟨R, hR⟩ : ∃ R, R = Lib.index xs ms := ⟨_, rfl⟩
  have HI := Lib.hid (show R = off (Lib.index (xs.drop 0) ms) 0 from by
    rw [hR, List.drop_zero]
    have := Lib.index_ge xs ms
    unfold off
    split <;> omega)
  rw [← hR]
  have HL := Lib.hid hL
  have HS := Lib.hid hs
  have HR := Lib.hid h
  clear h hR hms hs hL
  go_enter Tryz.func66, Tryz.ntmps66
  go_wp2_with fail
  go_loopw [8] (fun s8 wr => ∃ k : Nat, s8 = .int .i64 k ∧ k ≤ L ∧ wr = w ∧ Hid (R = off (Lib.index (xs.drop k) ms) k)) (fun s8 _ => L - (intOf s8).toNat)
  case atStart => exact ⟨0, rfl, by omega, rfl, HI⟩
  case round =>
    obtain ⟨k, rfl, hk, rfl, hi⟩ := hrel
    by_cases hkn : k < L
    · obtain ⟨p', m', c', hsl, hr'⟩ := slice_from HR.out k hk
      have HBK := HB.out _ _ _ hr'
      cases hb : Lib.hasPrefix (xs.drop k) ms with
      | true =>
        rw [hb] at HBK
        have HBK := Lib.hid HBK
        have HE := Lib.hid (hi.out.trans (off_hit hb))
        clear hb hi hr'
        go_wp2_with fail
        refine HBK.out.mono ?_
        rintro e w2 ⟨rfl, rfl⟩
        go_wp2_with fail
        go_ret
        exact ⟨by rw [HE.out]; rfl, rfl⟩
      | false =>
        rw [hb] at HBK
        have HBK := Lib.hid HBK
        have HE := Lib.hid (hi.out.trans (off_miss (by have := HL.out; omega) hb))
        clear hb hi hr'
        go_wp2_with fail
        refine HBK.out.mono ?_
        rintro e w2 ⟨rfl, rfl⟩
        go_wp2_with fail
        go_roundw
        case rel => exact ⟨k + 1, by go_num, by omega, by first | rfl | trivial, HE⟩
        case measure => simp [intOf]; omega
    · have HE := Lib.hid (show R = -1 from by rw [hi.out, List.drop_eq_nil_of_le (by have := HL.out; omega)]; exact off_end HS.out)
      clear hi
      go_wp2_with fail
      go_ret
      exact ⟨by rw [HE.out]; rfl, rfl⟩
end Go.Proofs.YtpcajjbdlfookaaGreatDoor

/- xmllex: the reference: blanks, name. -/
namespace Go.Proofs.YtpcajjbdlfookaaGreatDoor
open Go.RowKit
set_option linter.unusedVariables false

set_option maxRecDepth 100000 in
set_option maxHeartbeats 1000000 in
theorem rblanks_c (w : World) (v : Value) (xs : List UInt8) (h : Rd w v xs) (hl : xs.length ≤ 16777216) : Calls Tryz.prog 68 #[v] w fun e w' => e = .returned (.int .i64 (blN xs : Nat)) ∧ w' = w := by
  obtain ⟨p, c, rfl⟩ := rd_form h
  obtain ⟨L, hL⟩ : ∃ L, L = xs.length := ⟨_, rfl⟩
  rw [← hL] at h hl ⊢
  obtain ⟨R, hR⟩ : ∃ R, R = blN xs := ⟨_, rfl⟩
  have HI := Lib.hid (show blN (xs.drop 0) + 0 = R from by rw [hR]; rfl)
  rw [← hR]
  have HL := Lib.hid hL
  have hR2 := h
  obtain ⟨p', c', hv, h1, h2, h3, h4⟩ := h
  have hpc : p = p' := by cases hv; rfl
  subst hpc
  have HX := Lib.hid h4
  clear hR hL hR2 h4 hv h1 h2 h3
  go_enter Tryz.func68, Tryz.ntmps68
  go_wp2_with fail
  go_loopw [3] (fun s3 wr => ∃ k : Nat, s3 = .int .i64 k ∧ k ≤ L ∧ wr = w ∧ Hid (blN (xs.drop k) + k = R)) (fun s3 _ => L - (intOf s3).toNat)
  case atStart => exact ⟨0, rfl, by omega, rfl, HI⟩
  case round =>
    obtain ⟨k, rfl, hk, rfl, hi⟩ := hrel
    by_cases hkn : k < L
    · obtain ⟨b, o, hp, hx⟩ := HX.out (by have := HL.out; omega)
      subst hp
      have hx1 := hx k (by have := HL.out; omega)
      obtain ⟨x, hxe⟩ : ∃ x, x = xs[k]'(by have := HL.out; omega) := ⟨_, rfl⟩
      rw [← hxe] at hx1
      have hx256 := x.toNat_lt
      have hkI : (k : Int) < (L : Int) := by omega
      have hd : xs.drop k = x :: xs.drop (k + 1) := by rw [hxe]; exact List.drop_eq_getElem_cons _
      have hi' := hi.out
      rw [hd, blN] at hi'
      cases hsp : spaceB (x.toNat : Int) with
      | true =>
        rw [hsp, if_pos rfl] at hi'
        have HE := Lib.hid (show blN (xs.drop (k + 1)) + (k + 1) = R from by omega)
        have HS := Lib.hid (fun w => rspace_c w (x.toNat : Int))
        rw [hsp] at HS
        clear hi' hi hd hxe hx hsp
        go_wp2_with fail
        refine (HS.out _).mono ?_
        rintro e w2 ⟨rfl, rfl⟩
        go_wp2_with fail
        go_roundw
        case rel => exact ⟨k + 1, by go_num, by omega, by first | rfl | trivial, HE⟩
        case measure => simp [intOf]; omega
      | false =>
        rw [hsp, if_neg (by simp)] at hi'
        have HE := Lib.hid (show k = R from by omega)
        have HS := Lib.hid (fun w => rspace_c w (x.toNat : Int))
        rw [hsp] at HS
        clear hi' hi hd hxe hx hsp
        go_wp2_with fail
        refine (HS.out _).mono ?_
        rintro e w2 ⟨rfl, rfl⟩
        go_wp2_with fail
        go_ret
        exact ⟨by rw [← HE.out]; rfl, rfl⟩
    · have HE := Lib.hid (show k = R from by
        have := hi.out
        rw [List.drop_eq_nil_of_le (by have := HL.out; omega), blN] at this
        omega)
      clear hi
      go_wp2_with fail
      go_ret
      exact ⟨by rw [← HE.out]; rfl, rfl⟩

set_option maxRecDepth 100000 in
set_option maxHeartbeats 1000000 in
theorem rname_c (w : World) (v : Value) (xs : List UInt8) (h : Rd w v xs) (hl : xs.length ≤ 16777216) : Calls Tryz.prog 98 #[v] w fun e w' => e = .returned (.int .i64 (tagR xs : Nat)) ∧ Below w.heap.size w w' := by
  obtain ⟨p, c, rfl⟩ := rd_form h
  obtain ⟨L, hL⟩ : ∃ L, L = xs.length := ⟨_, rfl⟩
  rw [← hL] at h ⊢
  have HN := Lib.hid (nameAt_c w _ xs h (by omega))
  have HR := Lib.hid h
  have hnl := nameAt_le xs
  rw [← hL] at hnl
  obtain ⟨n, hn⟩ : ∃ n, n = nameAt xs := ⟨_, rfl⟩
  rw [← hn] at HN hnl
  have e58 : (⟨#[58]⟩ : ByteArray).data.toList = [58] := rfl
  have HL := Lib.hid (And.intro hL hl)
  clear h hL hl
  by_cases h0 : n = 0
  · have HT := Lib.hid (show tagR xs = n from by unfold tagR; rw [← hn, if_pos (.inl h0)])
    rw [HT.out]
    have t0 : ((n : Int) == 0) = true := by simpa using h0
    clear h0 hn e58
    go_enter Tryz.func98, Tryz.ntmps98
    go_wp2_with fail
    refine HN.out.mono ?_
    rintro e w1 ⟨rfl, hb⟩
    have HB := Lib.hid hb
    clear hb
    go_wp2_with fail
    go_ret
    exact ⟨rfl, HB.out⟩
  · have t0 : ((n : Int) == 0) = false := by simpa using h0
    cases hp : Lib.hasPrefix (xs.drop n) [58] with
    | false =>
      have HT := Lib.hid (show tagR xs = n from by unfold tagR; rw [← hn, if_pos (.inr hp)])
      rw [HT.out]
      have HBG := Lib.hid (fun (wx : World) (v : Value) (h : Rd wx v (xs.drop n)) => begins_c wx v (xs.drop n) ⟨#[58]⟩ h)
      rw [e58, hp] at HBG
      clear h0 hn e58 hp
      go_enter Tryz.func98, Tryz.ntmps98
      go_wp2_with fail
      refine HN.out.mono ?_
      rintro e w1 ⟨rfl, hb⟩
      have HB := Lib.hid hb
      obtain ⟨p1, m1, c1, hs1, hr1⟩ := slice_from (HR.out.below hb) n hnl
      have HBG1 := Lib.hid (HBG.out _ _ hr1)
      clear hb hr1
      go_wp2_with fail
      refine HBG1.out.mono ?_
      rintro e w2 ⟨rfl, rfl⟩
      go_wp2_with fail
      go_ret
      exact ⟨rfl, HB.out⟩
    | true =>
      have hpl := pre_len hp
      rw [List.length_singleton, List.length_drop, ← HL.out.1] at hpl
      have HBG := Lib.hid (fun (wx : World) (v : Value) (h : Rd wx v (xs.drop n)) => begins_c wx v (xs.drop n) ⟨#[58]⟩ h)
      rw [e58, hp] at HBG
      have HN2 := Lib.hid (fun (wx : World) (v : Value) (h : Rd wx v (xs.drop (n + 1))) => nameAt_c wx v (xs.drop (n + 1)) h (by rw [List.length_drop]; have := HL.out; omega))
      obtain ⟨k, hk⟩ : ∃ k, k = nameAt (xs.drop (n + 1)) := ⟨_, rfl⟩
      have hkl := nameAt_le (xs.drop (n + 1))
      rw [← hk] at HN2 hkl
      rw [List.length_drop, ← HL.out.1] at hkl
      have HT0 := Lib.hid (show tagR xs = if k = 0 then n else n + 1 + k from by unfold tagR; rw [← hn, ← hk, if_neg (by rw [hp]; simp [h0])])
      rw [HT0.out]
      have hL2 := HL.out.2
      rw [← HL.out.1] at hL2
      by_cases hk0 : k = 0
      · rw [if_pos hk0]
        have t1 : ((k : Int) == 0) = true := by simpa using hk0
        clear h0 hn e58 hp hk hk0
        go_enter Tryz.func98, Tryz.ntmps98
        go_wp2_with fail
        refine HN.out.mono ?_
        rintro e w1 ⟨rfl, hb⟩
        have HB := Lib.hid hb
        obtain ⟨p1, m1, c1, hs1, hr1⟩ := slice_from (HR.out.below hb) n hnl
        obtain ⟨p2, m2, c2, hs2, hr2⟩ := slice_from (HR.out.below hb) (n + 1) (by omega)
        rw [show ((n + 1 : Nat) : Int) = (n : Int) + 1 by omega] at hs2
        have HBG1 := Lib.hid (HBG.out _ _ hr1)
        have HN21 := Lib.hid (HN2.out _ _ hr2)
        clear hb hr1 hr2
        go_wp2_with fail
        refine HBG1.out.mono ?_
        rintro e w2 ⟨rfl, rfl⟩
        go_wp2_with fail
        refine HN21.out.mono ?_
        rintro e w3 ⟨rfl, hb3⟩
        have HB3 := Lib.hid (HB.out.trans (hb3.mono HB.out.size))
        clear hb3
        go_wp2_with fail
        go_ret
        exact ⟨rfl, HB3.out⟩
      · rw [if_neg hk0]
        have t1 : ((k : Int) == 0) = false := by simpa using hk0
        clear h0 hn e58 hp hk hk0
        go_enter Tryz.func98, Tryz.ntmps98
        go_wp2_with fail
        refine HN.out.mono ?_
        rintro e w1 ⟨rfl, hb⟩
        have HB := Lib.hid hb
        obtain ⟨p1, m1, c1, hs1, hr1⟩ := slice_from (HR.out.below hb) n hnl
        obtain ⟨p2, m2, c2, hs2, hr2⟩ := slice_from (HR.out.below hb) (n + 1) (by omega)
        rw [show ((n + 1 : Nat) : Int) = (n : Int) + 1 by omega] at hs2
        have HBG1 := Lib.hid (HBG.out _ _ hr1)
        have HN21 := Lib.hid (HN2.out _ _ hr2)
        clear hb hr1 hr2
        go_wp2_with fail
        refine HBG1.out.mono ?_
        rintro e w2 ⟨rfl, rfl⟩
        go_wp2_with fail
        refine HN21.out.mono ?_
        rintro e w3 ⟨rfl, hb3⟩
        have HB3 := Lib.hid (HB.out.trans (hb3.mono HB.out.size))
        clear hb3
        go_wp2_with fail
        go_ret
        exact ⟨by first | rfl | (congr 2; omega), HB3.out⟩
end Go.Proofs.YtpcajjbdlfookaaGreatDoor

/- xmllex: the reference: digit. -/
namespace Go.Proofs.YtpcajjbdlfookaaGreatDoor
open Go.RowKit
set_option linter.unusedVariables false

def digI (B m : Nat) : Int := let n := if 48 ≤ m ∧ m ≤ 57 then m - 48 else if 97 ≤ m ∧ m ≤ 102 then m - 87 else if 65 ≤ m ∧ m ≤ 70 then m - 55 else 99
  if n < B then (n : Nat) else -1
theorem digI_dgt (B : Nat) (c : UInt8) : (digI B c.toNat = -1 ∧ dgt B c = none) ∨ ∃ k : Nat, digI B c.toNat = k ∧ dgt B c = some k := by
  unfold digI dgt
  dsimp only
  generalize (if 48 ≤ c.toNat ∧ c.toNat ≤ 57 then c.toNat - 48 else if 97 ≤ c.toNat ∧ c.toNat ≤ 102 then c.toNat - 87 else if 65 ≤ c.toNat ∧ c.toNat ≤ 70 then c.toNat - 55 else 99) = n
  by_cases h : n < B
  · rw [if_pos h, if_pos h]
    exact .inr ⟨n, rfl, rfl⟩
  · rw [if_neg h, if_neg h]
    exact .inl ⟨rfl, rfl⟩
set_option maxRecDepth 100000 in
set_option maxHeartbeats 2000000 in
theorem digit_c (w : World) (m : Nat) (hm : m < 256) (B : Nat) (hB : B = 10 ∨ B = 16) : Calls Tryz.prog 141 #[.int .u8 (m : Int), .int .i64 (B : Nat)] w fun e w' => e = .returned (.int .i64 (digI B m)) ∧ w' = w := by
  by_cases h1 : 48 ≤ m ∧ m ≤ 57
  · have hD := Lib.hid (show digI B m = ((m : Int) - 48) % 256 from by unfold digI; dsimp only; rw [if_pos h1, if_pos (by omega)]; omega)
    obtain ⟨h1, h2⟩ := h1
    have k48 : decide ((48 : Int) ≤ (m : Int)) = true := by simp; omega
    have k57 : decide ((m : Int) ≤ 57) = true := by simp; omega
    have k97 : decide ((97 : Int) ≤ (m : Int)) = false := by simp; omega
    have k65 : decide ((65 : Int) ≤ (m : Int)) = false := by simp; omega
    have kB : decide ((B : Int) ≤ ((m : Int) - 48) % 256) = false := by simp; omega
    rw [hD.out]
    clear hB h1 h2
    go_enter Tryz.func141, Tryz.ntmps141
    go_wp2_with fail
    go_ret
    exact ⟨rfl, rfl⟩
  by_cases h2 : 97 ≤ m ∧ m ≤ 102
  · obtain ⟨h3, h4⟩ := h2
    have k48 : decide ((48 : Int) ≤ (m : Int)) = true := by simp; omega
    have k57 : decide ((m : Int) ≤ 57) = false := by simp; omega
    have k97 : decide ((97 : Int) ≤ (m : Int)) = true := by simp; omega
    have k102 : decide ((m : Int) ≤ 102) = true := by simp; omega
    have k65 : decide ((65 : Int) ≤ (m : Int)) = true := by simp; omega
    have k70 : decide ((m : Int) ≤ 70) = false := by simp; omega
    by_cases hb : m - 87 < B
    · have hD := Lib.hid (show digI B m = ((m : Int) - 97) % 256 + 10 from by unfold digI; dsimp only; rw [if_neg h1, if_pos (show 97 ≤ m ∧ m ≤ 102 from ⟨h3, h4⟩), if_pos hb]; omega)
      have kB : decide ((B : Int) ≤ ((m : Int) - 97) % 256 + 10) = false := by simp; omega
      rw [hD.out]
      clear hB h1 h3 h4 hb
      go_enter Tryz.func141, Tryz.ntmps141
      go_wp2_with fail
      go_ret
      exact ⟨rfl, rfl⟩
    · have hD := Lib.hid (show digI B m = -1 from by unfold digI; dsimp only; rw [if_neg h1, if_pos (show 97 ≤ m ∧ m ≤ 102 from ⟨h3, h4⟩), if_neg hb])
      have kB : decide ((B : Int) ≤ ((m : Int) - 97) % 256 + 10) = true := by simp; omega
      rw [hD.out]
      clear hB h1 h3 h4 hb
      go_enter Tryz.func141, Tryz.ntmps141
      go_wp2_with fail
      go_ret
      exact ⟨rfl, rfl⟩
  by_cases h5 : 65 ≤ m ∧ m ≤ 70
  · obtain ⟨h3, h4⟩ := h5
    have k48 : decide ((48 : Int) ≤ (m : Int)) = true := by simp; omega
    have k57 : decide ((m : Int) ≤ 57) = false := by simp; omega
    have k97 : decide ((97 : Int) ≤ (m : Int)) = false := by simp; omega
    have k102 : decide ((m : Int) ≤ 102) = true := by simp; omega
    have k65 : decide ((65 : Int) ≤ (m : Int)) = true := by simp; omega
    have k70 : decide ((m : Int) ≤ 70) = true := by simp; omega
    by_cases hb : m - 55 < B
    · have hD := Lib.hid (show digI B m = ((m : Int) - 65) % 256 + 10 from by unfold digI; dsimp only; rw [if_neg h1, if_neg h2, if_pos (show 65 ≤ m ∧ m ≤ 70 from ⟨h3, h4⟩), if_pos hb]; omega)
      have kB : decide ((B : Int) ≤ ((m : Int) - 65) % 256 + 10) = false := by simp; omega
      rw [hD.out]
      clear hB h1 h2 h3 h4 hb
      go_enter Tryz.func141, Tryz.ntmps141
      go_wp2_with fail
      go_ret
      exact ⟨rfl, rfl⟩
    · have hD := Lib.hid (show digI B m = -1 from by unfold digI; dsimp only; rw [if_neg h1, if_neg h2, if_pos (show 65 ≤ m ∧ m ≤ 70 from ⟨h3, h4⟩), if_neg hb])
      have kB : decide ((B : Int) ≤ ((m : Int) - 65) % 256 + 10) = true := by simp; omega
      rw [hD.out]
      clear hB h1 h2 h3 h4 hb
      go_enter Tryz.func141, Tryz.ntmps141
      go_wp2_with fail
      go_ret
      exact ⟨rfl, rfl⟩
  have hD := Lib.hid (show digI B m = -1 from by unfold digI; dsimp only; rw [if_neg h1, if_neg h2, if_neg h5, if_neg (by omega)])
  have kB : decide ((B : Int) ≤ -1) = false := by simp; omega
  rw [hD.out]
  obtain ⟨q1, hq1⟩ : ∃ q, decide ((48 : Int) ≤ (m : Int)) = q := ⟨_, rfl⟩
  obtain ⟨q2, hq2⟩ : ∃ q, decide ((m : Int) ≤ 57) = q := ⟨_, rfl⟩
  obtain ⟨q3, hq3⟩ : ∃ q, decide ((97 : Int) ≤ (m : Int)) = q := ⟨_, rfl⟩
  obtain ⟨q4, hq4⟩ : ∃ q, decide ((m : Int) ≤ 102) = q := ⟨_, rfl⟩
  obtain ⟨q5, hq5⟩ : ∃ q, decide ((65 : Int) ≤ (m : Int)) = q := ⟨_, rfl⟩
  obtain ⟨q6, hq6⟩ : ∃ q, decide ((m : Int) ≤ 70) = q := ⟨_, rfl⟩
  have HQ := Lib.hid (show (q1 && q2) = false ∧ (q3 && q4) = false ∧ (q5 && q6) = false from by
    rw [← hq1, ← hq2, ← hq3, ← hq4, ← hq5, ← hq6]
    refine ⟨?_, ?_, ?_⟩ <;> (simp; omega))
  clear hB h1 h2 h5
  cases q1 <;> cases q2 <;> cases q3 <;> cases q4 <;> cases q5 <;> cases q6
  all_goals first
    | (exfalso; have := HQ.out; simp at this; done)
    | (go_enter Tryz.func141, Tryz.ntmps141
       go_wp2_with fail
       go_ret
       exact ⟨rfl, rfl⟩)
end Go.Proofs.YtpcajjbdlfookaaGreatDoor

/- xmllex: the reference: numbered. -/
namespace Go.Proofs.YtpcajjbdlfookaaGreatDoor
open Go.RowKit
set_option linter.unusedVariables false

/-- The number of digits, as the reference reads it. -/
def numR (B : Nat) : Nat → List UInt8 → Option Nat
  | n, [] => some n
  | n, c :: r => match dgt B c with
    | none => none
    | some k => if 1073741824 < n then none else numR B (n * B + k) r
def keepX (o : Option Nat) : Option Nat := o.bind fun n => if xmlB n then some n else none
theorem xml_top {n : Nat} (h : 4294967295 < n) : xmlB n = false := by
  have h1 : spaceB (n : Int) = false := by
    show ((n : Int) == 9 || (n : Int) == 10 || (n : Int) == 13 || (n : Int) == 32) = false
    simp
    omega
  unfold xmlB
  rw [h1]
  simp [btw]
  omega
theorem dgt_lt {B : Nat} {c : UInt8} {k : Nat} (h : dgt B c = some k) : k < B := by
  unfold dgt at h
  dsimp only at h
  generalize (if 48 ≤ c.toNat ∧ c.toNat ≤ 57 then c.toNat - 48 else if 97 ≤ c.toNat ∧ c.toNat ≤ 102 then c.toNat - 87 else if 65 ≤ c.toNat ∧ c.toNat ≤ 70 then c.toNat - 55 else 99) = n at h
  by_cases hlt : n < B
  · rw [if_pos hlt] at h
    cases h
    exact hlt
  · rw [if_neg hlt] at h
    cases h
theorem num_big {B : Nat} (hB : B = 10 ∨ B = 16) : ∀ (r : List UInt8) (n : Nat), 4294967295 < n → keepX (numR B n r) = none
  | [], n, h => by
    show (if xmlB n then some n else none) = none
    rw [xml_top h]
    rfl
  | c :: r, n, h => by
    rw [numR]
    cases dgt B c with
    | none => rfl
    | some k =>
      dsimp only
      rw [if_pos (by omega)]
      rfl
theorem num_eq {B : Nat} (hB : B = 10 ∨ B = 16) : ∀ (r : List UInt8) (n : Nat), keepX (numR B n r) = keepX (numB B 4294967295 n r)
  | [], n => rfl
  | c :: r, n => by
    rw [numR, numB]
    cases hd : dgt B c with
    | none => rfl
    | some k =>
      dsimp only
      by_cases h : 1073741824 < n
      · rw [if_pos h, if_pos (by rcases hB with rfl | rfl <;> omega)]
      · rw [if_neg h]
        by_cases h2 : 4294967295 < n * B + k
        · rw [if_pos h2, num_big hB _ _ h2]
          rfl
        · rw [if_neg h2]
          exact num_eq hB r _
theorem chNum_R {B : Nat} (hB : B = 10 ∨ B = 16) (r : List UInt8) : chNum B r = if r = [] then none else keepX (numR B 0 r) := by
  unfold chNum
  rw [num_eq hB]
  split
  · rfl
  · unfold keepX
    cases numB B 4294967295 0 r <;> rfl
def NumEnd (w : World) (R : Option Nat) (e : Ending) (w' : World) : Prop :=
  (match R with
  | some n => e = .returned (.tuple #[.int .i64 (n : Nat), .bool true])
  | none => ∃ v : Int, e = .returned (.tuple #[.int .i64 v, .bool false])) ∧ Below w.heap.size w w'
set_option maxRecDepth 100000 in
set_option maxHeartbeats 2000000 in
theorem rnumbered_c (w : World) (v : Value) (xs : List UInt8) (h : Rd w v xs) (hl : xs.length ≤ 16777216) (B : Nat) (hB : B = 10 ∨ B = 16) : Calls Tryz.prog 134 #[v, .int .i64 (B : Nat)] w (NumEnd w (chNum B xs)) := by
  obtain ⟨p, c, rfl⟩ := rd_form h
  obtain ⟨L, hL⟩ : ∃ L, L = xs.length := ⟨_, rfl⟩
  rw [← hL] at h hl ⊢
  have hC := chNum_R hB xs
  obtain ⟨R, hR⟩ : ∃ R, R = chNum B xs := ⟨_, rfl⟩
  rw [← hR] at hC ⊢
  have HC := Lib.hid hC
  have HL := Lib.hid hL
  have HBB := Lib.hid hB
  obtain ⟨p', c', hv, h1, h2, h3, h4⟩ := h
  have hpc : p = p' := by cases hv; rfl
  subst hpc
  have HX := Lib.hid h4
  have HD := Lib.hid (fun w (c : UInt8) => digit_c w c.toNat c.toNat_lt B hB)
  have hB16 : B ≤ 16 := by omega
  clear hC hR hL h4 hv h1 h2 h3
  rcases hB with rfl | rfl
  all_goals
    go_enter Tryz.func134, Tryz.ntmps134
    go_wp2_with fail
    go_loopw [6, 12] (fun s6 s12 wr => ∃ k acc : Nat, s6 = .int .i64 acc ∧ s12 = .int .i64 k ∧ k ≤ L ∧ acc ≤ 17179869200 ∧ wr = w ∧ Hid (numR _ 0 xs = numR _ acc (xs.drop k))) (fun _ s12 _ => L - (intOf s12).toNat)
    case atStart => exact ⟨0, 0, rfl, rfl, by omega, by omega, rfl, Lib.hid rfl⟩
    case round =>
      obtain ⟨k, acc, rfl, rfl, hk, hac, rfl, hi⟩ := hrel
      by_cases hkn : k < L
      · obtain ⟨b, o, hp, hx⟩ := HX.out (by have := HL.out; omega)
        subst hp
        have hx1 := hx k (by have := HL.out; omega)
        obtain ⟨x, hxe⟩ : ∃ x, x = xs[k]'(by have := HL.out; omega) := ⟨_, rfl⟩
        rw [← hxe] at hx1
        have hx256 := x.toNat_lt
        have hkI : (k : Int) < (L : Int) := by omega
        have hd : xs.drop k = x :: xs.drop (k + 1) := by rw [hxe]; exact List.drop_eq_getElem_cons _
        have hi' := hi.out
        rw [hd, numR] at hi'
        have hne : xs ≠ [] := by intro e; have := HL.out; rw [e] at this; simp at this; omega
        have HDX := HD.out wr x
        rcases digI_dgt _ x with ⟨g1, g2⟩ | ⟨d, g1, g2⟩
        · rw [g1] at HDX
          rw [g2] at hi'
          have HE := Lib.hid (show R = none from by rw [HC.out, if_neg hne, hi']; rfl)
          have HDX := Lib.hid HDX
          clear hi' hi hd hxe hx g1 g2 hne
          go_wp2_with fail
          refine HDX.out.mono ?_
          rintro e w2 ⟨rfl, rfl⟩
          go_wp2_with fail
          go_ret2
          rw [HE.out]
          exact ⟨⟨_, rfl⟩, Below.refl _ _⟩
        · rw [g1] at HDX
          rw [g2] at hi'
          have HDX := Lib.hid HDX
          have hdl := dgt_lt g2
          have td : decide ((d : Int) < 0) = false := by simp
          dsimp only at hi'
          by_cases hov : 1073741824 < acc
          · rw [if_pos hov] at hi'
            have HE := Lib.hid (show R = none from by rw [HC.out, if_neg hne, hi']; rfl)
            have ti : (1073741824 : Int) < (acc : Int) := by omega
            clear hi' hi hd hxe hx g1 g2 hne
            go_wp2_with fail
            refine HDX.out.mono ?_
            rintro e w2 ⟨rfl, rfl⟩
            go_wp2_with fail
            go_ret2
            rw [HE.out]
            exact ⟨⟨_, rfl⟩, Below.refl _ _⟩
          · rw [if_neg hov] at hi'
            have HE := Lib.hid hi'
            have ti : ¬ (1073741824 : Int) < (acc : Int) := by omega
            clear hi' hi hd hxe hx g1 g2 hne
            go_wp2_with fail
            refine HDX.out.mono ?_
            rintro e w2 ⟨rfl, rfl⟩
            go_wp2_with fail
            go_roundw
            case rel => exact ⟨k + 1, _, by go_num, by go_num, by omega, by omega, by first | rfl | trivial, HE⟩
            case measure => simp [intOf]; omega
      · have hi' := hi.out
        rw [List.drop_eq_nil_of_le (by have := HL.out; omega), numR] at hi'
        by_cases h0 : L = 0
        · have HE := Lib.hid (show R = none from by rw [HC.out, if_pos (List.eq_nil_of_length_eq_zero (by have := HL.out; omega))])
          clear hi hi'
          subst h0
          go_wp2_with fail
          go_ret2
          rw [HE.out]
          exact ⟨⟨_, rfl⟩, Below.refl _ _⟩
        · have hne : xs ≠ [] := by intro e; have := HL.out; rw [e] at this; simp at this; omega
          have HE := Lib.hid (show R = if xmlB acc then some acc else none from by rw [HC.out, if_neg hne, hi']; rfl)
          have hLp : 0 < L := by omega
          have HXM := ofXML_c wr (acc : Int)
          obtain ⟨q, hq⟩ : ∃ q, q = xmlB acc := ⟨_, rfl⟩
          rw [← hq] at HE HXM
          have HXM := Lib.hid HXM
          clear hi hi' hne hq
          go_wp2_with fail
          refine HXM.out.mono ?_
          rintro e w2 ⟨rfl, hb⟩
          have HB := Lib.hid hb
          clear hb
          go_wp2_with fail
          go_ret2
          rw [HE.out]
          cases q
          · exact ⟨⟨_, rfl⟩, HB.out⟩
          · exact ⟨rfl, HB.out⟩
end Go.Proofs.YtpcajjbdlfookaaGreatDoor
