/- xmllex: the reference: resolve, Unescape. -/
import Derived.Test.YtpcajjbdlfookaaGreatDoorMw38
import Derived.Test.YtpcajjbdlfookaaGreatDoorMw14
import Derived.Test.YtpcajjbdlfookaaGreatDoorMw40
import Derived.Test.YtpcajjbdlfookaaGreatDoorMw32
import Derived.Test.YtpcajjbdlfookaaGreatDoorMw31
namespace Go.Proofs.YtpcajjbdlfookaaGreatDoor
open Go.RowKit
set_option linter.unusedVariables false

theorem rs_end {f : Nat} {v : Bool} {a : Nat} {out : List UInt8} : rsF f v [] a out = .ok out := by cases f <;> simp [rsF]
theorem rs_text {f : Nat} {v : Bool} {r : List UInt8} {a : Nat} {out : List UInt8} (hr : r ≠ []) (h : r.head? ≠ some 38) : rsF (f + 1) v r a out = rsF f v (r.drop (upto r)) (a + upto r) (out ++ pl v (r.take (upto r))) := by
  rw [rsF, if_neg hr, if_neg h]
theorem rs_no {f : Nat} {v : Bool} {r : List UInt8} {a : Nat} {out : List UInt8} (h : r.head? = some 38) (hA : refA r = none) : rsF (f + 1) v r a out = .error a := by
  rw [rsF, if_neg (by intro e; rw [e] at h; simp at h), if_pos h, hA]
theorem rs_yes {f : Nat} {v : Bool} {r : List UInt8} {a c n : Nat} {out : List UInt8} (h : r.head? = some 38) (hA : refA r = some (c, n)) : rsF (f + 1) v r a out = rsF f v (r.drop n) (a + n) (out ++ E c) := by
  rw [rsF, if_neg (by intro e; rw [e] at h; simp at h), if_pos h, hA]
theorem upto_le (r : List UInt8) : upto r ≤ r.length := by
  unfold upto
  split
  · omega
  · have := idx1_lt r 38
    omega
theorem pl_len (v : Bool) (xs : List UInt8) : (pl v xs).length ≤ xs.length := by
  cases v
  · exact lns_len xs
  · exact fl_len xs
theorem refB_xml {s : List UInt8} {c : Nat} (h : refB s = some c) : c ≤ 1114111 := by
  have key : ∀ base r, chNum base r = some c → c ≤ 1114111 := by
    intro base r hc
    unfold chNum at hc
    split at hc
    · simp at hc
    · cases hn : numB base 4294967295 0 r with
      | none => rw [hn] at hc; simp at hc
      | some n =>
        rw [hn] at hc
        dsimp only at hc
        by_cases hx : xmlB n = true
        · rw [if_pos hx] at hc
          simp only [Option.some.injEq] at hc
          subst hc
          unfold xmlB at hx
          have h1 : ∀ m : Nat, spaceB (m : Int) = true → m ≤ 32 := by
            intro m hm
            have : ((m : Int) == 9 || (m : Int) == 10 || (m : Int) == 13 || (m : Int) == 32) = true := hm
            simp at this
            omega
          by_cases hs : spaceB (n : Int) = true
          · have := h1 n hs
            omega
          · simp [btw, hs] at hx
            omega
        · rw [if_neg hx] at hc
          simp at hc
  unfold refB at h
  repeat' split at h
  all_goals first | (simp only [Option.some.injEq] at h; omega) | exact key _ _ h | simp at h

/-- As far as the text is resolved. -/
def RsI (w : World) (vb : Bool) (xs : List UInt8) (R : Except Nat (List UInt8)) (a : Nat) (out : List UInt8) (v : Value) (wr : World) : Prop :=
  a ≤ xs.length ∧ out.length ≤ a ∧ (∃ f, xs.length - a < f ∧ rsF f vb (xs.drop a) a out = R) ∧ wr.ownsRow w.heap.size 5 1 v out.length (bcells out) ∧ Below w.heap.size w wr
set_option maxRecDepth 100000 in
set_option maxHeartbeats 4000000 in
theorem resolve_c (w : World) (v : Value) (xs : List UInt8) (h : Rd w v xs) (hl : xs.length ≤ 8388608) (vb : Bool) : Calls Tryz.prog 100 #[v, .bool vb] w (UnAft w (rsT vb xs)) := by
  obtain ⟨p, c, rfl⟩ := rd_form h
  obtain ⟨i0, hin, hz0, hz1, hz2⟩ := info_parts info8
  have HI0 := Lib.hid (show RsI w vb xs (rsT vb xs) 0 [] (.slice none 0 0) w from ⟨by omega, by simp, ⟨xs.length + 1, by omega, rfl⟩, World.ownsRow_nil _ _ _ _, Below.refl _ _⟩)
  obtain ⟨R, hR⟩ : ∃ R, R = rsT vb xs := ⟨_, rfl⟩
  rw [← hR] at HI0 ⊢
  obtain ⟨L, hL⟩ : ∃ L, L = xs.length := ⟨_, rfl⟩
  rw [← hL] at h hl ⊢
  have HL := Lib.hid hL
  have HR := Lib.hid h
  clear h hL hR
  go_enter Tryz.func100, Tryz.ntmps100
  go_wp2_with fail
  go_loopw [8, 7] (fun s8 s7 wr => ∃ (a : Nat) (out : List UInt8), s8 = .int .i64 a ∧ RsI w vb xs R a out s7 wr) (fun s8 _ _ => L - (intOf s8).toNat)
  case atStart => exact ⟨0, [], rfl, HI0.out⟩
  case round =>
    obtain ⟨a, out, rfl, hI⟩ := hrel
    obtain ⟨ha, ho, ⟨f, hf, hrs⟩, hown, hb⟩ := hI
    have haL : a ≤ L := by rw [HL.out]; exact ha
    have hol : out.length ≤ 8388608 := by omega
    have HSZ := Lib.hid hb.size
    have HB := Lib.hid hb
    have HOW := Lib.hid hown
    have hrr := HR.out.below hb
    by_cases hlt : a < L
    · have hax : a < xs.length := by rw [← HL.out]; exact hlt
      obtain ⟨p', c', hv, h1, h2, h3, h4⟩ := id hrr
      have hpc : p = p' := by cases hv; rfl
      subst hpc
      obtain ⟨b, o, hp, hx⟩ := h4 (by omega)
      subst hp
      have hx1 := hx a hax
      obtain ⟨x, hxe⟩ : ∃ x, x = xs[a]'hax := ⟨_, rfl⟩
      rw [← hxe] at hx1
      have hx256 := x.toNat_lt
      have haI : (a : Int) < (L : Int) := by omega
      have hd : xs.drop a = x :: xs.drop (a + 1) := by rw [hxe]; exact List.drop_eq_getElem_cons _
      obtain ⟨f, rfl⟩ : ∃ q, f = q + 1 := ⟨f - 1, by omega⟩
      obtain ⟨p1, m1, c1, hs1, hr1⟩ := slice_from hrr a haL
      have hrl : (xs.drop a).length = L - a := by rw [List.length_drop, ← HL.out]
      by_cases h38 : x = 38
      · have t38 : ((x.toNat : Int) != 38) = false := by rw [h38]; rfl
        have hhd : (xs.drop a).head? = some 38 := by rw [hd, h38]; rfl
        have HFD := find_c wr _ (xs.drop a) ⟨#[59]⟩ hr1 (by decide) (by omega)
        rw [show (⟨#[59]⟩ : ByteArray).data.toList = [59] from rfl] at HFD
        by_cases hi : Lib.index (xs.drop a) [59] < 0
        · have HE := Lib.hid (show .error a = R from by rw [← hrs, rs_no hhd (by unfold refA; rw [if_pos hi])])
          obtain ⟨j, hj⟩ : ∃ j, j = Lib.index (xs.drop a) [59] := ⟨_, rfl⟩
          rw [← hj] at HFD hi
          have HFD := Lib.hid HFD
          have tj : decide (j < 0) = true := by simpa using hi
          clear hv h1 h2 h3 h4 hx hxe hd hr1 hrl hhd hj hrs hrr hown hb ho hf
          go_wp2_with fail
          refine HFD.out.mono ?_
          rintro e w3 ⟨rfl, rfl⟩
          go_wp2_with fail
          go_ret3
          rw [← HE.out]
          exact ⟨rfl, HB.out⟩
        · obtain ⟨j, hj⟩ : ∃ j : Nat, Lib.index (xs.drop a) [59] = j := ⟨(Lib.index (xs.drop a) [59]).toNat, by omega⟩
          obtain ⟨e1, e2, e3⟩ := idx1_split (xs.drop a) 59 j hj
          have hj1 : 1 ≤ j := by
            rcases Nat.eq_zero_or_pos j with h0 | h0
            · exfalso
              subst h0
              rw [hd, h38, idx1_cons, if_neg (by decide)] at hj
              have := Lib.index_ge (xs.drop (a + 1)) [59]
              split at hj <;> omega
            · exact h0
          rw [hj] at HFD
          have HFD := Lib.hid HFD
          have tj : decide ((j : Int) < 0) = false := by simp
          have hajL : a + j < L := by omega
          obtain ⟨p2, m2, c2, hs2, hr2⟩ := slice_mid hrr (a + 1) (a + j) (by omega) (by omega)
          rw [show ((a + 1 : Nat) : Int) = (a : Int) + 1 by omega, show ((a + j : Nat) : Int) = (a : Int) + (j : Int) by omega] at hs2
          have hbod : (xs.drop (a + 1)).take (a + j - (a + 1)) = ((xs.drop a).drop 1).take (j - 1) := by
            rw [List.drop_drop, show a + j - (a + 1) = j - 1 by omega]
          rw [hbod] at hr2
          have HRF := rreference_c wr _ _ hr2 (by rw [List.length_take, List.length_drop]; omega)
          have hrA : refA (xs.drop a) = (refB (((xs.drop a).drop 1).take (j - 1))).map fun c => (c, j + 1) := by
            unfold refA
            rw [if_neg hi, hj]
            rfl
          obtain ⟨B, hB⟩ : ∃ B, B = refB (((xs.drop a).drop 1).take (j - 1)) := ⟨_, rfl⟩
          rw [← hB] at HRF hrA
          cases B with
          | none =>
            have HE := Lib.hid (show .error a = R from by rw [← hrs, rs_no hhd hrA])
            have HRF := Lib.hid HRF
            clear hv h1 h2 h3 h4 hx hxe hd hr1 hrl hhd hj hrs hrr hown hb ho hf hrA hB hbod hr2 e1 e2 e3 hi
            go_wp2_with fail
            refine HFD.out.mono ?_
            rintro e w3 ⟨rfl, rfl⟩
            go_wp2_with fail
            refine HRF.out.mono ?_
            rintro e w4 ⟨⟨u, rfl⟩, hb4⟩
            have HB4 := Lib.hid (HB.out.trans (hb4.mono HB.out.size))
            clear hb4
            go_wp2_with fail
            go_ret3
            rw [← HE.out]
            exact ⟨rfl, HB4.out⟩
          | some ch =>
            have hxml := refB_xml hB.symm
            have hEl := refA_E hrA
            have hE4 := E_len4 (ch : Int)
            have hen := refA_len hrA
            obtain ⟨EC, hEC⟩ : ∃ EC, EC = E (ch : Int) := ⟨_, rfl⟩
            have HNX := Lib.hid (fun (v2 : Value) (wx : World) (hown2 : wx.ownsRow w.heap.size 5 1 v2 (out ++ EC).length (bcells (out ++ EC))) (hbx : Below w.heap.size w wx) => show RsI w vb xs R (a + (j + 1)) (out ++ EC) v2 wx from
              ⟨by have := HL.out; omega, by rw [List.length_append, hEC]; omega, ⟨f, by have := HL.out; omega, by rw [← hrs, rs_yes hhd hrA, List.drop_drop, hEC]⟩, hown2, hbx⟩)
            have HEN := Lib.hid (fun (wx : World) => rencode_c wx (ch : Int) (by omega) (by omega))
            rw [← hEC] at HEN hE4
            have HRF := Lib.hid HRF
            clear hv h1 h2 h3 h4 hx hxe hd hr1 hhd hj hrs hrr hown hb ho hf hrA hB hbod hr2 e1 e2 hi hEl hEC
            go_wp2_with fail
            refine HFD.out.mono ?_
            rintro e w3 ⟨rfl, rfl⟩
            go_wp2_with fail
            refine HRF.out.mono ?_
            rintro e w4 ⟨he4, hb4⟩
            dsimp only at he4
            subst he4
            have HB4 := Lib.hid (HB.out.trans (hb4.mono HB.out.size))
            have HO4 := Lib.hid (own_below (B' := 0) HOW.out hb4)
            clear hb4
            go_wp2_with fail
            refine (HEN.out _).mono ?_
            rintro e w5 ⟨v5, rfl, hr5, hb5⟩
            have HB5 := Lib.hid (HB4.out.trans (hb5.mono HB4.out.size))
            have HO5 := Lib.hid (own_below (B' := 0) HO4.out hb5)
            have HS5 := Lib.hid (hr5.src Tryz.underlying22)
            clear hb5 hr5
            go_wp2_with (at_builtin; refine wpList_append_src rfl _ _ 22 22 rfl w.heap.size 5 i0 (.int .u8 0) 1 Tryz.underlying22 hin hz0 hz1 hz2 rfl _ out.length (bcells out) rfl HO5.out _ EC.length (bcells EC) rfl HS5.out ?c1 ?c2 ?c3 ?_)
            case c1 => unfold maxLen; omega
            case c2 => omega
            case c3 => exact HB5.out.size
            intro v6 w6 hown6 hgrow6
            have HN := Lib.hid (HNX.out v6 w6 (own_bytes hown6 (by simp [bcells])) (HB5.out.trans ((below_own hgrow6 HO5.out HB5.out.size))))
            clear hown6 hgrow6
            go_wp2_with fail
            go_roundw
            case rel => exact ⟨a + (j + 1), out ++ EC, by go_num, HN.out⟩
            case measure => simp [intOf]; omega
      · have t38 : ((x.toNat : Int) != 38) = true := by
          rw [bne_iff_ne]
          intro e
          exact h38 (UInt8.toNat_inj.1 (by simp; omega))
        have hhd : (xs.drop a).head? ≠ some 38 := by rw [hd]; simpa using h38
        have hne : xs.drop a ≠ [] := by rw [hd]; simp
        have HFD := find_c wr _ (xs.drop a) ⟨#[38]⟩ hr1 (by decide) (by omega)
        rw [show (⟨#[38]⟩ : ByteArray).data.toList = [38] from rfl] at HFD
        obtain ⟨n, hn⟩ : ∃ n, n = upto (xs.drop a) := ⟨_, rfl⟩
        have hnl := upto_le (xs.drop a)
        have hup := upto_split (xs.drop a) hne hhd
        rw [← hn] at hnl hup
        have hn1 : 1 ≤ n := hup.2.2.2.2.1
        have hanL : a + n ≤ L := by omega
        obtain ⟨p2, m2, c2, hs2, hr2⟩ := slice_mid hrr a (a + n) (by omega) (by omega)
        rw [show ((a + n : Nat) : Int) = (a : Int) + (n : Int) by omega] at hs2
        rw [show a + n - a = n by omega] at hr2
        have HPL := Lib.hid (rplain_c wr _ _ hr2 (by rw [List.length_take]; omega) vb)
        have hpl := pl_len vb ((xs.drop a).take n)
        rw [List.length_take] at hpl
        obtain ⟨PL, hPL⟩ : ∃ PL, PL = pl vb ((xs.drop a).take n) := ⟨_, rfl⟩
        rw [← hPL] at HPL hpl
        have HNX := Lib.hid (fun (v2 : Value) (wx : World) (hown2 : wx.ownsRow w.heap.size 5 1 v2 (out ++ PL).length (bcells (out ++ PL))) (hbx : Below w.heap.size w wx) => show RsI w vb xs R (a + n) (out ++ PL) v2 wx from
          ⟨by have := HL.out; omega, by rw [List.length_append]; omega, ⟨f, by have := HL.out; omega, by rw [← hrs, rs_text hne hhd, ← hn, List.drop_drop, hPL]⟩, hown2, hbx⟩)
        by_cases hi : Lib.index (xs.drop a) [38] < 0
        · have hnL : (n : Int) = (L : Int) - (a : Int) := by
            rw [hn]; unfold upto; rw [if_pos hi]; omega
          obtain ⟨j, hj⟩ : ∃ j, j = Lib.index (xs.drop a) [38] := ⟨_, rfl⟩
          rw [← hj] at HFD hi
          have HFD := Lib.hid HFD
          have tj : decide (j < 0) = true := by simpa using hi
          rw [hnL] at hs2
          have HNL := Lib.hid hnL
          clear hv h1 h2 h3 h4 hx hxe hd hr1 hrl hhd hne hj hrs hrr hown hb ho hf hn hup hr2 hPL hnL
          go_wp2_with fail
          refine HFD.out.mono ?_
          rintro e w3 ⟨rfl, rfl⟩
          go_wp2_with fail
          refine HPL.out.mono ?_
          rintro e w5 ⟨v5, rfl, hr5, hb5⟩
          have HB5 := Lib.hid (HB.out.trans (hb5.mono HB.out.size))
          have HO5 := Lib.hid (own_below (B' := 0) HOW.out hb5)
          have HS5 := Lib.hid (hr5.src Tryz.underlying22)
          clear hb5 hr5
          go_wp2_with (at_builtin; refine wpList_append_src rfl _ _ 22 22 rfl w.heap.size 5 i0 (.int .u8 0) 1 Tryz.underlying22 hin hz0 hz1 hz2 rfl _ out.length (bcells out) rfl HO5.out _ PL.length (bcells PL) rfl HS5.out ?c1 ?c2 ?c3 ?_)
          case c1 => unfold maxLen; omega
          case c2 => omega
          case c3 => exact HB5.out.size
          intro v6 w6 hown6 hgrow6
          have HN := Lib.hid (HNX.out v6 w6 (own_bytes hown6 (by simp [bcells])) (HB5.out.trans (below_own hgrow6 HO5.out HB5.out.size)))
          clear hown6 hgrow6
          go_wp2_with fail
          go_roundw
          case rel => exact ⟨a + n, out ++ PL, by first | go_num | (congr 1; have := HNL.out; omega), HN.out⟩
          case measure => simp [intOf]; omega
        · have hj : Lib.index (xs.drop a) [38] = n := by
            rw [hn]; unfold upto; rw [if_neg hi]; omega
          rw [hj] at HFD
          have HFD := Lib.hid HFD
          have tj : decide ((n : Int) < 0) = false := by simp
          clear hv h1 h2 h3 h4 hx hxe hd hr1 hrl hhd hne hj hrs hrr hown hb ho hf hn hup hr2 hPL hi
          go_wp2_with fail
          refine HFD.out.mono ?_
          rintro e w3 ⟨rfl, rfl⟩
          go_wp2_with fail
          refine HPL.out.mono ?_
          rintro e w5 ⟨v5, rfl, hr5, hb5⟩
          have HB5 := Lib.hid (HB.out.trans (hb5.mono HB.out.size))
          have HO5 := Lib.hid (own_below (B' := 0) HOW.out hb5)
          have HS5 := Lib.hid (hr5.src Tryz.underlying22)
          clear hb5 hr5
          go_wp2_with (at_builtin; refine wpList_append_src rfl _ _ 22 22 rfl w.heap.size 5 i0 (.int .u8 0) 1 Tryz.underlying22 hin hz0 hz1 hz2 rfl _ out.length (bcells out) rfl HO5.out _ PL.length (bcells PL) rfl HS5.out ?c1 ?c2 ?c3 ?_)
          case c1 => unfold maxLen; omega
          case c2 => omega
          case c3 => exact HB5.out.size
          intro v6 w6 hown6 hgrow6
          have HN := Lib.hid (HNX.out v6 w6 (own_bytes hown6 (by simp [bcells])) (HB5.out.trans (below_own hgrow6 HO5.out HB5.out.size)))
          clear hown6 hgrow6
          go_wp2_with fail
          go_roundw
          case rel => exact ⟨a + n, out ++ PL, by go_num, HN.out⟩
          case measure => simp [intOf]; omega
    · have haE : a = L := by omega
      have HE := Lib.hid (show .ok out = R from by rw [← hrs, List.drop_eq_nil_of_le (by rw [← HL.out]; omega), rs_end])
      obtain ⟨po, co, rfl⟩ := rd_form (Rd.of_own hown)
      have hcv := (Rd.of_own hown).conv (P := Tryz.prog) 22 5 9 Tryz.underlying22 Tryz.underlying5 Tryz.underlying9
      clear hrs hrr hown hb ho hf
      go_wp2_with fail
      go_ret3
      rw [← HE.out]
      exact ⟨rfl, HB.out⟩
end Go.Proofs.YtpcajjbdlfookaaGreatDoor

/- xmllex: the reference: Escape; texts: the law's walk. -/
namespace Go.Proofs.YtpcajjbdlfookaaGreatDoor
open Go.RowKit
set_option linter.unusedVariables false

theorem catX (a b : ByteArray) : (a ++ b).data.toList = a.data.toList ++ b.data.toList := by simp [ByteArray.data_append]
theorem cutX (s : ByteArray) (k : Nat) (h : k < s.size) : (s.extract k (k + 1)).data.toList = [s[k]] := by
  rw [ByteArray.data_extract, Array.toList_extract, List.extract_eq_take_drop, show k + 1 - k = 1 by omega]
  have h1 : k < s.data.toList.length := by rw [Array.length_toList]; exact h
  rw [List.drop_eq_getElem_cons h1]
  simp
  rfl
/-- What is written by now. -/
def EsI (l : List UInt8) (k : Nat) (O : ByteArray) : Prop := O.data.toList = escF (l.take k) ∧ O.size ≤ 6 * k
theorem EsI.push {l : List UInt8} {k : Nat} {O T : ByteArray} (h : EsI l k O) (hk : k < l.length) (hT : escB l[k] = T.data.toList) : EsI l (k + 1) (O ++ T) := by
  refine ⟨by rw [catX, h.1, escF_take hk, hT], ?_⟩
  have h1 := escB_len l[k]
  rw [hT, Array.length_toList] at h1
  rw [ByteArray.size_append]
  have h2 := h.2
  have : T.size = T.data.size := rfl
  omega
theorem ba_ext {a b : ByteArray} (h : a.data.toList = b.data.toList) : a = b := ByteArray.ext (Array.toList_inj.1 h)
set_option maxRecDepth 100000 in
set_option maxHeartbeats 4000000 in
theorem resc_c (w : World) (s : ByteArray) (hs : s.size ≤ 140737488351232) : Calls Tryz.prog 46 #[.string s] w fun e w' => e = .returned (.string ⟨(escF s.data.toList).toArray⟩) ∧ w = w' := by
  obtain ⟨l, hl⟩ : ∃ l, l = s.data.toList := ⟨_, rfl⟩
  have hln : l.length = s.size := by rw [hl, Array.length_toList]; rfl
  have HLN := Lib.hid hln
  have HI0 := Lib.hid (show EsI l 0 ⟨#[]⟩ from ⟨rfl, by simp [ByteArray.size]⟩)
  have T9 := Lib.hid (fun w => rtext_c 1 9 w (by decide) (by decide) (by decide))
  have T10 := Lib.hid (fun w => rtext_c 1 10 w (by decide) (by decide) (by decide))
  have T13 := Lib.hid (fun w => rtext_c 1 13 w (by decide) (by decide) (by decide))
  rw [show txt 9 = [57] from by decide +kernel] at T9
  rw [show txt 10 = [49, 48] from by decide +kernel] at T10
  rw [show txt 13 = [49, 51] from by decide +kernel] at T13
  rw [← hl]
  have HL := Lib.hid hl
  clear hl hln
  go_enter Tryz.func46, Tryz.ntmps46
  go_wp2_with fail
  go_loopw [7, 3] (fun s7 s3 wr => ∃ (k : Nat) (O : ByteArray), s7 = .int .i64 k ∧ s3 = .string O ∧ k ≤ s.size ∧ Hid (EsI l k O) ∧ wr = w) (fun s7 _ _ => s.size - (intOf s7).toNat)
  case atStart => exact ⟨0, ⟨#[]⟩, rfl, rfl, by omega, HI0, rfl⟩
  case round =>
    obtain ⟨k, O, rfl, rfl, hk, HI, rfl⟩ := hrel
    have hO : O.size ≤ 844424930107392 := by have := HI.out.2; omega
    by_cases hkn : k < s.size
    · obtain ⟨x, hx⟩ : ∃ x, s[k]'hkn = x := ⟨_, rfl⟩
      have hkl : k < l.length := by rw [HLN.out]; exact hkn
      have hxl : l[k]'hkl = x := by
        rw [← hx]
        have hl' := HL.out
        subst hl'
        simp
        rfl
      have HP := Lib.hid (fun (T : ByteArray) (hT : escB x = T.data.toList) => HI.out.push hkl (T := T) (by rw [hxl]; exact hT))
      have HCT := Lib.hid (show (s.extract k (k + 1)).data.toList = [x] from by rw [cutX s k hkn, hx])
      clear hxl hkl
      by_cases h38 : x.toNat = 38
      · have HE := Lib.hid (HP.out ⟨#[38, 97, 109, 112, 59]⟩ (by unfold escB; rw [if_pos h38]))
        have hxi : (x.toNat : Int) = 38 := by omega
        clear h38 HCT
        go_wp2_with fail
        go_roundw
        case rel => exact ⟨k + 1, _, by go_num, rfl, by omega, HE, by first | rfl | trivial⟩
        case measure => simp [intOf]; omega
      by_cases h60 : x.toNat = 60
      · have HE := Lib.hid (HP.out ⟨#[38, 108, 116, 59]⟩ (by unfold escB; rw [if_neg h38, if_pos h60]))
        have hxi : (x.toNat : Int) = 60 := by omega
        clear h38 h60 HCT
        go_wp2_with fail
        go_roundw
        case rel => exact ⟨k + 1, _, by go_num, rfl, by omega, HE, by first | rfl | trivial⟩
        case measure => simp [intOf]; omega
      by_cases h62 : x.toNat = 62
      · have HE := Lib.hid (HP.out ⟨#[38, 103, 116, 59]⟩ (by unfold escB; rw [if_neg h38, if_neg h60, if_pos h62]))
        have hxi : (x.toNat : Int) = 62 := by omega
        clear h38 h60 h62 HCT
        go_wp2_with fail
        go_roundw
        case rel => exact ⟨k + 1, _, by go_num, rfl, by omega, HE, by first | rfl | trivial⟩
        case measure => simp [intOf]; omega
      by_cases h34 : x.toNat = 34
      · have HE := Lib.hid (HP.out ⟨#[38, 113, 117, 111, 116, 59]⟩ (by unfold escB; rw [if_neg h38, if_neg h60, if_neg h62, if_pos h34]))
        have hxi : (x.toNat : Int) = 34 := by omega
        clear h38 h60 h62 h34 HCT
        go_wp2_with fail
        go_roundw
        case rel => exact ⟨k + 1, _, by go_num, rfl, by omega, HE, by first | rfl | trivial⟩
        case measure => simp [intOf]; omega
      by_cases h9 : x.toNat = 9
      · have HE := Lib.hid (HP.out ⟨#[38, 35, 57, 59]⟩ (by unfold escB; rw [if_neg h38, if_neg h60, if_neg h62, if_neg h34, if_pos h9]))
        have hxi : (x.toNat : Int) = 9 := by omega
        clear h38 h60 h62 h34 h9 HCT
        go_wp2_with fail
        refine (T9.out _).mono ?_
        rintro e w2 ⟨rfl, rfl⟩
        go_wp2_with fail
        go_roundw
        case rel => exact ⟨k + 1, _, by go_num, rfl, by omega, HE, by first | rfl | trivial⟩
        case measure => simp [intOf]; omega
      by_cases h10 : x.toNat = 10
      · have HE := Lib.hid (HP.out ⟨#[38, 35, 49, 48, 59]⟩ (by unfold escB; rw [if_neg h38, if_neg h60, if_neg h62, if_neg h34, if_neg h9, if_pos h10]))
        have hxi : (x.toNat : Int) = 10 := by omega
        clear h38 h60 h62 h34 h9 h10 HCT
        go_wp2_with fail
        refine (T10.out _).mono ?_
        rintro e w2 ⟨rfl, rfl⟩
        go_wp2_with fail
        go_roundw
        case rel => exact ⟨k + 1, _, by go_num, rfl, by omega, HE, by first | rfl | trivial⟩
        case measure => simp [intOf]; omega
      by_cases h13 : x.toNat = 13
      · have HE := Lib.hid (HP.out ⟨#[38, 35, 49, 51, 59]⟩ (by unfold escB; rw [if_neg h38, if_neg h60, if_neg h62, if_neg h34, if_neg h9, if_neg h10, if_pos h13]))
        have hxi : (x.toNat : Int) = 13 := by omega
        clear h38 h60 h62 h34 h9 h10 h13 HCT
        go_wp2_with fail
        refine (T13.out _).mono ?_
        rintro e w2 ⟨rfl, rfl⟩
        go_wp2_with fail
        go_roundw
        case rel => exact ⟨k + 1, _, by go_num, rfl, by omega, HE, by first | rfl | trivial⟩
        case measure => simp [intOf]; omega
      have HE := Lib.hid (HP.out (s.extract k (k + 1)) (by rw [HCT.out]; unfold escB; rw [if_neg h38, if_neg h60, if_neg h62, if_neg h34, if_neg h9, if_neg h10, if_neg h13]))
      have t38 : ((x.toNat : Int) == 38) = false := by simp; omega
      have t60 : ((x.toNat : Int) == 60) = false := by simp; omega
      have t62 : ((x.toNat : Int) == 62) = false := by simp; omega
      have t34 : ((x.toNat : Int) == 34) = false := by simp; omega
      have t9 : ((x.toNat : Int) == 9) = false := by simp; omega
      have t10 : ((x.toNat : Int) == 10) = false := by simp; omega
      have t13 : ((x.toNat : Int) == 13) = false := by simp; omega
      have hez : (s.extract k (k + 1)).size ≤ 1 := by rw [ByteArray.size_extract]; omega
      clear h38 h60 h62 h34 h9 h10 h13 HCT
      go_wp2_with fail
      go_roundw
      case rel => exact ⟨k + 1, _, by go_num, rfl, by omega, HE, by first | rfl | trivial⟩
      case measure => simp [intOf]; omega
    · have HE := Lib.hid (show O = ⟨(escF l).toArray⟩ from ba_ext (by
        have h1 := HI.out.1
        rw [List.take_of_length_le (by rw [HLN.out]; omega)] at h1
        rw [h1]))
      clear HI
      go_wp2_with fail
      go_ret
      exact ⟨by rw [HE.out]; rfl, rfl⟩
end Go.Proofs.YtpcajjbdlfookaaGreatDoor
