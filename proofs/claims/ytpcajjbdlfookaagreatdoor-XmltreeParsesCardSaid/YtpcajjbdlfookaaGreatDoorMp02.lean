/- xmllex: reference. -/
import Derived.Test.YtpcajjbdlfookaaGreatDoorMp01
import Derived.Lib.Strings
import Derived.Test.YtpcajjbdlfookaaGreatDoorRows
import Derived.Test.YtpcajjbdlfookaaGreatDoorBy
import Derived.Shelf.Strings.Builder1
import Derived.OpenShut
import Derived.Outline
import Derived.WalkLawsBesides
import Derived.WalkSpells
import Derived.Lib.Hide
import Derived.Shelf.Strings.OnBuilder
import Derived.Test.YtpcajjbdlfookaaGreatDoorShelf
namespace Go.Proofs.YtpcajjbdlfookaaGreatDoor
open Go.RowKit
set_option linter.unusedVariables false

theorem pre2 (l : List UInt8) (a b : UInt8) : Lib.hasPrefix l [a, b] = (Lib.hasPrefix l [a] && Lib.hasPrefix (l.drop 1) [b]) := by
  unfold Lib.hasPrefix
  cases l with
  | nil => rfl
  | cons x r =>
    cases r with
    | nil => simp [List.isPrefixOf]
    | cons y s => simp [List.isPrefixOf]
theorem chNum_pu (B : Nat) (r : List UInt8) : chNum B r = (puN B r).bind fun n => if xmlB n then some n else none := by
  unfold chNum puN
  split
  · rfl
  · cases numB B 4294967295 0 r <;> rfl
def isNm (s : List UInt8) : Prop := s = [108, 116] ∨ s = [103, 116] ∨ s = [97, 109, 112] ∨ s = [97, 112, 111, 115] ∨ s = [113, 117, 111, 116]
theorem refB_num (s : List UInt8) (h : ¬ isNm s) : refB s = (numV s).bind fun n => if xmlB n then some n else none := by
  unfold isNm at h
  simp only [not_or] at h
  unfold refB numV
  rw [if_neg h.1, if_neg h.2.1, if_neg h.2.2.1, if_neg h.2.2.2.1, if_neg h.2.2.2.2, pre2]
  cases h1 : Lib.hasPrefix s [35] with
  | false => rfl
  | true =>
    cases h2 : Lib.hasPrefix (s.drop 1) [120] with
    | false => simp [chNum_pu]
    | true => simp [chNum_pu]
theorem E_none {n : Nat} (h : E n = []) : xmlB n = false := by
  have : (n : Int) < 0 ∨ 1114111 < (n : Int) ∨ (55296 ≤ (n : Int) ∧ (n : Int) ≤ 57343) := by
    unfold E at h
    split at h
    · assumption
    · split at h
      · simp at h
      · split at h
        · simp at h
        · split at h <;> simp at h
  unfold xmlB spaceB btw
  rcases this with h | h | h
  · omega
  · simp; omega
  · simp; omega
theorem wrong_E (n : Nat) (h : E n ≠ []) : wrong ((E n).length + 1) (E n) 0 = if xmlB n then -1 else 0 := by
  have hD := (D_E n h []).1
  rw [List.append_nil, Int.toNat_natCast] at hD
  have hl := List.length_pos_iff.2 h
  obtain ⟨k, hk⟩ : ∃ k, (E n).length = k + 1 := ⟨(E n).length - 1, by omega⟩
  rw [wrong, if_pos hl, List.drop_zero, hD]
  cases hx : xmlB n with
  | false => rw [if_pos (.inr rfl)]; rfl
  | true =>
    rw [if_neg (by simp; omega), Nat.zero_add, hk, wrong, if_neg (by omega)]
    rfl
/-- How the reference at a beginning is told. -/
def RefAft (w : World) (R : Option (Nat × Nat)) (e : Ending) (w' : World) : Prop := (match R with
  | none => e = .returned (.tuple #[.string ⟨#[]⟩, .int .i64 0])
  | some (c, n) => e = .returned (.tuple #[.string ⟨(E c).toArray⟩, .int .i64 (n : Nat)])) ∧ Below w.heap.size w w'
theorem refA_miss {t : List UInt8} (h : Lib.index t [59] < 0) : refA (38 :: t) = none := by
  unfold refA
  rw [idx1_ne (show (38 : UInt8) ≠ 59 by decide), if_pos h, if_pos (by omega)]
theorem refA_hit {t : List UInt8} {i : Nat} (h : Lib.index t [59] = i) : refA (38 :: t) = (refB (t.take i)).map fun c => (c, i + 2) := by
  unfold refA
  rw [idx1_ne (show (38 : UInt8) ≠ 59 by decide), if_neg (by omega), h, if_neg (by omega)]
  have : ((i : Int) + 1).toNat = i + 1 := by omega
  rw [this]
  rfl

set_option maxRecDepth 100000 in
set_option maxHeartbeats 1000000 in
theorem reference_c (w : World) (hw : BW w) (v : Value) (t : List UInt8) (h : Rd w v (38 :: t)) (hl : t.length ≤ 8388608) :
    Calls Tryz.prog 149 #[v] w (RefAft w (refA (38 :: t))) := by
  have kc := fun (w : World) (C : Array Value) (n c : Nat) => Lib.run_convert_bytes_const (P := Tryz.prog) w 22 5 C n c Tryz.underlying22 Tryz.underlying5
  obtain ⟨p, c, rfl⟩ := rd_form h
  obtain ⟨p', m, c', hs, hr⟩ := slice_from h 1 (by simp)
  have hm := hr.len
  rw [List.drop_succ_cons, List.drop_zero] at hr hm
  rw [show ((1 : Nat) : Int) = 1 from rfl] at hs
  have b1 := bel_alloc w (.cells #[.int .u8 59] 5 (1, 2))
  have r1 := rd_new w [59] #[.int .u8 59] 5 1 2 1 rfl rfl (by omega)
  have HB1 := Lib.hid b1
  have HW1 := Lib.hid (hw.below b1)
  have HR1 := Lib.hid (hr.below b1)
  obtain ⟨L, hL⟩ : ∃ L : Nat, L = (38 :: t).length := ⟨_, rfl⟩
  rw [← hL] at hs ⊢
  by_cases hi : Lib.index t [59] < 0
  · have HC := Lib.hid (cut_miss _ p' m c' _ t [59] (hr.below b1) r1 (hw.below b1).mx (by omega) (by simp) hi)
    rw [refA_miss hi]
    clear h hr hm b1 r1 hi hw hl hL
    go_enter Tryz.func149, Tryz.ntmps149
    go_wp2_with fail
    refine HC.out.mono ?_
    rintro e w1 ⟨rfl, q, hq⟩
    have HB := Lib.hid (show Below w.heap.size w w1 from hq ▸ Go.below_drewN HB1.out q)
    clear hq
    go_wp2_with fail
    go_ret2
    exact ⟨rfl, HB.out⟩
  · obtain ⟨i, hi'⟩ : ∃ i : Nat, Lib.index t [59] = i := ⟨(Lib.index t [59]).toNat, by omega⟩
    have HC := Lib.hid (cut_hit _ p' m c' i _ t [59] (hr.below b1) r1 (hw.below b1).mx (by omega) (by simp) hi')
    have hlt := (idx1_split t 59 i hi').2.2
    rw [refA_hit hi']
    have hrt := (hr.below b1).to i (by omega)
    have HRT := Lib.hid hrt
    obtain ⟨bd, hbd⟩ : ∃ bd, bd = t.take i := ⟨_, rfl⟩
    rw [← hbd] at HRT ⊢
    have hbl : bd.length = i := by rw [hbd, List.length_take]; omega
    have hi2 : i ≤ 8388608 := by omega
    have HBL := Lib.hid hbl
    clear h hr hm b1 r1 hi hw hl hL hi' hlt hrt hbd hbl
    go_enter Tryz.func149, Tryz.ntmps149
    go_wp2_with fail
    refine HC.out.mono ?_
    rintro e w1 ⟨⟨x, rfl⟩, q, hq⟩
    have HB := Lib.hid (show Below w.heap.size w w1 from hq ▸ Go.below_drewN HB1.out q)
    have hb0 : Below (w.alloc (.cells #[.int .u8 59] 5 (1, 2))).heap.size (w.alloc (.cells #[.int .u8 59] 5 (1, 2))) w1 := hq ▸ Go.below_drewN (Below.refl _ _) q
    have HW := Lib.hid (HW1.out.below hb0)
    have HBD := Lib.hid (HRT.out.below hb0)
    have hcv := HBD.out.conv (P := Tryz.prog) 22 5 9 Tryz.underlying22 Tryz.underlying5 Tryz.underlying9
    clear hq hb0 HRT HR1 HC HW1 HB1
    by_cases hn : isNm bd
    · rcases hn with rfl | rfl | rfl | rfl | rfl
      all_goals
        go_wp2_with fail
        go_ret2
        exact ⟨rfl, HB.out⟩
    · have HN := Lib.hid (refB_num bd hn)
      have hne : ∀ l, l ∈ [[108, 116], [103, 116], [97, 109, 112], [97, 112, 111, 115], [113, 117, 111, 116]] → bd ≠ l := fun l hl e => hn (by subst e; unfold isNm; simpa using hl)
      have HNUM := numbered_c w1 HW.out bd (by have := HBL.out; omega)
      obtain ⟨s, hs'⟩ : ∃ s, s = (⟨bd.toArray⟩ : ByteArray) := ⟨_, rfl⟩
      have hsl : ∀ l : List UInt8, bd ≠ l → (s.toList == l) = false := fun l hl => beq_eq_false_iff_ne.2 (by rw [ByteArray.toList_eq, hs']; exact hl)
      have t1 := hsl [108, 116] (hne _ (by simp))
      have t2 := hsl [103, 116] (hne _ (by simp))
      have t3 := hsl [97, 109, 112] (hne _ (by simp))
      have t4 := hsl [97, 112, 111, 115] (hne _ (by simp))
      have t5 := hsl [113, 117, 111, 116] (hne _ (by simp))
      rw [← hs'] at hcv HNUM
      have HNM := Lib.hid HNUM
      clear hn hne hsl hs' HNUM HBD
      go_wp2_with fail
      refine HNM.out.mono ?_
      rintro e w2 ⟨v2, rfl, hr2, hb2⟩
      have HB2 := Lib.hid (HB.out.trans (hb2.mono HB.out.size))
      have HW2 := Lib.hid (HW.out.below hb2)
      obtain ⟨p2, c2, rfl⟩ := rd_form hr2
      have hnl : (numE bd).length ≤ 4 := by
        unfold numE
        split
        · simp
        · unfold E
          split
          · simp
          · split
            · simp
            · split
              · simp
              · split <;> simp
      obtain ⟨n2, hn2⟩ : ∃ n2, n2 = (numE bd).length := ⟨_, rfl⟩
      rw [← hn2] at hr2 hnl ⊢
      by_cases h0 : n2 = 0
      · have HZ := Lib.hid (show refB bd = none from by
          rw [HN.out]
          have he : numE bd = [] := List.eq_nil_of_length_eq_zero (by omega)
          unfold numE at he
          cases hv : numV bd with
          | none => rfl
          | some k =>
            rw [hv] at he
            have := E_none he
            simp [this])
        have t0 : ((n2 : Int) == 0) = true := by simp; omega
        clear h0 hn2 hr2 hb2 hcv
        go_wp2_with fail
        go_ret2
        exact ⟨by rw [HZ.out]; rfl, HB2.out⟩
      · have t0 : ((n2 : Int) == 0) = false := beq_eq_false_iff_ne.2 (by omega)
        have hex : ∃ k, numV bd = some k ∧ numE bd = E k ∧ E k ≠ [] := by
          cases hv : numV bd with
          | none => exact absurd (by rw [hn2]; unfold numE; rw [hv]; rfl) h0
          | some k =>
            refine ⟨k, rfl, by unfold numE; rw [hv], fun e => h0 ?_⟩
            rw [hn2]
            unfold numE
            rw [hv]
            show (E k).length = 0
            rw [e]
            rfl
        obtain ⟨k, hv, he, hek⟩ := hex
        rw [hv] at HN
        rw [he] at hr2 hn2
        have HWR := Lib.hid (wrong_c w2 HW2.out.tab _ _ hr2 (by omega))
        rw [wrong_E k hek] at HWR
        have HR2 := Lib.hid hr2
        cases hx : xmlB k with
        | false =>
          rw [hx] at HWR
          have HN2 := Lib.hid (show refB bd = none from by rw [HN.out]; show (if xmlB k then some k else none) = none; rw [hx]; rfl)
          have HWR2 : Hid (Calls Tryz.prog 16 #[.slice p2 n2 c2] w2 fun e w' => e = .returned (.int .i64 0) ∧ Below w2.heap.size w2 w') := HWR
          clear h0 hn2 hr2 hb2 hcv hv he hek hx HWR
          go_wp2_with fail
          refine HWR2.out.mono ?_
          rintro e w3 ⟨rfl, hb3⟩
          have HB3 := Lib.hid (HB2.out.trans (hb3.mono HB2.out.size))
          clear hb3
          go_wp2_with fail
          go_ret2
          exact ⟨by rw [HN2.out]; rfl, HB3.out⟩
        | true =>
          rw [hx] at HWR
          have HN2 := Lib.hid (show refB bd = some k from by rw [HN.out]; show (if xmlB k then some k else none) = some k; rw [hx]; rfl)
          have HWR2 : Hid (Calls Tryz.prog 16 #[.slice p2 n2 c2] w2 fun e w' => e = .returned (.int .i64 (-1)) ∧ Below w2.heap.size w2 w') := HWR
          clear h0 hn2 hr2 hb2 hcv hv he hek hx HWR
          go_wp2_with fail
          refine HWR2.out.mono ?_
          rintro e w3 ⟨rfl, hb3⟩
          have HB3 := Lib.hid (HB2.out.trans (hb3.mono HB2.out.size))
          have hcv3 := (HR2.out.below hb3).conv (P := Tryz.prog) 22 5 9 Tryz.underlying22 Tryz.underlying5 Tryz.underlying9
          clear hb3
          go_wp2_with fail
          go_ret2
          exact ⟨by rw [HN2.out]; rfl, HB3.out⟩
end Go.Proofs.YtpcajjbdlfookaaGreatDoor

/- strings.Builder's WriteByte, WriteString, Write at this translation (its copyCheck is cut short of the panic's text). -/
namespace Go.Proofs.YtpcajjbdlfookaaGreatDoor
open Go.RowKit
set_option linter.unusedVariables false

theorem infoBld : (Tryz.prog.info? 131).map (·.size) = some 2 := by kernel_rfl
theorem infoByteK : (Tryz.prog.info? 5).map (fun i => (i.zero, i.size, i.bytes)) = some (some (.int .u8 0), 1, 1) := by kernel_rfl
theorem liesBld : liesAt Tryz.prog Tryz.prog.depth 131 (2 / Tryz.prog.cellsOf 131) 0 131 1 = true := by kernel_rfl

set_option maxRecDepth 100000 in
theorem ccheck_used (b : Nat) (w : World) (h0 : w.cell? ⟨b, 0, none⟩ = some (.pointer (some ⟨b, 0, none⟩))) :
    Calls Tryz.prog 117 #[.pointer (some ⟨b, 0, none⟩)] w fun e w' => e = .returned (.tuple #[]) ∧ w' = w := by
  obtain ⟨j, hj, _⟩ := Option.map_eq_some_iff.1 infoBld
  go_enter Tryz.func117, Tryz.ntmps117
  go_wp2
  rw [Lib.run_neq_ptr_same w _ Tryz.underlying129 hj]
  go_wp2
  go_end0
  exact ⟨rfl, rfl⟩
set_option maxRecDepth 100000 in
theorem ccheck_fresh (b : Nat) (w : World) (h0 : w.cell? ⟨b, 0, none⟩ = some (.pointer none)) (hsh : w.shape? b = some (131, 2)) (hfz : w.frozen? ⟨b, 0, none⟩ = false) :
    Calls Tryz.prog 117 #[.pointer (some ⟨b, 0, none⟩)] w fun e w' => e = .returned (.tuple #[]) ∧ w' = w.setCell ⟨b, 0, none⟩ (.pointer (some ⟨b, 0, none⟩)) := by
  obtain ⟨j, hj, hjs⟩ := Option.map_eq_some_iff.1 infoBld
  go_enter Tryz.func117, Tryz.ntmps117
  go_wp2
  rw [Lib.run_to_unsafe w ⟨b, 0, none⟩ Tryz.underlying129 Tryz.underlying173 hj (by rw [hjs]; decide) hsh (Nat.zero_lt_succ 1)]
  simp only [Result.andThen]
  rw [Oper.upon_value]
  go_wp2
  rw [run_callFunc_extern Tryz.func133 (by kernel_rfl) (by kernel_rfl) (by kernel_rfl) (e := Extern.AbiNoEscape.same) (by kernel_rfl)]
  rw [Lib.run_noEscape]
  simp only [Result.andThen]
  rw [Oper.upon_value]
  go_wp2
  rw [Lib.run_from_unsafe w ⟨b, 0, none⟩ Tryz.underlying173 Tryz.underlying129 hj hsh liesBld]
  simp only [Result.andThen]
  rw [Oper.upon_value]
  go_wp2
  go_end0
  exact ⟨rfl, rfl⟩
theorem ccheck (B b : Nat) (bs : List Value) (w : World) (h : Lib.IsBuilder 131 5 B b bs w) :
    Calls Tryz.prog 117 #[.pointer (some ⟨b, 0, none⟩)] w fun e w' => e = .returned (.tuple #[]) ∧ Lib.BuilderAt 131 5 B b (.pointer (some ⟨b, 0, none⟩)) bs w' ∧ Below B w w' ∧ ∀ g, g ≠ b → w'.heap[g]? = w.heap[g]? := by
  rcases h with h | h
  · refine (ccheck_fresh b w h.cell0 h.shape h.frozen0).mono ?_
    rintro e w' ⟨rfl, rfl⟩
    exact ⟨rfl, h.used _, (Below.refl B w).setCell (p := ⟨b, 0, none⟩) h.1 _, fun g hg => Below.heap_setCell _ _ _ _ hg⟩
  · refine (ccheck_used b w h.cell0).mono ?_
    rintro e w' ⟨rfl, rfl⟩
    exact ⟨rfl, h, Below.refl B _, fun g _ => rfl⟩

set_option maxRecDepth 100000 in
set_option maxHeartbeats 1000000 in
theorem writeByte_c (B b : Nat) (bs : List Value) (c : Int) (w : World) (h : Lib.IsBuilder 131 5 B b bs w) (hlen : bs.length + 1 ≤ 140737488355328) (hBw : B ≤ w.heap.size) :
    Calls Tryz.prog 101 #[.pointer (some ⟨b, 0, none⟩), .int .u8 c] w fun e w' => e = .returned .nilIface ∧ Lib.BuilderAt 131 5 B b (.pointer (some ⟨b, 0, none⟩)) (bs ++ [.int .u8 c]) w' ∧ Below B w w' := by
  obtain ⟨i0, hi, hz0, hz1, hz2⟩ := info_parts infoByteK
  have HC := Lib.hid (ccheck B b bs w h)
  go_enter Tryz.func101, Tryz.ntmps101
  go_wp2_with fail
  refine HC.out.mono ?_
  rintro e w1 ⟨rfl, hba, hb1, hoth⟩
  have HBA := Lib.hid hba
  have HB1 := Lib.hid hb1
  obtain ⟨hB, v, hbk, hown, hne⟩ := hba
  have HK := Lib.hid hbk
  have HO := Lib.hid hown
  have HNE := Lib.hid hne
  have hlt := HBA.out.lt
  have c1 : w1.cell? ⟨b, 1, none⟩ = some v := by simp [World.cell?, hbk]
  clear hbk hown hne hb1 hoth
  go_wp2_with (at_builtin; refine wpList_append_src rfl _ _ 22 22 rfl B 5 i0 (.int .u8 0) 1 Tryz.underlying22 hi hz0 hz1 hz2 rfl _ bs.length bs rfl (HO.out.alloc _) _ 1 _ rfl (src_one Tryz.underlying22 _ _ _ rfl) ?c1 ?c2 ?c3 ?_)
  case c1 => unfold maxLen; omega
  case c2 => omega
  case c3 => have := HB1.out.size; simp; omega
  intro v' w2 hown2 hgrow2
  have hb2 : w2.heap[b]? = some (.cells #[.pointer (some ⟨b, 0, none⟩), v] 131 (0, 0)) := by
    rw [hgrow2.block b (by simp; omega) (fun e => HNE.out e.symm)]
    exact ((Below.refl _ _).alloc (Nat.le_refl _) _).block b hlt |>.trans HK.out
  have d1 : w2.cell? ⟨b, 1, none⟩ = some v := by simp [World.cell?, hb2]
  have f1 : w2.frozen? ⟨b, 1, none⟩ = false := by simp [World.frozen?, hb2]
  have HOW := Lib.hid hown2
  have HG := Lib.hid hgrow2
  have HB2 := Lib.hid hb2
  obtain ⟨g, cap, rfl⟩ : ∃ g cap, v' = .slice (some ⟨g, 0, none⟩) (bs.length + 1) cap := by
    rcases hown2.2 with ⟨_, h0⟩ | ⟨g, cap, cur, hv, _⟩
    · omega
    · exact ⟨g, cap, hv⟩
  clear hown2 hgrow2 hb2
  go_wp2_with fail
  go_ret
  refine ⟨rfl, ?_, ?_⟩
  · exact Lib.BuilderAt.put (T := 131) (e := 5) hB HB2.out (bs' := bs ++ [.int .u8 c]) (by simpa using HOW.out) (by decide)
  · exact ((HB1.out.alloc (by have := HB1.out.size; omega) _).grown HG.out (by have := HB1.out.size; simp; omega) (fun k hk => (HO.out.lt k hk).1)).setCell (p := ⟨b, 1, none⟩) hB _
set_option maxRecDepth 100000 in
set_option maxHeartbeats 1000000 in
theorem writeString_c (B b : Nat) (bs : List Value) (s : ByteArray) (w : World) (h : Lib.IsBuilder 131 5 B b bs w) (hlen : bs.length + s.size ≤ 140737488355328) (hBw : B ≤ w.heap.size) :
    Calls Tryz.prog 93 #[.pointer (some ⟨b, 0, none⟩), .string s] w fun e w' => e = .returned (.tuple #[.int .i64 s.size, .nilIface]) ∧ Lib.BuilderAt 131 5 B b (.pointer (some ⟨b, 0, none⟩)) (bs ++ Lib.strCells s) w' ∧ Below B w w' := by
  obtain ⟨i0, hi, hz0, hz1, hz2⟩ := info_parts infoByteK
  have HC := Lib.hid (ccheck B b bs w h)
  go_enter Tryz.func93, Tryz.ntmps93
  go_wp2_with fail
  refine HC.out.mono ?_
  rintro e w1 ⟨rfl, hba, hb1, hoth⟩
  have HBA := Lib.hid hba
  have HB1 := Lib.hid hb1
  obtain ⟨hB, v, hbk, hown, hne⟩ := hba
  have HK := Lib.hid hbk
  have HO := Lib.hid hown
  have HNE := Lib.hid hne
  have hlt := HBA.out.lt
  have c1 : w1.cell? ⟨b, 1, none⟩ = some v := by simp [World.cell?, hbk]
  clear hbk hown hne hb1 hoth
  go_wp2_with (at_builtin; refine Lib.wpList_append_own_string _ rfl _ _ 22 9 rfl B 5 i0 Tryz.underlying22 Tryz.underlying9 hi hz0 hz1 hz2 _ _ _ rfl HO.out s rfl ?c3 ?c4 ?c5 ?_)
  case c3 => unfold maxLen; omega
  case c4 => omega
  case c5 => have := HB1.out.size; omega
  intro v' w2 hown2 hgrow2 _
  have hb2 : w2.heap[b]? = some (.cells #[.pointer (some ⟨b, 0, none⟩), v] 131 (0, 0)) := by
    rw [hgrow2.block b hlt (fun e => HNE.out e.symm)]
    exact HK.out
  have d1 : w2.cell? ⟨b, 1, none⟩ = some v := by simp [World.cell?, hb2]
  have f1 : w2.frozen? ⟨b, 1, none⟩ = false := by simp [World.frozen?, hb2]
  have HOW := Lib.hid hown2
  have HG := Lib.hid hgrow2
  have HB2 := Lib.hid hb2
  obtain ⟨ao, n', cap, rfl⟩ : ∃ ao n' cap, v' = .slice ao n' cap := by
    rcases hown2.2 with ⟨hv, _⟩ | ⟨g, cap, cur, hv, _⟩
    · exact ⟨_, _, _, hv⟩
    · exact ⟨_, _, _, hv⟩
  clear hown2 hgrow2 hb2
  go_wp2_with fail
  go_ret2
  refine ⟨rfl, ?_, ?_⟩
  · exact Lib.BuilderAt.put (T := 131) (e := 5) hB HB2.out (bs' := bs ++ Lib.strCells s) (by simpa [Lib.strCells_length] using HOW.out) (by decide)
  · exact (HB1.out.grown HG.out (by have := HB1.out.size; omega) (fun k hk => (HO.out.lt k hk).1)).setCell (p := ⟨b, 1, none⟩) hB _
/-- Bytes lie in no builder. -/
theorem rd_build {B b : Nat} {bs : List Value} {w w' : World} {src : Value} {xs : List UInt8} (h : Lib.IsBuilder 131 5 B b bs w) (hR : Rd w src xs) (ho : ∀ g, g ≠ b → w'.heap[g]? = w.heap[g]?) : Rd w' src xs := by
  have hno : ∀ o n, w.cell? ⟨b, o, none⟩ ≠ some (.int .u8 n) := by
    intro o n hc
    have key : ∀ pv, Lib.BuilderAt 131 5 B b pv bs w → (∃ a, pv = .pointer a) → False := by
      intro pv hb hp
      obtain ⟨_, v, hbk, hown, _⟩ := hb
      obtain ⟨a, rfl⟩ := hp
      have hv : ∃ a n c, v = .slice a n c := by
        rcases hown.2 with ⟨hv, _⟩ | ⟨g, cap, cur, hv, _⟩ <;> exact ⟨_, _, _, hv⟩
      obtain ⟨a', n', c', rfl⟩ := hv
      simp only [World.cell?, hbk] at hc
      match o, hc with
      | 0, hc => simp at hc
      | 1, hc => simp at hc
      | k + 2, hc => simp at hc
    rcases h with h | h
    · exact key _ h ⟨_, rfl⟩
    · exact key _ h ⟨_, rfl⟩
  obtain ⟨p, c, rfl, h1, h2, h3, h4⟩ := hR
  refine ⟨p, c, rfl, h1, h2, h3, fun hp => ?_⟩
  obtain ⟨g, o, hg, hc⟩ := h4 hp
  refine ⟨g, o, hg, fun i hi => ?_⟩
  have hne : g ≠ b := fun e => hno (o + i) _ (e ▸ hc i hi)
  rw [World.cell?_of_block (w := w) (ho g hne)]
  exact hc i hi
theorem rd_formW {w : World} {v : Value} {xs : List UInt8} (h : Rd w v xs) : ∃ p c, v = .slice p xs.length c := by
  obtain ⟨p, c, hv, _⟩ := h
  exact ⟨p, c, hv⟩
set_option maxRecDepth 100000 in
set_option maxHeartbeats 1000000 in
theorem write_c (B b : Nat) (bs : List Value) (src : Value) (xs : List UInt8) (w : World) (h : Lib.IsBuilder 131 5 B b bs w) (hR : Rd w src xs) (hlen : bs.length + xs.length ≤ 140737488355328) (hBw : B ≤ w.heap.size) :
    Calls Tryz.prog 148 #[.pointer (some ⟨b, 0, none⟩), src] w fun e w' => e = .returned (.tuple #[.int .i64 xs.length, .nilIface]) ∧ Lib.BuilderAt 131 5 B b (.pointer (some ⟨b, 0, none⟩)) (bs ++ bcells xs) w' ∧ Below B w w' := by
  obtain ⟨i0, hi, hz0, hz1, hz2⟩ := info_parts infoByteK
  have HC := Lib.hid (ccheck B b bs w h)
  obtain ⟨sp, sc, rfl⟩ := rd_formW hR
  have HRZ := Lib.hid (fun w' k => rd_build h hR (w' := w') k)
  clear hR
  go_enter Tryz.func148, Tryz.ntmps148
  go_wp2_with fail
  refine HC.out.mono ?_
  rintro e w1 ⟨rfl, hba, hb1, hoth⟩
  have HBA := Lib.hid hba
  have HB1 := Lib.hid hb1
  obtain ⟨hB, v, hbk, hown, hne⟩ := hba
  have HK := Lib.hid hbk
  have HO := Lib.hid hown
  have HNE := Lib.hid hne
  have hlt := HBA.out.lt
  have c1 : w1.cell? ⟨b, 1, none⟩ = some v := by simp [World.cell?, hbk]
  have HS := Lib.hid (HRZ.out w1 hoth)
  clear hbk hown hne hb1 hoth
  go_wp2_with (at_builtin; refine wpList_append_src rfl _ _ 22 22 rfl B 5 i0 (.int .u8 0) 1 Tryz.underlying22 hi hz0 hz1 hz2 rfl _ bs.length bs rfl HO.out _ xs.length (bcells xs) rfl (HS.out.src Tryz.underlying22) ?c3 ?c4 ?c5 ?_)
  case c3 => unfold maxLen; omega
  case c4 => omega
  case c5 => have := HB1.out.size; omega
  intro v' w2 hown2 hgrow2
  have hb2 : w2.heap[b]? = some (.cells #[.pointer (some ⟨b, 0, none⟩), v] 131 (0, 0)) := by
    rw [hgrow2.block b hlt (fun e => HNE.out e.symm)]
    exact HK.out
  have d1 : w2.cell? ⟨b, 1, none⟩ = some v := by simp [World.cell?, hb2]
  have f1 : w2.frozen? ⟨b, 1, none⟩ = false := by simp [World.frozen?, hb2]
  have HOW := Lib.hid hown2
  have HG := Lib.hid hgrow2
  have HB2 := Lib.hid hb2
  obtain ⟨ao, n', cap, rfl⟩ : ∃ ao n' cap, v' = .slice ao n' cap := by
    rcases hown2.2 with ⟨hv, _⟩ | ⟨g, cap, cur, hv, _⟩
    · exact ⟨_, _, _, hv⟩
    · exact ⟨_, _, _, hv⟩
  clear hown2 hgrow2 hb2
  go_wp2_with fail
  go_ret2
  refine ⟨rfl, ?_, ?_⟩
  · exact Lib.BuilderAt.put (T := 131) (e := 5) hB HB2.out (bs' := bs ++ bcells xs) (by simpa [bcells_length] using HOW.out) (by decide)
  · exact (HB1.out.grown HG.out (by have := HB1.out.size; omega) (fun k hk => (HO.out.lt k hk).1)).setCell (p := ⟨b, 1, none⟩) hB _

abbrev BA (B b : Nat) (l : List UInt8) (w : World) : Prop := Lib.BuilderAt 131 5 B b (.pointer (some ⟨b, 0, none⟩)) (bcells l) w
abbrev BI (B b : Nat) (l : List UInt8) (w : World) : Prop := Lib.IsBuilder 131 5 B b (bcells l) w
theorem wbyte (w : World) (B b : Nat) (l : List UInt8) (c : UInt8) (h : BI B b l w) (hl : l.length ≤ 33554432) (hB : B ≤ w.heap.size) :
    Calls Tryz.prog 101 #[.pointer (some ⟨b, 0, none⟩), .int .u8 (c.toNat : Int)] w fun e w' => e = .returned .nilIface ∧ BA B b (l ++ [c]) w' ∧ Below B w w' := by
  have := writeByte_c B b (bcells l) (c.toNat : Int) w h (by rw [bcells_length]; omega) hB
  rw [show bcells l ++ [.int .u8 (c.toNat : Int)] = bcells (l ++ [c]) from by simp [bcells]] at this
  exact this
theorem wstring (w : World) (B b : Nat) (l t : List UInt8) (h : BI B b l w) (hl : l.length ≤ 33554432) (ht : t.length ≤ 33554432) (hB : B ≤ w.heap.size) :
    Calls Tryz.prog 93 #[.pointer (some ⟨b, 0, none⟩), .string ⟨t.toArray⟩] w fun e w' => (∃ n, e = .returned (.tuple #[.int .i64 n, .nilIface])) ∧ BA B b (l ++ t) w' ∧ Below B w w' := by
  have := writeString_c B b (bcells l) ⟨t.toArray⟩ w h (by rw [bcells_length]; show l.length + t.toArray.size ≤ _; simp; omega) hB
  rw [show bcells l ++ Lib.strCells ⟨t.toArray⟩ = bcells (l ++ t) from by rw [bcells_append]; rfl] at this
  exact this.mono fun e w' ⟨h1, h2, h3⟩ => ⟨⟨_, h1⟩, h2, h3⟩
theorem wwrite (w : World) (B b : Nat) (l t : List UInt8) (src : Value) (h : BI B b l w) (hR : Rd w src t) (hl : l.length ≤ 33554432) (ht : t.length ≤ 33554432) (hB : B ≤ w.heap.size) :
    Calls Tryz.prog 148 #[.pointer (some ⟨b, 0, none⟩), src] w fun e w' => (∃ n, e = .returned (.tuple #[.int .i64 n, .nilIface])) ∧ BA B b (l ++ t) w' ∧ Below B w w' := by
  have := write_c B b (bcells l) src t w h hR (by rw [bcells_length]; omega) hB
  rw [← bcells_append] at this
  exact this.mono fun e w' ⟨h1, h2, h3⟩ => ⟨⟨_, h1⟩, h2, h3⟩
theorem btext (w : World) (B b : Nat) (l : List UInt8) (h : BI B b l w) (hB : B ≤ w.heap.size) :
    Calls Tryz.prog 94 #[.pointer (some ⟨b, 0, none⟩)] w fun e w' => e = .returned (.string ⟨l.toArray⟩) ∧ Below B w w' := Tryz.Builder_String_any B b l w h hB
end Go.Proofs.YtpcajjbdlfookaaGreatDoor

/- xmllex: values resolved piece by piece, or made flat ahead of it. -/
namespace Go.Proofs.YtpcajjbdlfookaaGreatDoor
open Go.RowKit
set_option linter.unusedVariables false

theorem lns_app : ∀ (p q : List UInt8), q.head? ≠ some 10 → lns (p ++ q) = lns p ++ lns q
  | [], q, _ => rfl
  | c :: p, q, h => by
    have ih := lns_app p q h
    have hh : (p ++ q).head? = some 10 ↔ p.head? = some 10 := by
      cases p with
      | nil => simp [h]
      | cons a t => simp
    rw [List.cons_append, lns, lns]
    by_cases h1 : c = 13
    · rw [if_pos h1, if_pos h1]
      by_cases h2 : p.head? = some 10
      · rw [if_pos (hh.2 h2), if_pos h2, ih]
      · rw [if_neg (fun x => h2 (hh.1 x)), if_neg h2, ih, List.cons_append]
    · rw [if_neg h1, if_neg h1, ih, List.cons_append]
theorem lns_ne : ∀ {p : List UInt8}, p ≠ [] → lns p ≠ []
  | [], h => absurd rfl h
  | c :: p, _ => by
    rw [lns]
    split
    · split
      · rename_i h2
        cases p with
        | nil => simp at h2
        | cons a t => exact lns_ne (by simp)
      · simp
    · simp
theorem lns_id : ∀ (p : List UInt8), (∀ x ∈ p, x ≠ 13) → lns p = p
  | [], _ => rfl
  | c :: p, h => by
    rw [lns, if_neg (h c (by simp)), lns_id p fun x hx => h x (by simp [hx])]
theorem lns_mem : ∀ (p : List UInt8) (x : UInt8), x ∈ lns p → x = 10 ∨ (x ∈ p ∧ x ≠ 13)
  | [], x, h => by simp [lns] at h
  | c :: p, x, h => by
    have ih := lns_mem p x
    rw [lns] at h
    split at h
    · split at h
      · rcases ih h with h | h
        · exact .inl h
        · exact .inr ⟨by simp [h.1], h.2⟩
      · rcases List.mem_cons.1 h with h | h
        · exact .inl h
        · rcases ih h with h | h
          · exact .inl h
          · exact .inr ⟨by simp [h.1], h.2⟩
    · rename_i hc
      rcases List.mem_cons.1 h with h | h
      · exact .inr ⟨by simp [h], by rw [h]; exact hc⟩
      · rcases ih h with h | h
        · exact .inl h
        · exact .inr ⟨by simp [h.1], h.2⟩

abbrev fl (x : List UInt8) : List UInt8 := pl true x
theorem fl_app (p q : List UInt8) (h : q.head? ≠ some 10) : fl (p ++ q) = fl p ++ fl q := by
  unfold fl pl
  rw [if_pos rfl, if_pos rfl, if_pos rfl, lns_app p q h, List.map_append]
theorem fl_cons {c : UInt8} (r : List UInt8) (h1 : c ≠ 13) (h2 : c ≠ 9) (h3 : c ≠ 10) : fl (c :: r) = c :: fl r := by
  unfold fl pl
  rw [if_pos rfl, if_pos rfl, lns, if_neg h1, List.map_cons, tr, if_neg (by simp [h2, h3])]
theorem fl_mem (p : List UInt8) (x : UInt8) (h : x ∈ fl p) : x = 32 ∨ (x ∈ p ∧ x ≠ 13 ∧ x ≠ 9 ∧ x ≠ 10) := by
  unfold fl pl at h
  rw [if_pos rfl, List.mem_map] at h
  obtain ⟨y, hy, rfl⟩ := h
  unfold tr
  by_cases h : y = 9 ∨ y = 10
  · rw [if_pos h]; exact .inl rfl
  · rw [if_neg h]
    rcases lns_mem p y hy with h1 | h1
    · exact absurd (.inr h1) h
    · exact .inr ⟨h1.1, h1.2, fun e => h (.inl e), fun e => h (.inr e)⟩
theorem fl_lns (p : List UInt8) : lns (fl p) = fl p := lns_id _ fun x hx => by
  rcases fl_mem p x hx with rfl | h
  · decide
  · exact h.2.1
theorem fl_ne {p : List UInt8} (h : p ≠ []) : fl p ≠ [] := by
  unfold fl pl
  rw [if_pos rfl]
  intro e
  exact lns_ne h (List.map_eq_nil_iff.1 e)
theorem fl_id (p : List UInt8) (h : ∀ x ∈ p, x ≠ 13 ∧ x ≠ 9 ∧ x ≠ 10) : fl p = p := by
  unfold fl pl
  rw [if_pos rfl, lns_id p fun x hx => (h x hx).1]
  conv => rhs; rw [← List.map_id p]
  apply List.map_congr_left
  intro x hx
  rw [tr, if_neg (by have := h x hx; simp [this])]
  rfl
theorem fl_len (p : List UInt8) : (fl p).length ≤ p.length := by
  unfold fl pl
  rw [if_pos rfl, List.length_map]
  exact lns_len p

/-- A byte that stands in no reference. -/
def oddB (c : UInt8) : Prop := c = 9 ∨ c = 10 ∨ c = 13 ∨ c = 32
theorem dgt_odd {base : Nat} {c : UInt8} (hb : base ≤ 16) (h : oddB c) : dgt base c = none := by
  unfold dgt
  rcases h with rfl | rfl | rfl | rfl <;> simp <;> omega
theorem numB_odd {base top : Nat} (hb : base ≤ 16) : ∀ (r : List UInt8) (n : Nat), (∃ c ∈ r, oddB c) → numB base top n r = none
  | [], n, h => by simp at h
  | c :: r, n, h => by
    rw [numB]
    obtain ⟨d, hd, ho⟩ := h
    rcases List.mem_cons.1 hd with rfl | hd
    · rw [dgt_odd hb ho]
    · cases dgt base c with
      | none => rfl
      | some k =>
        dsimp only
        split
        · rfl
        · exact numB_odd hb r _ ⟨d, hd, ho⟩
theorem refB_odd (s : List UInt8) (h : ∃ c ∈ s, oddB c) : refB s = none := by
  obtain ⟨c, hc, ho⟩ := h
  have hx : ∀ l : List UInt8, (∀ x ∈ l, ¬ oddB x) → s ≠ l := fun l hl e => hl c (e ▸ hc) ho
  have hno : ∀ x : UInt8, (x ≠ 9 ∧ x ≠ 10 ∧ x ≠ 13 ∧ x ≠ 32) → ¬ oddB x := fun x hx h => by
    rcases h with h | h | h | h <;> simp [h] at hx
  unfold refB
  rw [if_neg (hx _ (by intro x hx; apply hno; revert x; decide)), if_neg (hx _ (by intro x hx; apply hno; revert x; decide)), if_neg (hx _ (by intro x hx; apply hno; revert x; decide)), if_neg (hx _ (by intro x hx; apply hno; revert x; decide)), if_neg (hx _ (by intro x hx; apply hno; revert x; decide))]
  have key : ∀ (base : Nat) (m : List UInt8), base ≤ 16 → Lib.hasPrefix s m = true → (∀ x ∈ m, ¬ oddB x) → chNum base (s.drop m.length) = none := by
    intro base m hb hp hm
    have hin : ∃ c ∈ s.drop m.length, oddB c := by
      unfold Lib.hasPrefix at hp
      obtain ⟨t, ht⟩ := List.isPrefixOf_iff_prefix.1 hp
      rw [← ht] at hc ⊢
      rw [List.drop_left]
      rcases List.mem_append.1 hc with h | h
      · exact absurd ho (hm c h)
      · exact ⟨c, h, ho⟩
    unfold chNum
    split
    · rfl
    · rw [numB_odd hb _ _ hin]
  split
  · rename_i h
    exact key 16 [35, 120] (by omega) h (by intro x hx; apply hno; revert x; decide)
  · split
    · rename_i h
      exact key 10 [35] (by omega) h (by intro x hx; apply hno; revert x; decide)
    · rfl
theorem refA_len {r : List UInt8} {c n : Nat} (h : refA r = some (c, n)) : 1 ≤ n ∧ n ≤ r.length := by
  unfold refA at h
  split at h
  · simp at h
  · rename_i h1
    cases hb : refB ((r.drop 1).take ((Lib.index r [59]).toNat - 1)) with
    | none => rw [hb] at h; simp at h
    | some d =>
      rw [hb] at h
      simp only [Option.map_some, Option.some.injEq, Prod.mk.injEq] at h
      have := idx1_lt r 59
      rcases this with h2 | ⟨rfl, h2⟩ <;> omega
theorem refA_fl (r : List UInt8) : (refA (38 :: r) = none ∧ refA (fl (38 :: r)) = none) ∨ ∃ c n m, refA (38 :: r) = some (c, n) ∧ refA (fl (38 :: r)) = some (c, m) ∧ (fl (38 :: r)).drop m = fl ((38 :: r).drop n) := by
  have hf : fl (38 :: r) = 38 :: fl r := fl_cons r (by decide) (by decide) (by decide)
  rw [hf]
  unfold refA
  rw [idx1_ne (show (38 : UInt8) ≠ 59 by decide), idx1_ne (show (38 : UInt8) ≠ 59 by decide)]
  have hg := Lib.index_ge r [59]
  by_cases h : Lib.index r [59] < 0
  · left
    have h2 : Lib.index (fl r) [59] < 0 := (idx1_none _ _).2 fun x hx => by
      rcases fl_mem r x hx with rfl | hx
      · decide
      · exact (idx1_none _ _).1 h x hx.1
    rw [if_pos h, if_pos h2]
    exact ⟨rfl, rfl⟩
  · obtain ⟨i, hi⟩ : ∃ i : Nat, Lib.index r [59] = i := ⟨(Lib.index r [59]).toNat, by omega⟩
    obtain ⟨e1, e2, e3⟩ := idx1_split r 59 i hi
    have hs : fl r = fl (r.take i) ++ 59 :: fl (r.drop (i + 1)) := by
      conv => lhs; rw [e1]
      rw [fl_app _ _ (by simp), fl_cons _ (by decide) (by decide) (by decide)]
    have hn59 : ∀ x ∈ fl (r.take i), x ≠ 59 := fun x hx => by
      rcases fl_mem _ x hx with rfl | hx
      · decide
      · exact e2 x hx.1
    have hi2 : Lib.index (fl r) [59] = (fl (r.take i)).length := by rw [hs]; exact idx1_app _ _ _ hn59
    have n1 : ¬ ((i : Int) < 0) := by omega
    have n2 : ¬ ((i : Int) + 1 < 0) := by omega
    have n3 : ¬ (((fl (r.take i)).length : Int) < 0) := by omega
    have n4 : ¬ (((fl (r.take i)).length : Int) + 1 < 0) := by omega
    rw [hi, hi2]
    simp only [n1, n2, n3, n4, if_false]
    have t1 : ((i : Int) + 1).toNat = i + 1 := by omega
    have t2 : (((fl (r.take i)).length : Int) + 1).toNat = (fl (r.take i)).length + 1 := by omega
    rw [t1, t2]
    simp only [List.drop_succ_cons, List.drop_zero, Nat.add_sub_cancel]
    have hb2 : (fl r).take (fl (r.take i)).length = fl (r.take i) := by rw [hs]; exact List.take_left
    rw [hb2]
    by_cases ho : ∃ c ∈ r.take i, oddB c
    · left
      rw [refB_odd _ ho]
      by_cases h32 : ∃ c ∈ fl (r.take i), oddB c
      · rw [refB_odd _ h32]; exact ⟨rfl, rfl⟩
      · exfalso
        obtain ⟨c, hc, hoc⟩ := ho
        -- a byte 9, 10, 13 or 32 leaves a 32
        have : ∀ (p : List UInt8) (c : UInt8), c ∈ p → oddB c → ∃ d ∈ fl p, oddB d := by
          intro p
          induction p with
          | nil => intro c hc; simp at hc
          | cons a p ih =>
            intro c hc ho
            have hfa : fl (a :: p) = if a = 13 then (if p.head? = some 10 then fl p else 32 :: fl p) else tr a :: fl p := by
              unfold fl pl
              simp only [if_true]
              rw [lns]
              split
              · split
                · rfl
                · rfl
              · rfl
            rw [hfa]
            rcases List.mem_cons.1 hc with rfl | hc
            · by_cases h13 : c = 13
              · rw [if_pos h13]
                split
                · rename_i hh
                  cases p with
                  | nil => simp at hh
                  | cons b q =>
                    simp at hh
                    subst hh
                    exact ih 10 (by simp) (by simp [oddB])
                · exact ⟨32, by simp, by simp [oddB]⟩
              · rw [if_neg h13]
                refine ⟨tr c, by simp, ?_⟩
                unfold tr
                split
                · simp [oddB]
                · exact ho
            · obtain ⟨d, hd, hod⟩ := ih c hc ho
              split
              · split
                · exact ⟨d, hd, hod⟩
                · exact ⟨d, by simp [hd], hod⟩
              · exact ⟨d, by simp [hd], hod⟩
        exact h32 (this _ c hc hoc)
    · have hid : fl (r.take i) = r.take i := fl_id _ fun x hx => ⟨fun e => ho ⟨x, hx, by simp [oddB, e]⟩, fun e => ho ⟨x, hx, by simp [oddB, e]⟩, fun e => ho ⟨x, hx, by simp [oddB, e]⟩⟩
      cases hR : refB (r.take i) with
      | none => left; rw [hid, hR]; exact ⟨rfl, rfl⟩
      | some c =>
        right
        rw [hid, hR]
        refine ⟨c, i + 1 + 1, (r.take i).length + 1 + 1, rfl, rfl, ?_⟩
        simp only [List.drop_succ_cons]
        rw [hs, hid, ← List.drop_drop, List.drop_left]
        rfl

/-- The next reference of what is flat. -/
theorem upto_split (x : List UInt8) (hx : x ≠ []) (h : x.head? ≠ some 38) : x = x.take (upto x) ++ x.drop (upto x) ∧ (∀ c ∈ x.take (upto x), c ≠ 38) ∧ x.take (upto x) ≠ [] ∧ (x.drop (upto x) = [] ∨ ∃ s, x.drop (upto x) = 38 :: s) ∧ 1 ≤ upto x ∧ upto x ≤ x.length := by
  refine ⟨(List.take_append_drop _ _).symm, ?_⟩
  unfold upto
  have hl := List.length_pos_iff.2 hx
  by_cases hi : Lib.index x [38] < 0
  · rw [if_pos hi]
    have := (idx1_none _ _).1 hi
    exact ⟨by simpa using this, by simpa using hx, .inl (by simp), hl, Nat.le_refl _⟩
  · rw [if_neg hi]
    obtain ⟨i, hii⟩ : ∃ i : Nat, Lib.index x [38] = i := ⟨(Lib.index x [38]).toNat, by omega⟩
    obtain ⟨e1, e2, e3⟩ := idx1_split x 38 i hii
    rw [hii, Int.toNat_natCast]
    have h1 : 1 ≤ i := by
      rcases Nat.eq_zero_or_pos i with h0 | h0
      · subst h0
        rw [e1] at h
        simp at h
      · exact h0
    refine ⟨e2, ?_, .inr ⟨x.drop (i + 1), ?_⟩, h1, by omega⟩
    · intro e
      have := congrArg List.length e
      rw [List.length_take, List.length_nil] at this
      omega
    · conv => lhs; rw [e1]
      rw [List.drop_append_of_le_length (by simp; omega), List.drop_take]
      simp
theorem upto_app (p q : List UInt8) (hp : ∀ c ∈ p, c ≠ 38) (hq : q = [] ∨ ∃ s, q = 38 :: s) : upto (p ++ q) = p.length := by
  unfold upto
  rcases hq with rfl | ⟨s, rfl⟩
  · rw [List.append_nil, if_pos ((idx1_none _ _).2 hp)]
  · rw [idx1_app p s 38 hp, if_neg (by omega)]
    rfl

def okOf {α : Type} (x : Except Nat α) : Option α := match x with
  | .error _ => none
  | .ok v => some v
theorem flat_rs : ∀ (f : Nat) (x : List UInt8) (g a b : Nat) (out : List UInt8), x.length < f → (fl x).length < g → okOf (rsF g false (fl x) a out) = okOf (rsF f true x b out)
  | 0, x, g, a, b, out, h, _ => by omega
  | f + 1, x, g, a, b, out, hf, hg => by
    obtain ⟨g, rfl⟩ : ∃ k, g = k + 1 := ⟨g - 1, by omega⟩
    rw [rsF, rsF]
    by_cases hx : x = []
    · subst hx
      rfl
    · rw [if_neg hx, if_neg (fl_ne hx)]
      by_cases h38 : x.head? = some 38
      · obtain ⟨r, rfl⟩ : ∃ r, x = 38 :: r := by
          cases x with
          | nil => simp at h38
          | cons c r => simp at h38; exact ⟨r, by rw [h38]⟩
        have hfc : fl (38 :: r) = 38 :: fl r := fl_cons r (by decide) (by decide) (by decide)
        rw [if_pos h38, if_pos (by rw [hfc]; rfl)]
        rcases refA_fl r with ⟨e1, e2⟩ | ⟨c, n, m, e1, e2, e3⟩
        · rw [e1, e2]; rfl
        · rw [e1, e2]
          dsimp only
          rw [e3]
          have l1 := refA_len e1
          have l2 := refA_len e2
          have := congrArg List.length e3
          rw [List.length_drop] at this
          exact flat_rs f _ g _ _ _ (by rw [List.length_drop]; simp at hf l1 ⊢; omega) (by omega)
      · obtain ⟨s1, s2, s3, s4, s5, s6⟩ := upto_split x hx h38
        obtain ⟨p, hp⟩ : ∃ p, p = x.take (upto x) := ⟨_, rfl⟩
        obtain ⟨q, hq⟩ : ∃ q, q = x.drop (upto x) := ⟨_, rfl⟩
        have hlq : q.length < x.length := by rw [hq, List.length_drop]; omega
        rw [← hp, ← hq] at s1
        rw [← hp] at s2 s3
        rw [← hq] at s4
        have hfx : fl x = fl p ++ fl q := by
          rw [s1]
          exact fl_app p q (by rcases s4 with h | ⟨s, h⟩ <;> rw [h] <;> simp)
        have hfp : ∀ c ∈ fl p, c ≠ 38 := fun c hc => by
          rcases fl_mem p c hc with rfl | h
          · decide
          · exact s2 c h.1
        have hfq : fl q = [] ∨ ∃ s, fl q = 38 :: s := by
          rcases s4 with h | ⟨s, h⟩
          · left; rw [h]; rfl
          · right; rw [h, fl_cons s (by decide) (by decide) (by decide)]; exact ⟨_, rfl⟩
        have hu : upto (fl x) = (fl p).length := by rw [hfx]; exact upto_app _ _ hfp hfq
        have hne := fl_ne s3
        have hh : ¬ (fl x).head? = some 38 := by
          rw [hfx]
          cases hc : fl p with
          | nil => exact absurd hc hne
          | cons c t => simp; exact hfp c (by rw [hc]; simp)
        rw [if_neg h38, if_neg hh, hu]
        have e1 : (fl x).drop (fl p).length = fl q := by rw [hfx]; exact List.drop_left
        have e2 : (fl x).take (fl p).length = fl p := by rw [hfx]; exact List.take_left
        rw [e1, e2, ← hp, ← hq, show pl false (fl p) = fl p from by unfold pl; rw [if_neg (by simp)]; exact fl_lns p]
        have hl2 := congrArg List.length hfx
        rw [List.length_append] at hl2
        have := List.length_pos_iff.2 hne
        exact flat_rs f q g _ _ _ (by omega) (by omega)
theorem rsT_flat (x : List UInt8) : okOf (rsT false (pl true x)) = okOf (rsT true x) := flat_rs _ x _ _ _ _ (by omega) (by unfold fl; omega)
theorem val_eq (q : UInt8) (t : List UInt8) : valQ q t = valR q t := by
  unfold valQ valR
  have hg := Lib.index_ge t [q]
  by_cases h : Lib.index t [q] < 0
  · rw [if_pos h, if_pos (.inl h)]
  · rw [if_neg h]
    have hi := idx1_take t 60 (Lib.index t [q]).toNat
    have hk : ((Lib.index t [q]).toNat : Int) = Lib.index t [q] := by omega
    rw [hk] at hi
    by_cases h2 : 0 ≤ Lib.index (t.take (Lib.index t [q]).toNat) [60]
    · rw [if_pos h2, if_pos (.inr (hi.1 h2))]
    · rw [if_neg h2, if_neg (fun h3 => h3.elim h fun h3 => h2 (hi.2 h3))]
      have hf := rsT_flat (t.take (Lib.index t [q]).toNat)
      cases h5 : rsT false (pl true (t.take (Lib.index t [q]).toNat)) <;> cases h6 : rsT true (t.take (Lib.index t [q]).toNat) <;> rw [h5, h6] at hf <;> simp [okOf] at hf
      all_goals first | rfl | rw [hf]
theorem attr_eq (r : List UInt8) : attrP r = attrR r := by
  unfold attrP attrR
  cases h : tagP r with
  | none =>
    rcases tag_none h with h0 | ⟨s, hs⟩
    · rw [if_pos (.inl h0)]
    · have hb : blN (r.drop (tagR r)) = 0 := blN_zero hs (by decide)
      rw [if_pos (.inr (by rw [hb, Nat.add_zero, hs]; rfl))]
  | some n =>
    obtain ⟨h1, h2⟩ := tag_some h
    rw [h1]
    dsimp only
    cases hp : Lib.hasPrefix (r.drop (n + blN (r.drop n))) [61] with
    | false => rw [if_neg (show ¬ (false = true) by decide), if_pos (show n = 0 ∨ false = false from .inr rfl)]
    | true =>
      rw [if_pos rfl, if_neg (show ¬ (n = 0 ∨ true = false) from by simp [h2])]
      obtain ⟨k, hk⟩ : ∃ k, k = n + blN (r.drop n) + 1 + blN (r.drop (n + blN (r.drop n) + 1)) := ⟨_, rfl⟩
      rw [← hk]
      unfold valP
      rw [List.drop_drop]
      cases h39 : Lib.hasPrefix (r.drop k) [39] with
      | true =>
        obtain ⟨s, hs⟩ := pre_head h39
        rw [if_pos rfl, if_neg (by simp), hs, val_eq]
        rfl
      | false =>
        cases h34 : Lib.hasPrefix (r.drop k) [34] with
        | true =>
          obtain ⟨s, hs⟩ := pre_head h34
          rw [if_neg (by simp), if_pos rfl, if_neg (by simp), hs, val_eq]
          rfl
        | false => rfl
theorem opn_eq (t : List UInt8) : opnP t = opnR t := by
  unfold opnP opnR
  rw [show attrP = attrR from funext attr_eq]
  cases h : tagP t with
  | some n =>
    obtain ⟨h1, h2⟩ := tag_some h
    rw [h1, if_neg h2]
  | none =>
    rcases tag_none h with h0 | ⟨s, hs⟩
    · rw [if_pos h0]
    · by_cases h0 : tagR t = 0
      · rw [if_pos h0]
      · rw [if_neg h0, opnF, hs, blN_zero rfl (by decide), List.drop_zero, pre_not (by decide), pre_not (by decide)]
        rfl
/-- Both ways: the token at an offset. -/
theorem nxt_eq (xs : List UInt8) (k : Int) : nxt insP opnP cloP xs k = nxt insR opnR cloR xs k := by
  rw [show insP = insR from funext ins_eq, show opnP = opnR from funext opn_eq, show cloP = cloR from funext clo_eq]
end Go.Proofs.YtpcajjbdlfookaaGreatDoor
