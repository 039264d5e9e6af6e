/- xmllex: both ways to look at a tag come to the same. -/
import Derived.Test.YtpcajjbdlfookaaGreatDoorMw10
import Derived.Lib.Strings
namespace Go.Proofs.YtpcajjbdlfookaaGreatDoor
open Go.RowKit
set_option linter.unusedVariables false

theorem blN_le : ∀ r, blN r ≤ r.length
  | [] => Nat.le_refl _
  | c :: r => by
    have := blN_le r
    rw [blN]
    split <;> simp <;> omega
theorem blN_at : ∀ (r : List UInt8) (j : Nat), j < blN r → ∃ c, r[j]? = some c ∧ spaceB (c.toNat : Int) = true
  | [], j, h => by simp [blN] at h
  | c :: r, j, h => by
    rw [blN] at h
    split at h
    · rename_i hc
      cases j with
      | zero => exact ⟨c, rfl, hc⟩
      | succ j =>
        obtain ⟨d, h1, h2⟩ := blN_at r j (by omega)
        exact ⟨d, by simpa using h1, h2⟩
    · omega
theorem pre_head {r : List UInt8} {c : UInt8} {t : List UInt8} (h : Lib.hasPrefix r (c :: t) = true) : ∃ s, r = c :: s := by
  unfold Lib.hasPrefix at h
  cases r with
  | nil => simp [List.isPrefixOf] at h
  | cons a s =>
    simp only [List.isPrefixOf, Bool.and_eq_true, beq_iff_eq] at h
    exact ⟨s, by rw [h.1]⟩
theorem blN_zero {r : List UInt8} {c : UInt8} {s : List UInt8} (h : r = c :: s) (hc : spaceB (c.toNat : Int) = false) : blN r = 0 := by
  rw [h, blN, hc]
  rfl
theorem pre_not {c d : UInt8} {s t : List UInt8} (h : c ≠ d) : Lib.hasPrefix (c :: s) (d :: t) = false := by
  unfold Lib.hasPrefix
  simp [List.isPrefixOf, Ne.symm h]
theorem idx_pre {r m : List UInt8} (h : Lib.hasPrefix r m = true) : Lib.index r m = 0 := by
  unfold Lib.hasPrefix at h
  cases r with
  | nil =>
    cases m with
    | nil => rfl
    | cons a t => simp [List.isPrefixOf] at h
  | cons a s => unfold Lib.index; rw [if_pos h]
/-- Blanks ahead play no part where a mark is looked for. -/
theorem idx_blanks (r : List UInt8) (c : UInt8) (t : List UInt8) (hc : spaceB (c.toNat : Int) = false) :
    Lib.index r (c :: t) = if Lib.index (r.drop (blN r)) (c :: t) < 0 then -1 else Lib.index (r.drop (blN r)) (c :: t) + blN r := by
  have hno : Lib.NoOcc r (c :: t) (blN r) := fun j hj => by
    obtain ⟨d, h1, h2⟩ := blN_at r j hj
    cases ho : Lib.occAt r (c :: t) j with
    | false => rfl
    | true =>
      have := Lib.occAt_head rfl ho
      rw [h1] at this
      simp only [Option.some.injEq] at this
      rw [this, hc] at h2
      simp at h2
  rw [Lib.index_drop hno (blN_le r)]
  have := Lib.index_ge (r.drop (blN r)) (c :: t)
  by_cases h : Lib.index (r.drop (blN r)) (c :: t) = -1
  · rw [h]; rfl
  · rw [if_neg (by simpa using h), if_neg (by omega)]
theorem ins_eq (t : List UInt8) : insP t = insR t := by
  unfold insP insR
  by_cases h0 : nameAt t = 0
  · rw [if_pos h0, if_pos (.inl h0)]
  · rw [if_neg h0]
    obtain ⟨u, hu⟩ : ∃ u, u = t.drop (nameAt t) := ⟨_, rfl⟩
    rw [← hu]
    cases hp : Lib.hasPrefix u [63, 62] with
    | true =>
      rw [if_pos rfl, if_neg (by simp [h0]), idx_pre hp, if_neg (by omega)]
      simp
    | false =>
      rw [if_neg (by simp)]
      by_cases hb : blN u = 0
      · rw [if_pos hb, if_pos (.inr ⟨rfl, hb⟩)]
      · rw [if_neg hb, if_neg (show ¬ (nameAt t = 0 ∨ (false = false ∧ blN u = 0)) from by simp [h0, hb])]
        have hi := idx_blanks u 63 [62] (by decide)
        have hd : t.drop (nameAt t + blN u) = u.drop (blN u) := by rw [hu, List.drop_drop]
        rw [hd]
        obtain ⟨i, he⟩ : ∃ i, i = Lib.index (u.drop (blN u)) [63, 62] := ⟨_, rfl⟩
        rw [← he] at hi ⊢
        rw [hi]
        by_cases h : i < 0
        · rw [if_pos h, if_pos h, if_pos (by omega)]
        · rw [if_neg h, if_neg h, if_neg (by omega)]
          congr 1
          omega
theorem tag_some {r : List UInt8} {n : Nat} (h : tagP r = some n) : tagR r = n ∧ n ≠ 0 := by
  unfold tagP at h
  unfold tagR
  by_cases h0 : nameAt r = 0
  · rw [if_pos h0] at h; simp at h
  · rw [if_neg h0] at h
    cases hp : Lib.hasPrefix (r.drop (nameAt r)) [58] with
    | false =>
      rw [hp] at h
      simp at h
      rw [if_pos (.inr rfl)]
      omega
    | true =>
      rw [hp, if_pos rfl] at h
      rw [if_neg (by simp [h0])]
      by_cases h1 : nameAt (r.drop (nameAt r + 1)) = 0
      · rw [if_pos h1] at h; simp at h
      · rw [if_neg h1] at h ⊢
        simp at h
        omega
theorem tag_none {r : List UInt8} (h : tagP r = none) : tagR r = 0 ∨ ∃ s, r.drop (tagR r) = 58 :: s := by
  unfold tagP at h
  unfold tagR
  by_cases h0 : nameAt r = 0
  · rw [if_pos (.inl h0)]
    exact .inl h0
  · rw [if_neg h0] at h
    cases hp : Lib.hasPrefix (r.drop (nameAt r)) [58] with
    | false => rw [hp] at h; simp at h
    | true =>
      rw [hp, if_pos rfl] at h
      rw [if_neg (by simp [h0])]
      by_cases h1 : nameAt (r.drop (nameAt r + 1)) = 0
      · rw [if_pos h1]
        exact .inr (pre_head hp)
      · rw [if_neg h1] at h; simp at h
theorem clo_eq (t : List UInt8) : cloP t = cloR t := by
  unfold cloP cloR
  cases h : tagP t with
  | some n =>
    obtain ⟨h1, h2⟩ := tag_some h
    rw [h1]
    cases hp : Lib.hasPrefix (t.drop (n + blN (t.drop n))) [62] with
    | true => simp [h2, hp]
    | false => simp [h2, hp]
  | none =>
    rcases tag_none h with h0 | ⟨s, hs⟩
    · rw [if_pos (.inl h0)]
    · have hb : blN (t.drop (tagR t)) = 0 := blN_zero hs (by decide)
      rw [if_pos (.inr (by rw [hb, Nat.add_zero, hs]; rfl))]

/-- One byte, first. -/
theorem idx1_nil (q : UInt8) : Lib.index [] [q] = -1 := rfl
theorem idx1_cons (c : UInt8) (r : List UInt8) (q : UInt8) : Lib.index (c :: r) [q] = if c = q then 0 else if Lib.index r [q] < 0 then -1 else Lib.index r [q] + 1 := by
  have hg := Lib.index_ge r [q]
  rw [Lib.index]
  by_cases h : c = q
  · rw [if_pos h, if_pos (by simp [List.isPrefixOf, h])]
  · rw [if_neg h, if_neg (by simp [List.isPrefixOf, Ne.symm h])]
    by_cases h1 : Lib.index r [q] = -1
    · rw [h1]; rfl
    · rw [if_neg (by simpa using h1), if_neg (by omega)]
theorem idx1_ne {c q : UInt8} (h : c ≠ q) (r : List UInt8) : Lib.index (c :: r) [q] = if Lib.index r [q] < 0 then -1 else Lib.index r [q] + 1 := by rw [idx1_cons, if_neg h]
theorem idx1_lt : ∀ (t : List UInt8) (q : UInt8), Lib.index t [q] < t.length ∨ (t = [] ∧ Lib.index t [q] = -1)
  | [], q => .inr ⟨rfl, rfl⟩
  | c :: r, q => by
    left
    have := idx1_lt r q
    rw [idx1_cons, List.length_cons]
    split
    · omega
    · split
      · omega
      · rcases this with h | ⟨_, h⟩ <;> omega
theorem idx1_take : ∀ (t : List UInt8) (q : UInt8) (k : Nat), (0 ≤ Lib.index (t.take k) [q] ↔ (0 ≤ Lib.index t [q] ∧ Lib.index t [q] < k))
  | [], q, k => by simp [idx1_nil]
  | c :: r, q, 0 => by
    have := Lib.index_ge (c :: r) [q]
    simp [idx1_nil]
  | c :: r, q, k + 1 => by
    have ih := idx1_take r q k
    have hg := Lib.index_ge r [q]
    have hg2 := Lib.index_ge (r.take k) [q]
    rw [List.take_succ_cons, idx1_cons, idx1_cons]
    by_cases h : c = q
    · rw [if_pos h, if_pos h]; omega
    · rw [if_neg h, if_neg h]
      split <;> split <;> omega
theorem idx1_split : ∀ (t : List UInt8) (q : UInt8) (i : Nat), Lib.index t [q] = i → t = t.take i ++ q :: t.drop (i + 1) ∧ (∀ x ∈ t.take i, x ≠ q) ∧ i < t.length
  | [], q, i, h => by rw [idx1_nil] at h; omega
  | c :: r, q, i, h => by
    rw [idx1_cons] at h
    by_cases hc : c = q
    · rw [if_pos hc] at h
      obtain rfl : i = 0 := by omega
      exact ⟨by simp [hc], by simp, by simp⟩
    · rw [if_neg hc] at h
      have hg := Lib.index_ge r [q]
      by_cases h1 : Lib.index r [q] < 0
      · rw [if_pos h1] at h; omega
      · rw [if_neg h1] at h
        obtain ⟨j, rfl⟩ : ∃ j, i = j + 1 := ⟨i - 1, by omega⟩
        obtain ⟨e1, e2, e3⟩ := idx1_split r q j (by omega)
        refine ⟨?_, ?_, by simp; omega⟩
        · simp only [List.take_succ_cons, List.drop_succ_cons, List.cons_append]
          rw [← e1]
        · intro x hx
          rw [List.take_succ_cons, List.mem_cons] at hx
          rcases hx with rfl | hx
          · exact hc
          · exact e2 x hx
theorem idx1_none : ∀ (t : List UInt8) (q : UInt8), (Lib.index t [q] < 0 ↔ ∀ x ∈ t, x ≠ q)
  | [], q => by simp [idx1_nil]
  | c :: r, q => by
    have ih := idx1_none r q
    have hg := Lib.index_ge r [q]
    rw [idx1_cons]
    by_cases hc : c = q
    · rw [if_pos hc]
      constructor
      · intro h; omega
      · intro h; exact absurd hc (h c (by simp))
    · rw [if_neg hc]
      constructor
      · intro h x hx
        rcases List.mem_cons.1 hx with rfl | hx
        · exact hc
        · exact ih.1 (by split at h <;> omega) x hx
      · intro h
        rw [if_pos (ih.2 fun x hx => h x (by simp [hx]))]
        omega
theorem idx1_app : ∀ (p s : List UInt8) (q : UInt8), (∀ x ∈ p, x ≠ q) → Lib.index (p ++ q :: s) [q] = p.length
  | [], s, q, _ => by rw [List.nil_append, idx1_cons, if_pos rfl]; rfl
  | c :: p, s, q, h => by
    have ih := idx1_app p s q fun x hx => h x (by simp [hx])
    rw [List.cons_append, idx1_cons, if_neg (h c (by simp)), ih, if_neg (by omega)]
    simp
end Go.Proofs.YtpcajjbdlfookaaGreatDoor

/- xmllex: reference. -/
namespace Go.Proofs.YtpcajjbdlfookaaGreatDoor
open Go.RowKit
set_option linter.unusedVariables false

theorem pre2 (l : List UInt8) (a b : UInt8) : Lib.hasPrefix l [a, b] = (Lib.hasPrefix l [a] && Lib.hasPrefix (l.drop 1) [b]) := by
  unfold Lib.hasPrefix
  cases l with
  | nil => rfl
  | cons x r =>
    cases r with
    | nil => simp [List.isPrefixOf]
    | cons y s => simp [List.isPrefixOf]
theorem chNum_pu (B : Nat) (r : List UInt8) : chNum B r = (puN B r).bind fun n => if xmlB n then some n else none := by
  unfold chNum puN
  split
  · rfl
  · cases numB B 4294967295 0 r <;> rfl
def isNm (s : List UInt8) : Prop := s = [108, 116] ∨ s = [103, 116] ∨ s = [97, 109, 112] ∨ s = [97, 112, 111, 115] ∨ s = [113, 117, 111, 116]
theorem refB_num (s : List UInt8) (h : ¬ isNm s) : refB s = (numV s).bind fun n => if xmlB n then some n else none := by
  unfold isNm at h
  simp only [not_or] at h
  unfold refB numV
  rw [if_neg h.1, if_neg h.2.1, if_neg h.2.2.1, if_neg h.2.2.2.1, if_neg h.2.2.2.2, pre2]
  cases h1 : Lib.hasPrefix s [35] with
  | false => rfl
  | true =>
    cases h2 : Lib.hasPrefix (s.drop 1) [120] with
    | false => simp [chNum_pu]
    | true => simp [chNum_pu]
theorem E_none {n : Nat} (h : E n = []) : xmlB n = false := by
  have : (n : Int) < 0 ∨ 1114111 < (n : Int) ∨ (55296 ≤ (n : Int) ∧ (n : Int) ≤ 57343) := by
    unfold E at h
    split at h
    · assumption
    · split at h
      · simp at h
      · split at h
        · simp at h
        · split at h <;> simp at h
  unfold xmlB spaceB btw
  rcases this with h | h | h
  · omega
  · simp; omega
  · simp; omega
theorem wrong_E (n : Nat) (h : E n ≠ []) : wrong ((E n).length + 1) (E n) 0 = if xmlB n then -1 else 0 := by
  have hD := (D_E n h []).1
  rw [List.append_nil, Int.toNat_natCast] at hD
  have hl := List.length_pos_iff.2 h
  obtain ⟨k, hk⟩ : ∃ k, (E n).length = k + 1 := ⟨(E n).length - 1, by omega⟩
  rw [wrong, if_pos hl, List.drop_zero, hD]
  cases hx : xmlB n with
  | false => rw [if_pos (.inr rfl)]; rfl
  | true =>
    rw [if_neg (by simp; omega), Nat.zero_add, hk, wrong, if_neg (by omega)]
    rfl
/-- How the reference at a beginning is told. -/
def RefAft (w : World) (R : Option (Nat × Nat)) (e : Ending) (w' : World) : Prop := (match R with
  | none => e = .returned (.tuple #[.string ⟨#[]⟩, .int .i64 0])
  | some (c, n) => e = .returned (.tuple #[.string ⟨(E c).toArray⟩, .int .i64 (n : Nat)])) ∧ Below w.heap.size w w'
theorem refA_miss {t : List UInt8} (h : Lib.index t [59] < 0) : refA (38 :: t) = none := by
  unfold refA
  rw [idx1_ne (show (38 : UInt8) ≠ 59 by decide), if_pos h, if_pos (by omega)]
theorem refA_hit {t : List UInt8} {i : Nat} (h : Lib.index t [59] = i) : refA (38 :: t) = (refB (t.take i)).map fun c => (c, i + 2) := by
  unfold refA
  rw [idx1_ne (show (38 : UInt8) ≠ 59 by decide), if_neg (by omega), h, if_neg (by omega)]
  have : ((i : Int) + 1).toNat = i + 1 := by omega
  rw [this]
  rfl

set_option maxRecDepth 100000 in
set_option maxHeartbeats 1000000 in
theorem reference_c (w : World) (hw : BW w) (v : Value) (t : List UInt8) (h : Rd w v (38 :: t)) (hl : t.length ≤ 8388608) :
    Calls Tryz.prog 149 #[v] w (RefAft w (refA (38 :: t))) := by
  have kc := fun (w : World) (C : Array Value) (n c : Nat) => Lib.run_convert_bytes_const (P := Tryz.prog) w 22 5 C n c Tryz.underlying22 Tryz.underlying5
  obtain ⟨p, c, rfl⟩ := rd_form h
  obtain ⟨p', m, c', hs, hr⟩ := slice_from h 1 (by simp)
  have hm := hr.len
  rw [List.drop_succ_cons, List.drop_zero] at hr hm
  rw [show ((1 : Nat) : Int) = 1 from rfl] at hs
  have b1 := bel_alloc w (.cells #[.int .u8 59] 5 (1, 2))
  have r1 := rd_new w [59] #[.int .u8 59] 5 1 2 1 rfl rfl (by omega)
  have HB1 := Lib.hid b1
  have HW1 := Lib.hid (hw.below b1)
  have HR1 := Lib.hid (hr.below b1)
  obtain ⟨L, hL⟩ : ∃ L : Nat, L = (38 :: t).length := ⟨_, rfl⟩
  rw [← hL] at hs ⊢
  by_cases hi : Lib.index t [59] < 0
  · have HC := Lib.hid (cut_miss _ p' m c' _ t [59] (hr.below b1) r1 (hw.below b1).mx (by omega) (by simp) hi)
    rw [refA_miss hi]
    clear h hr hm b1 r1 hi hw hl hL
    go_enter Tryz.func149, Tryz.ntmps149
    go_wp2_with fail
    refine HC.out.mono ?_
    rintro e w1 ⟨rfl, q, hq⟩
    have HB := Lib.hid (show Below w.heap.size w w1 from hq ▸ below_drewN HB1.out q)
    clear hq
    go_wp2_with fail
    go_ret2
    exact ⟨rfl, HB.out⟩
  · obtain ⟨i, hi'⟩ : ∃ i : Nat, Lib.index t [59] = i := ⟨(Lib.index t [59]).toNat, by omega⟩
    have HC := Lib.hid (cut_hit _ p' m c' i _ t [59] (hr.below b1) r1 (hw.below b1).mx (by omega) (by simp) hi')
    have hlt := (idx1_split t 59 i hi').2.2
    rw [refA_hit hi']
    have hrt := (hr.below b1).to i (by omega)
    have HRT := Lib.hid hrt
    obtain ⟨bd, hbd⟩ : ∃ bd, bd = t.take i := ⟨_, rfl⟩
    rw [← hbd] at HRT ⊢
    have hbl : bd.length = i := by rw [hbd, List.length_take]; omega
    have hi2 : i ≤ 8388608 := by omega
    have HBL := Lib.hid hbl
    clear h hr hm b1 r1 hi hw hl hL hi' hlt hrt hbd hbl
    go_enter Tryz.func149, Tryz.ntmps149
    go_wp2_with fail
    refine HC.out.mono ?_
    rintro e w1 ⟨⟨x, rfl⟩, q, hq⟩
    have HB := Lib.hid (show Below w.heap.size w w1 from hq ▸ below_drewN HB1.out q)
    have hb0 : Below (w.alloc (.cells #[.int .u8 59] 5 (1, 2))).heap.size (w.alloc (.cells #[.int .u8 59] 5 (1, 2))) w1 := hq ▸ below_drewN (Below.refl _ _) q
    have HW := Lib.hid (HW1.out.below hb0)
    have HBD := Lib.hid (HRT.out.below hb0)
    have hcv := HBD.out.conv (P := Tryz.prog) 22 5 9 Tryz.underlying22 Tryz.underlying5 Tryz.underlying9
    clear hq hb0 HRT HR1 HC HW1 HB1
    by_cases hn : isNm bd
    · rcases hn with rfl | rfl | rfl | rfl | rfl
      all_goals
        go_wp2_with fail
        go_ret2
        exact ⟨rfl, HB.out⟩
    · have HN := Lib.hid (refB_num bd hn)
      have hne : ∀ l, l ∈ [[108, 116], [103, 116], [97, 109, 112], [97, 112, 111, 115], [113, 117, 111, 116]] → bd ≠ l := fun l hl e => hn (by subst e; unfold isNm; simpa using hl)
      have HNUM := numbered_c w1 HW.out bd (by have := HBL.out; omega)
      obtain ⟨s, hs'⟩ : ∃ s, s = (⟨bd.toArray⟩ : ByteArray) := ⟨_, rfl⟩
      have hsl : ∀ l : List UInt8, bd ≠ l → (s.toList == l) = false := fun l hl => beq_eq_false_iff_ne.2 (by rw [ByteArray.toList_eq, hs']; exact hl)
      have t1 := hsl [108, 116] (hne _ (by simp))
      have t2 := hsl [103, 116] (hne _ (by simp))
      have t3 := hsl [97, 109, 112] (hne _ (by simp))
      have t4 := hsl [97, 112, 111, 115] (hne _ (by simp))
      have t5 := hsl [113, 117, 111, 116] (hne _ (by simp))
      rw [← hs'] at hcv HNUM
      have HNM := Lib.hid HNUM
      clear hn hne hsl hs' HNUM HBD
      go_wp2_with fail
      refine HNM.out.mono ?_
      rintro e w2 ⟨v2, rfl, hr2, hb2⟩
      have HB2 := Lib.hid (HB.out.trans (hb2.mono HB.out.size))
      have HW2 := Lib.hid (HW.out.below hb2)
      obtain ⟨p2, c2, rfl⟩ := rd_form hr2
      have hnl : (numE bd).length ≤ 4 := by
        unfold numE
        split
        · simp
        · unfold E
          split
          · simp
          · split
            · simp
            · split
              · simp
              · split <;> simp
      obtain ⟨n2, hn2⟩ : ∃ n2, n2 = (numE bd).length := ⟨_, rfl⟩
      rw [← hn2] at hr2 hnl ⊢
      by_cases h0 : n2 = 0
      · have HZ := Lib.hid (show refB bd = none from by
          rw [HN.out]
          have he : numE bd = [] := List.eq_nil_of_length_eq_zero (by omega)
          unfold numE at he
          cases hv : numV bd with
          | none => rfl
          | some k =>
            rw [hv] at he
            have := E_none he
            simp [this])
        have t0 : ((n2 : Int) == 0) = true := by simp; omega
        clear h0 hn2 hr2 hb2 hcv
        go_wp2_with fail
        go_ret2
        exact ⟨by rw [HZ.out]; rfl, HB2.out⟩
      · have t0 : ((n2 : Int) == 0) = false := beq_eq_false_iff_ne.2 (by omega)
        have hex : ∃ k, numV bd = some k ∧ numE bd = E k ∧ E k ≠ [] := by
          cases hv : numV bd with
          | none => exact absurd (by rw [hn2]; unfold numE; rw [hv]; rfl) h0
          | some k =>
            refine ⟨k, rfl, by unfold numE; rw [hv], fun e => h0 ?_⟩
            rw [hn2]
            unfold numE
            rw [hv]
            show (E k).length = 0
            rw [e]
            rfl
        obtain ⟨k, hv, he, hek⟩ := hex
        rw [hv] at HN
        rw [he] at hr2 hn2
        have HWR := Lib.hid (wrong_c w2 HW2.out.tab _ _ hr2 (by omega))
        rw [wrong_E k hek] at HWR
        have HR2 := Lib.hid hr2
        cases hx : xmlB k with
        | false =>
          rw [hx] at HWR
          have HN2 := Lib.hid (show refB bd = none from by rw [HN.out]; show (if xmlB k then some k else none) = none; rw [hx]; rfl)
          have HWR2 : Hid (Calls Tryz.prog 16 #[.slice p2 n2 c2] w2 fun e w' => e = .returned (.int .i64 0) ∧ Below w2.heap.size w2 w') := HWR
          clear h0 hn2 hr2 hb2 hcv hv he hek hx HWR
          go_wp2_with fail
          refine HWR2.out.mono ?_
          rintro e w3 ⟨rfl, hb3⟩
          have HB3 := Lib.hid (HB2.out.trans (hb3.mono HB2.out.size))
          clear hb3
          go_wp2_with fail
          go_ret2
          exact ⟨by rw [HN2.out]; rfl, HB3.out⟩
        | true =>
          rw [hx] at HWR
          have HN2 := Lib.hid (show refB bd = some k from by rw [HN.out]; show (if xmlB k then some k else none) = some k; rw [hx]; rfl)
          have HWR2 : Hid (Calls Tryz.prog 16 #[.slice p2 n2 c2] w2 fun e w' => e = .returned (.int .i64 (-1)) ∧ Below w2.heap.size w2 w') := HWR
          clear h0 hn2 hr2 hb2 hcv hv he hek hx HWR
          go_wp2_with fail
          refine HWR2.out.mono ?_
          rintro e w3 ⟨rfl, hb3⟩
          have HB3 := Lib.hid (HB2.out.trans (hb3.mono HB2.out.size))
          have hcv3 := (HR2.out.below hb3).conv (P := Tryz.prog) 22 5 9 Tryz.underlying22 Tryz.underlying5 Tryz.underlying9
          clear hb3
          go_wp2_with fail
          go_ret2
          exact ⟨by rw [HN2.out]; rfl, HB3.out⟩
end Go.Proofs.YtpcajjbdlfookaaGreatDoor
