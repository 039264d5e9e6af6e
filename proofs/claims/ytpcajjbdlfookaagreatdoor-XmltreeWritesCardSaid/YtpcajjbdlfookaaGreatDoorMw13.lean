/- xmllex: values resolved piece by piece, or made flat ahead of it. -/
import Derived.Test.YtpcajjbdlfookaaGreatDoorMw11
namespace Go.Proofs.YtpcajjbdlfookaaGreatDoor
open Go.RowKit
set_option linter.unusedVariables false

theorem lns_app : ∀ (p q : List UInt8), q.head? ≠ some 10 → lns (p ++ q) = lns p ++ lns q
  | [], q, _ => rfl
  | c :: p, q, h => by
    have ih := lns_app p q h
    have hh : (p ++ q).head? = some 10 ↔ p.head? = some 10 := by
      cases p with
      | nil => simp [h]
      | cons a t => simp
    rw [List.cons_append, lns, lns]
    by_cases h1 : c = 13
    · rw [if_pos h1, if_pos h1]
      by_cases h2 : p.head? = some 10
      · rw [if_pos (hh.2 h2), if_pos h2, ih]
      · rw [if_neg (fun x => h2 (hh.1 x)), if_neg h2, ih, List.cons_append]
    · rw [if_neg h1, if_neg h1, ih, List.cons_append]
theorem lns_ne : ∀ {p : List UInt8}, p ≠ [] → lns p ≠ []
  | [], h => absurd rfl h
  | c :: p, _ => by
    rw [lns]
    split
    · split
      · rename_i h2
        cases p with
        | nil => simp at h2
        | cons a t => exact lns_ne (by simp)
      · simp
    · simp
theorem lns_id : ∀ (p : List UInt8), (∀ x ∈ p, x ≠ 13) → lns p = p
  | [], _ => rfl
  | c :: p, h => by
    rw [lns, if_neg (h c (by simp)), lns_id p fun x hx => h x (by simp [hx])]
theorem lns_mem : ∀ (p : List UInt8) (x : UInt8), x ∈ lns p → x = 10 ∨ (x ∈ p ∧ x ≠ 13)
  | [], x, h => by simp [lns] at h
  | c :: p, x, h => by
    have ih := lns_mem p x
    rw [lns] at h
    split at h
    · split at h
      · rcases ih h with h | h
        · exact .inl h
        · exact .inr ⟨by simp [h.1], h.2⟩
      · rcases List.mem_cons.1 h with h | h
        · exact .inl h
        · rcases ih h with h | h
          · exact .inl h
          · exact .inr ⟨by simp [h.1], h.2⟩
    · rename_i hc
      rcases List.mem_cons.1 h with h | h
      · exact .inr ⟨by simp [h], by rw [h]; exact hc⟩
      · rcases ih h with h | h
        · exact .inl h
        · exact .inr ⟨by simp [h.1], h.2⟩

abbrev fl (x : List UInt8) : List UInt8 := pl true x
theorem fl_app (p q : List UInt8) (h : q.head? ≠ some 10) : fl (p ++ q) = fl p ++ fl q := by
  unfold fl pl
  rw [if_pos rfl, if_pos rfl, if_pos rfl, lns_app p q h, List.map_append]
theorem fl_cons {c : UInt8} (r : List UInt8) (h1 : c ≠ 13) (h2 : c ≠ 9) (h3 : c ≠ 10) : fl (c :: r) = c :: fl r := by
  unfold fl pl
  rw [if_pos rfl, if_pos rfl, lns, if_neg h1, List.map_cons, tr, if_neg (by simp [h2, h3])]
theorem fl_mem (p : List UInt8) (x : UInt8) (h : x ∈ fl p) : x = 32 ∨ (x ∈ p ∧ x ≠ 13 ∧ x ≠ 9 ∧ x ≠ 10) := by
  unfold fl pl at h
  rw [if_pos rfl, List.mem_map] at h
  obtain ⟨y, hy, rfl⟩ := h
  unfold tr
  by_cases h : y = 9 ∨ y = 10
  · rw [if_pos h]; exact .inl rfl
  · rw [if_neg h]
    rcases lns_mem p y hy with h1 | h1
    · exact absurd (.inr h1) h
    · exact .inr ⟨h1.1, h1.2, fun e => h (.inl e), fun e => h (.inr e)⟩
theorem fl_lns (p : List UInt8) : lns (fl p) = fl p := lns_id _ fun x hx => by
  rcases fl_mem p x hx with rfl | h
  · decide
  · exact h.2.1
theorem fl_ne {p : List UInt8} (h : p ≠ []) : fl p ≠ [] := by
  unfold fl pl
  rw [if_pos rfl]
  intro e
  exact lns_ne h (List.map_eq_nil_iff.1 e)
theorem fl_id (p : List UInt8) (h : ∀ x ∈ p, x ≠ 13 ∧ x ≠ 9 ∧ x ≠ 10) : fl p = p := by
  unfold fl pl
  rw [if_pos rfl, lns_id p fun x hx => (h x hx).1]
  conv => rhs; rw [← List.map_id p]
  apply List.map_congr_left
  intro x hx
  rw [tr, if_neg (by have := h x hx; simp [this])]
  rfl
theorem fl_len (p : List UInt8) : (fl p).length ≤ p.length := by
  unfold fl pl
  rw [if_pos rfl, List.length_map]
  exact lns_len p

/-- A byte that stands in no reference. -/
def oddB (c : UInt8) : Prop := c = 9 ∨ c = 10 ∨ c = 13 ∨ c = 32
theorem dgt_odd {base : Nat} {c : UInt8} (hb : base ≤ 16) (h : oddB c) : dgt base c = none := by
  unfold dgt
  rcases h with rfl | rfl | rfl | rfl <;> simp <;> omega
theorem numB_odd {base top : Nat} (hb : base ≤ 16) : ∀ (r : List UInt8) (n : Nat), (∃ c ∈ r, oddB c) → numB base top n r = none
  | [], n, h => by simp at h
  | c :: r, n, h => by
    rw [numB]
    obtain ⟨d, hd, ho⟩ := h
    rcases List.mem_cons.1 hd with rfl | hd
    · rw [dgt_odd hb ho]
    · cases dgt base c with
      | none => rfl
      | some k =>
        dsimp only
        split
        · rfl
        · exact numB_odd hb r _ ⟨d, hd, ho⟩
theorem refB_odd (s : List UInt8) (h : ∃ c ∈ s, oddB c) : refB s = none := by
  obtain ⟨c, hc, ho⟩ := h
  have hx : ∀ l : List UInt8, (∀ x ∈ l, ¬ oddB x) → s ≠ l := fun l hl e => hl c (e ▸ hc) ho
  have hno : ∀ x : UInt8, (x ≠ 9 ∧ x ≠ 10 ∧ x ≠ 13 ∧ x ≠ 32) → ¬ oddB x := fun x hx h => by
    rcases h with h | h | h | h <;> simp [h] at hx
  unfold refB
  rw [if_neg (hx _ (by intro x hx; apply hno; revert x; decide)), if_neg (hx _ (by intro x hx; apply hno; revert x; decide)), if_neg (hx _ (by intro x hx; apply hno; revert x; decide)), if_neg (hx _ (by intro x hx; apply hno; revert x; decide)), if_neg (hx _ (by intro x hx; apply hno; revert x; decide))]
  have key : ∀ (base : Nat) (m : List UInt8), base ≤ 16 → Lib.hasPrefix s m = true → (∀ x ∈ m, ¬ oddB x) → chNum base (s.drop m.length) = none := by
    intro base m hb hp hm
    have hin : ∃ c ∈ s.drop m.length, oddB c := by
      unfold Lib.hasPrefix at hp
      obtain ⟨t, ht⟩ := List.isPrefixOf_iff_prefix.1 hp
      rw [← ht] at hc ⊢
      rw [List.drop_left]
      rcases List.mem_append.1 hc with h | h
      · exact absurd ho (hm c h)
      · exact ⟨c, h, ho⟩
    unfold chNum
    split
    · rfl
    · rw [numB_odd hb _ _ hin]
  split
  · rename_i h
    exact key 16 [35, 120] (by omega) h (by intro x hx; apply hno; revert x; decide)
  · split
    · rename_i h
      exact key 10 [35] (by omega) h (by intro x hx; apply hno; revert x; decide)
    · rfl
theorem refA_len {r : List UInt8} {c n : Nat} (h : refA r = some (c, n)) : 1 ≤ n ∧ n ≤ r.length := by
  unfold refA at h
  split at h
  · simp at h
  · rename_i h1
    cases hb : refB ((r.drop 1).take ((Lib.index r [59]).toNat - 1)) with
    | none => rw [hb] at h; simp at h
    | some d =>
      rw [hb] at h
      simp only [Option.map_some, Option.some.injEq, Prod.mk.injEq] at h
      have := idx1_lt r 59
      rcases this with h2 | ⟨rfl, h2⟩ <;> omega
theorem refA_fl (r : List UInt8) : (refA (38 :: r) = none ∧ refA (fl (38 :: r)) = none) ∨ ∃ c n m, refA (38 :: r) = some (c, n) ∧ refA (fl (38 :: r)) = some (c, m) ∧ (fl (38 :: r)).drop m = fl ((38 :: r).drop n) := by
  have hf : fl (38 :: r) = 38 :: fl r := fl_cons r (by decide) (by decide) (by decide)
  rw [hf]
  unfold refA
  rw [idx1_ne (show (38 : UInt8) ≠ 59 by decide), idx1_ne (show (38 : UInt8) ≠ 59 by decide)]
  have hg := Lib.index_ge r [59]
  by_cases h : Lib.index r [59] < 0
  · left
    have h2 : Lib.index (fl r) [59] < 0 := (idx1_none _ _).2 fun x hx => by
      rcases fl_mem r x hx with rfl | hx
      · decide
      · exact (idx1_none _ _).1 h x hx.1
    rw [if_pos h, if_pos h2]
    exact ⟨rfl, rfl⟩
  · obtain ⟨i, hi⟩ : ∃ i : Nat, Lib.index r [59] = i := ⟨(Lib.index r [59]).toNat, by omega⟩
    obtain ⟨e1, e2, e3⟩ := idx1_split r 59 i hi
    have hs : fl r = fl (r.take i) ++ 59 :: fl (r.drop (i + 1)) := by
      conv => lhs; rw [e1]
      rw [fl_app _ _ (by simp), fl_cons _ (by decide) (by decide) (by decide)]
    have hn59 : ∀ x ∈ fl (r.take i), x ≠ 59 := fun x hx => by
      rcases fl_mem _ x hx with rfl | hx
      · decide
      · exact e2 x hx.1
    have hi2 : Lib.index (fl r) [59] = (fl (r.take i)).length := by rw [hs]; exact idx1_app _ _ _ hn59
    have n1 : ¬ ((i : Int) < 0) := by omega
    have n2 : ¬ ((i : Int) + 1 < 0) := by omega
    have n3 : ¬ (((fl (r.take i)).length : Int) < 0) := by omega
    have n4 : ¬ (((fl (r.take i)).length : Int) + 1 < 0) := by omega
    rw [hi, hi2]
    simp only [n1, n2, n3, n4, if_false]
    have t1 : ((i : Int) + 1).toNat = i + 1 := by omega
    have t2 : (((fl (r.take i)).length : Int) + 1).toNat = (fl (r.take i)).length + 1 := by omega
    rw [t1, t2]
    simp only [List.drop_succ_cons, List.drop_zero, Nat.add_sub_cancel]
    have hb2 : (fl r).take (fl (r.take i)).length = fl (r.take i) := by rw [hs]; exact List.take_left
    rw [hb2]
    by_cases ho : ∃ c ∈ r.take i, oddB c
    · left
      rw [refB_odd _ ho]
      by_cases h32 : ∃ c ∈ fl (r.take i), oddB c
      · rw [refB_odd _ h32]; exact ⟨rfl, rfl⟩
      · exfalso
        obtain ⟨c, hc, hoc⟩ := ho
        -- a byte 9, 10, 13 or 32 leaves a 32
        have : ∀ (p : List UInt8) (c : UInt8), c ∈ p → oddB c → ∃ d ∈ fl p, oddB d := by
          intro p
          induction p with
          | nil => intro c hc; simp at hc
          | cons a p ih =>
            intro c hc ho
            have hfa : fl (a :: p) = if a = 13 then (if p.head? = some 10 then fl p else 32 :: fl p) else tr a :: fl p := by
              unfold fl pl
              simp only [if_true]
              rw [lns]
              split
              · split
                · rfl
                · rfl
              · rfl
            rw [hfa]
            rcases List.mem_cons.1 hc with rfl | hc
            · by_cases h13 : c = 13
              · rw [if_pos h13]
                split
                · rename_i hh
                  cases p with
                  | nil => simp at hh
                  | cons b q =>
                    simp at hh
                    subst hh
                    exact ih 10 (by simp) (by simp [oddB])
                · exact ⟨32, by simp, by simp [oddB]⟩
              · rw [if_neg h13]
                refine ⟨tr c, by simp, ?_⟩
                unfold tr
                split
                · simp [oddB]
                · exact ho
            · obtain ⟨d, hd, hod⟩ := ih c hc ho
              split
              · split
                · exact ⟨d, hd, hod⟩
                · exact ⟨d, by simp [hd], hod⟩
              · exact ⟨d, by simp [hd], hod⟩
        exact h32 (this _ c hc hoc)
    · have hid : fl (r.take i) = r.take i := fl_id _ fun x hx => ⟨fun e => ho ⟨x, hx, by simp [oddB, e]⟩, fun e => ho ⟨x, hx, by simp [oddB, e]⟩, fun e => ho ⟨x, hx, by simp [oddB, e]⟩⟩
      cases hR : refB (r.take i) with
      | none => left; rw [hid, hR]; exact ⟨rfl, rfl⟩
      | some c =>
        right
        rw [hid, hR]
        refine ⟨c, i + 1 + 1, (r.take i).length + 1 + 1, rfl, rfl, ?_⟩
        simp only [List.drop_succ_cons]
        rw [hs, hid, ← List.drop_drop, List.drop_left]
        rfl

/-- The next reference of what is flat. -/
theorem upto_split (x : List UInt8) (hx : x ≠ []) (h : x.head? ≠ some 38) : x = x.take (upto x) ++ x.drop (upto x) ∧ (∀ c ∈ x.take (upto x), c ≠ 38) ∧ x.take (upto x) ≠ [] ∧ (x.drop (upto x) = [] ∨ ∃ s, x.drop (upto x) = 38 :: s) ∧ 1 ≤ upto x ∧ upto x ≤ x.length := by
  refine ⟨(List.take_append_drop _ _).symm, ?_⟩
  unfold upto
  have hl := List.length_pos_iff.2 hx
  by_cases hi : Lib.index x [38] < 0
  · rw [if_pos hi]
    have := (idx1_none _ _).1 hi
    exact ⟨by simpa using this, by simpa using hx, .inl (by simp), hl, Nat.le_refl _⟩
  · rw [if_neg hi]
    obtain ⟨i, hii⟩ : ∃ i : Nat, Lib.index x [38] = i := ⟨(Lib.index x [38]).toNat, by omega⟩
    obtain ⟨e1, e2, e3⟩ := idx1_split x 38 i hii
    rw [hii, Int.toNat_natCast]
    have h1 : 1 ≤ i := by
      rcases Nat.eq_zero_or_pos i with h0 | h0
      · subst h0
        rw [e1] at h
        simp at h
      · exact h0
    refine ⟨e2, ?_, .inr ⟨x.drop (i + 1), ?_⟩, h1, by omega⟩
    · intro e
      have := congrArg List.length e
      rw [List.length_take, List.length_nil] at this
      omega
    · conv => lhs; rw [e1]
      rw [List.drop_append_of_le_length (by simp; omega), List.drop_take]
      simp
theorem upto_app (p q : List UInt8) (hp : ∀ c ∈ p, c ≠ 38) (hq : q = [] ∨ ∃ s, q = 38 :: s) : upto (p ++ q) = p.length := by
  unfold upto
  rcases hq with rfl | ⟨s, rfl⟩
  · rw [List.append_nil, if_pos ((idx1_none _ _).2 hp)]
  · rw [idx1_app p s 38 hp, if_neg (by omega)]
    rfl

def okOf {α : Type} (x : Except Nat α) : Option α := match x with
  | .error _ => none
  | .ok v => some v
theorem flat_rs : ∀ (f : Nat) (x : List UInt8) (g a b : Nat) (out : List UInt8), x.length < f → (fl x).length < g → okOf (rsF g false (fl x) a out) = okOf (rsF f true x b out)
  | 0, x, g, a, b, out, h, _ => by omega
  | f + 1, x, g, a, b, out, hf, hg => by
    obtain ⟨g, rfl⟩ : ∃ k, g = k + 1 := ⟨g - 1, by omega⟩
    rw [rsF, rsF]
    by_cases hx : x = []
    · subst hx
      rfl
    · rw [if_neg hx, if_neg (fl_ne hx)]
      by_cases h38 : x.head? = some 38
      · obtain ⟨r, rfl⟩ : ∃ r, x = 38 :: r := by
          cases x with
          | nil => simp at h38
          | cons c r => simp at h38; exact ⟨r, by rw [h38]⟩
        have hfc : fl (38 :: r) = 38 :: fl r := fl_cons r (by decide) (by decide) (by decide)
        rw [if_pos h38, if_pos (by rw [hfc]; rfl)]
        rcases refA_fl r with ⟨e1, e2⟩ | ⟨c, n, m, e1, e2, e3⟩
        · rw [e1, e2]; rfl
        · rw [e1, e2]
          dsimp only
          rw [e3]
          have l1 := refA_len e1
          have l2 := refA_len e2
          have := congrArg List.length e3
          rw [List.length_drop] at this
          exact flat_rs f _ g _ _ _ (by rw [List.length_drop]; simp at hf l1 ⊢; omega) (by omega)
      · obtain ⟨s1, s2, s3, s4, s5, s6⟩ := upto_split x hx h38
        obtain ⟨p, hp⟩ : ∃ p, p = x.take (upto x) := ⟨_, rfl⟩
        obtain ⟨q, hq⟩ : ∃ q, q = x.drop (upto x) := ⟨_, rfl⟩
        have hlq : q.length < x.length := by rw [hq, List.length_drop]; omega
        rw [← hp, ← hq] at s1
        rw [← hp] at s2 s3
        rw [← hq] at s4
        have hfx : fl x = fl p ++ fl q := by
          rw [s1]
          exact fl_app p q (by rcases s4 with h | ⟨s, h⟩ <;> rw [h] <;> simp)
        have hfp : ∀ c ∈ fl p, c ≠ 38 := fun c hc => by
          rcases fl_mem p c hc with rfl | h
          · decide
          · exact s2 c h.1
        have hfq : fl q = [] ∨ ∃ s, fl q = 38 :: s := by
          rcases s4 with h | ⟨s, h⟩
          · left; rw [h]; rfl
          · right; rw [h, fl_cons s (by decide) (by decide) (by decide)]; exact ⟨_, rfl⟩
        have hu : upto (fl x) = (fl p).length := by rw [hfx]; exact upto_app _ _ hfp hfq
        have hne := fl_ne s3
        have hh : ¬ (fl x).head? = some 38 := by
          rw [hfx]
          cases hc : fl p with
          | nil => exact absurd hc hne
          | cons c t => simp; exact hfp c (by rw [hc]; simp)
        rw [if_neg h38, if_neg hh, hu]
        have e1 : (fl x).drop (fl p).length = fl q := by rw [hfx]; exact List.drop_left
        have e2 : (fl x).take (fl p).length = fl p := by rw [hfx]; exact List.take_left
        rw [e1, e2, ← hp, ← hq, show pl false (fl p) = fl p from by unfold pl; rw [if_neg (by simp)]; exact fl_lns p]
        have hl2 := congrArg List.length hfx
        rw [List.length_append] at hl2
        have := List.length_pos_iff.2 hne
        exact flat_rs f q g _ _ _ (by omega) (by omega)
theorem rsT_flat (x : List UInt8) : okOf (rsT false (pl true x)) = okOf (rsT true x) := flat_rs _ x _ _ _ _ (by omega) (by unfold fl; omega)
theorem val_eq (q : UInt8) (t : List UInt8) : valQ q t = valR q t := by
  unfold valQ valR
  have hg := Lib.index_ge t [q]
  by_cases h : Lib.index t [q] < 0
  · rw [if_pos h, if_pos (.inl h)]
  · rw [if_neg h]
    have hi := idx1_take t 60 (Lib.index t [q]).toNat
    have hk : ((Lib.index t [q]).toNat : Int) = Lib.index t [q] := by omega
    rw [hk] at hi
    by_cases h2 : 0 ≤ Lib.index (t.take (Lib.index t [q]).toNat) [60]
    · rw [if_pos h2, if_pos (.inr (hi.1 h2))]
    · rw [if_neg h2, if_neg (fun h3 => h3.elim h fun h3 => h2 (hi.2 h3))]
      have hf := rsT_flat (t.take (Lib.index t [q]).toNat)
      cases h5 : rsT false (pl true (t.take (Lib.index t [q]).toNat)) <;> cases h6 : rsT true (t.take (Lib.index t [q]).toNat) <;> rw [h5, h6] at hf <;> simp [okOf] at hf
      all_goals first | rfl | rw [hf]
theorem attr_eq (r : List UInt8) : attrP r = attrR r := by
  unfold attrP attrR
  cases h : tagP r with
  | none =>
    rcases tag_none h with h0 | ⟨s, hs⟩
    · rw [if_pos (.inl h0)]
    · have hb : blN (r.drop (tagR r)) = 0 := blN_zero hs (by decide)
      rw [if_pos (.inr (by rw [hb, Nat.add_zero, hs]; rfl))]
  | some n =>
    obtain ⟨h1, h2⟩ := tag_some h
    rw [h1]
    dsimp only
    cases hp : Lib.hasPrefix (r.drop (n + blN (r.drop n))) [61] with
    | false => rw [if_neg (show ¬ (false = true) by decide), if_pos (show n = 0 ∨ false = false from .inr rfl)]
    | true =>
      rw [if_pos rfl, if_neg (show ¬ (n = 0 ∨ true = false) from by simp [h2])]
      obtain ⟨k, hk⟩ : ∃ k, k = n + blN (r.drop n) + 1 + blN (r.drop (n + blN (r.drop n) + 1)) := ⟨_, rfl⟩
      rw [← hk]
      unfold valP
      rw [List.drop_drop]
      cases h39 : Lib.hasPrefix (r.drop k) [39] with
      | true =>
        obtain ⟨s, hs⟩ := pre_head h39
        rw [if_pos rfl, if_neg (by simp), hs, val_eq]
        rfl
      | false =>
        cases h34 : Lib.hasPrefix (r.drop k) [34] with
        | true =>
          obtain ⟨s, hs⟩ := pre_head h34
          rw [if_neg (by simp), if_pos rfl, if_neg (by simp), hs, val_eq]
          rfl
        | false => rfl
theorem opn_eq (t : List UInt8) : opnP t = opnR t := by
  unfold opnP opnR
  rw [show attrP = attrR from funext attr_eq]
  cases h : tagP t with
  | some n =>
    obtain ⟨h1, h2⟩ := tag_some h
    rw [h1, if_neg h2]
  | none =>
    rcases tag_none h with h0 | ⟨s, hs⟩
    · rw [if_pos h0]
    · by_cases h0 : tagR t = 0
      · rw [if_pos h0]
      · rw [if_neg h0, opnF, hs, blN_zero rfl (by decide), List.drop_zero, pre_not (by decide), pre_not (by decide)]
        rfl
/-- Both ways: the token at an offset. -/
theorem nxt_eq (xs : List UInt8) (k : Int) : nxt insP opnP cloP xs k = nxt insR opnR cloR xs k := by
  rw [show insP = insR from funext ins_eq, show opnP = opnR from funext opn_eq, show cloP = cloR from funext clo_eq]
end Go.Proofs.YtpcajjbdlfookaaGreatDoor
