/- tree: mathematics: parts of a path, where a byte stands last, the order of parts and of paths. -/
import Derived.Test.YtllhlmdhnmdihaaDoorMi01
import Derived.Lib.Bytealg
import Derived.Lib.LastIndexLaws
namespace Go.Proofs.YtllhlmdhnmdihaaDoor
open Go Go.RowKit
set_option linter.unusedVariables false

def splitS : List UInt8 → List (List UInt8)
  | [] => [[]]
  | c :: r => if c = 47 then [] :: splitS r else (c :: (splitS r).headD []) :: (splitS r).tail
theorem splitS_ne (l : List UInt8) : splitS l ≠ [] := by
  cases l with
  | nil => simp [splitS]
  | cons c r => unfold splitS; split <;> simp
theorem splitS_cons (l : List UInt8) : splitS l = (splitS l).headD [] :: (splitS l).tail := by
  have := splitS_ne l
  cases h : splitS l with
  | nil => exact absurd h this
  | cons a b => rfl
theorem splitS_dot (xs ys : List UInt8) (h : (47 : UInt8) ∉ xs) : splitS (xs ++ 47 :: ys) = xs :: splitS ys := by
  induction xs with
  | nil => simp [splitS]
  | cons c r ih =>
    have hc : c ≠ 47 := fun e => h (by simp [e])
    have := ih (fun e => h (by simp [e]))
    rw [List.cons_append, splitS, if_neg hc, this]
    rfl
theorem splitS_last (xs : List UInt8) (h : (47 : UInt8) ∉ xs) : splitS xs = [xs] := by
  induction xs with
  | nil => rfl
  | cons c r ih =>
    have hc : c ≠ 47 := fun e => h (by simp [e])
    rw [splitS, if_neg hc, ih (fun e => h (by simp [e]))]
    rfl
theorem splitS_length (l : List UInt8) : (splitS l).length ≤ l.length + 1 := by
  induction l with
  | nil => simp [splitS]
  | cons c r ih =>
    unfold splitS
    split
    · simp; omega
    · have h := splitS_cons r
      have : (splitS r).length = (splitS r).tail.length + 1 := by rw [h]; simp
      simp only [List.length_cons]; omega
theorem splitS_mem (l : List UInt8) : ∀ x ∈ splitS l, x.length ≤ l.length ∧ (47 : UInt8) ∉ x := by
  induction l with
  | nil => intro x hx; simp [splitS] at hx; subst hx; simp
  | cons c r ih =>
    intro x hx
    unfold splitS at hx
    split at hx
    · rcases List.mem_cons.1 hx with rfl | hx
      · simp
      · have := ih x hx; exact ⟨by simp; omega, this.2⟩
    · rename_i hc
      rw [splitS_cons r] at ih
      rcases List.mem_cons.1 hx with rfl | hx
      · have := ih _ (List.mem_cons_self ..)
        exact ⟨by have h1 := this.1; simp only [List.length_cons]; omega, by simp only [List.mem_cons, not_or]; exact ⟨fun e => hc e.symm, this.2⟩⟩
      · have := ih x (List.mem_cons_of_mem _ hx); exact ⟨by simp; omega, this.2⟩
def joinS : List (List UInt8) → List UInt8
  | [] => []
  | [x] => x
  | x :: y :: r => x ++ 47 :: joinS (y :: r)
theorem joinS_cons (x : List UInt8) (r : List (List UInt8)) (h : r ≠ []) : joinS (x :: r) = x ++ 47 :: joinS r := by
  cases r with
  | nil => exact absurd rfl h
  | cons y r => rfl
theorem joinS_splitS (l : List UInt8) : joinS (splitS l) = l := by
  induction l with
  | nil => rfl
  | cons c r ih =>
    unfold splitS
    split
    · rename_i hc
      rw [joinS_cons _ _ (splitS_ne r), ih, hc]; rfl
    · rw [splitS_cons r] at ih
      cases ht : (splitS r).tail with
      | nil => rw [ht] at ih; show c :: _ = _; rw [show (splitS r).headD [] = r from ih]
      | cons y t =>
        rw [ht] at ih
        rw [joinS_cons _ _ (by simp)] at ih ⊢
        rw [List.cons_append, ih]
theorem compareBytes_refl (a : List UInt8) : Lib.compareBytes a a = 0 := by
  induction a with
  | nil => rfl
  | cons x r ih => unfold Lib.compareBytes; rw [if_neg (by simp), if_neg (by simp), ih]
theorem compareBytes_three (a b : List UInt8) : (Lib.compareBytes a b = -1 ∧ Lib.compareBytes b a = 1) ∨ (Lib.compareBytes a b = 0 ∧ Lib.compareBytes b a = 0 ∧ a = b) ∨ (Lib.compareBytes a b = 1 ∧ Lib.compareBytes b a = -1) := by
  induction a generalizing b with
  | nil => cases b <;> simp [Lib.compareBytes]
  | cons x r ih =>
    cases b with
    | nil => simp [Lib.compareBytes]
    | cons y s =>
      unfold Lib.compareBytes
      by_cases h1 : x < y
      · have h2 : ¬ y < x := by rw [UInt8.lt_iff_toNat_lt] at *; omega
        simp [h1, h2]
      · by_cases h2 : y < x
        · simp [h1, h2]
        · have e : x = y := by rw [UInt8.lt_iff_toNat_lt] at *; exact UInt8.toNat_inj.1 (by omega)
          simp only [h1, h2, if_false]
          rcases ih s with h | h | h
          · exact .inl h
          · exact .inr (.inl ⟨h.1, h.2.1, by rw [e, h.2.2]⟩)
          · exact .inr (.inr h)
theorem compareBytes_trans (a b c : List UInt8) (h1 : Lib.compareBytes a b = -1) (h2 : Lib.compareBytes b c = -1) : Lib.compareBytes a c = -1 := by
  induction a generalizing b c with
  | nil =>
    cases c with
    | nil => cases b <;> simp [Lib.compareBytes] at h1 h2
    | cons z t => rfl
  | cons x r ih =>
    cases b with
    | nil => simp [Lib.compareBytes] at h1
    | cons y s =>
      cases c with
      | nil => simp [Lib.compareBytes] at h2
      | cons z t =>
        unfold Lib.compareBytes at h1 h2 ⊢
        simp only [UInt8.lt_iff_toNat_lt] at h1 h2 ⊢
        by_cases a1 : x.toNat < y.toNat
        · by_cases b1 : y.toNat < z.toNat
          · rw [if_pos (by omega)]
          · rw [if_neg b1] at h2
            by_cases b2 : z.toNat < y.toNat
            · rw [if_pos b2] at h2; simp at h2
            · rw [if_pos (by omega)]
        · rw [if_neg a1] at h1
          by_cases a2 : y.toNat < x.toNat
          · rw [if_pos a2] at h1; simp at h1
          · rw [if_neg a2] at h1
            by_cases b1 : y.toNat < z.toNat
            · rw [if_pos (by omega)]
            · rw [if_neg b1] at h2
              by_cases b2 : z.toNat < y.toNat
              · rw [if_pos b2] at h2; simp at h2
              · rw [if_neg b2] at h2
                rw [if_neg (by omega), if_neg (by omega)]
                exact ih s t h1 h2
abbrev PT := List UInt8 × Int
def cmpI (x y : Int) : Int := if x < y then -1 else if y < x then 1 else 0
def cmpP (p q : PT) : Int := if Lib.compareBytes p.1 q.1 = 0 then cmpI p.2 q.2 else Lib.compareBytes p.1 q.1
theorem cmpP_three (p q : PT) : (cmpP p q = -1 ∧ cmpP q p = 1) ∨ (cmpP p q = 0 ∧ cmpP q p = 0 ∧ p = q) ∨ (cmpP p q = 1 ∧ cmpP q p = -1) := by
  unfold cmpP cmpI
  rcases compareBytes_three p.1 q.1 with h | h | h
  · rw [h.1, h.2]; simp
  · rw [h.1, h.2.1]
    simp only [if_true]
    rcases Int.lt_trichotomy p.2 q.2 with g | g | g
    · left; rw [if_pos g, if_neg (by omega), if_pos g]; simp
    · right; left; rw [if_neg (by omega), if_neg (by omega)]; exact ⟨rfl, by rw [if_neg (by omega), if_neg (by omega)], Prod.ext h.2.2 g⟩
    · right; right; rw [if_neg (by omega), if_pos g, if_pos g]; simp
  · rw [h.1, h.2]; simp
theorem cmpP_trans (p q r : PT) (h1 : cmpP p q = -1) (h2 : cmpP q r = -1) : cmpP p r = -1 := by
  unfold cmpP cmpI at *
  rcases compareBytes_three p.1 q.1 with h | h | h
  · rcases compareBytes_three q.1 r.1 with g | g | g
    · rw [compareBytes_trans _ _ _ h.1 g.1]; simp
    · rw [← g.2.2, h.1]; simp
    · rw [g.1] at h2; simp at h2
  · rcases compareBytes_three q.1 r.1 with g | g | g
    · rw [h.2.2, g.1]; simp
    · rw [h.1] at h1
      rw [g.1] at h2
      simp only [if_true] at h1 h2
      rw [h.2.2, g.1]
      simp only [if_true]
      split at h1
      · split at h2
        · rw [if_pos (by omega)]
        · split at h2 <;> simp at h2
      · split at h1 <;> simp at h1
    · rw [g.1] at h2; simp at h2
  · rw [h.1] at h1; simp at h1
theorem idx_cases (c : UInt8) (l : List UInt8) : (Lib.indexByte l c = -1 ∧ c ∉ l) ∨ ∃ k : Nat, Lib.indexByte l c = (k : Int) ∧ k < l.length ∧ c ∉ l.take k ∧ l = l.take k ++ c :: l.drop (k + 1) := by
  induction l with
  | nil => exact .inl ⟨rfl, by simp⟩
  | cons a r ih =>
    unfold Lib.indexByte
    by_cases h : a = c
    · subst h
      exact .inr ⟨0, by simp, by simp, by simp, by simp⟩
    · rw [if_neg (by simpa using h)]
      rcases ih with ⟨h1, h2⟩ | ⟨k, h1, h2, h3, h4⟩
      · exact .inl ⟨by rw [h1]; simp, by simp only [List.mem_cons, not_or]; exact ⟨fun e => h e.symm, h2⟩⟩
      · refine .inr ⟨k + 1, ?_, by simpa using h2, ?_, ?_⟩
        · rw [h1, if_neg (by simp)]; rfl
        · simp only [List.take_succ_cons, List.mem_cons, not_or]; exact ⟨fun e => h e.symm, h3⟩
        · simp only [List.take_succ_cons, List.drop_succ_cons, List.cons_append, ← h4]
theorem cutTo (s : ByteArray) (z : Nat) : s.extract 0 z = ⟨(s.data.toList.take z).toArray⟩ := by
  apply ByteArray.ext
  rw [ByteArray.data_extract]
  apply Array.toList_inj.1
  rw [Array.toList_extract, List.extract_eq_take_drop]
  simp
theorem cutFrom (s : ByteArray) (k : Nat) : s.extract k s.size = ⟨(s.data.toList.drop k).toArray⟩ := by
  apply ByteArray.ext
  rw [ByteArray.data_extract]
  apply Array.toList_inj.1
  rw [Array.toList_extract, List.extract_eq_take_drop]
  show _ = s.data.toList.drop k
  rw [List.take_of_length_le (by rw [List.length_drop, Array.length_toList]; exact Nat.le_refl _)]
def LastIs (l : List UInt8) (x : UInt8) (z : Int) : Prop := (z = -1 ∧ x ∉ l) ∨ ∃ k : Nat, z = (k : Int) ∧ k < l.length ∧ l = l.take k ++ x :: l.drop (k + 1) ∧ x ∉ l.drop (k + 1)
theorem lastIs_at (l : List UInt8) (x : UInt8) (k : Nat) (hk : k < l.length) (hx : l[k] = x) (hn : x ∉ l.drop (k + 1)) : LastIs l x k :=
  .inr ⟨k, rfl, hk, by rw [← hx, ← List.drop_eq_getElem_cons hk, List.take_append_drop], hn⟩
theorem getElem_of_cut {l a b : List UInt8} {x : UInt8} {k : Nat} (h : l = a ++ x :: b) (ha : a.length = k) (hk : k < l.length) : l[k] = x := by
  subst h
  rw [List.getElem_append_right (by omega)]
  simp [ha]
theorem lastIs_unique (l : List UInt8) (x : UInt8) (y z : Int) (hy : LastIs l x y) (hz : LastIs l x z) : y = z := by
  have key : ∀ (i j : Nat), i < l.length → j < l.length → l = l.take i ++ x :: l.drop (i + 1) → l = l.take j ++ x :: l.drop (j + 1) → x ∉ l.drop (i + 1) → ¬ i < j := by
    intro i j hi hj e1 e2 hn hij
    apply hn
    have hx : l[j] = x := getElem_of_cut e2 (by rw [List.length_take]; omega) hj
    rw [← hx]
    have : (l.drop (i + 1))[j - (i + 1)]'(by rw [List.length_drop]; omega) = l[j] := by
      rw [List.getElem_drop]
      congr 1
      omega
    rw [← this]
    exact List.getElem_mem _
  rcases hy with ⟨rfl, h1⟩ | ⟨i, rfl, hi, e1, n1⟩
  · rcases hz with ⟨rfl, _⟩ | ⟨j, rfl, hj, e2, n2⟩
    · rfl
    · exact absurd (show x ∈ l by rw [e2]; simp) h1
  · rcases hz with ⟨rfl, h2⟩ | ⟨j, rfl, hj, e2, n2⟩
    · exact absurd (show x ∈ l by rw [e1]; simp) h2
    · have a := key i j hi hj e1 e2 n1
      have b := key j i hj hi e2 e1 n2
      omega
theorem occ_one (l : List UInt8) (x : UInt8) (i : Nat) (hi : i < l.length) : Lib.occAt l [x] i = true ↔ l[i] = x := by
  unfold Lib.occAt
  rw [List.drop_eq_getElem_cons hi]
  show (x == l[i] && List.isPrefixOf [] _) = true ↔ _
  rw [show List.isPrefixOf ([] : List UInt8) (l.drop (i + 1)) = true from rfl, Bool.and_true, beq_iff_eq]
  exact eq_comm
theorem lastIs_lib (l : List UInt8) (x : UInt8) : LastIs l x (Lib.lastIndex l [x]) := by
  unfold Lib.lastIndex
  by_cases h0 : l.length = 0
  · have : l = [] := List.eq_nil_of_length_eq_zero h0
    subst this
    exact .inl ⟨by simp, by simp⟩
  · rw [if_pos (by simp; omega), show l.length - [x].length + 1 = l.length from by simp; omega]
    rcases Lib.lastOcc_spec l [x] l.length with ⟨e, hn⟩ | ⟨i, hi, e, ho, hn⟩
    · refine .inl ⟨e, fun hm => ?_⟩
      obtain ⟨j, hj, hx⟩ := List.getElem_of_mem hm
      have := hn j hj
      rw [(occ_one l x j hj).2 hx] at this
      cases this
    · rw [e]
      refine lastIs_at l x i hi ((occ_one l x i hi).1 ho) fun hm => ?_
      obtain ⟨j, hj, hx⟩ := List.getElem_of_mem hm
      rw [List.length_drop] at hj
      have h1 : i + 1 + j < l.length := by omega
      have := hn (i + 1 + j) (by omega) h1
      rw [List.getElem_drop] at hx
      rw [(occ_one l x _ h1).2 hx] at this
      cases this

/-- A part's item and number. -/
def lastP (l : List UInt8) : PT :=
  let z := Lib.lastIndex l [46]
  if z < 1 then ([], 0) else if (num (l.drop (z.toNat + 1))).2 ≠ 0 ∨ (num (l.drop (z.toNat + 1))).1 < 1 then ([], 0) else (l.take z.toNat, (num (l.drop (z.toNat + 1))).1)
theorem lastP_off (l : List UInt8) (z : Int) (hz : Lib.lastIndex l [46] = z) (h : z < 1) : lastP l = ([], 0) := by
  unfold lastP; simp only [hz, if_pos h]
theorem lastP_bad (l : List UInt8) (z : Int) (hz : Lib.lastIndex l [46] = z) (h : (num (l.drop (z.toNat + 1))).2 ≠ 0 ∨ (num (l.drop (z.toNat + 1))).1 < 1) : lastP l = ([], 0) := by
  unfold lastP
  simp only [hz, if_pos h]
  split <;> rfl
theorem lastP_ok (l : List UInt8) (z : Int) (hz : Lib.lastIndex l [46] = z) (h1 : 1 ≤ z) (h : (num (l.drop (z.toNat + 1))).2 = 0) (h2 : 1 ≤ (num (l.drop (z.toNat + 1))).1) : lastP l = (l.take z.toNat, (num (l.drop (z.toNat + 1))).1) := by
  unfold lastP
  simp only [hz]
  rw [if_neg (by omega), if_neg (by omega)]

/-- The order of two parts. -/
def cmpX (x y : List UInt8) : Int := if cmpP (lastP x) (lastP y) = 0 then Lib.compareBytes x y else cmpP (lastP x) (lastP y)
theorem cmpX_three (x y : List UInt8) : (cmpX x y = -1 ∧ cmpX y x = 1) ∨ (cmpX x y = 0 ∧ cmpX y x = 0 ∧ x = y) ∨ (cmpX x y = 1 ∧ cmpX y x = -1) := by
  unfold cmpX
  rcases cmpP_three (lastP x) (lastP y) with h | h | h
  · rw [h.1, h.2]; simp
  · rw [h.1, h.2.1]; simp only [if_true]; exact compareBytes_three x y
  · rw [h.1, h.2]; simp
theorem cmpX_trans (x y z : List UInt8) (h1 : cmpX x y = -1) (h2 : cmpX y z = -1) : cmpX x z = -1 := by
  unfold cmpX at *
  rcases cmpP_three (lastP x) (lastP y) with h | h | h
  · rcases cmpP_three (lastP y) (lastP z) with g | g | g
    · rw [cmpP_trans _ _ _ h.1 g.1]; simp
    · rw [← g.2.2, h.1]; simp
    · rw [g.1] at h2; simp at h2
  · rcases cmpP_three (lastP y) (lastP z) with g | g | g
    · rw [h.2.2, g.1]; simp
    · rw [h.1] at h1
      rw [g.1] at h2
      simp only [if_true] at h1 h2
      rw [h.2.2, g.1]
      simp only [if_true]
      exact compareBytes_trans x y z h1 h2
    · rw [g.1] at h2; simp at h2
  · rw [h.1] at h1; simp at h1
def cmpL : List (List UInt8) → List (List UInt8) → Int
  | [], [] => 0
  | [], _ :: _ => -1
  | _ :: _, [] => 1
  | p :: r, q :: s => if cmpX p q = 0 then cmpL r s else cmpX p q
theorem cmpL_three (a b : List (List UInt8)) : (cmpL a b = -1 ∧ cmpL b a = 1) ∨ (cmpL a b = 0 ∧ cmpL b a = 0 ∧ a = b) ∨ (cmpL a b = 1 ∧ cmpL b a = -1) := by
  induction a generalizing b with
  | nil => cases b <;> simp [cmpL]
  | cons p r ih =>
    cases b with
    | nil => simp [cmpL]
    | cons q s =>
      unfold cmpL
      rcases cmpX_three p q with h | h | h
      · rw [h.1, h.2]; simp
      · rw [h.1, h.2.1]
        simp only [if_true]
        rcases ih s with g | g | g
        · exact .inl g
        · exact .inr (.inl ⟨g.1, g.2.1, by rw [h.2.2, g.2.2]⟩)
        · exact .inr (.inr g)
      · rw [h.1, h.2]; simp
theorem cmpL_trans (a b c : List (List UInt8)) (h1 : cmpL a b ≤ 0) (h2 : cmpL b c ≤ 0) : cmpL a c ≤ 0 := by
  induction a generalizing b c with
  | nil => cases c <;> simp [cmpL]
  | cons p r ih =>
    cases b with
    | nil => simp [cmpL] at h1
    | cons q s =>
      cases c with
      | nil => simp [cmpL] at h2
      | cons t u =>
        unfold cmpL at h1 h2 ⊢
        rcases cmpX_three p q with h | h | h
        · rcases cmpX_three q t with g | g | g
          · rw [cmpX_trans p q t h.1 g.1]; simp
          · rw [← g.2.2, h.1]; simp
          · rw [g.1] at h2; simp at h2
        · rw [h.1] at h1
          rw [h.2.2]
          rcases cmpX_three q t with g | g | g
          · rw [g.1]; simp
          · rw [g.1] at h2 ⊢
            simp only [if_true] at h1 h2 ⊢
            exact ih s u h1 h2
          · rw [g.1] at h2; simp at h2
        · rw [h.1] at h1; simp at h1
theorem cmpL_range (a b : List (List UInt8)) : cmpL a b = -1 ∨ cmpL a b = 0 ∨ cmpL a b = 1 := by
  rcases cmpL_three a b with h | h | h
  · exact .inl h.1
  · exact .inr (.inl h.1)
  · exact .inr (.inr h.1)

/-- The order of two paths. -/
def ordF (a b : List UInt8) : Int := cmpL (splitS a) (splitS b)
theorem ordF_three (a b : List UInt8) : (ordF a b = -1 ∧ ordF b a = 1) ∨ (ordF a b = 0 ∧ ordF b a = 0 ∧ a = b) ∨ (ordF a b = 1 ∧ ordF b a = -1) := by
  unfold ordF
  rcases cmpL_three (splitS a) (splitS b) with h | h | h
  · exact .inl h
  · exact .inr (.inl ⟨h.1, h.2.1, by rw [← joinS_splitS a, ← joinS_splitS b, h.2.2]⟩)
  · exact .inr (.inr h)
theorem ordF_trans (a b c : List UInt8) (h1 : ordF a b ≤ 0) (h2 : ordF b c ≤ 0) : ordF a c ≤ 0 := cmpL_trans _ _ _ h1 h2
theorem cmpX_self (x : List UInt8) : cmpX x x = 0 := by
  rcases cmpX_three x x with h | h | h
  · rw [h.1] at h; simp at h
  · exact h.1
  · rw [h.1] at h; simp at h
theorem cmpX_ne (x y : List UInt8) (h : x ≠ y) : cmpX x y ≠ 0 := by
  rcases cmpX_three x y with g | g | g
  · rw [g.1]; decide
  · exact absurd g.2.2 h
  · rw [g.1]; decide

/-- What is ahead of the first slash, and behind it. -/
def cutS : List UInt8 → List UInt8 × List UInt8
  | [] => ([], [])
  | c :: r => if c = 47 then ([], r) else (c :: (cutS r).1, (cutS r).2)
theorem cutS_none (l : List UInt8) (h : (47 : UInt8) ∉ l) : cutS l = (l, []) := by
  induction l with
  | nil => rfl
  | cons c r ih =>
    have hc : c ≠ 47 := fun e => h (by simp [e])
    rw [cutS, if_neg hc, ih (fun e => h (by simp [e]))]
theorem cutS_of (a b : List UInt8) (h : (47 : UInt8) ∉ a) : cutS (a ++ 47 :: b) = (a, b) := by
  induction a with
  | nil => simp [cutS]
  | cons c r ih =>
    have hc : c ≠ 47 := fun e => h (by simp [e])
    rw [List.cons_append, cutS, if_neg hc, ih (fun e => h (by simp [e]))]
theorem cutS_le (l : List UInt8) : (cutS l).1.length ≤ l.length ∧ (cutS l).2.length ≤ l.length ∧ (47 ∈ l → (cutS l).2.length < l.length) := by
  induction l with
  | nil => simp [cutS]
  | cons c r ih =>
    unfold cutS
    split
    · simp
    · rename_i hc
      have hc' : ¬ 47 = c := fun e => hc e.symm
      simp only [List.length_cons, List.mem_cons, hc', false_or]
      exact ⟨by omega, by omega, fun h => by have := ih.2.2 h; omega⟩
theorem split_cut (l : List UInt8) : splitS l = if 47 ∈ l then (cutS l).1 :: splitS (cutS l).2 else [(cutS l).1] := by
  by_cases h : 47 ∈ l
  · rw [if_pos h]
    rcases idx_cases 47 l with ⟨_, hn⟩ | ⟨k, _, hk, hn, hc⟩
    · exact absurd h hn
    · have hcut : cutS l = (l.take k, l.drop (k + 1)) := by
        conv => lhs; rw [hc]
        exact cutS_of _ _ hn
      rw [hcut]
      conv => lhs; rw [hc]
      exact splitS_dot _ _ hn
  · rw [if_neg h, cutS_none l h]; exact splitS_last l h
theorem cutS_no (l : List UInt8) : (47 : UInt8) ∉ (cutS l).1 := by
  induction l with
  | nil => simp [cutS]
  | cons c r ih =>
    unfold cutS
    split
    · simp
    · rename_i hc
      simp only [List.mem_cons, not_or]
      exact ⟨fun e => hc e.symm, ih⟩
theorem ordF_ne (a b : List UInt8) (h : (cutS a).1 ≠ (cutS b).1) : ordF a b = cmpX (cutS a).1 (cutS b).1 := by
  unfold ordF
  rw [split_cut a, split_cut b]
  have hx := cmpX_ne _ _ h
  split <;> split <;> (unfold cmpL; rw [if_neg hx])
theorem ordF_eq (a b : List UInt8) (h : (cutS a).1 = (cutS b).1) : ordF a b = if 47 ∈ a then (if 47 ∈ b then ordF (cutS a).2 (cutS b).2 else 1) else (if 47 ∈ b then -1 else 0) := by
  unfold ordF
  rw [split_cut a, split_cut b, h]
  have hx := cmpX_self (cutS b).1
  have hn := splitS_ne (cutS a).2
  have hm := splitS_ne (cutS b).2
  split
  · split
    · conv => lhs; unfold cmpL
      rw [if_pos hx]
    · conv => lhs; unfold cmpL
      rw [if_pos hx]
      cases hs : splitS (cutS a).2 with
      | nil => exact absurd hs hn
      | cons p r => rfl
  · split
    · conv => lhs; unfold cmpL
      rw [if_pos hx]
      cases hs : splitS (cutS b).2 with
      | nil => exact absurd hs hm
      | cons p r => rfl
    · conv => lhs; unfold cmpL
      rw [if_pos hx]
      rfl
end Go.Proofs.YtllhlmdhnmdihaaDoor
