/- The plain side of shape: paths of instances, their parts and their order. -/
import Derived.Test.YtllhlmdhnmdihaaDoorMi09
import Derived.Test.YtllhlmdhnmdihaaDoorMi01
import Derived.Lib.Bytealg
namespace Go.Proofs.YtllhlmdhnmdihaaDoor.P
set_option linter.unusedVariables false

/-- The pieces between the dots. -/
def splitD : List UInt8 → List (List UInt8)
  | [] => [[]]
  | c :: r => if c = 46 then [] :: splitD r else (c :: (splitD r).headD []) :: (splitD r).tail

theorem splitD_ne (l : List UInt8) : splitD l ≠ [] := by
  cases l with
  | nil => simp [splitD]
  | cons c r => unfold splitD; split <;> simp
theorem splitD_cons (l : List UInt8) : splitD l = (splitD l).headD [] :: (splitD l).tail := by
  have := splitD_ne l
  cases h : splitD l with
  | nil => exact absurd h this
  | cons a b => rfl
theorem splitD_dot (xs ys : List UInt8) (h : (46 : UInt8) ∉ xs) : splitD (xs ++ 46 :: ys) = xs :: splitD ys := by
  induction xs with
  | nil => simp [splitD]
  | cons c r ih =>
    have hc : c ≠ 46 := fun e => h (by simp [e])
    have := ih (fun e => h (by simp [e]))
    rw [List.cons_append, splitD, if_neg hc, this]
    rfl
theorem splitD_last (xs : List UInt8) (h : (46 : UInt8) ∉ xs) : splitD xs = [xs] := by
  induction xs with
  | nil => rfl
  | cons c r ih =>
    have hc : c ≠ 46 := fun e => h (by simp [e])
    rw [splitD, if_neg hc, ih (fun e => h (by simp [e]))]
    rfl
theorem splitD_length (l : List UInt8) : (splitD l).length ≤ l.length + 1 := by
  induction l with
  | nil => simp [splitD]
  | cons c r ih =>
    unfold splitD
    split
    · simp; omega
    · have h := splitD_cons r
      have : (splitD r).length = (splitD r).tail.length + 1 := by rw [h]; simp
      simp only [List.length_cons]; omega
theorem splitD_mem (l : List UInt8) : ∀ x ∈ splitD l, x.length ≤ l.length ∧ (46 : UInt8) ∉ x := by
  induction l with
  | nil => intro x hx; simp [splitD] at hx; subst hx; simp
  | cons c r ih =>
    intro x hx
    unfold splitD at hx
    split at hx
    · rcases List.mem_cons.1 hx with rfl | hx
      · simp
      · have := ih x hx; exact ⟨by simp; omega, this.2⟩
    · rename_i hc
      rw [splitD_cons r] at ih
      rcases List.mem_cons.1 hx with rfl | hx
      · have := ih _ (List.mem_cons_self ..)
        exact ⟨by have h1 := this.1; simp only [List.length_cons]; omega, by simp only [List.mem_cons, not_or]; exact ⟨fun e => hc e.symm, this.2⟩⟩
      · have := ih x (List.mem_cons_of_mem _ hx); exact ⟨by simp; omega, this.2⟩

/-- The pieces joined again. -/
def joinD : List (List UInt8) → List UInt8
  | [] => []
  | [x] => x
  | x :: y :: r => x ++ 46 :: joinD (y :: r)
theorem joinD_cons (x : List UInt8) (r : List (List UInt8)) (h : r ≠ []) : joinD (x :: r) = x ++ 46 :: joinD r := by
  cases r with
  | nil => exact absurd rfl h
  | cons y r => rfl
theorem joinD_splitD (l : List UInt8) : joinD (splitD l) = l := by
  induction l with
  | nil => rfl
  | cons c r ih =>
    unfold splitD
    split
    · rename_i hc
      rw [joinD_cons _ _ (splitD_ne r), ih, hc]; rfl
    · rw [splitD_cons r] at ih
      cases ht : (splitD r).tail with
      | nil => rw [ht] at ih; show c :: _ = _; rw [show (splitD r).headD [] = r from ih]
      | cons y t =>
        rw [ht] at ih
        rw [joinD_cons _ _ (by simp)] at ih ⊢
        rw [List.cons_append, ih]
theorem splitD_joinD (l : List (List UInt8)) (h0 : l ≠ []) (h : ∀ x ∈ l, (46 : UInt8) ∉ x) : splitD (joinD l) = l := by
  induction l with
  | nil => exact absurd rfl h0
  | cons x r ih =>
    cases r with
    | nil => exact splitD_last x (h x (by simp))
    | cons y r =>
      rw [joinD_cons _ _ (by simp), splitD_dot _ _ (h x (by simp)), ih (by simp) (fun z hz => h z (List.mem_cons_of_mem _ hz))]

/-- Whether a text is one name of expressions. -/
def plainB : List UInt8 → Bool
  | [] => false
  | c :: r => letB c && r.all nameB
def keyB (l : List UInt8) : Bool :=
  (l == [97, 110, 100]) || (l == [111, 114]) || (l == [110, 111, 116]) || (l == [116, 114, 117, 101]) || (l == [102, 97, 108, 115, 101]) || (l == [99, 111, 117, 110, 116]) || (l == [110, 117, 109, 98, 101, 114])
def nameOk (l : List UInt8) : Bool := decide (l.length ≤ 64) && (plainB l && !keyB l)

/-- A text cut at its first 35: what stands ahead, what behind. -/
def cutH : List UInt8 → List UInt8 × List UInt8
  | [] => ([], [])
  | c :: r => if c = 35 then ([], r) else (c :: (cutH r).1, (cutH r).2)
abbrev PT := List UInt8 × Int
/-- A part of an instance's path. -/
def partF (l : List UInt8) : Option PT :=
  if nameOk (cutH l).1 = true ∧ (num (cutH l).2).2 = 0 ∧ 1 ≤ (num (cutH l).2).1 then some ((cutH l).1, (num (cutH l).2).1) else none
def allF : List (List UInt8) → Option (List PT)
  | [] => some []
  | x :: r => match partF x with
    | none => none
    | some p => match allF r with
      | none => none
      | some q => some (p :: q)
/-- The parts of an instance's path. -/
def readF (l : List UInt8) : Option (List PT) := allF (splitD l)

theorem allF_append (a b : List (List UInt8)) : allF (a ++ b) = (match allF a with | none => none | some p => match allF b with | none => none | some q => some (p ++ q)) := by
  induction a with
  | nil => simp [allF]; cases allF b <;> rfl
  | cons x r ih =>
    rw [List.cons_append, allF, allF, ih]
    cases partF x with
    | none => rfl
    | some p =>
      cases allF r with
      | none => rfl
      | some q => cases allF b <;> rfl
theorem allF_length (a : List (List UInt8)) (q : List PT) (h : allF a = some q) : q.length = a.length := by
  induction a generalizing q with
  | nil => simp [allF] at h; subst h; rfl
  | cons x r ih =>
    rw [allF] at h
    cases hp : partF x with
    | none => simp [hp] at h
    | some p =>
      cases hr : allF r with
      | none => simp [hp, hr] at h
      | some t => simp [hp, hr] at h; subst h; simp [ih t hr]
theorem allF_prefix (a b : List (List UInt8)) (h : allF a = none) : allF (a ++ b) = none := by rw [allF_append, h]

/-! ### the text of a part -/
theorem cutH_text (l : List UInt8) (h : (35 : UInt8) ∈ l) : (cutH l).1 ++ 35 :: (cutH l).2 = l := by
  induction l with
  | nil => simp at h
  | cons c r ih =>
    unfold cutH
    split
    · rename_i hc; subst hc; rfl
    · rename_i hc
      have : (35 : UInt8) ∈ r := by
        rcases List.mem_cons.1 h with e | e
        · exact absurd e.symm hc
        · exact e
      simp only [List.cons_append, ih this]
theorem cutH_none (l : List UInt8) (h : (35 : UInt8) ∉ l) : cutH l = (l, []) := by
  induction l with
  | nil => rfl
  | cons c r ih =>
    have hc : c ≠ 35 := fun e => h (by simp [e])
    rw [cutH, if_neg hc, ih (fun e => h (by simp [e]))]
theorem cutH_of (a b : List UInt8) (h : (35 : UInt8) ∉ a) : cutH (a ++ 35 :: b) = (a, b) := by
  induction a with
  | nil => simp [cutH]
  | cons c r ih =>
    have hc : c ≠ 35 := fun e => h (by simp [e])
    rw [List.cons_append, cutH, if_neg hc, ih (fun e => h (by simp [e]))]
def partT (p : PT) : List UInt8 := p.1 ++ 35 :: txt p.2

theorem num_pos_text (d : List UInt8) (h0 : (num d).2 = 0) (h1 : 1 ≤ (num d).1) : txt (num d).1 = d ∧ (num d).1 ≤ 9223372036854775807 ∧ d.all isDig = true := by
  unfold num at h0 h1 ⊢
  unfold numD at h0 h1 ⊢
  split at h0
  · simp at h0
  · rename_i hn
    rw [if_neg hn] at h1 ⊢
    cases hm : isM d with
    | true =>
      rw [hm] at h0 h1
      simp only [if_true] at h0 h1
      split at h1
      · simp at h1; omega
      · simp at h1
    | false =>
      rw [hm] at h0 h1 hn
      simp only [Bool.false_eq_true, if_false] at h0 h1 ⊢
      have hs : stripM d = d := by unfold stripM; rw [hm]; rfl
      rw [hs] at h0 h1 hn ⊢
      split at h0
      · rename_i hv
        rw [if_pos hv]
        have hnum : numeral d = true := by
          cases hq : numeral d with
          | true => rfl
          | false => rw [hq] at hn; simp at hn
        have hall : d.all isDig = true := by unfold numeral at hnum; rw [Bool.and_eq_true] at hnum; exact hnum.1
        have hl : d.length ≤ 20 := by
          rcases Nat.lt_or_ge 20 d.length with hgt | hle
          · exfalso
            unfold numeral at hnum
            rw [Bool.and_eq_true, Bool.or_eq_true] at hnum
            obtain ⟨_, hh⟩ := hnum
            cases d with
            | nil => simp at hgt
            | cons x r =>
              rcases hh with hh | hh
              · simp at hh; rw [hh.2] at hgt; simp at hgt
              · have hx : x ≠ 48 := by
                  intro e; rw [e] at hh; simp at hh
                have := key20 (x :: r).length (x :: r) rfl (by omega) hall x r rfl hx
                omega
          · exact hle
        exact ⟨txt_of_plus d hnum hl, by omega, hall⟩
      · simp at h0

theorem partF_text (l : List UInt8) (p : PT) (h : partF l = some p) : partT p = l ∧ nameOk p.1 = true ∧ 1 ≤ p.2 ∧ p.2 ≤ 9223372036854775807 ∧ (35 : UInt8) ∉ p.1 := by
  unfold partF at h
  split at h
  · rename_i hc
    obtain ⟨h1, h2, h3⟩ := hc
    simp only [Option.some.injEq] at h
    subst h
    obtain ⟨t1, t2, t3⟩ := num_pos_text _ h2 h3
    have hin : (35 : UInt8) ∈ l := by
      rcases Classical.em ((35 : UInt8) ∈ l) with h | h
      · exact h
      · rw [cutH_none l h] at h2; simp [num, numD, isM, stripM, numeral] at h2
    refine ⟨?_, h1, h3, t2, ?_⟩
    · show (cutH l).1 ++ 35 :: txt (num (cutH l).2).1 = l
      rw [t1, cutH_text l hin]
    · have h1' := h1
      unfold nameOk plainB at h1'
      show (35 : UInt8) ∉ (cutH l).1
      cases hq : (cutH l).1 with
      | nil => simp
      | cons c r =>
        rw [hq] at h1'
        simp only [Bool.and_eq_true] at h1'
        obtain ⟨_, ⟨hc, hr⟩, _⟩ := h1'
        intro hm
        rcases List.mem_cons.1 hm with e | e
        · rw [← e] at hc; revert hc; decide
        · have := List.all_eq_true.1 hr _ e; revert this; decide
  · cases h

theorem nameOk_no (l : List UInt8) (h : nameOk l = true) (x : UInt8) (hx : letB x = false) (hx' : nameB x = false) : x ∉ l := by
  unfold nameOk plainB at h
  cases l with
  | nil => simp
  | cons c r =>
    simp only [Bool.and_eq_true] at h
    obtain ⟨_, ⟨hc, hr⟩, _⟩ := h
    intro hm
    rcases List.mem_cons.1 hm with e | e
    · rw [e, hc] at hx; cases hx
    · have := List.all_eq_true.1 hr _ e; rw [hx'] at this; cases this

theorem num_txt (n : Int) (h1 : 1 ≤ n) (h2 : n ≤ 9223372036854775807) : num (txt n) = (n, 0) := by
  have ht : txt n = ds n.toNat := by unfold txt; rw [if_neg (by omega)]
  have hb : n.toNat < 100000000000000000000 := by omega
  have hnum := ds_numeral n.toNat hb
  have hval := ds_val n.toNat hb
  have hm : isM (ds n.toNat) = false := by
    unfold isM
    cases hd : ds n.toNat with
    | nil => rfl
    | cons x r =>
      have hne := ds_ne n.toNat hb r
      rw [hd] at hne
      simp only [List.head?_cons]
      rw [beq_eq_false_iff_ne]
      intro e
      simp only [Option.some.injEq] at e
      exact hne (by rw [e])
  rw [ht]
  unfold num
  rw [hm, show stripM (ds n.toNat) = ds n.toNat from by unfold stripM; rw [hm]; rfl]
  unfold numD
  rw [hnum, hval, if_neg (by simp), if_neg (by simp), if_pos (by omega)]
  congr 1
  omega

theorem partF_of (p : PT) (h : nameOk p.1 = true) (h1 : 1 ≤ p.2) (h2 : p.2 ≤ 9223372036854775807) : partF (partT p) = some p := by
  have hn := nameOk_no p.1 h 35 (by decide) (by decide)
  unfold partF partT
  rw [cutH_of _ _ hn, num_txt p.2 h1 h2]
  rw [if_pos ⟨h, rfl, h1⟩]
theorem partF_inj (a b : List UInt8) (p : PT) (ha : partF a = some p) (hb : partF b = some p) : a = b := by
  rw [← (partF_text a p ha).1, ← (partF_text b p hb).1]
theorem allF_inj (a b : List (List UInt8)) (q : List PT) (ha : allF a = some q) (hb : allF b = some q) : a = b := by
  induction a generalizing b q with
  | nil =>
    have h1 := allF_length _ _ ha
    have h2 := allF_length _ _ hb
    exact (List.eq_nil_of_length_eq_zero (by rw [← h2, h1]; rfl)).symm
  | cons x r ih =>
    cases b with
    | nil =>
      have h1 := allF_length _ _ ha
      have h2 := allF_length _ _ hb
      rw [h1] at h2; simp at h2
    | cons y s =>
      rw [allF] at ha hb
      cases hx : partF x with
      | none => simp [hx] at ha
      | some p =>
        cases hr : allF r with
        | none => simp [hx, hr] at ha
        | some t =>
          cases hy : partF y with
          | none => simp [hy] at hb
          | some p' =>
            cases hs : allF s with
            | none => simp [hy, hs] at hb
            | some t' =>
              simp [hx, hr] at ha
              simp [hy, hs] at hb
              rw [← ha] at hb
              simp only [List.cons.injEq] at hb
              rw [hb.1] at hy
              rw [hb.2] at hs
              rw [partF_inj x y p hx hy, ih s t hr hs]
theorem readF_inj (a b : List UInt8) (q : List PT) (ha : readF a = some q) (hb : readF b = some q) : a = b := by
  have := allF_inj _ _ q ha hb
  rw [← joinD_splitD a, ← joinD_splitD b, this]

/-! ### the order -/
theorem compareBytes_refl (a : List UInt8) : Lib.compareBytes a a = 0 := by
  induction a with
  | nil => rfl
  | cons x r ih => unfold Lib.compareBytes; rw [if_neg (by simp), if_neg (by simp), ih]
theorem compareBytes_three (a b : List UInt8) : (Lib.compareBytes a b = -1 ∧ Lib.compareBytes b a = 1) ∨ (Lib.compareBytes a b = 0 ∧ Lib.compareBytes b a = 0 ∧ a = b) ∨ (Lib.compareBytes a b = 1 ∧ Lib.compareBytes b a = -1) := by
  induction a generalizing b with
  | nil => cases b <;> simp [Lib.compareBytes]
  | cons x r ih =>
    cases b with
    | nil => simp [Lib.compareBytes]
    | cons y s =>
      unfold Lib.compareBytes
      by_cases h1 : x < y
      · have h2 : ¬ y < x := by rw [UInt8.lt_iff_toNat_lt] at *; omega
        simp [h1, h2]
      · by_cases h2 : y < x
        · simp [h1, h2]
        · have e : x = y := by rw [UInt8.lt_iff_toNat_lt] at *; exact UInt8.toNat_inj.1 (by omega)
          simp only [h1, h2, if_false]
          rcases ih s with h | h | h
          · exact .inl h
          · exact .inr (.inl ⟨h.1, h.2.1, by rw [e, h.2.2]⟩)
          · exact .inr (.inr h)
theorem compareBytes_trans (a b c : List UInt8) (h1 : Lib.compareBytes a b = -1) (h2 : Lib.compareBytes b c = -1) : Lib.compareBytes a c = -1 := by
  induction a generalizing b c with
  | nil =>
    cases c with
    | nil => cases b <;> simp [Lib.compareBytes] at h1 h2
    | cons z t => rfl
  | cons x r ih =>
    cases b with
    | nil => simp [Lib.compareBytes] at h1
    | cons y s =>
      cases c with
      | nil => simp [Lib.compareBytes] at h2
      | cons z t =>
        unfold Lib.compareBytes at h1 h2 ⊢
        simp only [UInt8.lt_iff_toNat_lt] at h1 h2 ⊢
        by_cases a1 : x.toNat < y.toNat
        · by_cases b1 : y.toNat < z.toNat
          · rw [if_pos (by omega)]
          · rw [if_neg b1] at h2
            by_cases b2 : z.toNat < y.toNat
            · rw [if_pos b2] at h2; simp at h2
            · rw [if_pos (by omega)]
        · rw [if_neg a1] at h1
          by_cases a2 : y.toNat < x.toNat
          · rw [if_pos a2] at h1; simp at h1
          · rw [if_neg a2] at h1
            by_cases b1 : y.toNat < z.toNat
            · rw [if_pos (by omega)]
            · rw [if_neg b1] at h2
              by_cases b2 : z.toNat < y.toNat
              · rw [if_pos b2] at h2; simp at h2
              · rw [if_neg b2] at h2
                rw [if_neg (by omega), if_neg (by omega)]
                exact ih s t h1 h2

def cmpI (x y : Int) : Int := if x < y then -1 else if y < x then 1 else 0
/-- The order of two parts. -/
def cmpP (p q : PT) : Int := if Lib.compareBytes p.1 q.1 = 0 then cmpI p.2 q.2 else Lib.compareBytes p.1 q.1
/-- The order of two lists of parts. -/
def cmpQ : List PT → List PT → Int
  | [], [] => 0
  | [], _ :: _ => -1
  | _ :: _, [] => 1
  | p :: r, q :: s => if cmpP p q = 0 then cmpQ r s else cmpP p q
/-- The order of two texts as instances. -/
def orderF (a b : List UInt8) : Int :=
  match readF a, readF b with
  | some x, some y => cmpQ x y
  | _, _ => Lib.compareBytes a b

theorem cmpP_three (p q : PT) : (cmpP p q = -1 ∧ cmpP q p = 1) ∨ (cmpP p q = 0 ∧ cmpP q p = 0 ∧ p = q) ∨ (cmpP p q = 1 ∧ cmpP q p = -1) := by
  unfold cmpP cmpI
  rcases compareBytes_three p.1 q.1 with h | h | h
  · rw [h.1, h.2]; simp
  · rw [h.1, h.2.1]
    simp only [if_true]
    rcases Int.lt_trichotomy p.2 q.2 with g | g | g
    · left; rw [if_pos g, if_neg (by omega), if_pos g]; simp
    · right; left; rw [if_neg (by omega), if_neg (by omega)]; exact ⟨rfl, by rw [if_neg (by omega), if_neg (by omega)], Prod.ext h.2.2 g⟩
    · right; right; rw [if_neg (by omega), if_pos g, if_pos g]; simp
  · rw [h.1, h.2]; simp
theorem cmpP_trans (p q r : PT) (h1 : cmpP p q = -1) (h2 : cmpP q r = -1) : cmpP p r = -1 := by
  unfold cmpP cmpI at *
  rcases compareBytes_three p.1 q.1 with h | h | h
  · rcases compareBytes_three q.1 r.1 with g | g | g
    · rw [compareBytes_trans _ _ _ h.1 g.1]; simp
    · rw [← g.2.2, h.1]; simp
    · rw [g.1] at h2; simp at h2
  · rcases compareBytes_three q.1 r.1 with g | g | g
    · rw [h.2.2, g.1]; simp
    · rw [h.1] at h1
      rw [g.1] at h2
      simp only [if_true] at h1 h2
      rw [h.2.2, g.1]
      simp only [if_true]
      split at h1
      · split at h2
        · rw [if_pos (by omega)]
        · split at h2 <;> simp at h2
      · split at h1 <;> simp at h1
    · rw [g.1] at h2; simp at h2
  · rw [h.1] at h1; simp at h1
theorem cmpQ_three (a b : List PT) : (cmpQ a b = -1 ∧ cmpQ b a = 1) ∨ (cmpQ a b = 0 ∧ cmpQ b a = 0 ∧ a = b) ∨ (cmpQ a b = 1 ∧ cmpQ b a = -1) := by
  induction a generalizing b with
  | nil => cases b <;> simp [cmpQ]
  | cons p r ih =>
    cases b with
    | nil => simp [cmpQ]
    | cons q s =>
      unfold cmpQ
      rcases cmpP_three p q with h | h | h
      · rw [h.1, h.2]; simp
      · rw [h.1, h.2.1]
        simp only [if_true]
        rcases ih s with g | g | g
        · exact .inl g
        · exact .inr (.inl ⟨g.1, g.2.1, by rw [h.2.2, g.2.2]⟩)
        · exact .inr (.inr g)
      · rw [h.1, h.2]; simp
theorem cmpQ_trans (a b c : List PT) (h1 : cmpQ a b ≤ 0) (h2 : cmpQ b c ≤ 0) : cmpQ a c ≤ 0 := by
  induction a generalizing b c with
  | nil => cases c <;> simp [cmpQ]
  | cons p r ih =>
    cases b with
    | nil => simp [cmpQ] at h1
    | cons q s =>
      cases c with
      | nil => simp [cmpQ] at h2
      | cons t u =>
        unfold cmpQ at h1 h2 ⊢
        rcases cmpP_three p q with h | h | h
        · rcases cmpP_three q t with g | g | g
          · rw [cmpP_trans p q t h.1 g.1]; simp
          · rw [← g.2.2, h.1]; simp
          · rw [g.1] at h2; simp at h2
        · rw [h.1] at h1
          rw [h.2.2]
          rcases cmpP_three q t with g | g | g
          · rw [g.1]; simp
          · rw [g.1] at h2 ⊢
            simp only [if_true] at h1 h2 ⊢
            exact ih s u h1 h2
          · rw [g.1] at h2; simp at h2
        · rw [h.1] at h1; simp at h1
theorem cmpQ_more (a : List PT) (p : PT) : cmpQ a (a ++ [p]) = -1 := by
  induction a with
  | nil => rfl
  | cons q r ih =>
    rw [List.cons_append, cmpQ]
    rcases cmpP_three q q with h | h | h
    · rw [h.1] at h; simp at h
    · rw [h.1]; simp [ih]
    · rw [h.1] at h; simp at h
theorem cmpQ_range (a b : List PT) : cmpQ a b = -1 ∨ cmpQ a b = 0 ∨ cmpQ a b = 1 := by
  rcases cmpQ_three a b with h | h | h
  · exact .inl h.1
  · exact .inr (.inl h.1)
  · exact .inr (.inr h.1)
theorem compareBytes_range (a b : List UInt8) : Lib.compareBytes a b = -1 ∨ Lib.compareBytes a b = 0 ∨ Lib.compareBytes a b = 1 := by
  rcases compareBytes_three a b with h | h | h
  · exact .inl h.1
  · exact .inr (.inl h.1)
  · exact .inr (.inr h.1)
theorem orderF_three (a b : List UInt8) : (orderF a b = -1 ∧ orderF b a = 1) ∨ (orderF a b = 0 ∧ orderF b a = 0 ∧ a = b) ∨ (orderF a b = 1 ∧ orderF b a = -1) := by
  unfold orderF
  cases ha : readF a with
  | none => cases hb : readF b <;> exact compareBytes_three a b
  | some x =>
    cases hb : readF b with
    | none => exact compareBytes_three a b
    | some y =>
      rcases cmpQ_three x y with h | h | h
      · exact .inl h
      · exact .inr (.inl ⟨h.1, h.2.1, readF_inj a b x ha (by rw [hb, h.2.2])⟩)
      · exact .inr (.inr h)

/-! ### joining -/
def joinF (up name : List UInt8) (n : Int) : List UInt8 := if up = [] then name ++ 35 :: txt n else up ++ 46 :: (name ++ 35 :: txt n)
theorem readF_nil : readF [] = none := by
  unfold readF splitD allF partF
  rw [if_neg]
  simp [cutH, nameOk, plainB]
theorem readF_join (a : List UInt8) (x : List PT) (name : List UInt8) (n : Int) (ha : readF a = some x) (hn : nameOk name = true) (h1 : 1 ≤ n) (h2 : n ≤ 9223372036854775807) : readF (joinF a name n) = some (x ++ [(name, n)]) := by
  have hne : a ≠ [] := fun e => by rw [e, readF_nil] at ha; cases ha
  have hdot : (46 : UInt8) ∉ name ++ 35 :: txt n := by
    have h := nameOk_no name hn 46 (by decide) (by decide)
    rw [List.mem_append, List.mem_cons]
    rintro (e | e | e)
    · exact h e
    · revert e; decide
    · have ht : txt n = ds n.toNat := by unfold txt; rw [if_neg (by omega)]
      rw [ht] at e
      have := List.all_eq_true.1 (dg_all 20 n.toNat) _ e
      revert this; decide
  have hs : splitD (joinF a name n) = splitD a ++ [name ++ 35 :: txt n] := by
    have hm := splitD_mem a
    unfold joinF
    rw [if_neg hne]
    conv => lhs; rw [← joinD_splitD a]
    have e : joinD (splitD a) ++ 46 :: (name ++ 35 :: txt n) = joinD (splitD a ++ [name ++ 35 :: txt n]) := by
      have hne2 := splitD_ne a
      generalize splitD a = L at hne2
      clear hm
      induction L with
      | nil => exact absurd rfl hne2
      | cons y r ih =>
        cases r with
        | nil => rfl
        | cons z r =>
          rw [joinD_cons _ _ (by simp), List.append_assoc, List.cons_append, ih (by simp)]
          exact (joinD_cons y (z :: r ++ [name ++ 35 :: txt n]) (by simp)).symm
    rw [e]
    refine splitD_joinD _ (by simp) fun y hy => ?_
    rcases List.mem_append.1 hy with h | h
    · exact (hm y h).2
    · simp only [List.mem_singleton] at h; rw [h]; exact hdot
  unfold readF at ha ⊢
  rw [hs, allF_append, ha]
  have := partF_of (name, n) hn h1 h2
  unfold partT at this
  simp only [allF, this]
end Go.Proofs.YtllhlmdhnmdihaaDoor.P
