/- The plain side of expr: trees, and the parser on words. -/
import Derived.Test.YtikofngogkchfaaDoorLp
namespace Go.Proofs.YtikofngogkchfaaDoor
set_option linter.unusedVariables false

def keyB (l : List UInt8) : Bool := l == [97, 110, 100] || l == [111, 114] || l == [110, 111, 116] || l == [116, 114, 117, 101] || l == [102, 97, 108, 115, 101] || l == [99, 111, 117, 110, 116] || l == [110, 117, 109, 98, 101, 114]

/-- A tree: a leaf (op, value: kind, int, bool, text; text; int), or an operator on one or two. -/
inductive Nd
  | leaf (op vk vi : Int) (vb : Bool) (vt t : List UInt8) (i : Int)
  | un (op : Int) (a : Nd)
  | bin (op : Int) (a b : Nd)
def Nd.depth : Nd → Nat
  | .leaf .. => 1
  | .un _ a => a.depth + 1
  | .bin _ a b => max a.depth b.depth + 1

def nextW (ws : List Wd) : Wd := ws.headD noW
/-- The word is this mark. -/
def isB (m : List UInt8) (x : Wd) : Bool := (x.t == m) && !(decide (x.k = 3))
def pName : List Wd → Option (List UInt8 × List Wd)
  | [] => none
  | x :: r => if x.k = 1 ∧ keyB x.t = false then some (x.t, r) else none
def pNeed (m : List UInt8) : List Wd → Option (List Wd)
  | [] => none
  | x :: r => if isB m x = true then some r else none
def pDots : Nat → List UInt8 → List Wd → Option (List UInt8 × List Wd)
  | 0, _, _ => none
  | f + 1, acc, ws => if isB [46] (nextW ws) = true then (match pName ws.tail with | none => none | some (t, r) => pDots f (acc ++ (46 :: t)) r) else some (acc, ws)
def pPath (ws : List Wd) : Option (List UInt8 × List Wd) := match pName ws with | none => none | some (t, r) => pDots ws.length t r

def stL : List (List UInt8) := [[], [97, 118, 97, 105, 108, 97, 98, 108, 101], [101, 110, 97, 98, 108, 101, 100], [100, 105, 115, 97, 98, 108, 101, 100], [97, 99, 116, 105, 118, 101], [102, 97, 105, 108, 101, 100], [115, 117, 115, 112, 101, 110, 100, 101, 100], [99, 111, 109, 112, 108, 101, 116, 101, 100], [116, 101, 114, 109, 105, 110, 97, 116, 101, 100]]
/-- A state's number, 0: there is none. -/
def stF (t : List UInt8) : Nat :=
  if t = [97, 118, 97, 105, 108, 97, 98, 108, 101] then 1 else
  if t = [101, 110, 97, 98, 108, 101, 100] then 2 else
  if t = [100, 105, 115, 97, 98, 108, 101, 100] then 3 else
  if t = [97, 99, 116, 105, 118, 101] then 4 else
  if t = [102, 97, 105, 108, 101, 100] then 5 else
  if t = [115, 117, 115, 112, 101, 110, 100, 101, 100] then 6 else
  if t = [99, 111, 109, 112, 108, 101, 116, 101, 100] then 7 else
  if t = [116, 101, 114, 109, 105, 110, 97, 116, 101, 100] then 8 else
  0
theorem stF_hit : ∀ k, 1 ≤ k → k < 9 → stF (stL.getD k []) = k := by
  intro k h1 h2
  rcases (by omega : k = 1 ∨ k = 2 ∨ k = 3 ∨ k = 4 ∨ k = 5 ∨ k = 6 ∨ k = 7 ∨ k = 8) with rfl | rfl | rfl | rfl | rfl | rfl | rfl | rfl <;> rfl
theorem stF_none (t : List UInt8) (h : ∀ k, 1 ≤ k → k < 9 → t ≠ stL.getD k []) : stF t = 0 := by
  unfold stF
  rw [if_neg (show ¬ t = [97, 118, 97, 105, 108, 97, 98, 108, 101] from h 1 (by omega) (by omega)), if_neg (show ¬ t = [101, 110, 97, 98, 108, 101, 100] from h 2 (by omega) (by omega)), if_neg (show ¬ t = [100, 105, 115, 97, 98, 108, 101, 100] from h 3 (by omega) (by omega)), if_neg (show ¬ t = [97, 99, 116, 105, 118, 101] from h 4 (by omega) (by omega)), if_neg (show ¬ t = [102, 97, 105, 108, 101, 100] from h 5 (by omega) (by omega)), if_neg (show ¬ t = [115, 117, 115, 112, 101, 110, 100, 101, 100] from h 6 (by omega) (by omega)), if_neg (show ¬ t = [99, 111, 109, 112, 108, 101, 116, 101, 100] from h 7 (by omega) (by omega)), if_neg (show ¬ t = [116, 101, 114, 109, 105, 110, 97, 116, 101, 100] from h 8 (by omega) (by omega))]

/-- Operators: mark, number, level, kids. -/
def opL : List (List UInt8 × Nat × Nat × Nat) := [([111, 114], 19, 0, 2), ([97, 110, 100], 18, 1, 2), ([110, 111, 116], 5, 2, 1), ([60], 12, 3, 2), ([60, 61], 13, 3, 2), ([62], 14, 3, 2), ([62, 61], 15, 3, 2), ([61], 16, 3, 2), ([33, 61], 17, 3, 2), ([43], 10, 4, 2), ([45], 11, 4, 2), ([42], 7, 5, 2), ([47], 8, 5, 2), ([37], 9, 5, 2), ([45], 6, 6, 1)]
def opHit (lv k : Nat) (x : Wd) (o : List UInt8 × Nat × Nat × Nat) : Bool := (decide (o.2.2.1 = lv) && decide (o.2.2.2 = k)) && isB o.1 x
/-- The operator of a level and number of kids that a word is; 0: none. -/
def opF (lv k : Nat) (x : Wd) : Nat := match opL.find? (opHit lv k x) with | none => 0 | some o => o.2.1

def tLit (vk vi : Int) (vb : Bool) (vt : List UInt8) : Nd := .leaf 1 vk vi vb vt [] 0
def pCount (ws : List Wd) : Option (Nd × List Wd) :=
  match pNeed [40] ws with
  | none => none
  | some r => match pPath r with
    | none => none
    | some (t, r2) => match pNeed [41] r2 with
      | none => none
      | some r3 => some (.leaf 3 0 0 false [] t 0, r3)
def pState (ws : List Wd) : Option (Nat × List Wd) :=
  match pName ws with
  | none => none
  | some (t, r) => if stF t = 0 then none else some (stF t, r)
def pNumber (ws : List Wd) : Option (Nd × List Wd) :=
  match pNeed [40] ws with
  | none => none
  | some r => match pName r with
    | none => none
    | some (t, r2) => match pNeed [44] r2 with
      | none => none
      | some r3 => match pState r3 with
        | none => none
        | some (n, r4) => match pNeed [41] r4 with
          | none => none
          | some r5 => some (.leaf 4 0 0 false [] t n, r5)
def pParen (rec : List Wd → Option (Nd × List Wd)) (ws : List Wd) : Option (Nd × List Wd) :=
  match rec ws with
  | none => none
  | some (n, r) => match pNeed [41] r with
    | none => none
    | some r2 => some (n, r2)
def pLeaf (rec : List Wd → Option (Nd × List Wd)) : List Wd → Option (Nd × List Wd)
  | [] => none
  | x :: r =>
    if x.k = 2 then some (tLit 1 x.n false [], r)
    else if x.k = 3 then some (tLit 3 0 false x.t, r)
    else if isB [116, 114, 117, 101] x = true then some (tLit 2 0 true [], r)
    else if isB [102, 97, 108, 115, 101] x = true then some (tLit 2 0 false [], r)
    else if isB [40] x = true then pParen rec r
    else if isB [99, 111, 117, 110, 116] x = true then pCount r
    else if isB [110, 117, 109, 98, 101, 114] x = true then pNumber r
    else match pPath (x :: r) with
      | none => none
      | some (t, r2) => some (.leaf 2 0 0 false [] t 0, r2)
/-- The rest of a level: operators with two kids. -/
def pLoop (rec : List Wd → Option (Nd × List Wd)) (lv : Nat) : Nat → Nd → List Wd → Option (Nd × List Wd)
  | 0, _, _ => none
  | g + 1, n, ws =>
    if opF lv 2 (nextW ws) = 0 then some (n, ws)
    else match rec ws.tail with
      | none => none
      | some (m, r) => if lv = 3 then some (.bin (opF lv 2 (nextW ws)) n m, r) else pLoop rec lv g (.bin (opF lv 2 (nextW ws)) n m) r
def tree : Nat → Nat → List Wd → Option (Nd × List Wd)
  | 0, _, _ => none
  | f + 1, lv, ws =>
    if lv = 7 then pLeaf (tree f 0) ws
    else if opF lv 1 (nextW ws) ≠ 0 then (match tree f lv ws.tail with | none => none | some (n, r) => some (.un (opF lv 1 (nextW ws)) n, r))
    else match tree f (lv + 1) ws with
      | none => none
      | some (n, r) => pLoop (tree f (lv + 1)) lv (ws.length + 1) n r
/-- The tree of words, or the error. -/
def parseW (ws : List Wd) : Option Nd × Int :=
  match tree (9 * ws.length + 9) 0 ws with
  | none => (none, 21)
  | some (n, r) => if (nextW r).k ≠ 0 then (none, 21) else if 24 < n.depth then (none, 4) else (some n, 0)
def parseT (l : List UInt8) : Option Nd × Int := if (wordsOf l).2.2 ≠ 0 then (none, (wordsOf l).2.2) else parseW (wordsOf l).1

/-! ### words that end in the end -/
/-- A word that may be, and is not long. -/
def OkV (x : Wd) : Prop := OkW x ∧ x.t.length ≤ 400
def Oks (ws : List Wd) : Prop := ∃ M, ws = M ++ [noW] ∧ ∀ x ∈ M, OkV x
theorem wordF_t (l : List UInt8) : (wordF l).1.t.length ≤ l.length := by
  cases l with
  | nil => simp [wordF, noW]
  | cons c r =>
    simp only [wordF]
    split
    · simp only [List.length_take]; omega
    · split
      · split
        · simp
        · simp [noW]
      · split
        · unfold litF
          split
          · next t n h =>
            have := litU_le _ _ _ _ h
            split
            · simp only [List.length_cons]; omega
            · simp [noW]
          · simp [noW]
        · split
          · simp [noW]
          · simp only [List.length_take]; omega
theorem wordsF_v : ∀ (f : Nat) (l : List UInt8) (k : Nat) (acc : List Wd), l.length ≤ 400 → k ≤ l.length → acc.length ≤ k → l.length - k < f → (wordsF f l k acc).2.2 = 0 → (∀ x ∈ acc, OkV x) → ∃ M, wordsF f l k acc = (M ++ [noW], 0, 0) ∧ (∀ x ∈ M, OkV x) ∧ M.length ≤ 400 := by
  intro f
  induction f with
  | zero => intro l k acc _ _ _ h; omega
  | succ f ih =>
    intro l k acc hl hk hak hf he ha
    by_cases h1 : l.length ≤ k + runN blB (l.drop k)
    · exact ⟨acc, wordsF_end h1, ha, by omega⟩
    · by_cases h2 : (wordF (l.drop (k + runN blB (l.drop k)))).2 = 0
      · rw [wordsF_bad h1 h2] at he
        simp at he
      · rw [wordsF_next h1 h2] at he ⊢
        have h3 := wordF_le (l.drop (k + runN blB (l.drop k)))
        have h4 := wordF_t (l.drop (k + runN blB (l.drop k)))
        rw [List.length_drop] at h3 h4
        refine ih l _ _ hl (by omega) (by simp only [List.length_append, List.length_singleton]; omega) (by omega) he ?_
        intro x hx
        simp only [List.mem_append, List.mem_singleton] at hx
        rcases hx with hx | rfl
        · exact ha x hx
        · exact ⟨wordF_ok _ h2, by omega⟩
theorem wordsOf_v (l : List UInt8) (h : (wordsOf l).2.2 = 0) : Oks (wordsOf l).1 ∧ (wordsOf l).1.length ≤ 401 := by
  unfold wordsOf at h ⊢
  by_cases hl : 400 < l.length
  · rw [if_pos hl] at h
    simp at h
  · rw [if_neg hl] at h ⊢
    obtain ⟨M, h1, h2, h3⟩ := wordsF_v (l.length + 1) l 0 [] (by omega) (by omega) (by simp) (by omega) h (by simp)
    rw [h1]
    exact ⟨⟨M, rfl, h2⟩, by simp; omega⟩
theorem Oks.ne {ws : List Wd} (h : Oks ws) : 0 < ws.length := by
  obtain ⟨M, rfl, _⟩ := h
  simp
theorem Oks.cons {ws : List Wd} (h : Oks ws) : ∃ x r, ws = x :: r ∧ ((x = noW ∧ r = []) ∨ (OkV x ∧ Oks r)) := by
  obtain ⟨M, rfl, h⟩ := h
  cases M with
  | nil => exact ⟨noW, [], rfl, .inl ⟨rfl, rfl⟩⟩
  | cons x r => exact ⟨x, r ++ [noW], rfl, .inr ⟨h x (by simp), r, rfl, fun y hy => h y (by simp [hy])⟩⟩
theorem Oks.next {x : Wd} {r : List Wd} (h : Oks (x :: r)) (hx : x ≠ noW) : OkV x ∧ Oks r := by
  obtain ⟨y, q, e, h⟩ := h.cons
  simp only [List.cons.injEq] at e
  obtain ⟨rfl, rfl⟩ := e
  exact h.resolve_left fun h => hx h.1
theorem isB_ne {m : List UInt8} {x : Wd} (h : isB m x = true) (hm : m ≠ []) : x ≠ noW := by
  rintro rfl
  unfold isB noW at h
  simp at h
  exact hm h
theorem pName_some {ws r : List Wd} {t : List UInt8} (h : pName ws = some (t, r)) : ∃ x, ws = x :: r ∧ x.k = 1 ∧ x.t = t ∧ keyB t = false := by
  cases ws with
  | nil => simp [pName] at h
  | cons x q =>
    rw [pName] at h
    split at h
    · next hc =>
      simp only [Option.some.injEq, Prod.mk.injEq] at h
      obtain ⟨rfl, rfl⟩ := h
      exact ⟨x, rfl, hc.1, rfl, hc.2⟩
    · cases h
theorem pNeed_some {m : List UInt8} {ws r : List Wd} (h : pNeed m ws = some r) : ∃ x, ws = x :: r ∧ isB m x = true := by
  cases ws with
  | nil => simp [pNeed] at h
  | cons x q =>
    rw [pNeed] at h
    split at h
    · next hc =>
      simp only [Option.some.injEq] at h
      subst h
      exact ⟨x, rfl, hc⟩
    · cases h
/-- What is left is shorter, and ends in the end. -/
def Lft (ws r : List Wd) : Prop := r.length < ws.length ∧ (Oks ws → Oks r)
def Lfe (ws r : List Wd) : Prop := r.length ≤ ws.length ∧ (Oks ws → Oks r)
theorem Lft.le {a b : List Wd} (h : Lft a b) : Lfe a b := ⟨Nat.le_of_lt h.1, h.2⟩
theorem Lft.lfe {a b c : List Wd} (h : Lft a b) (k : Lfe b c) : Lft a c := ⟨Nat.lt_of_le_of_lt k.1 h.1, fun o => k.2 (h.2 o)⟩
theorem Lfe.lft {a b c : List Wd} (h : Lfe a b) (k : Lft b c) : Lft a c := ⟨Nat.lt_of_lt_of_le k.1 h.1, fun o => k.2 (h.2 o)⟩
theorem Lfe.trans {a b c : List Wd} (h : Lfe a b) (k : Lfe b c) : Lfe a c := ⟨Nat.le_trans k.1 h.1, fun o => k.2 (h.2 o)⟩
theorem Lfe.refl (a : List Wd) : Lfe a a := ⟨Nat.le_refl _, id⟩
theorem Lft.trans {a b c : List Wd} (h : Lft a b) (k : Lft b c) : Lft a c := h.lfe k.le
theorem lft_cons {x : Wd} {r : List Wd} (hx : x ≠ noW) : Lft (x :: r) r := ⟨by simp, fun o => (o.next hx).2⟩
theorem pName_lft {ws r : List Wd} {t : List UInt8} (h : pName ws = some (t, r)) : Lft ws r := by
  obtain ⟨x, rfl, hk, _⟩ := pName_some h
  exact lft_cons (by rintro rfl; simp [noW] at hk)
theorem pNeed_lft {m : List UInt8} {ws r : List Wd} (hm : m ≠ []) (h : pNeed m ws = some r) : Lft ws r := by
  obtain ⟨x, rfl, hx⟩ := pNeed_some h
  exact lft_cons (isB_ne hx hm)
theorem tail_lft {m : List UInt8} {ws : List Wd} (hm : m ≠ []) (h : isB m (nextW ws) = true) : Lft ws ws.tail := by
  cases ws with
  | nil => exact absurd h (by unfold isB nextW noW; simp; intro e; exact absurd e hm)
  | cons x r => exact lft_cons (isB_ne h hm)
theorem pDots_lfe : ∀ (f : Nat) (acc : List UInt8) (ws r : List Wd) (t : List UInt8), pDots f acc ws = some (t, r) → Lfe ws r := by
  intro f
  induction f with
  | zero => intro acc ws r t h; simp [pDots] at h
  | succ f ih =>
    intro acc ws r t h
    rw [pDots] at h
    split at h
    · next hd =>
      have h1 := tail_lft (by simp) hd
      cases hp : pName ws.tail with
      | none => rw [hp] at h; cases h
      | some q =>
        obtain ⟨u, r1⟩ := q
        rw [hp] at h
        exact h1.le.trans ((pName_lft hp).le.trans (ih _ _ _ _ h))
    · simp only [Option.some.injEq, Prod.mk.injEq] at h
      obtain ⟨_, rfl⟩ := h
      exact Lfe.refl _
theorem pPath_lft {ws r : List Wd} {t : List UInt8} (h : pPath ws = some (t, r)) : Lft ws r := by
  unfold pPath at h
  cases hp : pName ws with
  | none => rw [hp] at h; cases h
  | some q =>
    obtain ⟨u, r1⟩ := q
    rw [hp] at h
    exact (pName_lft hp).lfe (pDots_lfe _ _ _ _ _ h)
theorem pCount_lft {ws r : List Wd} {n : Nd} (h : pCount ws = some (n, r)) : Lft ws r := by
  unfold pCount at h
  cases h1 : pNeed [40] ws with
  | none => rw [h1] at h; cases h
  | some r1 =>
    rw [h1] at h
    simp only at h
    cases h2 : pPath r1 with
    | none => rw [h2] at h; cases h
    | some q =>
      obtain ⟨t, r2⟩ := q
      rw [h2] at h
      simp only at h
      cases h3 : pNeed [41] r2 with
      | none => rw [h3] at h; cases h
      | some r3 =>
        rw [h3] at h
        simp only [Option.some.injEq, Prod.mk.injEq] at h
        obtain ⟨_, rfl⟩ := h
        exact (pNeed_lft (by simp) h1).trans ((pPath_lft h2).trans (pNeed_lft (by simp) h3))
theorem pState_lft {ws r : List Wd} {n : Nat} (h : pState ws = some (n, r)) : Lft ws r := by
  unfold pState at h
  cases h1 : pName ws with
  | none => rw [h1] at h; cases h
  | some q =>
    obtain ⟨t, r1⟩ := q
    rw [h1] at h
    simp only at h
    split at h
    · cases h
    · simp only [Option.some.injEq, Prod.mk.injEq] at h
      obtain ⟨_, rfl⟩ := h
      exact pName_lft h1
theorem pNumber_lft {ws r : List Wd} {n : Nd} (h : pNumber ws = some (n, r)) : Lft ws r := by
  unfold pNumber at h
  cases h1 : pNeed [40] ws with
  | none => rw [h1] at h; cases h
  | some r1 =>
    rw [h1] at h
    simp only at h
    cases h2 : pName r1 with
    | none => rw [h2] at h; cases h
    | some q =>
      obtain ⟨t, r2⟩ := q
      rw [h2] at h
      simp only at h
      cases h3 : pNeed [44] r2 with
      | none => rw [h3] at h; cases h
      | some r3 =>
        rw [h3] at h
        simp only at h
        cases h4 : pState r3 with
        | none => rw [h4] at h; cases h
        | some q =>
          obtain ⟨m, r4⟩ := q
          rw [h4] at h
          simp only at h
          cases h5 : pNeed [41] r4 with
          | none => rw [h5] at h; cases h
          | some r5 =>
            rw [h5] at h
            simp only [Option.some.injEq, Prod.mk.injEq] at h
            obtain ⟨_, rfl⟩ := h
            exact (pNeed_lft (by simp) h1).trans ((pName_lft h2).trans ((pNeed_lft (by simp) h3).trans ((pState_lft h4).trans (pNeed_lft (by simp) h5))))
theorem pParen_lft {rec : List Wd → Option (Nd × List Wd)} (hr : ∀ ws n r, rec ws = some (n, r) → Lft ws r) {ws r : List Wd} {n : Nd} (h : pParen rec ws = some (n, r)) : Lft ws r := by
  unfold pParen at h
  cases h1 : rec ws with
  | none => rw [h1] at h; cases h
  | some q =>
    obtain ⟨m, r1⟩ := q
    rw [h1] at h
    simp only at h
    cases h2 : pNeed [41] r1 with
    | none => rw [h2] at h; cases h
    | some r2 =>
      rw [h2] at h
      simp only [Option.some.injEq, Prod.mk.injEq] at h
      obtain ⟨_, rfl⟩ := h
      exact (hr _ _ _ h1).trans (pNeed_lft (by simp) h2)
theorem pLeaf_lft {rec : List Wd → Option (Nd × List Wd)} (hr : ∀ ws n r, rec ws = some (n, r) → Lft ws r) {ws r : List Wd} {n : Nd} (h : pLeaf rec ws = some (n, r)) : Lft ws r := by
  cases ws with
  | nil => simp [pLeaf] at h
  | cons x q =>
    rw [pLeaf] at h
    split at h
    · next hk =>
      simp only [Option.some.injEq, Prod.mk.injEq] at h
      obtain ⟨_, rfl⟩ := h
      exact lft_cons (by rintro rfl; simp [noW] at hk)
    split at h
    · next hk =>
      simp only [Option.some.injEq, Prod.mk.injEq] at h
      obtain ⟨_, rfl⟩ := h
      exact lft_cons (by rintro rfl; simp [noW] at hk)
    split at h
    · next hk =>
      simp only [Option.some.injEq, Prod.mk.injEq] at h
      obtain ⟨_, rfl⟩ := h
      exact lft_cons (isB_ne hk (by simp))
    split at h
    · next hk =>
      simp only [Option.some.injEq, Prod.mk.injEq] at h
      obtain ⟨_, rfl⟩ := h
      exact lft_cons (isB_ne hk (by simp))
    split at h
    · next hk => exact (lft_cons (isB_ne hk (by simp))).trans (pParen_lft hr h)
    split at h
    · next hk => exact (lft_cons (isB_ne hk (by simp))).trans (pCount_lft h)
    split at h
    · next hk => exact (lft_cons (isB_ne hk (by simp))).trans (pNumber_lft h)
    cases h1 : pPath (x :: q) with
    | none => rw [h1] at h; cases h
    | some p =>
      obtain ⟨t, r1⟩ := p
      rw [h1] at h
      simp only [Option.some.injEq, Prod.mk.injEq] at h
      obtain ⟨_, rfl⟩ := h
      exact pPath_lft h1
theorem opF_mark {lv k : Nat} {x : Wd} (h : opF lv k x ≠ 0) : ∃ m, m ≠ [] ∧ isB m x = true := by
  unfold opF at h
  cases hf : opL.find? (opHit lv k x) with
  | none => rw [hf] at h; exact absurd rfl h
  | some o =>
    have h1 := List.find?_some hf
    have h2 := List.mem_of_find?_eq_some hf
    unfold opHit at h1
    simp only [Bool.and_eq_true] at h1
    refine ⟨o.1, ?_, h1.2⟩
    have : ∀ o ∈ opL, o.1 ≠ [] := by decide
    exact this o h2
theorem op_lft {lv k : Nat} {ws : List Wd} (h : opF lv k (nextW ws) ≠ 0) : Lft ws ws.tail := by
  obtain ⟨m, hm, hi⟩ := opF_mark h
  exact tail_lft hm hi
theorem pLoop_lfe {rec : List Wd → Option (Nd × List Wd)} (hr : ∀ ws n r, rec ws = some (n, r) → Lft ws r) (lv : Nat) : ∀ (g : Nat) (n : Nd) (ws r : List Wd) (m : Nd), pLoop rec lv g n ws = some (m, r) → Lfe ws r := by
  intro g
  induction g with
  | zero => intro n ws r m h; simp [pLoop] at h
  | succ g ih =>
    intro n ws r m h
    rw [pLoop] at h
    split at h
    · simp only [Option.some.injEq, Prod.mk.injEq] at h
      obtain ⟨_, rfl⟩ := h
      exact Lfe.refl _
    · next ho =>
      cases h1 : rec ws.tail with
      | none => rw [h1] at h; cases h
      | some q =>
        obtain ⟨u, r1⟩ := q
        rw [h1] at h
        simp only at h
        have ht := ((op_lft ho).trans (hr _ _ _ h1)).le
        split at h
        · simp only [Option.some.injEq, Prod.mk.injEq] at h
          obtain ⟨_, rfl⟩ := h
          exact ht
        · exact ht.trans (ih _ _ _ _ h)
theorem tree_lft : ∀ (f lv : Nat) (ws : List Wd) (n : Nd) (r : List Wd), tree f lv ws = some (n, r) → Lft ws r := by
  intro f
  induction f with
  | zero => intro lv ws n r h; simp [tree] at h
  | succ f ih =>
    intro lv ws n r h
    rw [tree] at h
    split at h
    · exact pLeaf_lft (ih 0) h
    split at h
    · next ho =>
      cases h1 : tree f lv ws.tail with
      | none => rw [h1] at h; cases h
      | some q =>
        obtain ⟨m, r1⟩ := q
        rw [h1] at h
        simp only [Option.some.injEq, Prod.mk.injEq] at h
        obtain ⟨_, rfl⟩ := h
        exact (op_lft ho).trans (ih _ _ _ _ h1)
    · cases h1 : tree f (lv + 1) ws with
      | none => rw [h1] at h; cases h
      | some q =>
        obtain ⟨m, r1⟩ := q
        rw [h1] at h
        exact (ih _ _ _ _ h1).lfe (pLoop_lfe (ih (lv + 1)) lv _ _ _ _ _ h)

/-! ### a tree is no deeper than its words are many -/
theorem pParen_dep {rec : List Wd → Option (Nd × List Wd)} (hr : ∀ ws n r, rec ws = some (n, r) → n.depth + r.length ≤ ws.length) {ws r : List Wd} {n : Nd} (h : pParen rec ws = some (n, r)) : n.depth + r.length ≤ ws.length := by
  unfold pParen at h
  cases h1 : rec ws with
  | none => rw [h1] at h; cases h
  | some q =>
    obtain ⟨m, r1⟩ := q
    rw [h1] at h
    simp only at h
    cases h2 : pNeed [41] r1 with
    | none => rw [h2] at h; cases h
    | some r2 =>
      rw [h2] at h
      simp only [Option.some.injEq, Prod.mk.injEq] at h
      obtain ⟨rfl, rfl⟩ := h
      have := hr _ _ _ h1
      have := (pNeed_lft (by simp) h2).1
      omega
theorem leaf_dep {n : Nd} (h : ∃ op vk vi vb vt t i, n = .leaf op vk vi vb vt t i) : n.depth = 1 := by
  obtain ⟨_, _, _, _, _, _, _, rfl⟩ := h
  rfl
theorem pCount_leaf {ws r : List Wd} {n : Nd} (h : pCount ws = some (n, r)) : n.depth = 1 := by
  unfold pCount at h
  split at h
  · cases h
  split at h
  · cases h
  split at h
  · cases h
  simp only [Option.some.injEq, Prod.mk.injEq] at h
  obtain ⟨rfl, _⟩ := h
  rfl
theorem pNumber_leaf {ws r : List Wd} {n : Nd} (h : pNumber ws = some (n, r)) : n.depth = 1 := by
  unfold pNumber at h
  split at h
  · cases h
  split at h
  · cases h
  split at h
  · cases h
  split at h
  · cases h
  split at h
  · cases h
  simp only [Option.some.injEq, Prod.mk.injEq] at h
  obtain ⟨rfl, _⟩ := h
  rfl
theorem pLeaf_dep {rec : List Wd → Option (Nd × List Wd)} (hl : ∀ ws n r, rec ws = some (n, r) → Lft ws r) (hr : ∀ ws n r, rec ws = some (n, r) → n.depth + r.length ≤ ws.length) {ws r : List Wd} {n : Nd} (h : pLeaf rec ws = some (n, r)) : n.depth + r.length ≤ ws.length := by
  have hlt := (pLeaf_lft hl h).1
  cases ws with
  | nil => simp [pLeaf] at h
  | cons x q =>
    rw [pLeaf] at h
    split at h
    · simp only [Option.some.injEq, Prod.mk.injEq] at h
      obtain ⟨rfl, rfl⟩ := h
      show 1 + _ ≤ _
      simp; omega
    split at h
    · simp only [Option.some.injEq, Prod.mk.injEq] at h
      obtain ⟨rfl, rfl⟩ := h
      show 1 + _ ≤ _
      simp; omega
    split at h
    · simp only [Option.some.injEq, Prod.mk.injEq] at h
      obtain ⟨rfl, rfl⟩ := h
      show 1 + _ ≤ _
      simp; omega
    split at h
    · simp only [Option.some.injEq, Prod.mk.injEq] at h
      obtain ⟨rfl, rfl⟩ := h
      show 1 + _ ≤ _
      simp; omega
    split at h
    · have := pParen_dep hr h
      simp; omega
    split at h
    · have := pCount_leaf h
      omega
    split at h
    · have := pNumber_leaf h
      omega
    split at h
    · cases h
    · simp only [Option.some.injEq, Prod.mk.injEq] at h
      obtain ⟨rfl, rfl⟩ := h
      show 1 + _ ≤ _
      omega
theorem pLoop_dep {rec : List Wd → Option (Nd × List Wd)} (hr : ∀ ws n r, rec ws = some (n, r) → n.depth + r.length ≤ ws.length) (lv : Nat) (N : Nat) : ∀ (g : Nat) (n : Nd) (ws r : List Wd) (m : Nd), pLoop rec lv g n ws = some (m, r) → n.depth + ws.length ≤ N → m.depth + r.length ≤ N := by
  intro g
  induction g with
  | zero => intro n ws r m h; simp [pLoop] at h
  | succ g ih =>
    intro n ws r m h hN
    rw [pLoop] at h
    split at h
    · simp only [Option.some.injEq, Prod.mk.injEq] at h
      obtain ⟨rfl, rfl⟩ := h
      exact hN
    · next ho =>
      have h0 := (op_lft ho).1
      cases h1 : rec ws.tail with
      | none => rw [h1] at h; cases h
      | some q =>
        obtain ⟨u, r1⟩ := q
        rw [h1] at h
        simp only at h
        have h2 := hr _ _ _ h1
        have h3 : (Nd.bin (opF lv 2 (nextW ws)) n u).depth = max n.depth u.depth + 1 := rfl
        split at h
        · simp only [Option.some.injEq, Prod.mk.injEq] at h
          obtain ⟨rfl, rfl⟩ := h
          omega
        · exact ih _ _ _ _ h (by omega)
theorem tree_dep : ∀ (f lv : Nat) (ws : List Wd) (n : Nd) (r : List Wd), tree f lv ws = some (n, r) → n.depth + r.length ≤ ws.length := by
  intro f
  induction f with
  | zero => intro lv ws n r h; simp [tree] at h
  | succ f ih =>
    intro lv ws n r h
    rw [tree] at h
    split at h
    · exact pLeaf_dep (tree_lft f 0) (ih 0) h
    split at h
    · next ho =>
      have h0 := (op_lft ho).1
      cases h1 : tree f lv ws.tail with
      | none => rw [h1] at h; cases h
      | some q =>
        obtain ⟨m, r1⟩ := q
        rw [h1] at h
        simp only [Option.some.injEq, Prod.mk.injEq] at h
        obtain ⟨rfl, rfl⟩ := h
        have := ih _ _ _ _ h1
        have h3 : (Nd.un (opF lv 1 (nextW ws)) m).depth = m.depth + 1 := rfl
        omega
    · cases h1 : tree f (lv + 1) ws with
      | none => rw [h1] at h; cases h
      | some q =>
        obtain ⟨m, r1⟩ := q
        rw [h1] at h
        exact pLoop_dep (ih (lv + 1)) lv ws.length _ _ _ _ _ h (ih _ _ _ _ h1)
end Go.Proofs.YtikofngogkchfaaDoor
