/- The reference's parser, exactly: it goes on behind what is bad. -/
import Derived.Test.YtikofngogkchfaaDoorEm
import Derived.Test.YtikofngogkchfaaDoorEd
import Derived.Test.YtikofngogkchfaaDoorEp
namespace Go.Proofs.YtikofngogkchfaaDoor
set_option linter.unusedVariables false

structure RSt where
  bad : Bool
  ws : List Wd
def RSt.tl (s : RSt) : RSt := ⟨s.bad, s.ws.tail⟩
def zeroNd : Nd := .leaf 0 0 0 false [] [] 0
def rNeed (m : List UInt8) (s : RSt) : RSt := if isB m (nextW s.ws) = true then s.tl else ⟨true, s.ws⟩
def rName (s : RSt) : List UInt8 × RSt := if (nextW s.ws).k = 1 ∧ keyB (nextW s.ws).t = false then ((nextW s.ws).t, s.tl) else ([], ⟨true, s.ws⟩)
def rDots : Nat → List UInt8 → RSt → List UInt8 × RSt
  | 0, acc, s => (acc, s)
  | f + 1, acc, s => if s.bad = false ∧ isB [46] (nextW s.ws) = true then rDots f (acc ++ (46 :: (rName s.tl).1)) (rName s.tl).2 else (acc, s)
def rPath (s : RSt) : List UInt8 × RSt := rDots (s.ws.length + 1) (rName s).1 (rName s).2
def rCount (s : RSt) : Nd × RSt := (.leaf 3 0 0 false [] (rPath (rNeed [40] s)).1 0, rNeed [41] (rPath (rNeed [40] s)).2)
def rState (s : RSt) : Nat × RSt := (stF (rName s).1, ⟨(rName s).2.bad || decide (stF (rName s).1 = 0), (rName s).2.ws⟩)
def rNumber (s : RSt) : Nd × RSt :=
  (.leaf 4 0 0 false [] (rName (rNeed [40] s)).1 (rState (rNeed [44] (rName (rNeed [40] s)).2)).1, rNeed [41] (rState (rNeed [44] (rName (rNeed [40] s)).2)).2)
def rPart (rec : RSt → Nd × RSt) (s : RSt) : Nd × RSt :=
  if (nextW s.ws).k = 2 then (tLit 1 (nextW s.ws).n false [], s.tl)
  else if (nextW s.ws).k = 3 then (tLit 3 0 false (nextW s.ws).t, s.tl)
  else if isB [116, 114, 117, 101] (nextW s.ws) = true then (tLit 2 0 true [], s.tl)
  else if isB [102, 97, 108, 115, 101] (nextW s.ws) = true then (tLit 2 0 false [], s.tl)
  else if isB [40] (nextW s.ws) = true then ((rec s.tl).1, rNeed [41] (rec s.tl).2)
  else if isB [99, 111, 117, 110, 116] (nextW s.ws) = true then rCount s.tl
  else if isB [110, 117, 109, 98, 101, 114] (nextW s.ws) = true then rNumber s.tl
  else (.leaf 2 0 0 false [] (rPath s).1 0, (rPath s).2)
def rFactor (rec : RSt → Nd × RSt) : Nat → RSt → Nd × RSt
  | 0, s => (zeroNd, s)
  | f + 1, s => if s.bad = false ∧ isB [45] (nextW s.ws) = true then (.un 6 (rFactor rec f s.tl).1, (rFactor rec f s.tl).2) else rPart rec s
def rLoop (rec : RSt → Nd × RSt) (own : Nat) : Nat → Nd → RSt → Nd × RSt
  | 0, n, s => (n, s)
  | f + 1, n, s =>
    if opF (own - 1) 2 (nextW s.ws) ≠ 0 ∧ s.bad = false then
      (if own = 4 then (.bin (opF (own - 1) 2 (nextW s.ws)) n (rec s.tl).1, (rec s.tl).2)
       else rLoop rec own f (.bin (opF (own - 1) 2 (nextW s.ws)) n (rec s.tl).1) (rec s.tl).2)
    else (n, s)
def rLoose : Nat → Nat → RSt → Nd × RSt
  | 0, _, s => (zeroNd, s)
  | f + 1, own, s =>
    if s.bad = true then (zeroNd, s)
    else if own = 3 then (if isB [110, 111, 116] (nextW s.ws) = true then (.un 5 (rLoose f 3 s.tl).1, (rLoose f 3 s.tl).2) else rLoose f 4 s)
    else if own = 7 then rFactor (rLoose f 1) (s.ws.length + 1) s
    else rLoop (rLoose f (own + 1)) own ((rLoose f (own + 1) s).2.ws.length + 1) (rLoose f (own + 1) s).1 (rLoose f (own + 1) s).2

/-! ### what it says of the grammar -/
/-- The reference's outcome against the grammar's. -/
def Sim {α : Type} (R : Option (α × List Wd)) (q : α × RSt) : Prop := (q.2.bad = false ∧ R = some (q.1, q.2.ws)) ∨ (q.2.bad = true ∧ R = none)
theorem nextW_cons (x : Wd) (r : List Wd) : nextW (x :: r) = x := rfl
theorem isB_noW (m : List UInt8) (hm : m ≠ []) : isB m noW = false := by
  unfold isB noW
  cases m with
  | nil => exact absurd rfl hm
  | cons c r => rfl
/-- Bad stays bad. -/
theorem rNeed_bad {m : List UInt8} {s : RSt} (h : s.bad = true) : (rNeed m s).bad = true := by
  unfold rNeed RSt.tl
  split
  · exact h
  · rfl
theorem rName_bad {s : RSt} (h : s.bad = true) : (rName s).2.bad = true := by
  unfold rName RSt.tl
  split
  · exact h
  · rfl
theorem rDots_bad {f : Nat} {acc : List UInt8} {s : RSt} (h : s.bad = true) : rDots f acc s = (acc, s) := by
  cases f with
  | zero => rfl
  | succ f => rw [rDots, if_neg (by rw [h]; simp)]
theorem rPath_bad {s : RSt} (h : s.bad = true) : (rPath s).2.bad = true := by
  unfold rPath
  rw [rDots_bad (rName_bad h)]
  exact rName_bad h
theorem need_sim (m : List UInt8) (hm : m ≠ []) (ws : List Wd) : (((rNeed m ⟨false, ws⟩).bad = false ∧ pNeed m ws = some (rNeed m ⟨false, ws⟩).ws) ∨ ((rNeed m ⟨false, ws⟩).bad = true ∧ pNeed m ws = none)) := by
  cases ws with
  | nil =>
    right
    have e : rNeed m ⟨false, []⟩ = if isB m noW = true then RSt.tl ⟨false, []⟩ else ⟨true, []⟩ := rfl
    rw [e, isB_noW m hm]
    exact ⟨rfl, rfl⟩
  | cons x r =>
    have e : rNeed m ⟨false, x :: r⟩ = if isB m x = true then ⟨false, r⟩ else ⟨true, x :: r⟩ := rfl
    have e2 : pNeed m (x :: r) = if isB m x = true then some r else none := rfl
    rw [e, e2]
    by_cases h : isB m x = true
    · rw [if_pos h, if_pos h]
      exact .inl ⟨rfl, rfl⟩
    · rw [if_neg h, if_neg h]
      exact .inr ⟨rfl, rfl⟩
theorem name_sim (ws : List Wd) : Sim (pName ws) (rName ⟨false, ws⟩) := by
  cases ws with
  | nil => exact .inr ⟨rfl, rfl⟩
  | cons x r =>
    have e : rName ⟨false, x :: r⟩ = if x.k = 1 ∧ keyB x.t = false then (x.t, ⟨false, r⟩) else ([], ⟨true, x :: r⟩) := rfl
    have e2 : pName (x :: r) = if x.k = 1 ∧ keyB x.t = false then some (x.t, r) else none := rfl
    rw [e, e2]
    by_cases h : x.k = 1 ∧ keyB x.t = false
    · rw [if_pos h, if_pos h]
      exact .inl ⟨rfl, rfl⟩
    · rw [if_neg h, if_neg h]
      exact .inr ⟨rfl, rfl⟩
theorem st_eta (s : RSt) (h : s.bad = false) : s = ⟨false, s.ws⟩ := by cases s; simp_all
theorem dots_sim : ∀ (f : Nat) (acc : List UInt8) (ws : List Wd), ws.length < f → ∀ g, ws.length ≤ g → 0 < g → Sim (pDots g acc ws) (rDots f acc ⟨false, ws⟩) := by
  intro f
  induction f with
  | zero => intro acc ws h; omega
  | succ f ih =>
    intro acc ws hf g hg h0
    obtain ⟨g, rfl⟩ : ∃ k, g = k + 1 := ⟨g - 1, by omega⟩
    rw [pDots, rDots]
    by_cases hd : isB [46] (nextW ws) = true
    · rw [if_pos hd, if_pos ⟨rfl, hd⟩]
      have h1 := (tail_lft (by simp) hd).1
      show Sim _ (rDots f (acc ++ (46 :: (rName ⟨false, ws.tail⟩).1)) (rName ⟨false, ws.tail⟩).2)
      rcases name_sim ws.tail with ⟨hb, hp⟩ | ⟨hb, hp⟩
      · rw [hp]
        have h2 := (pName_lft hp).1
        simp only
        rw [st_eta _ hb]
        exact ih _ _ (by dsimp only; omega) g (by dsimp only; omega) (by omega)
      · rw [hp, rDots_bad hb]
        exact .inr ⟨hb, rfl⟩
    · rw [if_neg hd, if_neg (fun h => hd h.2)]
      exact .inl ⟨rfl, rfl⟩
theorem path_sim (ws : List Wd) : Sim (pPath ws) (rPath ⟨false, ws⟩) := by
  unfold pPath rPath
  rcases name_sim ws with ⟨hb, hp⟩ | ⟨hb, hp⟩
  · rw [hp]
    have h2 := (pName_lft hp).1
    simp only
    rw [st_eta _ hb]
    exact dots_sim _ _ _ (by dsimp only; omega) _ (by dsimp only; omega) (by omega)
  · rw [hp, rDots_bad hb]
    exact .inr ⟨hb, rfl⟩
theorem count_sim (ws : List Wd) : Sim (pCount ws) (rCount ⟨false, ws⟩) := by
  unfold pCount rCount
  rcases need_sim [40] (by simp) ws with ⟨hb, hp⟩ | ⟨hb, hp⟩
  · rw [hp, st_eta _ hb]
    simp only
    rcases path_sim (rNeed [40] ⟨false, ws⟩).ws with ⟨hb2, hp2⟩ | ⟨hb2, hp2⟩
    · rw [hp2]
      simp only
      rcases need_sim [41] (by simp) (rPath ⟨false, (rNeed [40] ⟨false, ws⟩).ws⟩).2.ws with ⟨hb3, hp3⟩ | ⟨hb3, hp3⟩
      · rw [hp3, st_eta (rPath _).2 hb2]
        exact .inl ⟨hb3, rfl⟩
      · rw [hp3, st_eta (rPath _).2 hb2]
        exact .inr ⟨hb3, rfl⟩
    · rw [hp2]
      exact .inr ⟨rNeed_bad hb2, rfl⟩
  · rw [hp]
    exact .inr ⟨rNeed_bad (rPath_bad hb), rfl⟩
theorem rState_bad {s : RSt} (h : s.bad = true) : (rState s).2.bad = true := by
  unfold rState
  rw [rName_bad h]
  rfl
theorem state_sim (ws : List Wd) : Sim (pState ws) (rState ⟨false, ws⟩) := by
  unfold pState rState
  rcases name_sim ws with ⟨hb, hp⟩ | ⟨hb, hp⟩
  · rw [hp]
    simp only
    split
    · next h => exact .inr ⟨by simp [h], rfl⟩
    · next h => exact .inl ⟨by simp [hb, h], rfl⟩
  · rw [hp]
    exact .inr ⟨by simp [hb], rfl⟩
theorem number_sim (ws : List Wd) : Sim (pNumber ws) (rNumber ⟨false, ws⟩) := by
  unfold pNumber rNumber
  rcases need_sim [40] (by simp) ws with ⟨hb, hp⟩ | ⟨hb, hp⟩
  · rw [hp, st_eta _ hb]
    simp only
    rcases name_sim (rNeed [40] ⟨false, ws⟩).ws with ⟨hb2, hp2⟩ | ⟨hb2, hp2⟩
    · rw [hp2, st_eta (rName _).2 hb2]
      simp only
      rcases need_sim [44] (by simp) (rName ⟨false, (rNeed [40] ⟨false, ws⟩).ws⟩).2.ws with ⟨hb3, hp3⟩ | ⟨hb3, hp3⟩
      · rw [hp3, st_eta (rNeed [44] _) hb3]
        simp only
        rcases state_sim (rNeed [44] ⟨false, (rName ⟨false, (rNeed [40] ⟨false, ws⟩).ws⟩).2.ws⟩).ws with ⟨hb4, hp4⟩ | ⟨hb4, hp4⟩
        · rw [hp4, st_eta (rState _).2 hb4]
          simp only
          rcases need_sim [41] (by simp) (rState ⟨false, (rNeed [44] ⟨false, (rName ⟨false, (rNeed [40] ⟨false, ws⟩).ws⟩).2.ws⟩).ws⟩).2.ws with ⟨hb5, hp5⟩ | ⟨hb5, hp5⟩
          · rw [hp5]
            exact .inl ⟨hb5, rfl⟩
          · rw [hp5]
            exact .inr ⟨hb5, rfl⟩
        · rw [hp4]
          exact .inr ⟨rNeed_bad hb4, rfl⟩
      · rw [hp3]
        exact .inr ⟨rNeed_bad (rState_bad hb3), rfl⟩
    · rw [hp2]
      exact .inr ⟨rNeed_bad (rState_bad (rNeed_bad hb2)), rfl⟩
  · rw [hp]
    exact .inr ⟨rNeed_bad (rState_bad (rNeed_bad (rName_bad hb))), rfl⟩
end Go.Proofs.YtikofngogkchfaaDoor

/- The reference's parser says what the grammar says. -/
namespace Go.Proofs.YtikofngogkchfaaDoor
set_option linter.unusedVariables false

theorem opF_61 (x : Wd) : opF 6 1 x = if isB [45] x = true then 6 else 0 := by
  cases hb : isB [45] x <;> simp [opF, opL, opHit, hb]
theorem opF_21 (x : Wd) : opF 2 1 x = if isB [110, 111, 116] x = true then 5 else 0 := by
  cases hb : isB [110, 111, 116] x <;> simp [opF, opL, opHit, hb]
theorem opF_62 (x : Wd) : opF 6 2 x = 0 := rfl
theorem opF_22 (x : Wd) : opF 2 2 x = 0 := rfl
theorem opF_x1 (lv : Nat) (x : Wd) (h : lv = 0 ∨ lv = 1 ∨ lv = 3 ∨ lv = 4 ∨ lv = 5) : opF lv 1 x = 0 := by
  rcases h with rfl | rfl | rfl | rfl | rfl <;> rfl

theorem part_sim {rec : List Wd → Option (Nd × List Wd)} {rec' : RSt → Nd × RSt} {x : Wd} {r : List Wd} (hrec : x ≠ noW → Sim (rec r) (rec' ⟨false, r⟩)) : Sim (pLeaf rec (x :: r)) (rPart rec' ⟨false, x :: r⟩) := by
  have e : rPart rec' ⟨false, x :: r⟩ = (if x.k = 2 then (tLit 1 x.n false [], ⟨false, r⟩)
    else if x.k = 3 then (tLit 3 0 false x.t, ⟨false, r⟩)
    else if isB [116, 114, 117, 101] x = true then (tLit 2 0 true [], ⟨false, r⟩)
    else if isB [102, 97, 108, 115, 101] x = true then (tLit 2 0 false [], ⟨false, r⟩)
    else if isB [40] x = true then ((rec' ⟨false, r⟩).1, rNeed [41] (rec' ⟨false, r⟩).2)
    else if isB [99, 111, 117, 110, 116] x = true then rCount ⟨false, r⟩
    else if isB [110, 117, 109, 98, 101, 114] x = true then rNumber ⟨false, r⟩
    else (.leaf 2 0 0 false [] (rPath ⟨false, x :: r⟩).1 0, (rPath ⟨false, x :: r⟩).2)) := rfl
  rw [e, pLeaf]
  by_cases c0 : x.k = 2
  · rw [if_pos c0, if_pos c0]
    exact .inl ⟨rfl, rfl⟩
  rw [if_neg c0, if_neg c0]
  by_cases c1 : x.k = 3
  · rw [if_pos c1, if_pos c1]
    exact .inl ⟨rfl, rfl⟩
  rw [if_neg c1, if_neg c1]
  by_cases c2 : isB [116, 114, 117, 101] x = true
  · rw [if_pos c2, if_pos c2]
    exact .inl ⟨rfl, rfl⟩
  rw [if_neg c2, if_neg c2]
  by_cases c3 : isB [102, 97, 108, 115, 101] x = true
  · rw [if_pos c3, if_pos c3]
    exact .inl ⟨rfl, rfl⟩
  rw [if_neg c3, if_neg c3]
  by_cases c4 : isB [40] x = true
  · rw [if_pos c4, if_pos c4]
    have hr := hrec (isB_ne c4 (by simp))
    unfold pParen
    show Sim _ ((rec' ⟨false, r⟩).1, rNeed [41] (rec' ⟨false, r⟩).2)
    rcases hr with ⟨h1, h2⟩ | ⟨h1, h2⟩
    · rw [h2]
      simp only
      rcases need_sim [41] (by simp) (rec' ⟨false, r⟩).2.ws with ⟨h3, h4⟩ | ⟨h3, h4⟩
      · rw [h4, st_eta (rec' ⟨false, r⟩).2 h1]
        exact .inl ⟨h3, rfl⟩
      · rw [h4, st_eta (rec' ⟨false, r⟩).2 h1]
        exact .inr ⟨h3, rfl⟩
    · rw [h2]
      exact .inr ⟨rNeed_bad h1, rfl⟩
  rw [if_neg c4, if_neg c4]
  by_cases c5 : isB [99, 111, 117, 110, 116] x = true
  · rw [if_pos c5, if_pos c5]
    exact count_sim r
  rw [if_neg c5, if_neg c5]
  by_cases c6 : isB [110, 117, 109, 98, 101, 114] x = true
  · rw [if_pos c6, if_pos c6]
    exact number_sim r
  rw [if_neg c6, if_neg c6]
  rcases path_sim (x :: r) with ⟨h1, h2⟩ | ⟨h1, h2⟩
  · rw [h2]
    exact .inl ⟨h1, rfl⟩
  · rw [h2]
    exact .inr ⟨h1, rfl⟩

theorem factor_sim {rec' : RSt → Nd × RSt} {L0 : Nat} (hrec : ∀ ws' f, ws'.length < L0 → 9 * ws'.length + 8 < f → Oks ws' → Sim (tree f 0 ws') (rec' ⟨false, ws'⟩)) :
    ∀ (g : Nat) (ws : List Wd) (f : Nat), ws.length ≤ L0 → ws.length < g → 9 * ws.length + 2 < f → Oks ws → Sim (tree f 6 ws) (rFactor rec' g ⟨false, ws⟩) := by
  intro g
  induction g with
  | zero => intro ws f _ h; omega
  | succ g ih =>
    intro ws f h1 h2 h3 ho
    obtain ⟨x, r, rfl, hx⟩ := ho.cons
    obtain ⟨f, rfl⟩ : ∃ k, f = k + 1 := ⟨f - 1, by omega⟩
    simp only [List.length_cons] at h1 h2 h3
    have e : rFactor rec' (g + 1) ⟨false, x :: r⟩ = (if false = false ∧ isB [45] x = true then ((Nd.un 6 (rFactor rec' g ⟨false, r⟩).1, (rFactor rec' g ⟨false, r⟩).2) : Nd × RSt) else rPart rec' ⟨false, x :: r⟩) := rfl
    rw [tree, e, if_neg (by decide), show nextW (x :: r) = x from rfl, opF_61]
    by_cases hm : isB [45] x = true
    · have hok := hx.resolve_left fun q => isB_ne hm (by simp) q.1
      rw [if_pos hm, if_pos (by decide), if_pos ⟨rfl, hm⟩]
      rcases ih r f (by omega) (by omega) (by omega) hok.2 with ⟨h4, h5⟩ | ⟨h4, h5⟩
      · simp only [List.tail_cons]
        rw [h5]
        exact .inl ⟨h4, rfl⟩
      · simp only [List.tail_cons]
        rw [h5]
        exact .inr ⟨h4, rfl⟩
    · rw [if_neg hm, if_neg (by decide), if_neg (fun q => hm q.2)]
      obtain ⟨f, rfl⟩ : ∃ k, f = k + 1 := ⟨f - 1, by omega⟩
      have ht : tree (f + 1) (6 + 1) (x :: r) = pLeaf (tree f 0) (x :: r) := by
        rw [tree, if_pos rfl]
      rw [ht]
      have hp : Sim (pLeaf (tree f 0) (x :: r)) (rPart rec' ⟨false, x :: r⟩) := part_sim fun hne => hrec r f (by omega) (by omega) (ho.next hne).2
      rcases hp with ⟨h4, h5⟩ | ⟨h4, h5⟩
      · rw [h5]
        simp only
        rw [pLoop, if_pos (opF_62 _)]
        exact .inl ⟨h4, rfl⟩
      · rw [h5]
        exact .inr ⟨h4, rfl⟩

theorem loop_sim {rec : List Wd → Option (Nd × List Wd)} {rec' : RSt → Nd × RSt} {L0 lv : Nat} (hl : ∀ ws n r, rec ws = some (n, r) → Lft ws r) (hrec : ∀ ws', ws'.length < L0 → Oks ws' → Sim (rec ws') (rec' ⟨false, ws'⟩)) :
    ∀ (g : Nat) (n : Nd) (ws : List Wd) (g' : Nat), ws.length ≤ L0 → ws.length < g → ws.length < g' → Oks ws → Sim (pLoop rec lv g n ws) (rLoop rec' (lv + 1) g' n ⟨false, ws⟩) := by
  intro g
  induction g with
  | zero => intro n ws g' _ h; omega
  | succ g ih =>
    intro n ws g' h1 h2 h3 ho
    obtain ⟨g', rfl⟩ : ∃ k, g' = k + 1 := ⟨g' - 1, by omega⟩
    rw [pLoop, rLoop]
    rw [Nat.add_sub_cancel]
    by_cases hop : opF lv 2 (nextW ws) = 0
    · rw [if_pos hop, if_neg (fun q => q.1 hop)]
      exact .inl ⟨rfl, rfl⟩
    · rw [if_neg hop, if_pos ⟨hop, rfl⟩]
      have ht := op_lft hop
      show Sim _ (if lv + 1 = 4 then (.bin (opF lv 2 (nextW ws)) n (rec' ⟨false, ws.tail⟩).1, (rec' ⟨false, ws.tail⟩).2) else rLoop rec' (lv + 1) g' (.bin (opF lv 2 (nextW ws)) n (rec' ⟨false, ws.tail⟩).1) (rec' ⟨false, ws.tail⟩).2)
      have h3l : (lv = 3) = (lv + 1 = 4) := by simp
      have ht1 := ht.1
      rcases hrec ws.tail (by omega) (ht.2 ho) with ⟨h4, h5⟩ | ⟨h4, h5⟩
      · rw [h5]
        simp only [h3l]
        have h6 := hl _ _ _ h5
        have h61 := h6.1
        split
        · exact .inl ⟨h4, rfl⟩
        · rw [st_eta (rec' ⟨false, ws.tail⟩).2 h4]
          exact ih _ _ _ (by dsimp only; omega) (by dsimp only; omega) (by dsimp only; omega) (h6.2 (ht.2 ho))
      · rw [h5]
        refine .inr ⟨?_, rfl⟩
        by_cases hl4 : lv + 1 = 4
        · rw [if_pos hl4]
          exact h4
        · rw [if_neg hl4]
          cases g' with
          | zero => exact h4
          | succ k => rw [rLoop, if_neg (fun q => by rw [q.2] at h4; cases h4)]; exact h4

theorem loose_sim : ∀ (L : Nat) (ws : List Wd), ws.length ≤ L → Oks ws → ∀ (d lv f f' : Nat), lv + d = 6 → 9 * ws.length + 8 < f + lv → 9 * ws.length + 8 < f' + lv → Sim (tree f lv ws) (rLoose f' (lv + 1) ⟨false, ws⟩) := by
  intro L
  induction L with
  | zero => intro ws h ho; have := ho.ne; omega
  | succ L ihL =>
    intro ws hL ho d
    induction d with
    | zero =>
      intro lv f f' hd hf hf'
      obtain rfl : lv = 6 := by omega
      obtain ⟨f', rfl⟩ : ∃ k, f' = k + 1 := ⟨f' - 1, by omega⟩
      have e : rLoose (f' + 1) (6 + 1) ⟨false, ws⟩ = rFactor (rLoose f' 1) (ws.length + 1) ⟨false, ws⟩ := by
        rw [rLoose, if_neg (by simp), if_neg (by decide), if_pos rfl]
      rw [e]
      exact factor_sim (L0 := ws.length) (fun ws' k h1 h2 h3 => ihL ws' (by omega) h3 6 0 k f' (by omega) (by omega) (by omega)) _ _ _ (Nat.le_refl _) (by omega) (by omega) ho
    | succ d ihd =>
      intro lv f f' hd hf hf'
      obtain ⟨f, rfl⟩ : ∃ k, f = k + 1 := ⟨f - 1, by omega⟩
      obtain ⟨f', rfl⟩ : ∃ k, f' = k + 1 := ⟨f' - 1, by omega⟩
      have hnext := ihd (lv + 1) f f' (by omega) (by omega) (by omega)
      by_cases h2 : lv = 2
      · subst h2
        have e : rLoose (f' + 1) (2 + 1) ⟨false, ws⟩ = if isB [110, 111, 116] (nextW ws) = true then (.un 5 (rLoose f' 3 ⟨false, ws.tail⟩).1, (rLoose f' 3 ⟨false, ws.tail⟩).2) else rLoose f' 4 ⟨false, ws⟩ := by
          rw [rLoose, if_neg (by simp), if_pos rfl]
          rfl
        rw [e]
        rw [tree, if_neg (by decide), opF_21]
        by_cases hm : isB [110, 111, 116] (nextW ws) = true
        · rw [if_pos hm, if_pos (by decide), if_pos hm]
          have ht := tail_lft (by simp) hm
          have ht1 := ht.1
          rcases ihL ws.tail (by omega) (ht.2 ho) 4 2 f f' (by omega) (by omega) (by omega) with ⟨h4, h5⟩ | ⟨h4, h5⟩
          · rw [h5]
            exact .inl ⟨h4, rfl⟩
          · rw [h5]
            exact .inr ⟨h4, rfl⟩
        · rw [if_neg hm, if_neg (by decide), if_neg hm]
          rcases hnext with ⟨h4, h5⟩ | ⟨h4, h5⟩
          · rw [h5]
            simp only
            rw [pLoop, if_pos (opF_22 _)]
            exact .inl ⟨h4, rfl⟩
          · rw [h5]
            exact .inr ⟨h4, rfl⟩
      · have e : rLoose (f' + 1) (lv + 1) ⟨false, ws⟩ = rLoop (rLoose f' (lv + 1 + 1)) (lv + 1) ((rLoose f' (lv + 1 + 1) ⟨false, ws⟩).2.ws.length + 1) (rLoose f' (lv + 1 + 1) ⟨false, ws⟩).1 (rLoose f' (lv + 1 + 1) ⟨false, ws⟩).2 := by
          rw [rLoose, if_neg (by simp), if_neg (by omega), if_neg (by omega)]
        rw [e]
        rw [tree, if_neg (by omega), opF_x1 lv _ (by omega), if_neg (by decide)]
        rcases hnext with ⟨h4, h5⟩ | ⟨h4, h5⟩
        · rw [h5]
          simp only
          have h6 := tree_lft _ _ _ _ _ h5
          have h61 := h6.1
          rw [st_eta (rLoose f' (lv + 1 + 1) ⟨false, ws⟩).2 h4]
          exact loop_sim (L0 := ws.length) (tree_lft f (lv + 1)) (fun ws' h7 h8 => ihL ws' (by omega) h8 d (lv + 1) f f' (by omega) (by omega) (by omega)) _ _ _ _ (by dsimp only; omega) (by dsimp only; omega) (by dsimp only; omega) (h6.2 ho)
        · rw [h5]
          refine .inr ⟨?_, rfl⟩
          rw [rLoop, if_neg (fun q => by rw [q.2] at h4; cases h4)]
          exact h4
end Go.Proofs.YtikofngogkchfaaDoor

/- The reference's parser: what is left is no longer; its operators. -/
namespace Go.Proofs.YtikofngogkchfaaDoor
set_option linter.unusedVariables false

theorem tl_le (s : RSt) : s.tl.ws.length ≤ s.ws.length := by unfold RSt.tl; simp
theorem rNeed_le (m : List UInt8) (s : RSt) : (rNeed m s).ws.length ≤ s.ws.length := by
  unfold rNeed
  split
  · exact tl_le s
  · exact Nat.le_refl _
theorem rName_le (s : RSt) : (rName s).2.ws.length ≤ s.ws.length := by
  unfold rName
  split
  · exact tl_le s
  · exact Nat.le_refl _
theorem rDots_le : ∀ (f : Nat) (acc : List UInt8) (s : RSt), (rDots f acc s).2.ws.length ≤ s.ws.length := by
  intro f
  induction f with
  | zero => intro acc s; exact Nat.le_refl _
  | succ f ih =>
    intro acc s
    rw [rDots]
    split
    · have h1 := ih (acc ++ (46 :: (rName s.tl).1)) (rName s.tl).2
      have h2 := rName_le s.tl
      have h3 := tl_le s
      omega
    · exact Nat.le_refl _
theorem rPath_le (s : RSt) : (rPath s).2.ws.length ≤ s.ws.length := Nat.le_trans (rDots_le _ _ _) (rName_le s)
theorem rCount_le (s : RSt) : (rCount s).2.ws.length ≤ s.ws.length := Nat.le_trans (rNeed_le _ _) (Nat.le_trans (rPath_le _) (rNeed_le _ _))
theorem rState_le (s : RSt) : (rState s).2.ws.length ≤ s.ws.length := rName_le s
theorem rNumber_le (s : RSt) : (rNumber s).2.ws.length ≤ s.ws.length :=
  Nat.le_trans (rNeed_le _ _) (Nat.le_trans (rState_le _) (Nat.le_trans (rNeed_le _ _) (Nat.le_trans (rName_le _) (rNeed_le _ _))))
theorem rPart_le {rec : RSt → Nd × RSt} (hr : ∀ s, (rec s).2.ws.length ≤ s.ws.length) (s : RSt) : (rPart rec s).2.ws.length ≤ s.ws.length := by
  have ht := tl_le s
  unfold rPart
  split
  · exact ht
  split
  · exact ht
  split
  · exact ht
  split
  · exact ht
  split
  · exact Nat.le_trans (rNeed_le _ _) (Nat.le_trans (hr _) ht)
  split
  · exact Nat.le_trans (rCount_le _) ht
  split
  · exact Nat.le_trans (rNumber_le _) ht
  · exact rPath_le s
theorem rFactor_le {rec : RSt → Nd × RSt} (hr : ∀ s, (rec s).2.ws.length ≤ s.ws.length) : ∀ (f : Nat) (s : RSt), (rFactor rec f s).2.ws.length ≤ s.ws.length := by
  intro f
  induction f with
  | zero => intro s; exact Nat.le_refl _
  | succ f ih =>
    intro s
    rw [rFactor]
    split
    · exact Nat.le_trans (ih _) (tl_le s)
    · exact rPart_le hr s
theorem rLoop_le {rec : RSt → Nd × RSt} (hr : ∀ s, (rec s).2.ws.length ≤ s.ws.length) (own : Nat) : ∀ (f : Nat) (n : Nd) (s : RSt), (rLoop rec own f n s).2.ws.length ≤ s.ws.length := by
  intro f
  induction f with
  | zero => intro n s; exact Nat.le_refl _
  | succ f ih =>
    intro n s
    rw [rLoop]
    have h1 := Nat.le_trans (hr s.tl) (tl_le s)
    split
    · split
      · exact h1
      · exact Nat.le_trans (ih _ _) h1
    · exact Nat.le_refl _
theorem rLoose_le : ∀ (f own : Nat) (s : RSt), (rLoose f own s).2.ws.length ≤ s.ws.length := by
  intro f
  induction f with
  | zero => intro own s; exact Nat.le_refl _
  | succ f ih =>
    intro own s
    rw [rLoose]
    split
    · exact Nat.le_refl _
    split
    · split
      · exact Nat.le_trans (ih _ _) (tl_le s)
      · exact ih _ _
    split
    · exact rFactor_le (ih 1) _ _
    · exact Nat.le_trans (rLoop_le (ih (own + 1)) _ _ _ _) (ih _ _)

/-! ### operators -/
/-- How tight an operator binds, and its sign. -/
def tgF (op : Nat) : Nat := [8, 8, 8, 8, 8, 3, 7, 6, 6, 6, 5, 5, 4, 4, 4, 4, 4, 4, 2, 1].getD op 8
def sgF (op : Nat) : List UInt8 := ([[], [], [], [], [], [], [], [42], [47], [37], [43], [45], [60], [60, 61], [62], [62, 61], [61], [33, 61], [97, 110, 100], [111, 114]] : List (List UInt8)).getD op []
theorem op_hit {own k : Nat} {x : Wd} (h1 : 7 ≤ k) (h2 : k ≤ 19) (ht : tgF k = own) (hi : isB (sgF k) x = true) : opF (own - 1) 2 x = k := by
  obtain ⟨xk, xt, xn⟩ := x
  unfold isB at hi
  simp only [Bool.and_eq_true, beq_iff_eq] at hi
  obtain ⟨hx, hk⟩ := hi
  subst ht
  subst hx
  rcases (by omega : k = 7 ∨ k = 8 ∨ k = 9 ∨ k = 10 ∨ k = 11 ∨ k = 12 ∨ k = 13 ∨ k = 14 ∨ k = 15 ∨ k = 16 ∨ k = 17 ∨ k = 18 ∨ k = 19) with rfl | rfl | rfl | rfl | rfl | rfl | rfl | rfl | rfl | rfl | rfl | rfl | rfl <;>
    simp [opF, opL, opHit, isB, tgF, sgF, hk] at hk ⊢ <;> simp [hk]
theorem op_none {own : Nat} {x : Wd} (h0 : 1 ≤ own) (h : ∀ k, 7 ≤ k → k < 20 → ¬ (tgF k = own ∧ isB (sgF k) x = true)) : opF (own - 1) 2 x = 0 := by
  unfold opF
  cases hf : opL.find? (opHit (own - 1) 2 x) with
  | none => rfl
  | some o =>
    exfalso
    have h1 := List.find?_some hf
    have h2 := List.mem_of_find?_eq_some hf
    unfold opHit at h1
    simp only [Bool.and_eq_true, decide_eq_true_eq] at h1
    have hall : ∀ o ∈ opL, o.2.2.2 = 2 → tgF o.2.1 = o.2.2.1 + 1 ∧ sgF o.2.1 = o.1 ∧ 7 ≤ o.2.1 ∧ o.2.1 < 20 := by decide
    obtain ⟨a, b, c, d⟩ := hall o h2 h1.1.2
    exact h o.2.1 c d ⟨by rw [a, h1.1.1]; omega, by rw [b]; exact h1.2⟩
end Go.Proofs.YtikofngogkchfaaDoor

/- The reference's parser: its state, and the words that it takes. -/
namespace Go.Proofs.YtikofngogkchfaaDoor
open Go.RowKit
set_option linter.unusedVariables false

/-- The reference's parser at block qb: these words, which lie in block wg, and whether they are bad. -/
structure RS (w : World) (qb wg : Nat) (s : RSt) : Prop where
  ok : Oks s.ws
  len : s.ws.length ≤ 401
  lies : ∃ off cap, w.heap[qb]? = some (.cells #[.slice (some ⟨wg, off, none⟩) s.ws.length cap, .bool s.bad] 46 (0, 0)) ∧ s.ws.length ≤ cap ∧ cap ≤ maxLen ∧ WsAt w wg off s.ws
  ne : wg ≠ qb
  lt : wg < w.heap.size ∧ qb < w.heap.size
theorem RS.below {w w' : World} {qb wg : Nat} {s : RSt} (h : RS w qb wg s) (hb : Below w.heap.size w w') : RS w' qb wg s := by
  obtain ⟨off, cap, h1, h2, h3, h4⟩ := h.lies
  have hp := hb.block _ h.lt.2
  have hg := hb.block _ h.lt.1
  have hs := hb.size
  exact ⟨h.ok, h.len, ⟨off, cap, hp.trans h1, h2, h3, h4.keep hg⟩, h.ne, by have := h.lt; omega⟩
theorem RS.first {w : World} {qb wg : Nat} {s : RSt} (h : RS w qb wg s) : ∃ x r off cap, s.ws = x :: r ∧ ((x = noW ∧ r = []) ∨ (OkV x ∧ Oks r)) ∧ w.cell? ⟨qb, 0, none⟩ = some (.slice (some ⟨wg, off, none⟩) (r.length + 1) cap) ∧ w.cell? ⟨qb, 1, none⟩ = some (.bool s.bad) ∧ r.length + 1 ≤ cap ∧ cap ≤ maxLen
    ∧ (∀ o, w.frozen? ⟨qb, o, none⟩ = false) ∧ w.cell? ⟨wg, off, none⟩ = some (.int .i64 x.k) ∧ w.cell? ⟨wg, off + 1, none⟩ = some (.string ⟨x.t.toArray⟩) ∧ w.cell? ⟨wg, off + 2, none⟩ = some (.int .i64 x.n) := by
  obtain ⟨x, r, hr, hx⟩ := h.ok.cons
  obtain ⟨off, cap, h1, h2, h3, h4⟩ := h.lies
  rw [hr] at h1 h2 h4
  obtain ⟨c1, c2, c3⟩ := cells2 h1
  exact ⟨x, r, off, cap, hr, hx, c1, c2, h2, h3, c3, h4.hd.1, h4.hd.2.1, h4.hd.2.2⟩
theorem RS.step {w : World} {qb wg : Nat} {bad : Bool} {x : Wd} {r : List Wd} (h : RS w qb wg ⟨bad, x :: r⟩) (ho : Oks r) {off cap : Nat} (hc : w.cell? ⟨qb, 0, none⟩ = some (.slice (some ⟨wg, off, none⟩) (r.length + 1) cap)) :
    RS (w.setCell ⟨qb, 0, none⟩ (.slice (some ⟨wg, off + 3, none⟩) r.length (cap - 1))) qb wg ⟨bad, r⟩ ∧ Chg [qb] w (w.setCell ⟨qb, 0, none⟩ (.slice (some ⟨wg, off + 3, none⟩) r.length (cap - 1))) := by
  obtain ⟨off', cap', h1, h2, h3, h4⟩ := h.lies
  have := (cells2 h1).1.symm.trans hc
  simp only [Option.some.injEq, Value.slice.injEq, Addr.mk.injEq, true_and, and_true] at this
  obtain ⟨rfl, _, rfl⟩ := this
  have hl : (x :: r).length = r.length + 1 := rfl
  have h2' : (x :: r).length ≤ cap' := h2
  have h5 : (x :: r).length ≤ 401 := h.len
  have h6 : WsAt w wg off' (x :: r) := h4
  refine ⟨⟨ho, by show r.length ≤ 401; omega, ⟨off' + 3, cap' - 1, ?_, by show r.length ≤ _; omega, by omega, h6.tail.keep (Below.heap_setCell _ _ _ _ h.ne)⟩, h.ne, by rw [World.size_setCell]; exact h.lt⟩, (Chg.refl _ _).set' _ _ _ (.inl (by simp))⟩
  rw [block_set _ _ _ _ _ _ _ h1]
  rfl
theorem RS.spoil {w : World} {qb wg : Nat} {s : RSt} (h : RS w qb wg s) :
    RS (w.setCell ⟨qb, 1, none⟩ (.bool true)) qb wg ⟨true, s.ws⟩ ∧ Chg [qb] w (w.setCell ⟨qb, 1, none⟩ (.bool true)) := by
  obtain ⟨off, cap, h1, h2, h3, h4⟩ := h.lies
  refine ⟨⟨h.ok, h.len, ⟨off, cap, ?_, h2, h3, h4.keep (Below.heap_setCell _ _ _ _ h.ne)⟩, h.ne, by rw [World.size_setCell]; exact h.lt⟩, (Chg.refl _ _).set' _ _ _ (.inl (by simp))⟩
  rw [block_set _ _ _ _ _ _ _ h1]
  rfl

/-- A sign or a keyword. -/
def MarkOk (m : List UInt8) : Prop := ∃ c r, m = c :: r ∧ (keyB m = true ∨ letB c = false)
theorem isR_is {m : List UInt8} (hm : MarkOk m) {x : Wd} (hx : x = noW ∨ OkV x) : ((x.t == m) && ((x.k == 4) || ((x.k == 1) && keyB m))) = isB m x := by
  obtain ⟨c, r, rfl, hc⟩ := hm
  unfold isB
  by_cases ht : x.t = c :: r
  · rw [show (x.t == c :: r) = true from by simp [ht], Bool.true_and, Bool.true_and]
    rcases hx with rfl | ⟨hx, _⟩
    · cases ht
    · rcases hx with ⟨hk, _, c', r', ht', hl, _⟩ | ⟨hk, ht', _⟩ | ⟨hk, _⟩ | ⟨hk, _⟩
      · rw [ht] at ht'
        simp only [List.cons.injEq] at ht'
        obtain ⟨rfl, rfl⟩ := ht'
        rcases hc with hc | hc
        · rw [hk, hc]; rfl
        · rw [hl] at hc; cases hc
      · rw [ht] at ht'; cases ht'
      · rw [hk]; rfl
      · rw [hk]; rfl
  · rw [show (x.t == c :: r) = false from by simp [ht]]; rfl

set_option maxRecDepth 100000 in
set_option maxHeartbeats 1000000 in
theorem ris_c {w : World} {qb wg : Nat} {s : RSt} (h : RS w qb wg s) (m : ByteArray) (hm : MarkOk m.data.toList) : Calls Tryd.prog 46 #[.pointer (some ⟨qb, 0, none⟩), .string m] w fun e w' => e = .returned (.bool (isB m.data.toList (nextW s.ws))) ∧ Below w.heap.size w w' := by
  obtain ⟨x, r, off, cap, hr, hx, c1, c2, h1, h2, _, n1, n2, n3⟩ := h.first
  have HK := Lib.hid (fun w => rkey_c w m)
  have hE := isR_is hm (hx.imp (·.1) (·.1))
  have hlt : (0 : Int) < (r.length : Int) + 1 := by omega
  obtain ⟨k, hk⟩ : ∃ k, k = x.k := ⟨_, rfl⟩
  obtain ⟨X, hX⟩ : ∃ X : ByteArray, X = ⟨x.t.toArray⟩ := ⟨_, rfl⟩
  have hXt : (x.t == m.data.toList) = (X.toList == m.toList) := by rw [hX, toList_data, toList_data]
  rw [← hk, hXt] at hE
  rw [← hk] at n1
  rw [← hX] at n2
  obtain ⟨b1, hb1⟩ : ∃ b, (X.toList == m.toList) = b := ⟨_, rfl⟩
  obtain ⟨b4, hb4⟩ : ∃ b, (k == 4) = b := ⟨_, rfl⟩
  obtain ⟨bk, hbk⟩ : ∃ b, (k == 1) = b := ⟨_, rfl⟩
  obtain ⟨q, hq⟩ : ∃ b, keyB m.data.toList = b := ⟨_, rfl⟩
  rw [hq] at HK
  rw [hb1, hb4, hbk, hq] at hE
  have HE := Lib.hid hE
  have HX := Lib.hid (show nextW s.ws = x from by rw [hr]; rfl)
  have hpl := h.lt.2
  have hwl := h.lt.1
  have HBX := Lib.hid (fun o => box_bel' w o)
  clear h hm hE hr hx hk hX hXt hq h2
  cases b1 <;> cases b4 <;> cases bk <;> cases q
  all_goals
    go_enter Tryd.func46, Tryd.ntmps46
    go_wp2_with (go_at_call 12; refine (HK.out _).mono ?_; rintro e w1 ⟨rfl, hb⟩; have HB := Lib.hid hb; clear hb)
    go_ret
    refine ⟨by rw [HX.out, ← HE.out]; rfl, ?_⟩
    first | exact (HBX.out _).trans (HB.out.mono (by simp)) | exact HBX.out _

set_option maxRecDepth 100000 in
theorem rtake_c {w : World} {qb wg : Nat} {s : RSt} (h : RS w qb wg s) (m : ByteArray) (hm : MarkOk m.data.toList) : Calls Tryd.prog 29 #[.pointer (some ⟨qb, 0, none⟩), .string m] w fun e w' =>
    e = .returned (.bool (isB m.data.toList (nextW s.ws))) ∧ RS w' qb wg (if isB m.data.toList (nextW s.ws) = true then s.tl else s) ∧ Chg [qb] w w' := by
  have HI := Lib.hid (ris_c h m hm)
  have HH := Lib.hid h
  have hne : m.data.toList ≠ [] := by obtain ⟨c, r, e, _⟩ := hm; rw [e]; simp
  obtain ⟨b, hb⟩ : ∃ b, isB m.data.toList (nextW s.ws) = b := ⟨_, rfl⟩
  rw [hb] at HI ⊢
  cases b with
  | false =>
    clear h hm hb hne
    go_enter Tryd.func29, Tryd.ntmps29
    go_wp2_with (go_at_call 46; refine (HI.out).mono ?_; rintro e w1 ⟨rfl, hb⟩; have HB := Lib.hid hb; clear hb)
    go_ret
    exact ⟨rfl, HH.out.below HB.out, Chg.of_below HB.out⟩
  | true =>
    have HQ := Lib.hid hb
    have HNE := Lib.hid hne
    clear h hm hb hne
    go_enter Tryd.func29, Tryd.ntmps29
    go_wp2_with fail
    refine (HI.out).mono ?_
    rintro e w1 ⟨rfl, hb⟩
    have HB := Lib.hid hb
    clear hb
    have hs1 := HH.out.below HB.out
    obtain ⟨x, r, off, cap, hr, hx, c1, c2, h1, h2, hz, n1, n2, n3⟩ := hs1.first
    have hok := hx.resolve_left (fun q => by have := HQ.out; rw [hr, nextW_cons] at this; exact isB_ne this HNE.out q.1)
    have hs2 : RS w1 qb wg ⟨s.bad, x :: r⟩ := by rw [← hr]; exact hs1
    have HS := Lib.hid (hs2.step hok.2 c1)
    have HTL := Lib.hid (show s.tl = ⟨s.bad, r⟩ from by unfold RSt.tl; rw [hr]; rfl)
    have hp := hok.2.ne
    have hlt : 1 < cap := by omega
    have hlt' : 1 ≠ cap := by omega
    have hsl : (1 : Int) ≤ (r.length : Int) + 1 := by omega
    clear hs1 hr hx hs2 hok n1 n2 n3 h2
    go_wp2_with fail
    go_ret
    rw [HTL.out]
    exact ⟨rfl, HS.out.1, (Chg.of_below HB.out).trans HS.out.2⟩

set_option maxRecDepth 100000 in
theorem rneed_c {w : World} {qb wg : Nat} {s : RSt} (h : RS w qb wg s) (m : ByteArray) (hm : MarkOk m.data.toList) : Calls Tryd.prog 69 #[.pointer (some ⟨qb, 0, none⟩), .string m] w fun e w' =>
    e = .returned (.tuple #[]) ∧ RS w' qb wg (rNeed m.data.toList s) ∧ Chg [qb] w w' := by
  have HT := Lib.hid (rtake_c h m hm)
  obtain ⟨b, hb⟩ : ∃ b, isB m.data.toList (nextW s.ws) = b := ⟨_, rfl⟩
  have HN := Lib.hid (show rNeed m.data.toList s = if b = true then s.tl else ⟨true, s.ws⟩ from by unfold rNeed; rw [hb])
  rw [hb] at HT
  clear h hm hb
  cases b with
  | false =>
    go_enter Tryd.func69, Tryd.ntmps69
    go_wp2_with fail
    refine (HT.out).mono ?_
    rintro e w1 ⟨rfl, hs, hc⟩
    rw [if_neg (by simp)] at hs
    have HS := Lib.hid hs
    have HC := Lib.hid hc
    clear hs hc
    obtain ⟨x, r, off, cap, hr, hx, c1, c2, h1, h2, hz, n1, n2, n3⟩ := HS.out.first
    have HP := Lib.hid HS.out.spoil
    clear hr hx n1 n2 n3 c1 h1 h2
    go_wp2_with fail
    first | go_end0 | exact bodyPost_end rfl rfl ?_ | skip
    rw [HN.out, if_neg (by simp)]
    exact ⟨rfl, HP.out.1, HC.out.trans HP.out.2⟩
  | true =>
    go_enter Tryd.func69, Tryd.ntmps69
    go_wp2_with (go_at_call 29; refine (HT.out).mono ?_; rintro e w1 ⟨rfl, hs, hc⟩; simp only [if_true] at hs; have HS := Lib.hid hs; have HC := Lib.hid hc; clear hs hc)
    first | go_end0 | skip
    rw [HN.out]
    simp only [if_true]
    exact ⟨trivial, HS.out, HC.out⟩

theorem wbox {w : World} {b : Nat} {c0 c1 c2 : Value} {T : TypeId} (h : w.heap[b]? = some (.cells #[c0, c1, c2] T (0, 0))) :
    w.cell? ⟨b, 0, none⟩ = some c0 ∧ w.cell? ⟨b, 1, none⟩ = some c1 ∧ w.cell? ⟨b, 2, none⟩ = some c2 := by
  refine ⟨?_, ?_, ?_⟩ <;> simp [World.cell?, h]
set_option maxRecDepth 100000 in
theorem rname_c {w : World} {qb wg : Nat} {s : RSt} (h : RS w qb wg s) : Calls Tryd.prog 71 #[.pointer (some ⟨qb, 0, none⟩)] w fun e w' =>
    e = .returned (.string ⟨(rName s).1.toArray⟩) ∧ RS w' qb wg (rName s).2 ∧ Chg [qb] w w' := by
  obtain ⟨x, r, off, cap, hr, hx, c1, c2, h1, h2, hz, n1, n2, n3⟩ := h.first
  have hpl := h.lt.2
  have hwl := h.lt.1
  have HBX := Lib.hid (fun o => box_bel' w o)
  have HK := Lib.hid (fun w => rkey_c w ⟨x.t.toArray⟩)
  have hd : (⟨x.t.toArray⟩ : ByteArray).data.toList = x.t := rfl
  rw [hd] at HK
  have HRN := Lib.hid (show rName s = if x.k = 1 ∧ keyB x.t = false then (x.t, s.tl) else ([], ⟨true, s.ws⟩) from by unfold rName; rw [hr, nextW_cons])
  obtain ⟨X, hX⟩ : ∃ X : ByteArray, X = ⟨x.t.toArray⟩ := ⟨_, rfl⟩
  obtain ⟨b, hb⟩ : ∃ b, keyB x.t = b := ⟨_, rfl⟩
  rw [← hX, hb] at HK
  rw [← hX] at n2
  rw [hb] at HRN
  obtain ⟨k, hk⟩ : ∃ k, k = x.k := ⟨_, rfl⟩
  rw [← hk] at n1 HRN
  have HX := Lib.hid hX
  have hlt0 : (0 : Int) < (r.length : Int) + 1 := by omega
  have HH := Lib.hid h
  by_cases hk1 : k = 1
  · have tk : (k != 1) = false := by rw [hk1]; rfl
    cases b with
    | true =>
      rw [if_neg (by simp)] at HRN
      clear h hb hk hX hd hx hk1 hr
      go_enter Tryd.func71, Tryd.ntmps71
      go_wp2_with fail
      refine (HK.out _).mono ?_
      rintro e w1 ⟨rfl, hb⟩
      have HB := Lib.hid ((HBX.out _).trans (hb.mono (by simp)))
      clear hb
      have hs1 := HH.out.below HB.out
      obtain ⟨x', r', off', cap', hr', hx', c1', c2', h1', h2', hz', n1', n2', n3'⟩ := hs1.first
      have HP := Lib.hid hs1.spoil
      clear hs1 hr' hx' c1' h1' h2' n1' n2' n3'
      go_wp2_with fail
      go_ret
      rw [HRN.out]
      exact ⟨rfl, HP.out.1, (Chg.of_below HB.out).trans HP.out.2⟩
    | false =>
      rw [if_pos ⟨hk1, rfl⟩] at HRN
      have hok := hx.resolve_left (fun q => by rw [q.1] at hk; simp [noW] at hk; omega)
      have HOK := Lib.hid hok
      have HR := Lib.hid hr
      clear h hb hk hX hd hx hk1 hok hr
      go_enter Tryd.func71, Tryd.ntmps71
      go_wp2_with fail
      refine (HK.out _).mono ?_
      rintro e w1 ⟨rfl, hb⟩
      obtain ⟨d0, d1, d2⟩ := wbox ((hb.block w.heap.size (by simp)).trans (heap_alloc_new w _))
      have HB := Lib.hid ((HBX.out _).trans (hb.mono (by simp)))
      clear hb
      have hs1 := HH.out.below HB.out
      obtain ⟨x', r', off', cap', hr', hx', c1', c2', h1', h2', hz', n1', n2', n3'⟩ := hs1.first
      rw [HR.out] at hr'
      simp only [List.cons.injEq] at hr'
      obtain ⟨rfl, rfl⟩ := hr'
      have hs2 : RS w1 qb wg ⟨s.bad, x :: r⟩ := by rw [← HR.out]; exact hs1
      have HS := Lib.hid (hs2.step HOK.out.2 c1')
      have HTL := Lib.hid (show s.tl = ⟨s.bad, r⟩ from by unfold RSt.tl; rw [HR.out]; rfl)
      have hp := HOK.out.2.ne
      have hlt : 1 < cap' := by omega
      have hlt' : 1 ≠ cap' := by omega
      have hsl : (1 : Int) ≤ (r.length : Int) + 1 := by omega
      clear hs1 hs2 hx' n1' n2' n3' h2' c1 c2 n1 n2 n3 hz
      go_wp2_with fail
      go_ret
      rw [HRN.out, HTL.out]
      exact ⟨by rw [HX.out]; rfl, HS.out.1, (Chg.of_below HB.out).trans HS.out.2⟩
  · have tk : (k != 1) = true := by simpa using hk1
    rw [if_neg (fun q => hk1 q.1)] at HRN
    have HP := Lib.hid HH.out.spoil
    clear h hb hk hX hd hx hk1 hr HK
    go_enter Tryd.func71, Tryd.ntmps71
    go_wp2_with fail
    go_ret
    rw [HRN.out]
    exact ⟨rfl, HP.out.1.below (box_bel' _ _), HP.out.2.trans (Chg.of_below (box_bel' _ _))⟩
end Go.Proofs.YtikofngogkchfaaDoor

/- The reference's parser: paths. -/
namespace Go.Proofs.YtikofngogkchfaaDoor
open Go.RowKit
set_option linter.unusedVariables false

theorem rName_len {s : RSt} (ho : Oks s.ws) : (rName s).1.length ≤ 400 := by
  unfold rName
  split
  · next h =>
    obtain ⟨x, r, hr, hx⟩ := ho.cons
    rw [hr, nextW_cons] at h ⊢
    rcases hx with ⟨rfl, _⟩ | ⟨hx, _⟩
    · simp [noW] at h
    · exact hx.2
  · simp
theorem RS.lenAt {w : World} {qb wg : Nat} {s : RSt} (h : RS w qb wg s) : lenAt w qb = s.ws.length := by
  obtain ⟨off, cap, h1, _⟩ := h.lies
  unfold Go.Proofs.YtikofngogkchfaaDoor.lenAt
  rw [(cells2 h1).1]
def RDotsI (w : World) (qb wg : Nat) (R : List UInt8 × RSt) (v : Value) (wr : World) : Prop :=
  ∃ (S : ByteArray) (s : RSt) (f : Nat), v = .string S ∧ RS wr qb wg s ∧ Chg [qb] w wr ∧ rDots f S.data.toList s = R ∧ s.ws.length < f ∧ S.size + 401 * s.ws.length ≤ 161302
theorem dotOk : MarkOk (⟨#[46]⟩ : ByteArray).data.toList := ⟨46, [], rfl, .inr rfl⟩

set_option maxRecDepth 100000 in
set_option maxHeartbeats 1000000 in
theorem rpath_c {w : World} {qb wg : Nat} {s : RSt} (h : RS w qb wg s) : Calls Tryd.prog 70 #[.pointer (some ⟨qb, 0, none⟩)] w fun e w' =>
    e = .returned (.string ⟨(rPath s).1.toArray⟩) ∧ RS w' qb wg (rPath s).2 ∧ Chg [qb] w w' := by
  have HN := Lib.hid (rname_c h)
  have hl := h.len
  have hnl := rName_len h.ok
  have hrl := rName_le s
  obtain ⟨R, hR⟩ : ∃ R, R = rPath s := ⟨_, rfl⟩
  rw [← hR]
  have HP := Lib.hid (show rDots (s.ws.length + 1) (rName s).1 (rName s).2 = R from by rw [hR]; rfl)
  have HL := Lib.hid (And.intro hnl (And.intro hrl hl))
  obtain ⟨T, hT⟩ : ∃ T : ByteArray, T = ⟨(rName s).1.toArray⟩ := ⟨_, rfl⟩
  rw [← hT] at HN
  have HT := Lib.hid hT
  clear hR hT h hl hnl hrl
  go_enter Tryd.func70, Tryd.ntmps70
  go_wp2_with (go_at_call 71; refine (HN.out).mono ?_; rintro e w1 ⟨rfl, hs1, hc1⟩; have HS1 := Lib.hid hs1; have HC1 := Lib.hid hc1; clear hs1 hc1)
  have HI0 := Lib.hid (show RDotsI w qb wg R (.string T) w1 from ⟨T, (rName s).2, s.ws.length + 1, rfl, HS1.out, HC1.out, by rw [← HP.out, HT.out], by have := HL.out; omega, by
    have h1 : T.size = (rName s).1.length := by rw [HT.out]; show (rName s).1.toArray.size = _; exact List.size_toArray
    have := HL.out
    omega⟩)
  clear HS1 HC1 HL HP HT HN
  go_loopw [3] (fun v wr => RDotsI w qb wg R v wr) (fun _ wr => lenAt wr qb)
  case atStart => exact HI0.out
  case round =>
    obtain ⟨S, q, f, rfl, hps, hc, hd, hf, hsz⟩ := hrel
    have HPS := Lib.hid hps
    have HC := Lib.hid hc
    have htk := rtake_c hps ⟨#[46]⟩ dotOk
    have hok := hps.ok
    have hmeas := Lib.hid hps.lenAt
    obtain ⟨g, rfl⟩ : ∃ g, f = g + 1 := ⟨f - 1, by omega⟩
    obtain ⟨x, r, off, cap, hr, hx, c1, c2, h1, h2, hz, n1, n2, n3⟩ := hps.first
    obtain ⟨bd, hbd⟩ : ∃ b, b = q.bad := ⟨_, rfl⟩
    rw [← hbd] at c2
    cases bd with
    | true =>
      have HR := Lib.hid (show (S.data.toList, q) = R from by rw [← hd, rDots_bad hbd.symm])
      clear hps hc hok hd hf hsz hr hx h1 h2 n1 n2 n3 hbd c1 htk
      go_wp2_with fail
      go_ret
      rw [← HR.out]
      exact ⟨congrArg (fun x => Ending.returned (Value.string x)) (ofE S _ rfl), HPS.out, HC.out⟩
    | false =>
      by_cases hdot : isB [46] (nextW q.ws) = true
      · rw [show isB (⟨#[46]⟩ : ByteArray).data.toList (nextW q.ws) = true from hdot] at htk
        simp only [if_true] at htk
        have HTK := Lib.hid htk
        clear htk
        have hstep : rDots (g + 1) S.data.toList q = rDots g (S.data.toList ++ (46 :: (rName q.tl).1)) (rName q.tl).2 := by
          conv => lhs; unfold rDots
          rw [if_pos ⟨hbd.symm, hdot⟩]
        rw [hstep] at hd
        have hlt := tail_lft (by simp) hdot
        have htl : q.tl.ws = q.ws.tail := rfl
        have ht2 := rName_len (s := q.tl) (hlt.2 hok)
        have hr2 := rName_le q.tl
        have hr3 : q.tl.ws.length < q.ws.length := hlt.1
        have HR := Lib.hid hd
        have hS1 : S.size ≤ 161302 := by omega
        have HSZ := Lib.hid (And.intro hf (And.intro hsz (And.intro hr3 (And.intro ht2 hr2))))
        obtain ⟨T2, hT2⟩ : ∃ T2 : ByteArray, T2 = ⟨(rName q.tl).1.toArray⟩ := ⟨_, rfl⟩
        have hT2s : T2.size = (rName q.tl).1.length := by rw [hT2]; show (rName q.tl).1.toArray.size = _; exact List.size_toArray
        have hT2l : T2.size ≤ 400 := by omega
        have hDT : ((⟨#[46]⟩ : ByteArray) ++ T2).size ≤ 401 := by rw [ByteArray.size_append]; have : (⟨#[46]⟩ : ByteArray).size = 1 := rfl; omega
        have HT2 := Lib.hid (And.intro hT2 hT2s)
        clear hps hc hok hd hf hsz hdot hlt ht2 hr2 hT2s hT2 hr hx h1 h2 n1 n2 n3 hbd c1 hstep htl hr3
        go_wp2_with (first
          | (go_at_call 29; refine (HTK.out).mono ?_; rintro e w2 ⟨rfl, hs2, hc2⟩; have HN2 := rname_c hs2; rw [← HT2.out.1] at HN2; have HN2' := Lib.hid HN2; have HC2 := Lib.hid (HC.out.trans hc2); clear hs2 hc2 HN2)
          | (go_at_call 71; refine (HN2'.out).mono ?_; rintro e w3 ⟨rfl, hs3, hc3⟩; have HC3 := Lib.hid (HC2.out.trans hc3); have HS3 := Lib.hid hs3; clear hc3 hs3))
        go_roundw
        case rel =>
          refine ⟨_, (rName q.tl).2, g, rfl, HS3.out, HC3.out, ?_, by have := HSZ.out; omega, ?_⟩
          · rw [← HR.out, catE, catE, HT2.out.1]; rfl
          · have := HSZ.out
            have h2 := HT2.out.2
            rw [ByteArray.size_append, ByteArray.size_append]
            have : (⟨#[46]⟩ : ByteArray).size = 1 := rfl
            omega
        case measure => rw [HS3.out.lenAt, hmeas.out]; have := HSZ.out; omega
      · rw [Bool.not_eq_true] at hdot
        rw [show isB (⟨#[46]⟩ : ByteArray).data.toList (nextW q.ws) = false from hdot] at htk
        simp only [Bool.false_eq_true, if_false] at htk
        have HTK := Lib.hid htk
        clear htk
        have HR := Lib.hid (show (S.data.toList, q) = R from by
          rw [← hd]
          conv => rhs; unfold rDots
          rw [if_neg (by rw [hdot]; simp)])
        clear hps hc hok hd hf hsz hdot hr hx h1 h2 n1 n2 n3 hbd c1
        go_wp2_with (go_at_call 29; refine (HTK.out).mono ?_; rintro e w2 ⟨rfl, hs2, hc2⟩; have HS2 := Lib.hid hs2; have HC2 := Lib.hid (HC.out.trans hc2); clear hs2 hc2)
        go_ret
        rw [← HR.out]
        exact ⟨congrArg (fun x => Ending.returned (Value.string x)) (ofE S _ rfl), HS2.out, HC2.out⟩
end Go.Proofs.YtikofngogkchfaaDoor

/- The reference's parser: operators. -/
namespace Go.Proofs.YtikofngogkchfaaDoor
open Go.RowKit
set_option linter.unusedVariables false

set_option maxRecDepth 100000 in
set_option maxHeartbeats 1000000 in
theorem tight_c (w : World) (k : Nat) (h1 : 7 ≤ k) (h2 : k ≤ 19) : Calls Tryd.prog 48 #[.int .i64 (k : Nat)] w fun e w' => e = .returned (.int .i64 (tgF k : Nat)) ∧ w = w' := by
  rcases (by omega : k = 7 ∨ k = 8 ∨ k = 9 ∨ k = 10 ∨ k = 11 ∨ k = 12 ∨ k = 13 ∨ k = 14 ∨ k = 15 ∨ k = 16 ∨ k = 17 ∨ k = 18 ∨ k = 19) with rfl | rfl | rfl | rfl | rfl | rfl | rfl | rfl | rfl | rfl | rfl | rfl | rfl
  all_goals
    go_enter Tryd.func48, Tryd.ntmps48
    go_wp2_with fail
    go_ret
    exact ⟨rfl, rfl⟩
set_option maxRecDepth 100000 in
set_option maxHeartbeats 1000000 in
theorem sign_c9 (w : World) (k : Nat) (h1 : 7 ≤ k) (h2 : k ≤ 19) : Calls Tryd.prog 49 #[.int .i64 (k : Nat)] w fun e w' => e = .returned (.string ⟨(sgF k).toArray⟩) ∧ w = w' := by
  rcases (by omega : k = 7 ∨ k = 8 ∨ k = 9 ∨ k = 10 ∨ k = 11 ∨ k = 12 ∨ k = 13 ∨ k = 14 ∨ k = 15 ∨ k = 16 ∨ k = 17 ∨ k = 18 ∨ k = 19) with rfl | rfl | rfl | rfl | rfl | rfl | rfl | rfl | rfl | rfl | rfl | rfl | rfl
  all_goals
    go_enter Tryd.func49, Tryd.ntmps49
    go_wp2_with fail
    go_ret
    exact ⟨rfl, rfl⟩
theorem sgF_mark (k : Nat) (h1 : 7 ≤ k) (h2 : k ≤ 19) : MarkOk (sgF k) := by
  rcases (by omega : k = 7 ∨ k = 8 ∨ k = 9 ∨ k = 10 ∨ k = 11 ∨ k = 12 ∨ k = 13 ∨ k = 14 ∨ k = 15 ∨ k = 16 ∨ k = 17 ∨ k = 18 ∨ k = 19) with rfl | rfl | rfl | rfl | rfl | rfl | rfl | rfl | rfl | rfl | rfl | rfl | rfl
  all_goals first | exact ⟨_, _, rfl, .inr rfl⟩ | exact ⟨_, _, rfl, .inl rfl⟩
/-- None of the first operators. -/
def NoOp (own : Nat) (x : Wd) (k : Nat) : Prop := ∀ j, 7 ≤ j → j < k → ¬ (tgF j = own ∧ isB (sgF j) x = true)
theorem NoOp.next {own : Nat} {x : Wd} {k : Nat} (h : NoOp own x k) (hk : ¬ (tgF k = own ∧ isB (sgF k) x = true)) : NoOp own x (k + 1) := fun j h1 h2 => by
  by_cases e : j = k
  · rw [e]; exact hk
  · exact h j h1 (by omega)

set_option maxRecDepth 100000 in
set_option maxHeartbeats 1000000 in
theorem roperator_c {w : World} {qb wg : Nat} {s : RSt} (h : RS w qb wg s) (own : Nat) (ho1 : 1 ≤ own) (ho2 : own ≤ 7) : Calls Tryd.prog 31 #[.pointer (some ⟨qb, 0, none⟩), .int .i64 (own : Nat)] w fun e w' =>
    e = .returned (.int .i64 (opF (own - 1) 2 (nextW s.ws) : Nat)) ∧ Below w.heap.size w w' := by
  have HH := Lib.hid h
  obtain ⟨x, hx⟩ : ∃ x, x = nextW s.ws := ⟨_, rfl⟩
  have HX := Lib.hid hx
  rw [← hx]
  clear h hx
  go_enter Tryd.func31, Tryd.ntmps31
  go_wp2_with fail
  go_loopw [5] (fun i wr => ∃ k : Nat, 7 ≤ k ∧ k ≤ 20 ∧ i = .int .i64 (k : Nat) ∧ NoOp own x k ∧ Below w.heap.size w wr) (fun i _ => 20 - (intOf i).toNat)
  case atStart => exact ⟨7, by omega, by omega, rfl, fun j h1 h2 => by omega, Below.refl _ _⟩
  case round =>
    obtain ⟨k, hk7, hk, rfl, hr, hb⟩ := hrel
    have HR := Lib.hid hr
    have HB := Lib.hid hb
    clear hr hb
    by_cases hlt : k < 20
    · have hle : (k : Int) ≤ 19 := by omega
      have HT := Lib.hid (fun w => tight_c w k hk7 (by omega))
      have HS := Lib.hid (fun w => sign_c9 w k hk7 (by omega))
      have HI := Lib.hid (fun (w' : World) (hb : Below w.heap.size w w') => ris_c (HH.out.below hb) ⟨(sgF k).toArray⟩ (sgF_mark k hk7 (by omega)))
      rw [← HX.out] at HI
      obtain ⟨M, hM⟩ : ∃ M : ByteArray, M = ⟨(sgF k).toArray⟩ := ⟨_, rfl⟩
      have hMl : M.data.toList = sgF k := by rw [hM]
      rw [← hM] at HS HI
      obtain ⟨tg, htg⟩ : ∃ t, t = tgF k := ⟨_, rfl⟩
      rw [← htg] at HT
      by_cases h1 : tg = own
      · have te : ((tg : Int) == (own : Int)) = true := by simp [h1]
        obtain ⟨b, hb⟩ : ∃ b, isB M.data.toList x = b := ⟨_, rfl⟩
        rw [hb] at HI
        cases b with
        | true =>
          have HE := Lib.hid (show opF (own - 1) 2 x = k from op_hit hk7 (by omega) (by rw [← htg]; exact h1) (by rw [← hMl]; exact hb))
          clear hM hMl htg h1 hb
          go_wp2_with (first
            | (go_at_call 48; refine (HT.out _).mono ?_; rintro e w1 ⟨rfl, rfl⟩)
            | (go_at_call 49; refine (HS.out _).mono ?_; rintro e w1 ⟨rfl, rfl⟩)
            | (go_at_call 46; refine (HI.out _ HB.out).mono ?_; rintro e w2 ⟨rfl, hb2⟩; have HB2 := Lib.hid (HB.out.trans (hb2.mono HB.out.size)); clear hb2))
          go_ret
          exact ⟨by rw [HE.out]; rfl, HB2.out⟩
        | false =>
          have HE := Lib.hid (HR.out.next (k := k) (fun q => by rw [← hMl, hb] at q; exact absurd q.2 (by simp)))
          clear hM hMl htg h1 hb
          go_wp2_with (first
            | (go_at_call 48; refine (HT.out _).mono ?_; rintro e w1 ⟨rfl, rfl⟩)
            | (go_at_call 49; refine (HS.out _).mono ?_; rintro e w1 ⟨rfl, rfl⟩)
            | (go_at_call 46; refine (HI.out _ HB.out).mono ?_; rintro e w2 ⟨rfl, hb2⟩; have HB2 := Lib.hid (HB.out.trans (hb2.mono HB.out.size)); clear hb2))
          go_roundw
          case rel => exact ⟨k + 1, by omega, by omega, by go_num, HE.out, HB2.out⟩
          case measure => simp [intOf]; omega
      · have te : ((tg : Int) == (own : Int)) = false := by simp; omega
        have HE := Lib.hid (HR.out.next (k := k) (fun q => h1 (by rw [htg]; exact q.1)))
        clear hM hMl htg h1 HI HS
        go_wp2_with (go_at_call 48; refine (HT.out _).mono ?_; rintro e w1 ⟨rfl, rfl⟩)
        go_roundw
        case rel => exact ⟨k + 1, by omega, by omega, by go_num, HE.out, HB.out⟩
        case measure => simp [intOf]; omega
    · have HE := Lib.hid (show opF (own - 1) 2 x = 0 from op_none ho1 fun j h1 h2 => HR.out j h1 (by omega))
      have hgt : (19 : Int) < k := by omega
      go_wp2_with fail
      go_ret
      exact ⟨by rw [HE.out]; rfl, HB.out⟩
end Go.Proofs.YtikofngogkchfaaDoor
