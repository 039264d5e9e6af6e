/- a drawn region whose last operation is forced last: the others by themselves, then the last. -/
import Derived.StillTail
import Derived.Deep.RegionHeld3
namespace Go.Proofs.Ytncloiimbclklaa
open Go
set_option linter.unusedVariables false

section
variable {P : Program} {md : Region.Mode} {l : List Oper} {n : Nat} {Q : Exit → Act → World → Prop}

/-- Behind the others: the last one. -/
def cutPost (P : Program) (l : List Oper) (n : Nat) (Q : Exit → Act → World → Prop) : Exit → Act → World → Prop
  | .normal, a, w => wpList P l.toArray Q (l.drop n) a w
  | e, a, w => Q e a w

def cutB (md : Region.Mode) (l : List Oper) (n : Nat) : Bool :=
  decide (l.length = n + 1) && Region.sinkB md l.toArray n && Region.chainB md l.toArray n &&
  (List.range (n + 1)).all fun j => match l[j]? with
    | some o => (o.after.all fun e => decide (e.on < j)) && (match o.guard with | some (g, _) => decide (g < n) | none => true)
    | none => true

theorem Oper.wp_post {o : Oper} {a : Act} {w : World} {K : Act → World → Prop} {Q Q' : Exit → Act → World → Prop} (h1 : ∀ c a w, Q' (.panic c) a w → Q (.panic c) a w) (h2 : LetsOut Q' → LetsOut Q)
    (hh : o.wp P a w K Q') : o.wp P a w K Q := by
  unfold Oper.wp at *
  generalize (execOp a.eval o).run P w = r at *
  cases r with
  | ok m w' =>
    cases m <;> simp only [Oper.upon] at hh ⊢ <;>
      first
        | exact hh
        | exact Calls.mono hh (fun e w'' he => by cases e <;> first | exact he | exact h1 _ _ _ he | exact h2 he)
  | halt x w' => cases x <;> simp only [Oper.upon] at hh ⊢ <;> first | exact hh | exact h1 _ _ _ hh

theorem cutPost_panic (c) (a : Act) (w : World) (h : cutPost P l n Q (.panic c) a w) : Q (.panic c) a w := h
theorem cutPost_out (h : LetsOut (cutPost P l n Q)) : LetsOut Q := h

theorem yielded_cut {ops ops' : Array Oper} (g : Nat) (h : ops'[g]? = ops[g]?) (t : Array Value) : yielded ops' t g = yielded ops t g := by
  unfold yielded; rw [h]
theorem wanted_cut {ops ops' : Array Oper} {o : Oper} (h : ∀ g b, o.guard = some (g, b) → ops'[g]? = ops[g]?) (t : Array Value) : Region.wanted o (yielded ops' t) = Region.wanted o (yielded ops t) := by
  unfold Region.wanted
  cases hg : o.guard with
  | none => rfl
  | some p => obtain ⟨g, b⟩ := p; simp only []; rw [yielded_cut g (h g b hg)]

theorem wpAny_cut (hB : cutB md l n = true) : ∀ (fuel : Nat) (listed listed' : Array Bool) (a : Act) (w : World), listed.size = n + 1 → listed'.size = n → (∀ j, j < n → listed'[j]? = listed[j]?) → HeadInv md l.toArray n listed →
    wpAny P md (l.take n).toArray (cutPost P l n Q) fuel listed' a w → wpAny P md l.toArray Q (fuel + 1) listed a w := by
  simp only [cutB, Bool.and_eq_true, decide_eq_true_eq, List.all_eq_true, List.mem_range] at hB
  obtain ⟨⟨⟨hlen, hs⟩, hc⟩, hall⟩ := hB
  have hn : n < l.toArray.size := by simp; omega
  have hops : ∀ j, j < n → (l.take n).toArray[j]? = l.toArray[j]? := fun j hj => by simp [hj]
  have hopn : ∀ j, n ≤ j → (l.take n).toArray[j]? = none := fun j hj => by rw [List.getElem?_toArray, List.getElem?_eq_none (by simp; omega)]
  have hedge : ∀ (j : Nat) (o : Oper), l.toArray[j]? = some o → ∀ e ∈ o.after, e.on < j := fun j o ho e he => by
    have ho' : l[j]? = some o := by simpa using ho
    have hj : j < n + 1 := by have := (List.getElem?_eq_some_iff.1 ho').1; omega
    have h := hall j hj
    rw [ho'] at h
    simp only [Bool.and_eq_true] at h
    simpa using Array.all_eq_true_iff_forall_mem.1 h.1 e he
  have hguard : ∀ (j : Nat) (o : Oper), l.toArray[j]? = some o → ∀ g b, o.guard = some (g, b) → (l.take n).toArray[g]? = l.toArray[g]? := fun j o ho g b hg => by
    have ho' : l[j]? = some o := by simpa using ho
    have hj : j < n + 1 := by have := (List.getElem?_eq_some_iff.1 ho').1; omega
    have h := hall j hj
    rw [ho'] at h
    simp only [Bool.and_eq_true, hg, decide_eq_true_eq] at h
    exact hops g h.2
  -- the ready ones
  have hready : ∀ (listed listed' : Array Bool), (∀ j, j < n → listed'[j]? = listed[j]?) → ∀ i, i < n → (i ∈ Region.ready md (l.take n).toArray listed' ↔ i ∈ Region.ready md l.toArray listed) := by
    intro listed listed' hl i hi
    rw [mem_ready, mem_ready, hops i hi]
    have hd : ∀ j, j < n → ∀ d, listed'.getD j d = listed.getD j d := fun j hj d => by rw [Array.getD_eq_getD_getElem?, Array.getD_eq_getD_getElem?, hl j hj]
    rw [hd i hi]
    constructor
    · rintro ⟨h0, o, ho, h⟩
      exact ⟨h0, o, ho, fun e he hb => by rw [← hd e.on (Nat.lt_trans (hedge i o ho e he) hi)]; exact h e he hb⟩
    · rintro ⟨h0, o, ho, h⟩
      exact ⟨h0, o, ho, fun e he hb => by rw [hd e.on (Nat.lt_trans (hedge i o ho e he) hi)]; exact h e he hb⟩
  have hcutlt : ∀ (listed' : Array Bool) i, i ∈ Region.ready md (l.take n).toArray listed' → i < n := by
    intro listed' i hi
    obtain ⟨_, o, ho, _⟩ := mem_ready.1 hi
    rcases Nat.lt_or_ge i n with h | h
    · exact h
    · rw [hopn i h] at ho; cases ho
  have hfulllt : ∀ (listed : Array Bool) i, i ∈ Region.ready md l.toArray listed → i < n + 1 := by
    intro listed i hi
    obtain ⟨_, o, ho, _⟩ := mem_ready.1 hi
    have := (Array.getElem?_eq_some_iff.1 ho).1
    simp at this; omega
  -- nothing ready in the cut: all are listed
  have hdone : ∀ (listed listed' : Array Bool), listed.size = n + 1 → (∀ j, j < n → listed'[j]? = listed[j]?) → Region.ready md (l.take n).toArray listed' = [] → ∀ j, j < n → listed.getD j true = true := by
    intro listed listed' hsz hl h0 j
    induction j using Nat.strongRecOn with
    | _ j ih =>
      intro hj
      rcases hv : listed.getD j true with _ | _
      · exfalso
        have hoj : l.toArray[j]? = some (l.toArray[j]'(by omega)) := Array.getElem?_eq_getElem _
        have : j ∈ Region.ready md (l.take n).toArray listed' := (hready listed listed' hl j hj).2 (mem_ready.2 ⟨hv, _, hoj, fun e he hb => by
          have h1 := hedge j _ hoj e he
          have h2 := ih e.on h1 (by omega)
          rcases hw : listed.getD e.on false with _ | _
          · rw [getD_in (by omega) hw] at h2; cases h2
          · rfl⟩)
        rw [h0] at this
        cases this
      · rfl
  -- then the last one
  have hlast : ∀ (fuel : Nat) (listed listed' : Array Bool) (a : Act) (w : World), listed.size = n + 1 → (∀ j, j < n → listed'[j]? = listed[j]?) → HeadInv md l.toArray n listed → Region.ready md (l.take n).toArray listed' = [] →
      cutPost P l n Q .normal a w → wpAny P md l.toArray Q (fuel + 1) listed a w := by
    intro fuel listed listed' a w hsz hl inv h0 h
    have hd := hdone listed listed' hsz hl h0
    have hon : l.toArray[n]? = some (l.toArray[n]'hn) := Array.getElem?_eq_getElem _
    have hrn : n ∈ Region.ready md l.toArray listed := mem_ready.2 ⟨inv.tail n (Nat.le_refl _) hn, _, hon, fun e he hb => by
      have h1 := hedge n _ hon e he
      have h2 := hd e.on h1
      rcases hw : listed.getD e.on false with _ | _
      · rw [getD_in (by omega) hw] at h2; cases h2
      · rfl⟩
    refine ⟨fun h1 => (by rw [h1] at hrn; cases hrn), fun i hi => ?_⟩
    have hin : i = n := by
      have h1 := hfulllt _ i hi
      have h2 := (mem_ready.1 hi).1
      rcases Nat.lt_or_ge i n with h3 | h3
      · rw [hd i h3] at h2; cases h2
      · omega
    subst hin
    have hw : wpOp P l.toArray Q i (fun a w => Q .normal a w) a w := by
      have hdrop : l.drop i = [l.toArray[i]'hn] := by
        have : l.length - i = 1 := by omega
        rw [List.drop_eq_getElem_cons (by omega), List.drop_eq_nil_of_le (by omega)]
        simp
      unfold cutPost at h
      simp only [] at h
      rw [hdrop] at h
      unfold wpOp
      simp only [hon]
      exact h
    refine wpOp_mono (fun a' w' h' => wpAny_done ?_ h' fuel) hw
    apply List.eq_nil_iff_forall_not_mem.2
    intro j hj
    have h1 := hfulllt _ j hj
    have h2 := (mem_ready.1 hj).1
    by_cases hji : i = j
    · subst hji
      have := getD_in (listed := listed.setIfInBounds i true) (i := i) (by simp; omega) (getD_both h2)
      simp [hsz] at h2
    · rw [getD_set_ne true hji, hd j (by omega)] at h2
      cases h2
  intro fuel
  induction fuel with
  | zero =>
    intro listed listed' a w hsz hsz' hl inv h
    exact hlast 0 listed listed' a w hsz hl inv h.1 h.2
  | succ fuel ih =>
    intro listed listed' a w hsz hsz' hl inv h
    by_cases h0 : Region.ready md (l.take n).toArray listed' = []
    · exact hlast (fuel + 1) listed listed' a w hsz hl inv h0 (h.1 h0)
    · obtain ⟨i, hi⟩ := List.exists_mem_of_ne_nil _ h0
      have hin := hcutlt _ _ hi
      have hif := (hready listed listed' hl i hin).1 hi
      have hun := (mem_ready.1 hif).1
      refine ⟨fun h1 => (by rw [h1] at hif; cases hif), fun j hj => ?_⟩
      have hjn : j < n := by
        rcases Nat.lt_or_ge j n with h1 | h1
        · exact h1
        · exact absurd hj (tail_waits hs hc hn inv _ i rfl hin hun j h1)
      have h2 := h.2 j ((hready listed listed' hl j hjn).2 hj)
      obtain ⟨_, oj, hoj, _⟩ := mem_ready.1 hj
      unfold wpOp at h2 ⊢
      rw [hops j hjn] at h2
      simp only [hoj] at h2 ⊢
      rw [wanted_cut (hguard j oj hoj)] at h2
      have hnext : ∀ a' w', wpAny P md (l.take n).toArray (cutPost P l n Q) fuel (listed'.setIfInBounds j true) a' w' → wpAny P md l.toArray Q (fuel + 1) (listed.setIfInBounds j true) a' w' := fun a' w' h3 => by
        refine ih _ _ a' w' (by simp [hsz]) (by simp [hsz']) (fun k hk => ?_) (inv.set hj hjn) h3
        by_cases hjk : j = k
        · subst hjk
          simp [hsz, hsz', hk, Nat.lt_succ_of_lt hk]
        · rw [Array.getElem?_setIfInBounds_ne hjk, Array.getElem?_setIfInBounds_ne hjk]
          exact hl k hk
      split
      · rename_i hw
        simp only [hw, if_true] at h2
        rcases h2 with h2 | ⟨h2, h3⟩
        · exact .inl (Oper.wp_mono hnext (Oper.wp_post cutPost_panic cutPost_out h2))
        · exact .inr ⟨h2, cutPost_out h3⟩
      · rename_i hw
        simp only [hw] at h2
        exact hnext _ _ h2

/-- The beginning. -/
theorem wp_region_cut {S : World → Prop} {id : Nat} {a : Act} {w : World} (n : Nat) (hm : P.follows .mixedOrders = true) (hB : cutB .any l n = true) (hS : S w.drew)
    (h : S w.drew → wpAnyH P .any (l.take n).toArray (cutPost P l n Q) S n (Array.replicate n false) a w.drew) : (Code.region id l.toArray true).wp P Q a w := by
  have hlen : l.length = n + 1 := by
    simp only [cutB, Bool.and_eq_true, decide_eq_true_eq] at hB
    exact hB.1.1.1
  refine wp_region_any hm ?_
  have := wpAny_cut (P := P) (Q := Q) hB n (Array.replicate (n + 1) false) (Array.replicate n false) a w.drew (by simp) (by simp) (fun j hj => by simp [hj, Nat.lt_succ_of_lt hj])
    ⟨by simp [hlen], fun j oj _ hl => (by rw [getD_replicate_false] at hl; cases hl), fun t _ ht => getD_in (by simpa [hlen] using ht) (getD_replicate_false _ _)⟩ (wpAny_of_held _ _ _ _ (h hS))
  simpa [hlen] using this
end

end Go.Proofs.Ytncloiimbclklaa
