/- A drawn region in two: the operations ahead of n (on which all others wait) by themselves, with a post R of one's own; then the rest from R. -/
import Derived.StillTail
import Derived.Deep.RegionHeld3
namespace Go.Proofs.YtllhlmdhnmdihaaDoor
open Go
set_option linter.unusedVariables false

section
variable {P : Program} {md : Region.Mode} {l : List Oper} {n : Nat} {Q : Exit → Act → World → Prop} {R : Act → World → Prop}

/-- Behind the first part: R. -/
def splPost (R : Act → World → Prop) (Q : Exit → Act → World → Prop) : Exit → Act → World → Prop
  | .normal, a, w => R a w
  | e, a, w => Q e a w

def splitB (md : Region.Mode) (l : List Oper) (n : Nat) : Bool :=
  decide (n ≤ l.length) && (List.range l.length).all fun j => match l[j]? with
    | some o => if j < n then (o.after.all fun e => decide (e.on < j)) && (match o.guard with | some (g, _) => decide (g < n) | none => true)
      else (List.range n).all fun i => o.after.any fun e => decide (e.on = i) && Region.binds md e
    | none => true

theorem Oper.wp_postS {o : Oper} {a : Act} {w : World} {K : Act → World → Prop} {Q Q' : Exit → Act → World → Prop} (h1 : ∀ c a w, Q' (.panic c) a w → Q (.panic c) a w) (h2 : LetsOut Q' → LetsOut Q)
    (hh : o.wp P a w K Q') : o.wp P a w K Q := by
  unfold Oper.wp at *
  generalize (execOp a.eval o).run P w = r at *
  cases r with
  | ok m w' =>
    cases m <;> simp only [Oper.upon] at hh ⊢ <;>
      first
        | exact hh
        | exact Calls.mono hh (fun e w'' he => by cases e <;> first | exact he | exact h1 _ _ _ he | exact h2 he)
  | halt x w' => cases x <;> simp only [Oper.upon] at hh ⊢ <;> first | exact hh | exact h1 _ _ _ hh

theorem splPost_panic (c) (a : Act) (w : World) (h : splPost R Q (.panic c) a w) : Q (.panic c) a w := h
theorem splPost_out (h : LetsOut (splPost R Q)) : LetsOut Q := h

theorem yielded_spl {ops ops' : Array Oper} (g : Nat) (h : ops'[g]? = ops[g]?) (t : Array Value) : yielded ops' t g = yielded ops t g := by
  unfold yielded; rw [h]
theorem wanted_spl {ops ops' : Array Oper} {o : Oper} (h : ∀ g b, o.guard = some (g, b) → ops'[g]? = ops[g]?) (t : Array Value) : Region.wanted o (yielded ops' t) = Region.wanted o (yielded ops t) := by
  unfold Region.wanted
  cases hg : o.guard with
  | none => rfl
  | some p => obtain ⟨g, b⟩ := p; simp only []; rw [yielded_spl g (h g b hg)]

theorem wpAny_more : ∀ (f : Nat) (listed : Array Bool) (a : Act) (w : World), wpAny P md l.toArray Q f listed a w → wpAny P md l.toArray Q (f + 1) listed a w
  | 0, _, _, _, h => wpAny_done h.1 h.2 1
  | f + 1, _, _, _, h => ⟨h.1, fun i hi => wpOp_mono (fun a' w' h' => wpAny_more f _ a' w' h') (h.2 i hi)⟩
theorem wpAny_mores (m : Nat) : ∀ (f : Nat) (listed : Array Bool) (a : Act) (w : World), wpAny P md l.toArray Q m listed a w → wpAny P md l.toArray Q (f + m) listed a w
  | 0, _, _, _, h => by rw [Nat.zero_add]; exact h
  | f + 1, _, _, _, h => by rw [Nat.succ_add]; exact wpAny_more _ _ _ _ (wpAny_mores m f _ _ _ h)

theorem wpAny_split (m : Nat) (listedA : Array Bool) (hB : splitB md l n = true) (hA : listedA.size = l.length) (hA1 : ∀ j, j < n → listedA.getD j false = true) (hA2 : ∀ j, n ≤ j → j < l.length → listedA.getD j true = false)
    (hrest : ∀ a w, R a w → wpAny P md l.toArray Q m listedA a w) :
    ∀ (fuel : Nat) (listed listed' : Array Bool) (a : Act) (w : World), listed.size = l.length → listed'.size = n → (∀ j, j < n → listed'[j]? = listed[j]?) → (∀ j, n ≤ j → j < l.length → listed.getD j true = false) →
    wpAny P md (l.take n).toArray (splPost R Q) fuel listed' a w → wpAny P md l.toArray Q (fuel + m) listed a w := by
  simp only [splitB, Bool.and_eq_true, decide_eq_true_eq, List.all_eq_true, List.mem_range] at hB
  obtain ⟨hn, hall⟩ := hB
  have hops : ∀ j, j < n → (l.take n).toArray[j]? = l.toArray[j]? := fun j hj => by simp [hj]
  have hopn : ∀ j, n ≤ j → (l.take n).toArray[j]? = none := fun j hj => by rw [List.getElem?_toArray, List.getElem?_eq_none (by simp; omega)]
  have hedge : ∀ (j : Nat) (o : Oper), j < n → l.toArray[j]? = some o → ∀ e ∈ o.after, e.on < j := fun j o hjn ho e he => by
    have ho' : l[j]? = some o := by simpa using ho
    have h := hall j (List.getElem?_eq_some_iff.1 ho').1
    rw [ho'] at h
    simp only [hjn, if_true, Bool.and_eq_true] at h
    simpa using Array.all_eq_true_iff_forall_mem.1 h.1 e he
  have hguard : ∀ (j : Nat) (o : Oper), j < n → l.toArray[j]? = some o → ∀ g b, o.guard = some (g, b) → (l.take n).toArray[g]? = l.toArray[g]? := fun j o hjn ho g b hg => by
    have ho' : l[j]? = some o := by simpa using ho
    have h := hall j (List.getElem?_eq_some_iff.1 ho').1
    rw [ho'] at h
    simp only [hjn, if_true, Bool.and_eq_true, hg, decide_eq_true_eq] at h
    exact hops g h.2
  have hwait : ∀ (j : Nat) (o : Oper), n ≤ j → l.toArray[j]? = some o → ∀ i, i < n → ∃ e ∈ o.after, e.on = i ∧ Region.binds md e = true := fun j o hjn ho i hi => by
    have ho' : l[j]? = some o := by simpa using ho
    have h := hall j (List.getElem?_eq_some_iff.1 ho').1
    rw [ho'] at h
    simp only [Nat.not_lt.2 hjn, if_false, List.all_eq_true, List.mem_range] at h
    have h2 := h i hi
    rw [Array.any_eq_true] at h2
    obtain ⟨k, hk, h3⟩ := h2
    simp only [Bool.and_eq_true, decide_eq_true_eq] at h3
    exact ⟨_, Array.getElem_mem hk, h3.1, h3.2⟩
  have hready : ∀ (listed listed' : Array Bool), (∀ j, j < n → listed'[j]? = listed[j]?) → ∀ i, i < n → (i ∈ Region.ready md (l.take n).toArray listed' ↔ i ∈ Region.ready md l.toArray listed) := by
    intro listed listed' hl i hi
    rw [mem_ready, mem_ready, hops i hi]
    have hd : ∀ j, j < n → ∀ d, listed'.getD j d = listed.getD j d := fun j hj d => by rw [Array.getD_eq_getD_getElem?, Array.getD_eq_getD_getElem?, hl j hj]
    rw [hd i hi]
    constructor
    · rintro ⟨h0, o, ho, h⟩
      exact ⟨h0, o, ho, fun e he hb => by rw [← hd e.on (Nat.lt_trans (hedge i o hi ho e he) hi)]; exact h e he hb⟩
    · rintro ⟨h0, o, ho, h⟩
      exact ⟨h0, o, ho, fun e he hb => by rw [hd e.on (Nat.lt_trans (hedge i o hi ho e he) hi)]; exact h e he hb⟩
  have hcutlt : ∀ (listed' : Array Bool) i, i ∈ Region.ready md (l.take n).toArray listed' → i < n := by
    intro listed' i hi
    obtain ⟨_, o, ho, _⟩ := mem_ready.1 hi
    rcases Nat.lt_or_ge i n with h | h
    · exact h
    · rw [hopn i h] at ho; cases ho
  have hdone : ∀ (listed listed' : Array Bool), listed.size = l.length → (∀ j, j < n → listed'[j]? = listed[j]?) → Region.ready md (l.take n).toArray listed' = [] → ∀ j, j < n → listed.getD j true = true := by
    intro listed listed' hsz hl h0 j
    induction j using Nat.strongRecOn with
    | _ j ih =>
      intro hj
      rcases hv : listed.getD j true with _ | _
      · exfalso
        have hoj : l.toArray[j]? = some (l.toArray[j]'(by simp; omega)) := Array.getElem?_eq_getElem _
        have : j ∈ Region.ready md (l.take n).toArray listed' := (hready listed listed' hl j hj).2 (mem_ready.2 ⟨hv, _, hoj, fun e he hb => by
          have h1 := hedge j _ hj hoj e he
          have h2 := ih e.on h1 (by omega)
          rcases hw : listed.getD e.on false with _ | _
          · rw [getD_in (by omega) hw] at h2; cases h2
          · rfl⟩)
        rw [h0] at this
        cases this
      · rfl
  have hlast : ∀ (fuel : Nat) (listed listed' : Array Bool) (a : Act) (w : World), listed.size = l.length → (∀ j, j < n → listed'[j]? = listed[j]?) → (∀ j, n ≤ j → j < l.length → listed.getD j true = false) → Region.ready md (l.take n).toArray listed' = [] →
      R a w → wpAny P md l.toArray Q (fuel + m) listed a w := by
    intro fuel listed listed' a w hsz hl hff h0 h
    have hd := hdone listed listed' hsz hl h0
    have he : listed = listedA := by
      apply Array.ext (by omega)
      intro j h1 h2
      rcases Nat.lt_or_ge j n with h3 | h3
      · have h4 := hd j h3
        have h5 := hA1 j h3
        simp only [Array.getD_eq_getD_getElem?, Array.getElem?_eq_getElem h1, Array.getElem?_eq_getElem h2, Option.getD_some] at h4 h5
        rw [h4, h5]
      · have h4 := hff j h3 (by omega)
        have h5 := hA2 j h3 (by omega)
        simp only [Array.getD_eq_getD_getElem?, Array.getElem?_eq_getElem h1, Array.getElem?_eq_getElem h2, Option.getD_some] at h4 h5
        rw [h4, h5]
    rw [he]
    exact wpAny_mores m fuel _ _ _ (hrest a w h)
  intro fuel
  induction fuel with
  | zero =>
    intro listed listed' a w hsz hsz' hl hff h
    exact hlast 0 listed listed' a w hsz hl hff h.1 h.2
  | succ fuel ih =>
    intro listed listed' a w hsz hsz' hl hff h
    by_cases h0 : Region.ready md (l.take n).toArray listed' = []
    · exact hlast (fuel + 1) listed listed' a w hsz hl hff h0 (h.1 h0)
    · obtain ⟨i, hi⟩ := List.exists_mem_of_ne_nil _ h0
      have hin := hcutlt _ _ hi
      have hif := (hready listed listed' hl i hin).1 hi
      have hun := (mem_ready.1 hif).1
      rw [Nat.succ_add]
      refine ⟨fun h1 => (by rw [h1] at hif; cases hif), fun j hj => ?_⟩
      have hjn : j < n := by
        rcases Nat.lt_or_ge j n with h1 | h1
        · exact h1
        · exfalso
          obtain ⟨_, o, ho, hw⟩ := mem_ready.1 hj
          obtain ⟨e, he, h2, h3⟩ := hwait j o h1 ho i hin
          have h4 := hw e he h3
          rw [h2, getD_both hun] at h4
          cases h4
      have h2 := h.2 j ((hready listed listed' hl j hjn).2 hj)
      obtain ⟨_, oj, hoj, _⟩ := mem_ready.1 hj
      unfold wpOp at h2 ⊢
      rw [hops j hjn] at h2
      simp only [hoj] at h2 ⊢
      rw [wanted_spl (hguard j oj hjn hoj)] at h2
      have hnext : ∀ a' w', wpAny P md (l.take n).toArray (splPost R Q) fuel (listed'.setIfInBounds j true) a' w' → wpAny P md l.toArray Q (fuel + m) (listed.setIfInBounds j true) a' w' := fun a' w' h3 => by
        refine ih _ _ a' w' (by simp [hsz]) (by simp [hsz']) (fun k hk => ?_) (fun k hk hkl => ?_) h3
        · by_cases hjk : j = k
          · subst hjk
            have : j < l.length := by omega
            simp [hsz, hsz', hk, this]
          · rw [Array.getElem?_setIfInBounds_ne hjk, Array.getElem?_setIfInBounds_ne hjk]
            exact hl k hk
        · rw [getD_set_ne true (by omega)]
          exact hff k hk hkl
      split
      · rename_i hw
        simp only [hw, if_true] at h2
        rcases h2 with h2 | ⟨h2, h3⟩
        · exact .inl (Oper.wp_mono hnext (Oper.wp_postS splPost_panic splPost_out h2))
        · exact .inr ⟨h2, splPost_out h3⟩
      · rename_i hw
        simp only [hw] at h2
        exact hnext _ _ h2

/-- The beginning: n the first part's operations, m the others, listedA: n times true, m times false. -/
theorem wp_region_split {S : World → Prop} {id : Nat} {a : Act} {w : World} (n m : Nat) (listedA : Array Bool) (R : Act → World → Prop) (hm : P.follows .mixedOrders = true) (hB : splitB .any l n = true)
    (hl : l.length = n + m) (hA : (decide (listedA = Array.replicate n true ++ Array.replicate m false)) = true) (hS : S w.drew)
    (h : S w.drew → wpAnyH P .any (l.take n).toArray (splPost R Q) S n (Array.replicate n false) a w.drew)
    (hrest : ∀ a w, R a w → wpAny P .any l.toArray Q m listedA a w) : (Code.region id l.toArray true).wp P Q a w := by
  have hA' := of_decide_eq_true hA
  refine wp_region_any hm ?_
  have := wpAny_split (P := P) (Q := Q) (R := R) m listedA hB (by rw [hA', hl]; simp) (fun j hj => by rw [hA', Array.getD_eq_getD_getElem?, Array.getElem?_append_left (by simpa using hj)]; simp [hj])
    (fun j hj hjl => by rw [hA', Array.getD_eq_getD_getElem?, Array.getElem?_append_right (by simpa using hj), Array.size_replicate, Array.getElem?_replicate, if_pos (by omega)]; rfl) hrest n (Array.replicate (n + m) false) (Array.replicate n false) a w.drew (by simp [hl]) (by simp) (fun j hj => by simp [hj, Nat.lt_of_lt_of_le hj (Nat.le_add_right n m)])
    (fun j hj hjl => by rw [Array.getD_eq_getD_getElem?, Array.getElem?_replicate, if_pos (by omega)]; rfl) (wpAny_of_held _ _ _ _ (h hS))
  simpa [hl] using this
end
end Go.Proofs.YtllhlmdhnmdihaaDoor
