/- Cases in order: instances put one after another. -/
import Derived.Test.YtncloiimbclklaaWh
import Derived.Test.YtncloiimbclklaaWf
namespace Go.Proofs.Ytncloiimbclklaa
open Go Go.RowKit Go.Shelf
set_option linter.unusedVariables false
set_option linter.unusedSimpArgs false

def foldP (l : List IV) : List IV := l.foldl putF []
theorem foldP_snoc (l : List IV) (x : IV) : foldP (l ++ [x]) = putF (foldP l) x := by simp [foldP]
theorem putF_mem {l : List IV} {x y : IV} (h : y ∈ putF l x) : y ∈ l ∨ y = x := by
  unfold putF at h
  split at h
  · exact List.mem_or_eq_of_mem_set h
  · simp only [List.mem_append, List.mem_singleton] at h
    rcases h with (h | h) | h
    · exact .inl (List.mem_of_mem_take h)
    · exact .inr h
    · exact .inl (List.mem_of_mem_drop h)
theorem putF_bare {l l' : List IV} {x : IV} (h : l'.map IV.bare = l.map IV.bare) : (putF l' x).map IV.bare = (putF l x).map IV.bare := by
  have hl : l'.length = l.length := by simpa using congrArg List.length h
  unfold putF
  rw [findIdx_bare (f := hasP x.path) (fun _ => rfl) h, findIdx_bare (f := gtP x.path) (fun _ => rfl) h, hl]
  split
  · rw [List.map_set, List.map_set, h]
  · simp only [List.map_append, List.map_take, List.map_drop, h]
theorem foldl_ind {p : List IV → Prop} (h0 : p []) : ∀ (l : List IV) , (∀ a x, x ∈ l → p a → p (putF a x)) → p (foldP l) := by
  intro l
  unfold foldP
  suffices h : ∀ a, p a → (∀ a x, x ∈ l → p a → p (putF a x)) → p (l.foldl putF a) from fun hh => h [] h0 hh
  induction l with
  | nil => intro a ha _; exact ha
  | cons y r ih => intro a ha hh; exact ih _ (hh a y (by simp) ha) (fun b x hx hb => hh b x (by simp [hx]) hb)
theorem foldP_mem (l : List IV) : ∀ y ∈ foldP l, y ∈ l :=
  foldl_ind (p := fun a => ∀ y ∈ a, y ∈ l) (by simp) l fun a x hx ha y hy => by
    rcases putF_mem hy with h | rfl
    · exact ha y h
    · exact hx
theorem foldP_ord (l : List IV) : Ord (foldP l) := foldl_ind (p := Ord) (fun i h => by simp at h) l fun a x _ ha => putF_ord a x ha
theorem foldP_len (l : List IV) : (foldP l).length ≤ l.length := by
  unfold foldP
  suffices h : ∀ (l a : List IV), (l.foldl putF a).length ≤ a.length + l.length by simpa using h l []
  intro l
  induction l with
  | nil => intro a; simp
  | cons y r ih =>
    intro a
    have h1 := ih (putF a y)
    have h2 := putF_len a y
    simp only [List.foldl_cons, List.length_cons]
    omega
theorem foldP_path (l : List IV) : ∀ y ∈ l, ∃ z ∈ foldP l, z.path = y.path := by
  unfold foldP
  suffices h : ∀ (l a : List IV) y, (y ∈ l ∨ ∃ z ∈ a, z.path = y.path) → ∃ z ∈ l.foldl putF a, z.path = y.path from fun y hy => h l [] y (.inl hy)
  intro l
  induction l with
  | nil => intro a y hy; simpa using hy
  | cons x r ih =>
    intro a y hy
    refine ih (putF a x) y ?_
    rcases hy with hy | ⟨z, hz, he⟩
    · rcases List.mem_cons.1 hy with rfl | hy
      · exact .inr (putF_path a y y (.inr rfl))
      · exact .inl hy
    · obtain ⟨z2, hz2, he2⟩ := putF_path a x z (.inl hz)
      exact .inr ⟨z2, hz2, he2.trans he⟩
theorem find_path {l : List IV} {p : ByteArray} (h : ∃ z ∈ l, z.path = p) : (l.find? (hasP p)).isSome = true := by
  obtain ⟨z, hz, he⟩ := h
  rw [List.find?_isSome]
  exact ⟨z, hz, hasP_eq.2 he⟩
/-- What was put is found. -/
theorem find_put (l : List IV) (x : IV) : (putF l x).find? (hasP x.path) = some x := by
  have hx : hasP x.path x = true := hasP_eq.2 rfl
  unfold putF
  split
  · rename_i hk
    have hk2 : l.findIdx (hasP x.path) < (l.set (l.findIdx (hasP x.path)) x).length := by simpa using hk
    have hg : (l.set (l.findIdx (hasP x.path)) x)[l.findIdx (hasP x.path)] = x := by simp
    have := ffind_hit (f := hasP x.path) hk2 (by
      rw [List.take_set_of_le (Nat.le_refl _), List.find?_eq_none]
      intro y hy
      obtain ⟨i, hi, rfl⟩ := List.mem_take_iff_getElem.1 hy
      rw [List.not_of_lt_findIdx (p := hasP x.path) (xs := l) (i := i) (by omega)]; simp) (by rw [hg]; exact hx)
    rw [this, hg]
  · rename_i hk
    have hno : ∀ y ∈ l, hasP x.path y = false := List.findIdx_eq_length.1 (Nat.le_antisymm List.findIdx_le_length (by omega))
    rw [List.append_assoc, List.find?_append, List.find?_eq_none.2 (fun y hy => by rw [hno y (List.mem_of_mem_take hy)]; simp), Option.none_or, List.singleton_append, List.find?_cons_of_pos hx]
theorem find_bare {f : IV → Bool} (hf : ∀ x, f x = f x.bare) : ∀ {l l' : List IV}, l'.map IV.bare = l.map IV.bare → (l'.find? f).map IV.bare = (l.find? f).map IV.bare
  | [], [], _ => rfl
  | [], _ :: _, h => by simp at h
  | _ :: _, [], h => by simp at h
  | x :: r, y :: s, h => by
    simp only [List.map_cons, List.cons.injEq] at h
    have he : f y = f x := by rw [hf y, hf x, h.1]
    rw [List.find?_cons, List.find?_cons, he]
    cases f x with
    | true => simp [h.1]
    | false => exact find_bare hf h.2
theorem InstsOwn.re {w : World} {base : Nat} {v : Value} {l l2 : List IV} (h : InstsOwn w base v l) (hb : l.map IV.bare = l2.map IV.bare) : InstsOwn w base v l2 := by
  obtain ⟨l', h1, h2, h3⟩ := h
  exact ⟨l', h1.trans hb, h2, h3⟩
end Go.Proofs.Ytncloiimbclklaa
