/- vdisk: a disk behind a store or a deletion of a file. -/
import Derived.Test.YtfljpnfjndjhpaaVh
import Derived.Test.YtfljpnfjndjhpaaByA
namespace Go.Proofs.Ytfljpnfjndjhpaa
open Go.RowKit
set_option linter.unusedVariables false

theorem blocks_perm {E E' : Ents} (h : E.Perm E') : (blocks E).Perm (blocks E') := h.filterMap _
theorem blocks_cons (p : List UInt8 × (Value × Fl)) (E : Ents) : blocks (p :: E) = (fblk p.2.1).toList ++ blocks E := by
  unfold blocks
  cases h : fblk p.2.1 <;> simp [h]
theorem blocks_put (n : List UInt8) (x : Value × Fl) (E : Ents) : (blocks (putA n x E)).Perm ((fblk x.1).toList ++ blocks (delA n E)) := by
  rw [← blocks_cons (n, x)]
  exact blocks_perm (perm_putA n x E)
theorem blocks_del (n : List UInt8) (E : Ents) : (blocks (delA n E)).Sublist (blocks E) := List.Sublist.filterMap _ List.filter_sublist
theorem perm_get {β : Type} {n : List UInt8} {b : β} {l : List (List UInt8 × β)} (h : Ris l) (hg : getA n l = some b) : l.Perm ((n, b) :: delA n l) := by
  induction l with
  | nil => simp [getA] at hg
  | cons z r ih =>
    obtain ⟨h1, h2⟩ := List.pairwise_cons.1 h
    by_cases hz : z.1 = n
    · have hr : getA n r = none := by
        cases hx : getA n r with
        | none => rfl
        | some c => exact absurd (h1 _ (getA_mem hx)) (by simp [hz, bb_irrefl])
      have hd := delA_none hr
      have e1 : delA n (z :: r) = r := by rw [← hd]; simp [delA, hz]
      have e2 : z = (n, b) := by
        simp [getA, hz] at hg
        rw [← hg, ← hz]
      rw [e1, e2]
    · have e1 : delA n (z :: r) = z :: delA n r := by simp [delA, hz]
      have e2 : getA n r = some b := by simpa [getA, hz] using hg
      rw [e1]
      exact ((ih h2 e2).cons z).trans (.swap _ _ _)
theorem blk_out {E : Ents} (hE : Ris E) (hn : (blocks E).Nodup) {n : List UInt8} {g : Nat} (hg : fblk (valA n E) = some g) : g ∉ blocks (delA n E) ∧ g ∈ blocks E := by
  rw [valA_get] at hg
  cases hq : getA n E with
  | none => rw [hq] at hg; simp [fblk, Value.ownBlock] at hg
  | some q =>
    rw [hq] at hg
    have hp := blocks_perm (perm_get hE hq)
    rw [blocks_cons] at hp
    have hg' : fblk q.1 = some g := hg
    rw [show fblk ((n, q) : List UInt8 × (Value × Fl)).2.1 = some g from hg'] at hp
    have hn' := hp.nodup_iff.1 hn
    simp only [Option.toList_some, List.singleton_append, List.nodup_cons] at hn'
    exact ⟨hn'.1, hp.mem_iff.2 (by simp)⟩

theorem Core.ris {w : World} {pb mb : Nat} {s : DS} {E : Ents} (h : Core w pb mb s E) : Ris E := by
  have := h.ok.ris
  rw [h.fs] at this
  exact (mapA_ris _ _).1 this

/-- A disk behind 'd.files[n] = f'. w: the world when the call began. -/
theorem disk_put' {w w' : World} {pb mb : Nat} {s' : DS} {E : Ents} (hr : ∀ p ∈ E, FRow w p.2.1 p.2.2) (hn : (pb :: mb :: blocks E).Nodup) {n : List UInt8} {v : Value} {f : Fl}
    (hc' : Core w' pb mb s' (putA n (v, f) E)) (hrow : FRow w' v f) (hout : ∀ g, fblk v = some g → g ≠ pb ∧ g ≠ mb ∧ g ∉ blocks (delA n E))
    (hk : ∀ g, g < w.heap.size → g ≠ pb → g ≠ mb → g ∈ blocks (delA n E) → w'.heap[g]? = w.heap[g]?) :
    ∃ foot, Disk w' (some ⟨pb, 0, none⟩) s' foot ∧ ∀ i ∈ foot, i ∈ pb :: mb :: blocks E ∨ fblk v = some i := by
  have hp := blocks_put n (v, f) E
  have hsub := blocks_del n E
  simp only [List.nodup_cons, List.mem_cons, not_or] at hn
  obtain ⟨⟨n1, n2⟩, n3, n4⟩ := hn
  refine ⟨pb :: mb :: blocks (putA n (v, f) E), ⟨pb, mb, _, rfl, hc', ?_, rfl, ?_⟩, ?_⟩
  · intro p hp
    rcases mem_putA.1 hp with rfl | ⟨hp, hne⟩
    · exact hrow
    · refine (hr p hp).keep fun g hg => hk g (FRow.lt (hr p hp) hg) ?_ ?_ (mem_blocks.2 ⟨p, mem_delA.2 ⟨hp, hne⟩, hg⟩)
      · rintro rfl; exact n2 (mem_blocks.2 ⟨p, hp, hg⟩)
      · rintro rfl; exact n3 (mem_blocks.2 ⟨p, hp, hg⟩)
  · simp only [List.nodup_cons, List.mem_cons, not_or]
    refine ⟨⟨n1, fun hi => ?_⟩, fun hi => ?_, hp.nodup_iff.2 ?_⟩
    · rcases List.mem_append.1 (hp.mem_iff.1 hi) with h | h
      · exact (hout pb (by simpa using h)).1 rfl
      · exact n2 (hsub.subset h)
    · rcases List.mem_append.1 (hp.mem_iff.1 hi) with h | h
      · exact (hout mb (by simpa using h)).2.1 rfl
      · exact n3 (hsub.subset h)
    · cases hv : fblk v with
      | none => simpa using hsub.nodup n4
      | some g => simpa [(hout g hv).2.2] using hsub.nodup n4
  · intro i hi
    simp only [List.mem_cons] at hi ⊢
    rcases hi with h | h | h
    · exact .inl (.inl h)
    · exact .inl (.inr (.inl h))
    · rcases List.mem_append.1 (hp.mem_iff.1 h) with h | h
      · exact .inr (by simpa using h)
      · exact .inl (.inr (.inr (hsub.subset h)))

theorem disk_put {w w' : World} {pb mb : Nat} {s' : DS} {E : Ents} (hE : Ris E) (hr : ∀ p ∈ E, FRow w p.2.1 p.2.2) (hn : (pb :: mb :: blocks E).Nodup) (hlt : ∀ i ∈ pb :: mb :: blocks E, i < w.heap.size) {n : List UInt8} {v : Value} {f : Fl}
    (hc' : Core w' pb mb s' (putA n (v, f) E)) (hrow : FRow w' v f) (hfr : ∀ g, fblk v = some g → (fblk (valA n E) = some g ∨ w.heap.size ≤ g))
    (hk : ∀ g, g < w.heap.size → g ≠ pb → g ≠ mb → fblk (valA n E) ≠ some g → w'.heap[g]? = w.heap[g]?) :
    ∃ foot, Disk w' (some ⟨pb, 0, none⟩) s' foot ∧ ∀ i ∈ foot, i ∈ pb :: mb :: blocks E ∨ w.heap.size ≤ i := by
  have hn' := hn
  simp only [List.nodup_cons, List.mem_cons, not_or] at hn'
  obtain ⟨⟨n1, n2⟩, n3, n4⟩ := hn'
  have hsub := blocks_del n E
  obtain ⟨foot, hd, hf⟩ := disk_put' hr hn hc' hrow (fun g hg => by
    rcases hfr g hg with h | h
    · have := blk_out hE n4 h
      exact ⟨by rintro rfl; exact n2 this.2, by rintro rfl; exact n3 this.2, this.1⟩
    · refine ⟨by rintro rfl; have := hlt g (by simp); omega, by rintro rfl; have := hlt g (by simp); omega, fun hm => ?_⟩
      have := hlt g (by simp [hsub.subset hm])
      omega) (fun g h1 h2 h3 h4 => hk g h1 h2 h3 fun hv => (blk_out hE n4 hv).1 h4)
  refine ⟨foot, hd, fun i hi => (hf i hi).elim .inl fun h => ?_⟩
  exact (hfr i h).imp (fun h => by simp [(blk_out hE n4 h).2]) id

/-- A disk behind 'delete(d.files, n)'. -/
theorem disk_drop {w w' : World} {pb mb : Nat} {s' : DS} {E : Ents} (hr : ∀ p ∈ E, FRow w p.2.1 p.2.2) (hn : (pb :: mb :: blocks E).Nodup) {n : List UInt8}
    (hc' : Core w' pb mb s' (delA n E)) (hk : ∀ g, g < w.heap.size → g ≠ pb → g ≠ mb → w'.heap[g]? = w.heap[g]?) :
    ∃ foot, Disk w' (some ⟨pb, 0, none⟩) s' foot ∧ (∀ i ∈ foot, i ∈ pb :: mb :: blocks E) := by
  have hsub := blocks_del n E
  simp only [List.nodup_cons, List.mem_cons, not_or] at hn
  obtain ⟨⟨n1, n2⟩, n3, n4⟩ := hn
  refine ⟨pb :: mb :: blocks (delA n E), ⟨pb, mb, _, rfl, hc', ?_, rfl, ?_⟩, ?_⟩
  · intro p hp
    have hp' := (mem_delA.1 hp).1
    refine (hr p hp').keep fun g hg => hk g (FRow.lt (hr p hp') hg) ?_ ?_
    · rintro rfl; exact n2 (mem_blocks.2 ⟨p, hp', hg⟩)
    · rintro rfl; exact n3 (mem_blocks.2 ⟨p, hp', hg⟩)
  · simp only [List.nodup_cons, List.mem_cons, not_or]
    exact ⟨⟨n1, fun h => n2 (hsub.subset h)⟩, fun h => n3 (hsub.subset h), hsub.nodup n4⟩
  · intro i hi
    simp only [List.mem_cons] at hi ⊢
    exact hi.imp id (Or.imp id fun h => hsub.subset h)

theorem foot_lt {w : World} {pb mb : Nat} {s : DS} {E : Ents} (hc : Core w pb mb s E) (hr : ∀ p ∈ E, FRow w p.2.1 p.2.2) : ∀ i ∈ pb :: mb :: blocks E, i < w.heap.size := by
  intro i hi
  simp only [List.mem_cons] at hi
  rcases hi with rfl | rfl | hi
  · exact hc.ltp
  · exact hc.map.lt
  · obtain ⟨q, hq, hg⟩ := mem_blocks.1 hi
    exact (hr q hq).lt hg

/-- What a call leaves: the disk anew, in its own blocks and new ones, and nothing else turned. -/
def After (w : World) (p : Option Addr) (s' : DS) (foot : List Nat) (w' : World) : Prop :=
  ∃ foot', Disk w' p s' foot' ∧ (∀ i ∈ foot', i ∈ foot ∨ w.heap.size ≤ i) ∧ Chg foot w w'

/-- .. where only the struct's block turned. -/
theorem after_core {w w' : World} {pb mb : Nat} {s' : DS} {E : Ents} (hr : ∀ p ∈ E, FRow w p.2.1 p.2.2) (hn : (pb :: mb :: blocks E).Nodup) (hc' : Core w' pb mb s' E) (hg : Chg [pb] w w') :
    After w (some ⟨pb, 0, none⟩) s' (pb :: mb :: blocks E) w' := by
  refine ⟨_, ⟨pb, mb, E, rfl, hc', fun p hp => (hr p hp).keep fun g hgb => hg.block g ((hr p hp).lt hgb) ?_, rfl, hn⟩, fun i hi => .inl hi, hg.mono (by simp)⟩
  simp only [List.mem_singleton]
  rintro rfl
  simp only [List.nodup_cons, List.mem_cons, not_or] at hn
  exact hn.1.2 (mem_blocks.2 ⟨p, hp, hgb⟩)
end Go.Proofs.Ytfljpnfjndjhpaa
