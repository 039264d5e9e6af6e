/- vdisk: Copy: plain lemmas; what the loop over the map has done. -/
import Derived.Test.YtcpldjaoacihlaaVk
import Derived.Maps.RangeWalk
namespace Go.Proofs.Ytcpldjaoacihlaa
open Go.RowKit
set_option linter.unusedVariables false

theorem ris_ext {β : Type} : ∀ {l l' : List (List UInt8 × β)}, Ris l → Ris l' → (∀ p, p ∈ l ↔ p ∈ l') → l = l'
  | [], [], _, _, _ => rfl
  | [], y :: r, _, _, h => by have := (h y).2 (by simp); simp at this
  | x :: r, [], _, _, h => by have := (h x).1 (by simp); simp at this
  | x :: r, y :: r', hl, hl', h => by
    obtain ⟨h1, h2⟩ := List.pairwise_cons.1 hl
    obtain ⟨k1, k2⟩ := List.pairwise_cons.1 hl'
    have e : x = y := by
      rcases List.mem_cons.1 ((h x).1 (by simp)) with e | hx
      · exact e
      · rcases List.mem_cons.1 ((h y).2 (by simp)) with e | hy
        · exact e.symm
        · exact absurd (k1 x hx) (by rw [bb_asymm (h1 y hy)]; simp)
    subst e
    have hnx : ∀ p ∈ r, p ≠ x := fun p hp e => by have := h1 p hp; rw [e, bb_irrefl] at this; cases this
    have hnx' : ∀ p ∈ r', p ≠ x := fun p hp e => by have := k1 p hp; rw [e, bb_irrefl] at this; cases this
    rw [ris_ext h2 k2 fun p => ⟨fun hp => (List.mem_cons.1 ((h p).1 (by simp [hp]))).resolve_left (hnx p hp), fun hp => (List.mem_cons.1 ((h p).2 (by simp [hp]))).resolve_left (hnx' p hp)⟩]

/-- The entries that have come. -/
def doneE {β : Type} (left : Lit → Bool) (l : List (List UInt8 × β)) : List (List UInt8 × β) := l.filter fun p => !left (.string p.1)
theorem done_ris {β : Type} {left : Lit → Bool} {l : List (List UInt8 × β)} (h : Ris l) : Ris (doneE left l) := List.Pairwise.filter _ h
theorem done_none {β : Type} {left : Lit → Bool} {l : List (List UInt8 × β)} (h : ∀ p ∈ l, left (.string p.1) = true) : doneE left l = [] := by
  unfold doneE
  rw [List.filter_eq_nil_iff]
  intro p hp
  simp [h p hp]
theorem done_all {β : Type} {left : Lit → Bool} {l : List (List UInt8 × β)} (h : ∀ kl, left kl = false) : doneE left l = l := by
  unfold doneE
  rw [List.filter_eq_self]
  intro p hp
  simp [h]
theorem done_step {β : Type} {left : Lit → Bool} {l : List (List UInt8 × β)} (h : Ris l) {n : List UInt8} {f : β} (hm : (n, f) ∈ l) :
    putA n f (doneE left l) = doneE (fun z => left z && !z.sameKey (.string n)) l := by
  refine ris_ext (ris_putA (done_ris h)) (done_ris h) fun p => ?_
  rw [mem_putA]
  unfold doneE
  simp only [List.mem_filter, Bool.not_eq_true', Bool.and_eq_false_iff, Bool.not_eq_false', Lit.sameKey]
  constructor
  · rintro (rfl | ⟨⟨h1, h2⟩, h3⟩)
    · exact ⟨hm, .inr (by simp)⟩
    · exact ⟨h1, .inl h2⟩
  · rintro ⟨h1, h2⟩
    by_cases hp : p.1 = n
    · left
      obtain ⟨p1, p2⟩ := p
      simp only at hp
      subst hp
      rw [ris_inj h h1 hm]
    · right
      refine ⟨⟨h1, ?_⟩, hp⟩
      rcases h2 with h2 | h2
      · exact h2
      · simp at h2
        exact absurd h2 hp

theorem ranges_keep {P : Program} {k : TypeId} {H : Type} {R : Value → Option (DataW H × List MemPlace)} {w w' : World} {b r n : Nat} {D : DataW H} {left : Lit → Bool} {cnt : Nat} (h : w.ranges P k R b r n D left cnt) (h1 : w'.heap[b]? = w.heap[b]?) (h2 : w'.heap[r]? = w.heap[r]?) : w'.ranges P k R b r n D left cnt := by
  obtain ⟨es, clock, since, seen, c0, hb, F, hs, hD, hr, rest⟩ := h
  exact ⟨es, clock, since, seen, c0, h1.trans hb, F, hs, hD, h2.trans hr, rest⟩

theorem keyOf_string_inv {P : Program} {k : TypeId} (hk : P.underlying k = some .string) {key : Value} {kl : Lit} (h : keyOf P k key = some kl) : ∃ x : ByteArray, key = .string x ∧ kl = .string x.data.toList ∧ x.size ≤ maxLen := by
  cases key <;> simp [keyOf, hk, mapKey] at h
  obtain ⟨hw, rfl⟩ := h
  exact ⟨_, rfl, rfl, hw⟩

theorem getA_of_atKey {V : List (List UInt8 × Value)} {n : List UInt8} {c : Value} (h : ∀ zd, (Dof V).atKey (.string n) zd = .held c) : getA n V = some c := by
  have h1 := h (.held (.bool true))
  have h2 := h (.held (.bool false))
  rw [dof_at] at h1 h2
  cases hg : getA n V with
  | some b =>
    rw [hg] at h1
    simp only [Option.getD_some, DataW.held.injEq] at h1
    rw [h1]
  | none =>
    rw [hg] at h1 h2
    simp only [Option.getD_none, DataW.held.injEq] at h1 h2
    rw [← h2] at h1
    cases h1

/-- What Copy's loop has made behind some rounds: at sb the struct, at cb the map, r the place of the range. -/
structure CpI (w wr : World) (mb sb cb r : Nat) (s : DS) (E : Ents) (left : Lit → Bool) (cnt : Nat) (E' : Ents) : Prop where
  rg : wr.ranges Try.prog 9 heldR mb r (vals E).length (Dof (vals E)) left cnt
  map : MapIs wr cb (vals E')
  fs : fils E' = doneE left (fils E)
  rows : ∀ p ∈ E', FRow wr p.2.1 p.2.2
  bl : ∀ g ∈ blocks E', r < g
  nd : (blocks E').Nodup
  box : wr.heap[sb]? = some (.cells #[.int .i64 s.room, .int .i64 (total s.fs), .map (some cb), .int .i64 s.fuse, .bool s.dead] 53 (0, 0))
  bel : Below w.heap.size w wr

theorem CpI.ris {w wr : World} {mb sb cb r : Nat} {s : DS} {E E' : Ents} {left : Lit → Bool} {cnt : Nat} (h : CpI w wr mb sb cb r s E left cnt E') (hE : Ris (fils E)) : Ris E' := by
  have : Ris (fils E') := by rw [h.fs]; exact done_ris hE
  exact (mapA_ris _ _).1 this

/-- The next round: w1 behind 'next', w2 behind the clone, w3 behind the store. -/
theorem cpI_step {w wr w1 w2 w3 : World} {mb sb cb r : Nat} {s : DS} {E E' : Ents} {left : Lit → Bool} {cnt cnt' : Nat} (h : CpI w wr mb sb cb r s E left cnt E') (hE : Ris (fils E)) (hmb : mb < w.heap.size) (hsb : w.heap.size ≤ sb) (hsc : sb < cb) (hcr : cb < r)
    {n : List UInt8} {f : Fl} (hm : (n, f) ∈ fils E) (hl : left (.string n) = true)
    (hrg : w1.ranges Try.prog 9 heldR mb r (vals E).length (Dof (vals E)) (fun z => left z && !z.sameKey (.string n)) cnt') (hg1 : wr.grownBy w1 (some r)) (hs1 : w1.heap.size = wr.heap.size)
    (hb2 : Below w1.heap.size w1 w2) {v' : Value} (hrow : w2.ownsRow w1.heap.size 5 1 v' f.data.length (bcells f.data))
    (hmap : MapIs w3 cb (putA n (.agg #[v', .int .i64 f.sy]) (vals E'))) (hc3 : Chg [cb] w2 w3) :
    CpI w w3 mb sb cb r s E (fun z => left z && !z.sameKey (.string n)) cnt' (putA n (.agg #[v', .int .i64 f.sy], f) E') := by
  have hsz := h.bel.size
  have hrl := h.rg.lt
  have hs2 := hb2.size
  have hs3 := hc3.size
  have hE' := h.ris hE
  have hfar : ∀ g, g < wr.heap.size → g ≠ r → g ≠ cb → w3.heap[g]? = wr.heap[g]? := fun g h1 h2 h3 => (hc3.block g (by omega) (by simpa using h3)).trans ((hb2.block g (by omega)).trans (hg1.block g h1 (by simpa using h2)))
  have hold : ∀ g ∈ blocks E', g < wr.heap.size := fun g hg => by
    obtain ⟨p, hp, hpg⟩ := mem_blocks.1 hg
    exact (h.rows p hp).lt hpg
  have hnotin : getA n E' = none := by
    cases hg : getA n E' with
    | none => rfl
    | some x =>
      have h1 : (n, x.2) ∈ fils E' := List.mem_map.2 ⟨(n, x), getA_mem hg, rfl⟩
      rw [h.fs] at h1
      unfold doneE at h1
      simp only [List.mem_filter, hl] at h1
      simp at h1
  have hnew : ∀ g, v'.ownBlock = some g → wr.heap.size ≤ g ∧ g < w2.heap.size := fun g hg => by have := hrow.lt g hg; omega
  have hperm := blocks_put n (Value.agg #[v', .int .i64 f.sy], f) E'
  rw [delA_none hnotin, fblk_mk] at hperm
  have hmem : ∀ g ∈ blocks (putA n (Value.agg #[v', .int .i64 f.sy], f) E'), v'.ownBlock = some g ∨ g ∈ blocks E' := fun g hg => by
    have := hperm.mem_iff.1 hg
    simpa using this
  have hrE : r < w1.heap.size := by omega
  refine ⟨ranges_keep hrg ?_ ?_, ?_, ?_, fun p hp => ?_, fun g hg => ?_, ?_, ?_, ?_⟩
  · exact (hc3.block mb (by omega) (by simp; omega)).trans (hb2.block mb (by omega))
  · exact (hc3.block r (by omega) (by simp; omega)).trans (hb2.block r (by omega))
  · have : vals (putA n (Value.agg #[v', .int .i64 f.sy], f) E') = putA n (.agg #[v', .int .i64 f.sy]) (vals E') := mapA_putA (fun b : Value × Fl => b.1) _ _ _
    rw [this]
    exact hmap
  · rw [← done_step hE hm, ← h.fs]
    exact mapA_putA (fun b : Value × Fl => b.2) _ _ _
  · rcases mem_putA.1 hp with rfl | ⟨hp, _⟩
    · refine FRow.keep (w := w2) ⟨v', rfl, own_mono hrow (Nat.zero_le _)⟩ fun g hg => ?_
      have := hnew g hg
      exact hc3.block g this.2 (by simp; omega)
    · refine (h.rows p hp).keep fun g hg => hfar g ((h.rows p hp).lt hg) ?_ ?_
      · have := h.bl g (mem_blocks.2 ⟨p, hp, hg⟩); omega
      · have := h.bl g (mem_blocks.2 ⟨p, hp, hg⟩); omega
  · rcases hmem g hg with h1 | h1
    · have := hnew g h1; omega
    · exact h.bl g h1
  · refine (hperm.nodup_iff).2 ?_
    cases ho : v'.ownBlock with
    | none => simpa using h.nd
    | some g =>
      simp only [Option.toList_some, List.cons_append, List.nil_append, List.nodup_cons]
      refine ⟨fun hm => ?_, h.nd⟩
      have := hold g hm
      have := (hnew g ho).1
      omega
  · refine (hfar sb ?_ (by omega) (by omega)).trans h.box
    exact lt_of_block h.box
  · have hch : Chg (r :: [cb]) wr w3 := ((Chg.of_grown hg1 (fun g hg => .inl (by have e' : r = g := Option.some.inj hg; simp [e']))).trans (Chg.of_below hb2)).trans (hc3.mono (by simp))
    exact h.bel.trans (hch.below hsz (by simp; omega))
end Go.Proofs.Ytcpldjaoacihlaa
