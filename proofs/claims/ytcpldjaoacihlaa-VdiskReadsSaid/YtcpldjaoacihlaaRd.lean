/- the reference's disk: what it is in memory; place. -/
import Derived.Test.YtcpldjaoacihlaaVk
import Derived.Test.YtcpldjaoacihlaaByS
namespace Go.Proofs.Ytcpldjaoacihlaa
open Go.RowKit
set_option linter.unusedVariables false

/-! ### the place of a name -/
def posA {β : Type} (n : List UInt8) (l : List (List UInt8 × β)) : Nat := (l.takeWhile fun p => bytesBefore p.1 n).length
section
variable {β : Type} {n : List UInt8} {l : List (List UInt8 × β)}

theorem posA_le : posA n l ≤ l.length := (List.takeWhile_prefix _).length_le
theorem posA_mono {k : Nat} (hr : Ris l) (hk : k < l.length) : k < posA n l ↔ bytesBefore l[k].1 n = true := by
  unfold posA
  induction l generalizing k with
  | nil => simp at hk
  | cons z r ih =>
    obtain ⟨h1, h2⟩ := List.pairwise_cons.1 hr
    cases k with
    | zero => by_cases hz : bytesBefore z.1 n = true <;> simp [hz]
    | succ k =>
      have hk' : k < r.length := by simpa using hk
      by_cases hz : bytesBefore z.1 n = true
      · simp only [List.takeWhile_cons, hz, if_true, List.length_cons, List.getElem_cons_succ]
        rw [← ih h2 hk']
        omega
      · simp only [List.takeWhile_cons, hz, List.getElem_cons_succ]
        have hlt := h1 _ (List.getElem_mem hk')
        constructor
        · intro h; simp at h
        · intro h; exact absurd (bb_trans hlt h) hz
theorem posA_found {k : Nat} (hr : Ris l) (hk : k < l.length) (hp : posA n l = k) : (getA n l).isSome = (l[k].1 == n) := by
  by_cases hn : l[k].1 = n
  · have : getA n l = some l[k].2 := getA_of_mem hr (by rw [← hn]; exact List.getElem_mem hk)
    simp [this, hn]
  · have hnot : ¬ bytesBefore l[k].1 n = true := fun h => by have := (posA_mono hr hk).2 h; omega
    have hgt : bytesBefore n l[k].1 = true := by
      rcases bb_total l[k].1 n with h | h | h
      · exact absurd h hnot
      · exact absurd h hn
      · exact h
    cases hg : getA n l with
    | none => simp [hn]
    | some b =>
      exfalso
      obtain ⟨j, hj, hjl⟩ := List.getElem_of_mem (getA_mem hg)
      rcases Nat.lt_trichotomy j k with h | h | h
      · have := (posA_mono (n := n) hr hj).1 (by omega)
        rw [hjl] at this
        simp [bb_irrefl] at this
      · subst h
        rw [hjl] at hn
        exact hn rfl
      · have := List.pairwise_iff_getElem.1 hr k j hk hj h
        rw [hjl] at this
        exact absurd (bb_trans hgt this) (by simp [bb_irrefl])
theorem posA_end (hr : Ris l) (hp : posA n l = l.length) : (getA n l).isSome = false := by
  cases hg : getA n l with
  | none => rfl
  | some b =>
    exfalso
    obtain ⟨j, hj, hjl⟩ := List.getElem_of_mem (getA_mem hg)
    have := (posA_mono (n := n) hr hj).1 (by omega)
    rw [hjl] at this
    simp [bb_irrefl] at this
theorem posA_uniq {k : Nat} (hr : Ris l) (hk : k ≤ l.length) (h1 : ∀ j (h : j < l.length), j < k → bytesBefore l[j].1 n = true) (h2 : ∀ h : k < l.length, bytesBefore l[k].1 n = false) : posA n l = k := by
  have hle := posA_le (n := n) (l := l)
  rcases Nat.lt_trichotomy (posA n l) k with h | h | h
  · have hj : posA n l < l.length := by omega
    have := (posA_mono hr hj).2 (h1 _ hj h)
    omega
  · exact h
  · have hj : k < l.length := by omega
    have := (posA_mono hr hj).1 h
    rw [h2 hj] at this
    cases this
theorem putA_new (hr : Ris l) (b : β) (hg : getA n l = none) : putA n b l = l.take (posA n l) ++ (n, b) :: l.drop (posA n l) := by
  unfold putA
  rw [delA_none hg]
  have hs := List.take_append_drop (posA n l) l
  conv => lhs; rw [← hs]
  refine ins_mid (fun p hp => ?_) (fun p hp => ?_)
  · obtain ⟨j, hj, rfl⟩ := List.getElem_of_mem hp
    rw [List.length_take] at hj
    rw [List.getElem_take]
    exact (posA_mono hr (by omega)).1 (by omega)
  · obtain ⟨j, hj, rfl⟩ := List.getElem_of_mem hp
    rw [List.length_drop] at hj
    rw [List.getElem_drop]
    have hnot : ¬ bytesBefore (l[posA n l + j]'(by omega)).1 n = true := fun h => by have := (posA_mono hr (by omega)).2 h; omega
    rcases bb_total (l[posA n l + j]'(by omega)).1 n with h | h | h
    · exact absurd h hnot
    · exact absurd h (getA_none hg _ (List.getElem_mem _))
    · exact h
theorem getA_split (hr : Ris l) {b : β} (hg : getA n l = some b) : posA n l < l.length ∧ l = l.take (posA n l) ++ (n, b) :: l.drop (posA n l + 1) := by
  have hlt : posA n l < l.length := by
    rcases Nat.lt_or_ge (posA n l) l.length with h | h
    · exact h
    · have := posA_end hr (Nat.le_antisymm posA_le h)
      rw [hg] at this
      cases this
  refine ⟨hlt, ?_⟩
  have hf := posA_found hr hlt rfl
  rw [hg] at hf
  have hn : l[posA n l].1 = n := by simpa using hf.symm
  have he : l[posA n l] = (n, b) := by
    have h1 := getA_of_mem hr (show (l[posA n l].1, l[posA n l].2) ∈ l from List.getElem_mem hlt)
    rw [hn, hg] at h1
    have : b = l[posA n l].2 := by simpa using h1
    exact Prod.ext hn this.symm
  conv => lhs; rw [← List.take_append_drop (posA n l) l, List.drop_eq_getElem_cons hlt, he]
theorem putA_old (hr : Ris l) {b : β} (c : β) (hg : getA n l = some b) : putA n c l = l.take (posA n l) ++ (n, c) :: l.drop (posA n l + 1) := by
  obtain ⟨_, he⟩ := getA_split hr hg
  have hr' := hr
  rw [he] at hr'
  have := put_mid (f' := c) hr'
  rwa [← he] at this
theorem delA_old (hr : Ris l) {b : β} (hg : getA n l = some b) : delA n l = l.take (posA n l) ++ l.drop (posA n l + 1) := by
  obtain ⟨_, he⟩ := getA_split hr hg
  have hr' := hr
  rw [he] at hr'
  obtain ⟨h1, h2, h3⟩ := List.pairwise_append.1 hr'
  obtain ⟨h4, h5⟩ := List.pairwise_cons.1 h2
  conv => lhs; rw [he]
  unfold delA
  rw [List.filter_append, List.filter_eq_self.2 fun p hp => by simpa using bb_ne (h3 p hp (n, b) (by simp)), List.filter_cons_of_neg (by simp), List.filter_eq_self.2 fun p hp => by simpa using (bb_ne (h4 p hp)).symm]
end

/-! ### the reference's disk -/
/-- A file's cells. -/
def fcells (p : List UInt8 × (Value × Fl)) : List Value := [.string ⟨p.1.toArray⟩, p.2.1, .int .i64 p.2.2.sy]
def flat (G : Ents) : List Value := G.flatMap fcells
theorem flat_length (G : Ents) : (flat G).length = G.length * 3 := by
  induction G with
  | nil => rfl
  | cons p r ih =>
    have : flat (p :: r) = fcells p ++ flat r := rfl
    rw [this, List.length_append, ih]
    simp [fcells]
    omega
theorem flat_get (G : Ents) (k : Nat) (hk : k < G.length) (j : Nat) (hj : j < 3) : (flat G)[k * 3 + j]? = (fcells G[k])[j]? := by
  induction G generalizing k with
  | nil => simp at hk
  | cons p r ih =>
    have e : flat (p :: r) = fcells p ++ flat r := rfl
    cases k with
    | zero => rw [e, List.getElem?_append_left (by simp [fcells]; omega)]; simp
    | succ k =>
      rw [e, List.getElem?_append_right (by simp [fcells]; omega)]
      have := ih k (by simpa using hk)
      rw [← show (k + 1) * 3 + j - (fcells p).length = k * 3 + j from by simp [fcells]; omega] at this
      simpa using this

/-- The reference's disk: the struct's block qb, the list lv. -/
structure RC (w : World) (qb : Nat) (s : DS) (lv : Value) (G : Ents) : Prop where
  blk : w.heap[qb]? = some (.cells #[lv, .int .i64 s.room, .int .i64 s.fuse, .bool s.dead] 64 (0, 0))
  row : OwnS w 0 69 3 lv G.length (flat G)
  fs : s.fs = fils G
  rd : ∀ p ∈ G, Rd w p.2.1 p.2.2.data
  ok : s.Ok

/-- The blocks of the files' bytes. -/
def bblks (G : Ents) : List Nat := G.filterMap fun p => if p.2.2.data.length = 0 then none else p.2.1.ownBlock

/-- .. at q: m may turn, bb must stay. -/
def RDisk (w : World) (q : Option Addr) (s : DS) (m bb : List Nat) : Prop :=
  ∃ qb lv G, q = some ⟨qb, 0, none⟩ ∧ RC w qb s lv G ∧ m = qb :: lv.ownBlock.toList ∧ m.Nodup ∧ bb = bblks G ∧ ∀ i ∈ bb, i ∉ m

theorem RC.ltq {w : World} {qb : Nat} {s : DS} {lv : Value} {G : Ents} (h : RC w qb s lv G) : qb < w.heap.size := lt_of_block h.blk
theorem RC.keep {w w' : World} {qb : Nat} {s : DS} {lv : Value} {G : Ents} (h : RC w qb s lv G) (h1 : w'.heap[qb]? = w.heap[qb]?) (h2 : ∀ g, lv.ownBlock = some g → w'.heap[g]? = w.heap[g]?) (h3 : ∀ g ∈ bblks G, w'.heap[g]? = w.heap[g]?) : RC w' qb s lv G := by
  refine ⟨h1.trans h.blk, h.row.keep h2, h.fs, fun p hp => ?_, h.ok⟩
  obtain ⟨a, c, hv, k1, k2, k3, k4⟩ := h.rd p hp
  refine ⟨a, c, hv, k1, k2, k3, fun h0 => ?_⟩
  obtain ⟨b, o, rfl, hx⟩ := k4 h0
  have hm : b ∈ bblks G := by
    unfold bblks
    rw [List.mem_filterMap]
    exact ⟨p, hp, by rw [if_neg (by omega), hv]; rfl⟩
  exact ⟨b, o, rfl, fun i hi => by rw [World.cell?_of_block (w := w) (h3 b hm)]; exact hx i hi⟩
theorem RC.ltb {w : World} {qb : Nat} {s : DS} {lv : Value} {G : Ents} (h : RC w qb s lv G) : ∀ g ∈ bblks G, g < w.heap.size := by
  intro g hg
  unfold bblks at hg
  rw [List.mem_filterMap] at hg
  obtain ⟨p, hp, he⟩ := hg
  split at he
  · cases he
  · exact Rd.lt (h.rd p hp) (by omega) g he
theorem RDisk.lt {w : World} {q : Option Addr} {s : DS} {m bb : List Nat} (h : RDisk w q s m bb) : (∀ i ∈ m, i < w.heap.size) ∧ ∀ i ∈ bb, i < w.heap.size := by
  obtain ⟨qb, lv, G, rfl, hc, rfl, _, rfl, _⟩ := h
  refine ⟨fun i hi => ?_, hc.ltb⟩
  simp only [List.mem_cons, Option.mem_toList] at hi
  rcases hi with rfl | hi
  · exact hc.ltq
  · exact hc.row.lt i hi
theorem RDisk.keep {w w' : World} {q : Option Addr} {s : DS} {m bb : List Nat} (h : RDisk w q s m bb) (h1 : ∀ i ∈ m, w'.heap[i]? = w.heap[i]?) (h2 : ∀ i ∈ bb, w'.heap[i]? = w.heap[i]?) : RDisk w' q s m bb := by
  obtain ⟨qb, lv, G, rfl, hc, rfl, hn, rfl, hd⟩ := h
  exact ⟨qb, lv, G, rfl, hc.keep (h1 _ (by simp)) (fun g hg => h1 g (by simp [hg])) h2, rfl, hn, rfl, hd⟩
theorem RDisk.chg {w w' : World} {q : Option Addr} {s : DS} {m bb S : List Nat} (h : RDisk w q s m bb) (hc : Chg S w w') (h1 : ∀ i ∈ m, i ∉ S) (h2 : ∀ i ∈ bb, i ∉ S) : RDisk w' q s m bb :=
  h.keep (fun i hi => hc.block i (h.lt.1 i hi) (h1 i hi)) (fun i hi => hc.block i (h.lt.2 i hi) (h2 i hi))
/-- What a call of the reference leaves. -/
def RAfter (w : World) (q : Option Addr) (s' : DS) (m bb : List Nat) (w' : World) : Prop :=
  ∃ m' bb', RDisk w' q s' m' bb' ∧ (∀ i ∈ m', i ∈ m ∨ w.heap.size ≤ i) ∧ (∀ i ∈ bb', i ∈ bb ∨ w.heap.size ≤ i) ∧ Chg m w w'

theorem cells4 {w : World} {b : Nat} {c0 c1 c2 c3 : Value} {T : TypeId} (h : w.heap[b]? = some (.cells #[c0, c1, c2, c3] T (0, 0))) :
    w.cell? ⟨b, 0, none⟩ = some c0 ∧ w.cell? ⟨b, 1, none⟩ = some c1 ∧ w.cell? ⟨b, 2, none⟩ = some c2 ∧ w.cell? ⟨b, 3, none⟩ = some c3 ∧ (∀ o, w.frozen? ⟨b, o, none⟩ = false) := by
  refine ⟨?_, ?_, ?_, ?_, fun o => ?_⟩ <;> simp [World.cell?, World.frozen?, h]
/-- A file of the list, as its three cells. -/
theorem RC.ent {w : World} {qb : Nat} {s : DS} {lv : Value} {G : Ents} (h : RC w qb s lv G) {k : Nat} (hk : k < G.length) : ∃ g off c, lv = .slice (some ⟨g, off, none⟩) G.length c ∧
    w.cell? ⟨g, off + k * 3, none⟩ = some (.string ⟨(G[k].1).toArray⟩) ∧ w.cell? ⟨g, off + k * 3 + 1, none⟩ = some G[k].2.1 ∧ w.cell? ⟨g, off + k * 3 + 2, none⟩ = some (.int .i64 G[k].2.2.sy) := by
  obtain ⟨a, c, hlv, _⟩ := h.row.form
  rcases h.row.2 with ⟨rfl, h0⟩ | ⟨g, off, cap, cur, hv, _⟩
  · omega
  · refine ⟨g, off, cap, hv, ?_, ?_, ?_⟩
    · exact h.row.cell hv (k * 3) _ (by rw [show k * 3 = k * 3 + 0 from rfl, flat_get G k hk 0 (by omega)]; rfl)
    · have := h.row.cell hv (k * 3 + 1) (G[k].2.1) (by rw [flat_get G k hk 1 (by omega)]; rfl)
      rwa [← Nat.add_assoc] at this
    · have := h.row.cell hv (k * 3 + 2) (.int .i64 G[k].2.2.sy) (by rw [flat_get G k hk 2 (by omega)]; rfl)
      rwa [← Nat.add_assoc] at this
end Go.Proofs.Ytcpldjaoacihlaa
