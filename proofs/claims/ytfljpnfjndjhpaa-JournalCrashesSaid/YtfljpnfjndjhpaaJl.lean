/- journal: the law's disk: what stays of what calls made, and the steps of JournalCrashes. -/
import Derived.Test.YtfljpnfjndjhpaaJk
import Derived.Test.YtfljpnfjndjhpaaJw
namespace Go.Proofs.Ytfljpnfjndjhpaa
open Go Go.RowKit Go.Deep
set_option linter.unusedVariables false
set_option linter.unusedSimpArgs false

/-- In blocks from lo on, ahead of hi, W is as wB. -/
def Agr (p : Nat × Nat × World) (W : World) : Prop := ∀ k, p.1 ≤ k → k < p.2.1 → W.heap[k]? = p.2.2.heap[k]?
/-- A disk made behind w0; what lies in the intervals of P stays. -/
def AtS (w0 w : World) (a : Addr) (s : DS) (P : List (Nat × Nat × World)) : Prop :=
  ∃ foot, Disk w (some a) s foot ∧ (∀ i ∈ foot, w0.heap.size ≤ i ∧ ∀ p ∈ P, i < p.1 ∨ p.2.1 ≤ i) ∧ Below w0.heap.size w0 w ∧ ∀ p ∈ P, p.2.1 ≤ w.heap.size ∧ Agr p w
/-- .. and a journal on it. -/
def LiveS (w0 w : World) (a : Addr) (s : DS) (j : JS) (jb : Nat) (P : List (Nat × Nat × World)) : Prop :=
  ∃ foot sv rv vs, Disk w (some a) s foot ∧ Jr w jb (some a) foot j sv rv vs ∧ (∀ i ∈ jb :: (rv.ownBlock.toList ++ foot), w0.heap.size ≤ i ∧ ∀ p ∈ P, i < p.1 ∨ p.2.1 ≤ i) ∧ Below w0.heap.size w0 w ∧ ∀ p ∈ P, p.2.1 ≤ w.heap.size ∧ Agr p w

section
variable {w0 w w' : World} {a : Addr} {s s' : DS} {j : JS} {jb : Nat} {P : List (Nat × Nat × World)}
theorem chg_keep {S : List Nat} (hS : ∀ i ∈ S, w0.heap.size ≤ i ∧ ∀ p ∈ P, i < p.1 ∨ p.2.1 ≤ i) (hb : Below w0.heap.size w0 w) (hP : ∀ p ∈ P, p.2.1 ≤ w.heap.size ∧ Agr p w) (hc : Chg S w w') : Below w0.heap.size w0 w' ∧ ∀ p ∈ P, p.2.1 ≤ w'.heap.size ∧ Agr p w' := by
  refine ⟨⟨hc.os.trans hb.os, hc.tape.trans hb.tape, hc.output.trans hb.output, Nat.le_trans hb.size hc.size, fun i hi => (hc.block i (Nat.lt_of_lt_of_le hi hb.size) (fun hm => by have := (hS i hm).1; omega)).trans (hb.block i hi)⟩, fun p hp => ⟨Nat.le_trans (hP p hp).1 hc.size, fun k h1 h2 => (hc.block k (by have := (hP p hp).1; omega) (fun hm => by have := (hS k hm).2 p hp; omega)).trans ((hP p hp).2 k h1 h2)⟩⟩
theorem AtS.after {foot : List Nat} (hf : ∀ i ∈ foot, w0.heap.size ≤ i ∧ ∀ p ∈ P, i < p.1 ∨ p.2.1 ≤ i) (hb : Below w0.heap.size w0 w) (hP : ∀ p ∈ P, p.2.1 ≤ w.heap.size ∧ Agr p w) (h : After w (some a) s' foot w') : AtS w0 w' a s' P := by
  obtain ⟨f, h1, h2, h3⟩ := h
  obtain ⟨k1, k2⟩ := chg_keep hf hb hP h3
  exact ⟨f, h1, fun i hi => (h2 i hi).elim (hf i) fun h => ⟨Nat.le_trans hb.size h, fun p hp => .inr (Nat.le_trans (hP p hp).1 h)⟩, k1, k2⟩
theorem AtS.below (h : AtS w0 w a s P) (hb : Below w.heap.size w w') : AtS w0 w' a s P := by
  obtain ⟨f, h1, h2, h3, h4⟩ := h
  exact AtS.after h2 h3 h4 ⟨f, h1.below hb, fun i hi => .inl hi, Chg.of_below hb⟩
theorem LiveS.disk (h : LiveS w0 w a s j jb P) : AtS w0 w a s P := by
  obtain ⟨f, sv, rv, vs, h1, h2, h3, h4, h5⟩ := h
  exact ⟨f, h1, fun i hi => h3 i (List.mem_cons_of_mem _ (List.mem_append_right _ hi)), h4, h5⟩
theorem LiveS.below (h : LiveS w0 w a s j jb P) (hb : Below w.heap.size w w') : LiveS w0 w' a s j jb P := by
  obtain ⟨f, sv, rv, vs, h1, h2, h3, h4, h5⟩ := h
  obtain ⟨k1, k2⟩ := chg_keep (S := []) (fun i hi => by cases hi) h4 h5 (⟨hb.os, hb.tape, hb.output, hb.size, fun i hi _ => hb.block i hi⟩ : Chg [] w w')
  exact ⟨f, sv, rv, vs, h1.below hb, h2.below hb, h3, k1, k2⟩
/-- What the call made stays from here on. -/
theorem LiveS.add (h : LiveS w0 w a s j jb P) (hb : Below w.heap.size w w') : LiveS w0 w' a s j jb ((w.heap.size, w'.heap.size, w') :: P) := by
  obtain ⟨f, sv, rv, vs, h1, h2, h3, h4, h5⟩ := h
  have hlt : ∀ i ∈ jb :: (rv.ownBlock.toList ++ f), i < w.heap.size := fun i hi => by
    rcases List.mem_cons.1 hi with h | h
    · rw [h]; exact h2.lt
    · rcases List.mem_append.1 h with h | h
      · exact (h2.rf i (by simpa using h)).1
      · exact h1.lt i h
  obtain ⟨k1, k2⟩ := chg_keep (S := []) (fun i hi => by cases hi) h4 h5 (⟨hb.os, hb.tape, hb.output, hb.size, fun i hi _ => hb.block i hi⟩ : Chg [] w w')
  refine ⟨f, sv, rv, vs, h1.below hb, h2.below hb, fun i hi => ⟨(h3 i hi).1, fun p hp => ?_⟩, k1, fun p hp => ?_⟩
  · rcases List.mem_cons.1 hp with h | h
    · rw [h]; exact .inl (hlt i hi)
    · exact (h3 i hi).2 p h
  · rcases List.mem_cons.1 hp with h | h
    · rw [h]; exact ⟨Nat.le_refl _, fun k _ _ => rfl⟩
    · exact k2 p h
theorem LiveS.after {foot : List Nat} {sv rv : Value} {vs : List Value} {j' : JS} (hf : ∀ i ∈ jb :: (rv.ownBlock.toList ++ foot), w0.heap.size ≤ i ∧ ∀ p ∈ P, i < p.1 ∨ p.2.1 ≤ i) (hb : Below w0.heap.size w0 w) (hP : ∀ p ∈ P, p.2.1 ≤ w.heap.size ∧ Agr p w) (h : JAfter w jb (some a) foot rv s' j' w') : LiveS w0 w' a s' j' jb P := by
  obtain ⟨f, sv', rv', vs', h1, h2, h3, h4, h5⟩ := h
  obtain ⟨k1, k2⟩ := chg_keep hf hb hP h5
  have hnew : ∀ i, w.heap.size ≤ i → w0.heap.size ≤ i ∧ ∀ p ∈ P, i < p.1 ∨ p.2.1 ≤ i := fun i h => ⟨Nat.le_trans hb.size h, fun p hp => .inr (Nat.le_trans (hP p hp).1 h)⟩
  refine ⟨f, sv', rv', vs', h1, h2, fun i hi => ?_, k1, k2⟩
  rcases List.mem_cons.1 hi with h | h
  · rw [h]; exact hf jb (List.mem_cons_self ..)
  · rcases List.mem_append.1 h with h | h
    · rcases h4 i (by simpa using h) with h | h
      · exact hf i (List.mem_cons_of_mem _ (List.mem_append_left _ (by simpa using h)))
      · exact hnew i h
    · exact (h3 i h).elim (fun h => hf i (List.mem_cons_of_mem _ (List.mem_append_right _ h))) (hnew i)
theorem app_S (h : LiveS w0 w a s j jb P) (hl : s.fs.length ≤ 999999997) (hrc : j.recs.length ≤ 4194304) (v : Value) (b : List UInt8) (hv : Rd w0 v b) :
    Calls Try.prog 6 #[.pointer (some ⟨jb, 0, none⟩), v] w fun e w' => e = .returned (.int .i64 (j.app s b).1) ∧ LiveS w0 w' a (j.app s b).2.2 (j.app s b).2.1 jb P := by
  obtain ⟨f, sv, rv, vs, k1, k2, k3, k4, k5⟩ := h
  refine (japp_all k2 k1 (by omega) v b (hv.below k4) (fun h0 g hg hm => by have h1 := Rd.lt hv h0 g hg; have h2 := (k3 g (List.mem_cons_of_mem _ (List.mem_append_right _ hm))).1; omega) hrc).mono ?_
  rintro e w' ⟨rfl, ha⟩
  exact ⟨rfl, LiveS.after (sv := sv) (vs := vs) k3 k4 k5 ha⟩
theorem cmp_S (h : LiveS w0 w a s j jb P) (hl : s.fs.length ≤ 999999997) (v : Value) (b : List UInt8) (hv : Rd w0 v b) :
    Calls Try.prog 10 #[.pointer (some ⟨jb, 0, none⟩), v] w fun e w' => e = .returned (.int .i64 (j.cmp s b).1) ∧ LiveS w0 w' a (j.cmp s b).2.2 (j.cmp s b).2.1 jb P := by
  obtain ⟨f, sv, rv, vs, k1, k2, k3, k4, k5⟩ := h
  refine (jcmp_all k2 k1 hl v b (hv.below k4) (fun h0 g hg hm => by have h1 := Rd.lt hv h0 g hg; have h2 := (k3 g (List.mem_cons_of_mem _ (List.mem_append_right _ hm))).1; omega)).mono ?_
  rintro e w' ⟨rfl, ha⟩
  exact ⟨rfl, LiveS.after (sv := sv) (vs := vs) k3 k4 k5 ha⟩
theorem fuse_L (h : LiveS w0 w a s j jb P) (n : Int) (hn : n ≤ 9223372036854775807) :
    Calls Try.prog 9 #[.pointer (some a), .int .i64 n] w fun e w' => e = .returned (.int .i64 (s.setFuse n).1) ∧ LiveS w0 w' a (s.setFuse n).2 j jb P := by
  obtain ⟨f, sv, rv, vs, k1, k2, k3, k4, k5⟩ := h
  refine (fuse_c k1 n hn).mono ?_
  rintro e w' ⟨rfl, f', q1, q2, q3⟩
  have hf : ∀ i ∈ f, w0.heap.size ≤ i ∧ ∀ p ∈ P, i < p.1 ∨ p.2.1 ≤ i := fun i hi => k3 i (List.mem_cons_of_mem _ (List.mem_append_right _ hi))
  obtain ⟨k6, k7⟩ := chg_keep hf k4 k5 q3
  refine ⟨rfl, f', sv, rv, vs, q1, k2.chg q3 q2, fun i hi => ?_, k6, k7⟩
  rcases List.mem_cons.1 hi with h | h
  · exact k3 i (by rw [h]; exact List.mem_cons_self ..)
  · rcases List.mem_append.1 h with h | h
    · exact k3 i (List.mem_cons_of_mem _ (List.mem_append_left _ h))
    · exact (q2 i h).elim (hf i) fun h => ⟨Nat.le_trans k4.size h, fun p hp => .inr (Nat.le_trans (k5 p hp).1 h)⟩
theorem fuse_S (h : AtS w0 w a s P) (n : Int) (hn : n ≤ 9223372036854775807) :
    Calls Try.prog 9 #[.pointer (some a), .int .i64 n] w fun e w' => e = .returned (.int .i64 (s.setFuse n).1) ∧ AtS w0 w' a (s.setFuse n).2 P := by
  obtain ⟨f, k1, k2, k3, k4⟩ := h
  refine (fuse_c k1 n hn).mono ?_
  rintro e w' ⟨rfl, ha⟩
  exact ⟨rfl, AtS.after k2 k3 k4 ha⟩
theorem crash_S (h : AtS w0 w a s P) (hl : s.fs.length ≤ 1000000000) (v : Value) (keeps : List Int) (hv : RdV w0 v (icells keeps)) (hb : keeps.length ≤ 140737488355328) :
    Calls Try.prog 11 #[.pointer (some a), v] w fun e w' => e = .returned (.int .i64 0) ∧ AtS w0 w' a (s.crash keeps) P := by
  obtain ⟨f, k1, k2, k3, k4⟩ := h
  refine (crash_c k1 hl v keeps (hv.below k3) (fun h0 g hg hm => by
    obtain ⟨p, c, rfl, _, _, _, h5⟩ := hv
    obtain ⟨b, o, rfl, hx⟩ := h5 (by simpa [icells] using h0)
    simp only [Value.ownBlock, Option.some.injEq] at hg
    subst hg
    have h1 := World.block_lt_of_cell? w0 _ (hx 0 (by simpa [icells] using h0))
    have h2 := (k2 b hm).1
    simp at h1
    omega) hb).mono ?_
  rintro e w' ⟨rfl, ha⟩
  exact ⟨rfl, AtS.after k2 k3 k4 ha⟩
/-- Open of a disk that holds a journal. -/
theorem open_S (h : AtS w0 w a s P) (l : List (List UInt8)) (hi : Inv l s) (hl : l ≠ []) (hll : ∀ y ∈ l, y.length < 4294967296) (hlen : (s.disc draN).2.fs.length ≤ 999999999) (v : Value) (h33 : (s.disc draN).1 = 0 → ((s.disc draN).2.read curN).2 ≠ 33) (hb : (s.disc draN).1 = 0 → ((s.disc draN).2.read curN).2 = 0 → 0 < ((s.disc draN).2.read curN).1.length ∧ ((s.disc draN).2.read curN).1.length ≤ 4294967295) :
    Calls Try.prog 5 #[.pointer (some a), v] w fun e w' => AtS w0 w' a s.opn.2.2 P ∧ (s.opn.1 = 0 → ∃ jb sv rv, e = .returned (.tuple #[.pointer (some ⟨jb, 0, none⟩), .int .i64 0]) ∧ w'.heap[jb]? = some (.cells #[.pointer (some a), sv, rv, .bool false] 51 (0, 0)) ∧ Rd w' sv (s.opn.2.1.headD []) ∧ RdRows w' rv s.opn.2.1.tail) ∧ (s.opn.1 ≠ 0 → e = .returned (.tuple #[.pointer none, .int .i64 s.opn.1])) := by
  obtain ⟨f, k1, k2, k3, k4⟩ := h
  refine (open_has k1 hlen v h33 hb).mono ?_
  rintro e w' ⟨ha, h2, h3⟩
  exact ⟨AtS.after k2 k3 k4 ha, h2, h3⟩
end
end Go.Proofs.Ytfljpnfjndjhpaa
