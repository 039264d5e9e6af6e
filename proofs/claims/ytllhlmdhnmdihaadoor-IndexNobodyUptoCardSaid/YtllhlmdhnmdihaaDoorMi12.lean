/- A range over a function whose iterator keeps state of its own in cells: the iterator and the caller part the heap by territory. -/
import Derived.RangeFuncNested
import Derived.RangeFuncLeaves
import Derived.RangeFuncBound
import Derived.RangeFuncCalls
namespace Go.Proofs.YtllhlmdhnmdihaaDoor.P
open Go Go.RowKit
set_option linter.unusedVariables false

/-- From A to B: new blocks, and the blocks of the territory T may have turned; nothing else. -/
structure Turns (T : Nat → Prop) (A B : World) : Prop where
  os : B.os = A.os
  tape : B.tape = A.tape
  output : B.output = A.output
  size : A.heap.size ≤ B.heap.size
  block : ∀ k, k < A.heap.size → ¬ T k → B.heap[k]? = A.heap[k]?

theorem Turns.refl (T : Nat → Prop) (A : World) : Turns T A A := ⟨rfl, rfl, rfl, Nat.le_refl _, fun _ _ _ => rfl⟩
theorem Turns.trans {T : Nat → Prop} {A B C : World} (h : Turns T A B) (k : Turns T B C) : Turns T A C :=
  ⟨k.os.trans h.os, k.tape.trans h.tape, k.output.trans h.output, Nat.le_trans h.size k.size,
    fun i hi ht => (k.block i (Nat.lt_of_lt_of_le hi h.size) ht).trans (h.block i hi ht)⟩
theorem Turns.mono {T T' : Nat → Prop} {A B : World} (h : Turns T A B) (hT : ∀ k, T k → T' k) : Turns T' A B :=
  ⟨h.os, h.tape, h.output, h.size, fun k hk ht => h.block k hk (fun e => ht (hT k e))⟩
theorem Turns.alloc {T : Nat → Prop} {A B : World} (h : Turns T A B) (o : Obj) : Turns T A (B.alloc o) :=
  h.trans ⟨rfl, rfl, rfl, by simp, fun k hk _ => Below.heap_alloc _ _ _ hk⟩
theorem Turns.drew {T : Nat → Prop} {A B : World} (h : Turns T A B) : Turns T A B.drew := ⟨h.os, h.tape, h.output, h.size, h.block⟩
theorem Turns.setCell {T : Nat → Prop} {A B : World} (h : Turns T A B) {p : Addr} (hp : T p.block) (u : Value) : Turns T A (B.setCell p u) :=
  h.trans ⟨rfl, rfl, rfl, by simp [World.setCell], fun k hk ht => Below.heap_setCell _ _ _ _ (fun e => ht (by rw [e]; exact hp))⟩
theorem Turns.putObj {T : Nat → Prop} {A B : World} (h : Turns T A B) {l : Nat} (hl : T l) (o : Obj) : Turns T A (B.putObj l o) :=
  h.trans ⟨rfl, rfl, rfl, by simp, fun k hk ht => World.putObj_heap_other (fun e => ht (by rw [e]; exact hl))⟩
theorem Turns.of_below {T : Nat → Prop} {n : Nat} {A B : World} (h : Below n A B) (hT : ∀ k, n ≤ k → k < A.heap.size → T k) : Turns T A B :=
  ⟨h.os, h.tape, h.output, h.size, fun k hk ht => by
    rcases Nat.lt_or_ge k n with hn | hn
    · exact h.block k hn
    · exact absurd (hT k hn hk) ht⟩

/-- What is said of a world abides a turn of the territory. -/
def Abides {β : Type} (T : Nat → Prop) (J : β → World → Prop) : Prop := ∀ s A B, J s A → Turns T A B → J s B

theorem abides_mono {β : Type} {T T' : Nat → Prop} {J : β → World → Prop} (h : Abides T' J) (hT : ∀ k, T k → T' k) : Abides T J := fun s A B hj ht => h s A B hj (ht.mono hT)
theorem abides_and {β : Type} {T : Nat → Prop} {J J' : β → World → Prop} (h : Abides T J) (h' : Abides T J') : Abides T (fun s W => J s W ∧ J' s W) :=
  fun s A B hj ht => ⟨h s A B hj.1 ht, h' s A B hj.2 ht⟩
theorem abides_pure {β : Type} (T : Nat → Prop) (p : β → Prop) : Abides T (fun s (_ : World) => p s) := fun _ _ _ hs _ => hs
theorem abides_false {β γ : Type} (T : Nat → Prop) : Abides T (fun (_ : β) (_ : World) => False) := fun _ _ _ hs _ => hs
theorem abides_below {β : Type} {T : Nat → Prop} {n : Nat} {w : World} (hn : n ≤ w.heap.size) (hT : ∀ k, T k → n ≤ k) : Abides T (fun (_ : β) W => Below n w W) :=
  fun _ A B hs ht => hs.trans ⟨ht.os, ht.tape, ht.output, ht.size, fun k hk => ht.block k (by have := hs.size; omega) (fun e => by have := hT k e; omega)⟩
theorem abides_block {β : Type} {T : Nat → Prop} (b : β → Nat) (o : β → Obj) (hT : ∀ s, ¬ T (b s)) : Abides T (fun s W => W.heap[b s]? = some (o s)) :=
  fun s A B hs ht => (ht.block _ (Array.getElem?_eq_some_iff.1 hs).1 (hT s)).trans hs

/-- The blocks of the territory lie as they lay. -/
structure Keeps (T : Nat → Prop) (A B : World) : Prop where
  size : A.heap.size ≤ B.heap.size
  same : ∀ k, T k → k < A.heap.size → B.heap[k]? = A.heap[k]?

theorem Keeps.refl (T : Nat → Prop) (A : World) : Keeps T A A := ⟨Nat.le_refl _, fun _ _ _ => rfl⟩
theorem Keeps.trans {T : Nat → Prop} {A B C : World} (h : Keeps T A B) (k : Keeps T B C) : Keeps T A C :=
  ⟨Nat.le_trans h.size k.size, fun i ht hi => (k.same i ht (Nat.lt_of_lt_of_le hi h.size)).trans (h.same i ht hi)⟩
theorem Keeps.mono {T T' : Nat → Prop} {A B : World} (h : Keeps T' A B) (hT : ∀ k, T k → T' k) : Keeps T A B := ⟨h.size, fun k ht hk => h.same k (hT k ht) hk⟩
theorem Keeps.alloc {T : Nat → Prop} {A B : World} (h : Keeps T A B) (o : Obj) : Keeps T A (B.alloc o) :=
  h.trans ⟨by simp, fun k _ hk => Below.heap_alloc _ _ _ hk⟩
theorem Keeps.drew {T : Nat → Prop} {A B : World} (h : Keeps T A B) : Keeps T A B.drew := ⟨h.size, h.same⟩
theorem Keeps.setCell {T : Nat → Prop} {A B : World} (h : Keeps T A B) {p : Addr} (hp : ¬ T p.block) (u : Value) : Keeps T A (B.setCell p u) :=
  h.trans ⟨by simp [World.setCell], fun k ht hk => Below.heap_setCell _ _ _ _ (fun e => hp (by rw [← e]; exact ht))⟩
theorem Keeps.of_below {T : Nat → Prop} {n : Nat} {A B : World} (h : Below n A B) (hT : ∀ k, T k → k < A.heap.size → k < n) : Keeps T A B :=
  ⟨h.size, fun k ht hk => h.block k (hT k ht hk)⟩
theorem Keeps.of_grown {T : Nat → Prop} {A B : World} {row : Option Nat} (h : A.grownBy B row) (hr : ∀ k, T k → some k ≠ row) : Keeps T A B :=
  ⟨h.size, fun k ht hk => h.block k hk (hr k ht)⟩
theorem Keeps.of_turns {T T' : Nat → Prop} {A B : World} (h : Turns T' A B) (hT : ∀ k, T k → ¬ T' k) : Keeps T A B :=
  ⟨h.size, fun k ht hk => h.block k hk (hT k ht)⟩

/-- The territory of an iterator that is called at world W: its own older blocks and the first K that it lays. -/
def terr (T : Nat → Prop) (s K : Nat) : Nat → Prop := fun k => T k ∨ (s ≤ k ∧ k < s + K)

/-- AN ITERATOR's CONTRACT. -/
def SeqX {α : Type} (F : Fence) (n : Nat) (P : Program) (g : Nat) (lb : Array Value) (encs : α → Array Value) (T : Nat → Prop) (K : Nat) (S Sp : List α → Prop) (G : List α → α → Prop) (w : World) : Prop :=
  ∀ (l : Nat) (J Jx : List α → World → Prop) (W : World), Below w.heap.size w W →
    Abides (terr T W.heap.size K) J → Abides (terr T W.heap.size K) Jx →
    (∀ pre x W1, J pre W1 → W.heap.size + K ≤ W1.heap.size → G pre x → YieldAt F (n - 1) P l (encs x) W1 fun e W' =>
      (e = .returned (.bool true) ∧ J (pre ++ [x]) W' ∧ Keeps (terr T W.heap.size K) W1 W') ∨
      (e = .returned (.bool false) ∧ Jx (pre ++ [x]) W' ∧ Keeps (terr T W.heap.size K) W1 W')) →
    J [] W →
    CallsIn F n P g (#[.func (.yield l) #[] #[]] ++ lb) W fun e W' => (∃ v, e = .returned v) ∧ ((∃ xs, S xs ∧ J xs W') ∨ (∃ pre, Sp pre ∧ Jx pre W'))

/-- How the body of a round may be left. -/
def postX {α : Type} (T : Nat → Prop) (I : List α → World → Prop) (Ix : Code → List α → World → Prop) (xs : List α) (W : World) : Exit → Act → World → Prop
  | .normal, _, W' => Keeps T W W' ∧ I xs W'
  | .ret, _, W' => Keeps T W W' ∧ Ix .ret xs W'
  | .exit id, _, W' => Keeps T W W' ∧ Ix (.exit id) xs W'
  | .goto t, _, W' => Keeps T W W' ∧ Ix (.goto t) xs W'
  | .panic _, _, _ => False
  | .outgrown, _, _ => False

variable {F : Fence} {n : Nat} {P : Program}

/-- THE STATEMENT 'for .. := range g { .. }' of a function's own frame. -/
theorem rangeX {α : Type} {g : Operand} {ps : Array Tmp} {assign body : Code} {Q : Exit → Act → World → Prop} {a : Act} {w : World}
    (hro : F.round = none) (h1 : 1 ≤ n) {gf : Nat} {lb : Array Value} (hg : a.eval g = .func (.func gf) #[] lb) (hFg : F.fn gf) (eg : ∀ args w, (callFunc gf args).run P w = .ok (.enter gf args) w)
    {encs : α → Array Value} {T : Nat → Prop} {K : Nat} {S Sp : List α → Prop} {G : List α → α → Prop} {w0 : World} (hseq : SeqX F (n - 1) P gf lb encs T K S Sp G w0) (hb0 : Below w0.heap.size w0 w)
    (hT : ∀ k, T k → k < w.heap.size) (hps : ∀ x, (encs x).size = ps.size)
    (I : List α → World → Prop) (Ix : Code → List α → World → Prop) (hI : Abides (terr T w.heap.size (2 + K)) I) (hIx : ∀ c, Abides (terr T w.heap.size (2 + K)) (Ix c)) (h0 : I [] w)
    (Ax : α → Act → World → Prop) (hAx : ∀ x a', Abides (terr T w.heap.size (2 + K)) (fun (_ : Unit) W => Ax x a' W))
    (hassign : ∀ (l : Nat) (pre : List α) (x : α) (W : World) (C : Act → World → Prop), I pre W → w.heap.size + (2 + K) ≤ W.heap.size →
      (∀ a' W', Keeps (terr T w.heap.size (2 + K)) W W' → I pre W' → Ax x a' W' → C a' W') →
      assign.wpIn (F.inRound l) (n - 1 - 1) P (Exit.then C (fun _ _ _ => False)) { tmps := (ps.zip (encs x)).foldl (fun t (p, v) => t.setIfInBounds p v) a.tmps, defers := [] } W)
    (hbody : ∀ (l : Nat) (pre : List α) (x : α) (a' : Act) (W : World), I pre W → w.heap.size + (2 + K) ≤ W.heap.size → Ax x a' W → G pre x →
      body.wpIn (F.inRound l) (n - 1 - 1) P (postX (terr T w.heap.size (2 + K)) I Ix (pre ++ [x]) W) a' W)
    (hdone : ∀ (D : Nat) (xs : List α) (W : World), D = w.heap.size → S xs → I xs W → W.heap[D]? = some (.deferred (some [])) → Q .normal { a with defers := { target := .collected D, args := #[] } :: a.defers } W)
    (hstop : ∀ (D : Nat) (c : Code) (pre : List α) (W : World), D = w.heap.size → Sp pre → Ix c pre W → W.heap[D]? = some (.deferred (some [])) → c.wpIn F n P Q { a with defers := { target := .collected D, args := #[] } :: a.defers } W) :
    (Code.rangeFunc g ps assign body).wpIn F n P Q a w := by
  refine wpIn_rangeFunc fun fn hfn => ?_
  rw [hro]
  -- the record of the loop in each of its states
  let rec_ : LoopState → Option Code → Loop := fun st pe => { state := st, pending := pe, fn, tmps := a.tmps, params := ps, assign, body, defers := w.heap.size }
  let W1 : World := (w.alloc (.deferred (some []))).alloc (.loop (rec_ .ready none))
  have hsz : W1.heap.size = w.heap.size + 2 := by simp [W1]
  have hD1 : W1.heap[w.heap.size]? = some (.deferred (some [])) := by
    show ((w.alloc _).alloc _).heap[_]? = _
    rw [Below.heap_alloc _ _ _ (by simp)]
    exact World.alloc_heap_new w _
  have hL1 : W1.heap[w.heap.size + 1]? = some (.loop (rec_ .ready none)) := by
    have h := World.alloc_heap_new (w.alloc (.deferred (some []))) (.loop (rec_ .ready none))
    rwa [World.size_alloc] at h
  have tt : ∀ k, terr T W1.heap.size K k → terr T w.heap.size (2 + K) k := fun k hk => by
    rcases hk with h | h
    · exact .inl h
    · exact .inr (by omega)
  have nD : ¬ terr T W1.heap.size K w.heap.size := fun h => by
    rcases h with h | h
    · have := hT _ h; omega
    · omega
  have nL : ¬ terr T W1.heap.size K (w.heap.size + 1) := fun h => by
    rcases h with h | h
    · have := hT _ h; omega
    · omega
  have tD : terr T w.heap.size (2 + K) w.heap.size := .inr (by omega)
  have tL : terr T w.heap.size (2 + K) (w.heap.size + 1) := .inr (by omega)
  refine ⟨w.heap.size + 1, [{ target := .collected w.heap.size, args := #[] }], W1, { target := .fn (.func gf) lb, args := #[.func (.yield (w.heap.size + 1)) #[] #[]] }, W1, gf,
    #[.func (.yield (w.heap.size + 1)) #[] #[]] ++ lb, W1, run_enterLoop_outer _ _ _ _ _, ?_, ?_, ?_, fun _ => h1, ?_⟩
  · simp only [resolve, hg]
    simp [go_sem]
  · intro f' hf'
    simp [Target.leads] at hf'
    subst hf'
    exact hFg
  · simp [invoke, go_sem, eg]
  · refine (hseq (w.heap.size + 1)
      (fun pre W => I pre W ∧ W.heap[w.heap.size + 1]? = some (.loop (rec_ .ready none)) ∧ W.heap[w.heap.size]? = some (.deferred (some [])))
      (fun pre W => ∃ c, Ix c pre W ∧ W.heap[w.heap.size + 1]? = some (.loop (rec_ .done (some c))) ∧ W.heap[w.heap.size]? = some (.deferred (some [])))
      W1 (hb0.trans ((((Below.refl _ w).alloc (Nat.le_refl _) _).alloc (by simp) _).mono hb0.size)) ?_ ?_ ?_
      ⟨hI _ _ _ h0 (((Turns.refl _ w).alloc _).alloc _), hL1, hD1⟩).mono ?_
    · rintro s A B ⟨hi, hl, hd⟩ ht
      exact ⟨hI _ _ _ hi (ht.mono tt), (ht.block _ (Array.getElem?_eq_some_iff.1 hl).1 nL).trans hl, (ht.block _ (Array.getElem?_eq_some_iff.1 hd).1 nD).trans hd⟩
    · rintro s A B ⟨c, hi, hl, hd⟩ ht
      exact ⟨c, hIx c _ _ _ hi (ht.mono tt), (ht.block _ (Array.getElem?_eq_some_iff.1 hl).1 nL).trans hl, (ht.block _ (Array.getElem?_eq_some_iff.1 hd).1 nD).trans hd⟩
    · -- a round
      rintro pre x W ⟨hi, hl, hd⟩ hge hlen
      refine ⟨fn, _, assign, body, run_yield (P := P) (args := encs x) hl (hps x), roundIn_of_wpIn hfn (hassign _ pre x W _ hi (by omega) ?_)⟩
      intro a' Wa hka hia hax
      have hla : Wa.heap[w.heap.size + 1]? = some (.loop (rec_ .ready none)) := (hka.same _ tL (Array.getElem?_eq_some_iff.1 hl).1).trans hl
      have hda : Wa.heap[w.heap.size]? = some (.deferred (some [])) := (hka.same _ tD (Array.getElem?_eq_some_iff.1 hd).1).trans hd
      have hlt := (Array.getElem?_eq_some_iff.1 hla).1
      refine ⟨_, run_beginRound hla rfl, ?_⟩
      let Wb : World := Wa.putObj (w.heap.size + 1) (.loop { rec_ .ready none with state := .busy })
      have tb : Turns (terr T w.heap.size (2 + K)) Wa Wb := (Turns.refl _ Wa).putObj tL _
      have hlb : Wb.heap[w.heap.size + 1]? = some (.loop { rec_ .ready none with state := .busy }) := World.putObj_heap_same hlt
      have hdb : Wb.heap[w.heap.size]? = some (.deferred (some [])) := (World.putObj_heap_other (by omega)).trans hda
      have hsb := tb.size
      have hsa := hka.size
      refine wpIn_mono (hbody _ pre x a' Wb (hI _ _ _ hia tb) (by omega) (hAx x a' () _ _ hax tb) hlen) ?_
      -- the round's end
      have fin : ∀ (jump : Option Code) (Wc : World), Keeps (terr T w.heap.size (2 + K)) Wb Wc →
          (Instr.endRound (w.heap.size + 1) jump).run P Wc = .ok (.bool jump.isNone) (Wc.putObj (w.heap.size + 1) (.loop (rec_ (if jump.isNone then .ready else .done) jump))) ∧
          Turns (terr T w.heap.size (2 + K)) Wc (Wc.putObj (w.heap.size + 1) (.loop (rec_ (if jump.isNone then .ready else .done) jump))) ∧
          (Wc.putObj (w.heap.size + 1) (.loop (rec_ (if jump.isNone then .ready else .done) jump))).heap[w.heap.size + 1]? = some (.loop (rec_ (if jump.isNone then .ready else .done) jump)) ∧
          (Wc.putObj (w.heap.size + 1) (.loop (rec_ (if jump.isNone then .ready else .done) jump))).heap[w.heap.size]? = some (.deferred (some [])) ∧
          Keeps (terr T W1.heap.size K) W (Wc.putObj (w.heap.size + 1) (.loop (rec_ (if jump.isNone then .ready else .done) jump))) := fun jump Wc hc => by
        have hlc := (hc.same _ tL (Array.getElem?_eq_some_iff.1 hlb).1).trans hlb
        have hdc := (hc.same _ tD (Array.getElem?_eq_some_iff.1 hdb).1).trans hdb
        refine ⟨run_endRound jump hlc, (Turns.refl _ Wc).putObj tL _, World.putObj_heap_same (Array.getElem?_eq_some_iff.1 hlc).1, (World.putObj_heap_other (by omega)).trans hdc, ?_⟩
        have k1 : Keeps (terr T W1.heap.size K) Wa Wb := ⟨hsb, fun k hk _ => World.putObj_heap_other (fun e => nL (e ▸ hk))⟩
        have k2 : Keeps (terr T W1.heap.size K) Wc (Wc.putObj (w.heap.size + 1) (.loop (rec_ (if jump.isNone then .ready else .done) jump))) :=
          ⟨by simp, fun k hk _ => World.putObj_heap_other (fun e => nL (e ▸ hk))⟩
        exact (((hka.mono tt).trans k1).trans (hc.mono tt)).trans k2
      rintro e a3 Wc hp
      cases e with
      | normal =>
        obtain ⟨h1', h2, h3, h4, h5⟩ := fin none Wc hp.1
        exact ⟨_, _, h1', .inl ⟨rfl, ⟨hI _ _ _ hp.2 h2, h3, h4⟩, h5⟩⟩
      | ret =>
        obtain ⟨h1', h2, h3, h4, h5⟩ := fin (some .ret) Wc hp.1
        exact ⟨_, _, h1', .inr ⟨rfl, ⟨.ret, hIx _ _ _ _ hp.2 h2, h3, h4⟩, h5⟩⟩
      | exit id =>
        obtain ⟨h1', h2, h3, h4, h5⟩ := fin (some (.exit id)) Wc hp.1
        exact ⟨_, _, h1', .inr ⟨rfl, ⟨.exit id, hIx _ _ _ _ hp.2 h2, h3, h4⟩, h5⟩⟩
      | goto t =>
        obtain ⟨h1', h2, h3, h4, h5⟩ := fin (some (.goto t)) Wc hp.1
        exact ⟨_, _, h1', .inr ⟨rfl, ⟨.goto t, hIx _ _ _ _ hp.2 h2, h3, h4⟩, h5⟩⟩
      | panic ch => exact hp.elim
      | outgrown => exact hp.elim
    · -- behind the iterator
      rintro e W2 ⟨⟨v, rfl⟩, (⟨xs, hS, hi, hl, hd⟩ | ⟨pre, hSp, c, hi, hl, hd⟩)⟩
      · exact ⟨none, _, run_endLoop hl (by simp [rec_]), hdone _ xs _ rfl hS (hI _ _ _ hi ((Turns.refl _ W2).putObj tL _)) ((World.putObj_heap_other (by omega)).trans hd)⟩
      · exact ⟨some c, _, run_endLoop hl (by simp [rec_]), hstop _ c pre _ rfl hSp (hIx c _ _ _ hi ((Turns.refl _ W2).putObj tL _)) ((World.putObj_heap_other (by omega)).trans hd)⟩

end Go.Proofs.YtllhlmdhnmdihaaDoor.P
