/- xmltree: the reference: while an element is read. -/
import Derived.Test.YtpcajjbdlfookaaGreatDoorMp24
import Derived.Test.YtpcajjbdlfookaaGreatDoorMp25
import Derived.Test.YtpcajjbdlfookaaGreatDoorMp26
namespace Go.Proofs.YtpcajjbdlfookaaGreatDoor
open Go Go.RowKit Go.Deep Go.Shelf
set_option linter.unusedVariables false
set_option linter.unusedSimpArgs false

theorem RB.chg {w w' : World} {v : Value} {L : BS} {rb : Nat} {cs : Array Value} {z : Nat × Nat} (h : RB w v L) (hc : Chg [rb] w w') (hb : w.heap[rb]? = some (.cells cs 49 z)) : RB w' v L := by
  refine OwnS.keep h fun g hg => hc.block g (OwnS.lt h g hg) ?_
  have hr' : OwnS w 0 142 2 v L.length (dcells L) := h
  rcases hr'.2 with ⟨rfl, _⟩ | ⟨g', off, cap, cur, rfl, _, h3, _⟩
  · simp [Value.ownBlock] at hg
  · simp [Value.ownBlock] at hg
    subst hg
    simp
    rintro rfl
    rw [hb] at h3
    simp at h3
theorem AtsIs.rd {w w' : World} {v : Value} {l : List (List UInt8 × List UInt8)} {rb : Nat} {cs : Array Value} {z : Nat × Nat} (h : AtsIs w v l) (hc : Chg [rb] w w') (hb : w.heap[rb]? = some (.cells cs 49 z)) : AtsIs w' v l := h.chgT hc (by
  intro i hi cs z
  simp at hi
  subst hi
  rw [hb]
  simp)
/-- An element by value. -/
def IsEl (v : Value) : Prop := ∃ S1 S2 p1 n1 c1 p2 n2 c2 S3, v = .agg #[.string S1, .string S2, .slice p1 n1 c1, .slice p2 n2 c2, .string S3]
/-- How the reading of an element ends; N: where its own blocks begin. -/
def WhE (w0 w : World) (rb : Nat) (bv : Value) (N o : Nat) (R : Except (Nat × Nat) (ET × Nat)) (e : Ending) (w' : World) : Prop := match R with
  | .error x => ∃ v, e = .returned (.tuple #[v, .int .i64 (x.1 : Nat), .int .i64 (x.2 : Nat)]) ∧ IsEl v ∧ x.2 ≠ 0 ∧ Chg [rb] w w'
  | .ok x => ∃ v, e = .returned (.tuple #[v, .int .i64 0, .int .i64 0]) ∧ ElemD (fun b => N ≤ b) w' (24 - o) v x.1 ∧ RX w0 rb bv x.2 w' ∧ Chg [rb] w w'
/-- Blocks that are neither of the two boxes nor the growing row. -/
def okQ (N eb : Nat) (kv : Value) : Nat → Prop := fun b => N ≤ b ∧ b ≠ eb ∧ b ≠ eb + 1 ∧ kv.ownBlock ≠ some b
structure RnI (w0 W0 : World) (rb : Nat) (bv : Value) (N : Nat) (h : HT) (av : Value) (d : Nat) (EL : List EV) (tx : List UInt8) (a : Nat) (kv : Value) (wr : World) : Prop where
  rx : RX w0 rb bv a wr
  ch : Chg [rb] W0 wr
  box : wr.heap[W0.heap.size]? = some (.cells #[.string h.1, .string h.2.1, av, kv, .string (ba tx)] 27 (0, 0))
  res : wr.heap[W0.heap.size + 1]? = some ZE
  ats : PairsR (okQ N W0.heap.size kv) wr av h.2.2
  row : wr.ownsRow (W0.heap.size + 2) 27 5 kv EL.length (ecells EL)
  kids : KidsV (okQ N W0.heap.size kv) wr d EL
  rn : rb < N
  nb : N ≤ W0.heap.size
theorem RnI.start {w0 w : World} {rb : Nat} {bv : Value} {N : Nat} {h : HT} {av : Value} {d a : Nat} (hx : RX w0 rb bv a w) (hp : PairsR (fun b => N ≤ b) w av h.2.2) (hr : rb < N) (hN : N ≤ w.heap.size) :
    RnI w0 w rb bv N h av d [] [] a (.slice none 0 0) ((w.alloc (.cells #[.string h.1, .string h.2.1, av, .slice none 0 0, .string ⟨#[]⟩] 27)).alloc ZE) := by
  have hb1 := box_belT w (.cells #[.string h.1, .string h.2.1, av, .slice none 0 0, .string ⟨#[]⟩] 27)
  have hb2 := box_belT (w.alloc (.cells #[.string h.1, .string h.2.1, av, .slice none 0 0, .string ⟨#[]⟩] 27)) ZE
  have hb := hb1.trans (hb2.mono hb1.size)
  have hn := heap_alloc_new (w.alloc (.cells #[.string h.1, .string h.2.1, av, .slice none 0 0, .string ⟨#[]⟩] 27)) ZE
  rw [World.size_alloc] at hn
  refine ⟨hx.below hb, Chg.of_below hb, (hb2.block _ (by simp)).trans (heap_alloc_new w _), hn, hp.keep hb.size (fun b h1 h2 => ⟨hb.block b h2, h1, by omega, by omega, by simp [Value.ownBlock]⟩), World.ownsRow_nil _ _ _ _, (fun x hx => by cases hx), hr, hN⟩
theorem RnI.on {w0 W0 wr w' : World} {rb : Nat} {bv : Value} {N : Nat} {h : HT} {av : Value} {d : Nat} {EL : List EV} {tx : List UInt8} {a a' : Nat} {kv : Value} (H : RnI w0 W0 rb bv N h av d EL tx a kv wr) (hx : RX w0 rb bv a' w') (hc : Chg [rb] wr w') : RnI w0 W0 rb bv N h av d EL tx a' kv w' := by
  have hr := H.rn
  have hn := H.nb
  have hrow := fun g hg => rowT_lt H.row g hg
  refine ⟨hx, H.ch.then hc (fun i hi => .inl hi), (hc.block _ (Array.getElem?_eq_some_iff.1 H.box).1 (by simp; omega)).trans H.box, (hc.block _ (Array.getElem?_eq_some_iff.1 H.res).1 (by simp; omega)).trans H.res, H.ats.keep hc.size (fun b h1 h2 => ⟨hc.block b h2 (by have := h1.1; simp; omega), h1⟩), rowT_keep H.row (fun g hg => hc.block g (hrow g hg).2 (by have := (hrow g hg).1; simp; omega)), H.kids.keep hc.size (fun b h1 h2 => ⟨hc.block b h2 (by have := h1.1; simp; omega), h1⟩), H.rn, H.nb⟩
theorem RnI.below {w0 W0 wr w' : World} {rb : Nat} {bv : Value} {N : Nat} {h : HT} {av : Value} {d : Nat} {EL : List EV} {tx : List UInt8} {a : Nat} {kv : Value} (H : RnI w0 W0 rb bv N h av d EL tx a kv wr) (hb : Below wr.heap.size wr w') : RnI w0 W0 rb bv N h av d EL tx a kv w' := H.on (H.rx.below hb) (Chg.of_below hb)
/-- A text is added. -/
theorem RnI.text {w0 W0 wr : World} {rb : Nat} {bv : Value} {N : Nat} {h : HT} {av : Value} {d : Nat} {EL : List EV} {tx : List UInt8} {a : Nat} {kv : Value} (H : RnI w0 W0 rb bv N h av d EL tx a kv wr) (t : List UInt8) (V : ByteArray) (hV : V = ba t) : RnI w0 W0 rb bv N h av d EL t a kv (wr.setCell ⟨W0.heap.size, 4, none⟩ (.string V)) := by
  subst hV
  have hr := H.rn
  have hn := H.nb
  have hrow := fun g hg => rowT_lt H.row g hg
  have hc : Chg [W0.heap.size] wr (wr.setCell ⟨W0.heap.size, 4, none⟩ (.string (ba t))) := (Chg.refl _ wr).set' _ _ _ (.inl (by simp))
  have hx := H.rx
  refine ⟨⟨hx.bel.trans (hc.below hx.bel.size (fun i hi => by simp at hi; subst hi; have := hx.low; omega)), hx.low, (hc.block rb hx.lt (by simp; omega)).trans hx.box⟩, H.ch.then hc (fun i hi => by simp at hi; subst hi; exact .inr (Nat.le_refl _)), by rw [block_set _ _ _ _ _ _ _ H.box]; rfl, (hc.block _ (Array.getElem?_eq_some_iff.1 H.res).1 (by simp)).trans H.res, H.ats.keep hc.size (fun b h1 h2 => ⟨hc.block b h2 (by have := h1.2.1; simpa using this), h1⟩), rowT_keep H.row (fun g hg => hc.block g (hrow g hg).2 (by have := (hrow g hg).1; simp; omega)), H.kids.keep hc.size (fun b h1 h2 => ⟨hc.block b h2 (by have := h1.2.1; simpa using this), h1⟩), H.rn, H.nb⟩
/-- A kid is added. -/
theorem RnI.push {w0 W0 wr W w1 : World} {rb m g cap : Nat} {bv : Value} {N : Nat} {h : HT} {av : Value} {d : Nat} {EL : List EV} {tx : List UInt8} {a : Nat} {kv : Value} (H0 : RnI w0 W0 rb bv N h av d EL tx a kv wr) (x : ET) (av2 kv2 : Value) (hx1 : PairsR (okQ N W0.heap.size kv) wr av2 x.attrs) (hx2 : KidsD (okQ N W0.heap.size kv) wr d kv2 x.kids) (hb : Below wr.heap.size wr W) (hg : W.grownBy w1 kv.ownBlock) (ho : w1.ownsRow (W0.heap.size + 2) 27 5 (.slice (some ⟨g, 0, none⟩) m cap) m (ecells EL ++ [.string x.space, .string x.name, av2, kv2, .string x.text])) (hm : m = EL.length + 1) (hnew : kv.ownBlock = some g ∨ g = W.heap.size) :
    RnI w0 W0 rb bv N h av d (EL ++ [(x, av2, kv2)]) tx a (.slice (some ⟨g, 0, none⟩) m cap) (w1.setCell ⟨W0.heap.size, 3, none⟩ (.slice (some ⟨g, 0, none⟩) m cap)) ∧ w1.heap[W0.heap.size]? = some (.cells #[.string h.1, .string h.2.1, av, kv, .string (ba tx)] 27 (0, 0)) := by
  subst hm
  have H := H0.below hb
  have hr := H.rn
  have hn := H.nb
  have hrow := fun g hg => rowT_lt H.row g hg
  have hg0 := (rowT_lt ho g rfl).1
  have hold : ∀ i, i < W.heap.size → kv.ownBlock ≠ some i → w1.heap[i]? = W.heap[i]? := fun i hi hk => hg.block i hi (fun e => hk e.symm)
  have heb : kv.ownBlock ≠ some W0.heap.size := fun e => by have := (hrow _ e).1; omega
  have heb1 : kv.ownBlock ≠ some (W0.heap.size + 1) := fun e => by have := (hrow _ e).1; omega
  have hrb : kv.ownBlock ≠ some rb := fun e => by have := (hrow _ e).1; omega
  have hbx := (hold _ (Array.getElem?_eq_some_iff.1 H.box).1 heb).trans H.box
  have hset : ∀ i, i ≠ W0.heap.size → (w1.setCell ⟨W0.heap.size, 3, none⟩ (.slice (some ⟨g, 0, none⟩) (EL.length + 1) cap)).heap[i]? = w1.heap[i]? := fun i hi => Below.heap_setCell _ _ _ _ hi
  have hx := H.rx
  have hsz : W.heap.size ≤ (w1.setCell ⟨W0.heap.size, 3, none⟩ (.slice (some ⟨g, 0, none⟩) (EL.length + 1) cap)).heap.size := by rw [World.size_setCell]; exact hg.size
  have okk : ∀ b, okQ N W0.heap.size kv b → b < W.heap.size → (w1.setCell ⟨W0.heap.size, 3, none⟩ (.slice (some ⟨g, 0, none⟩) (EL.length + 1) cap)).heap[b]? = W.heap[b]? ∧ okQ N W0.heap.size (.slice (some ⟨g, 0, none⟩) (EL.length + 1) cap) b := by
    rintro b ⟨h1, h2, h3, h4⟩ hl
    refine ⟨(hset b h2).trans (hold b hl h4), h1, h2, h3, ?_⟩
    intro e
    have e' : g = b := Option.some.inj e
    rcases hnew with h5 | h5
    · exact h4 (h5.trans (by rw [e']))
    · omega
  have hq1 := hx1.keep (w' := W) (ok' := okQ N W0.heap.size kv) hb.size (fun b h1 h2 => ⟨hb.block b h2, h1⟩)
  have hq2 := hx2.keep (w' := W) (ok' := okQ N W0.heap.size kv) hb.size (fun b h1 h2 => ⟨hb.block b h2, h1⟩)
  refine ⟨⟨⟨(hx.bel.grown hg hx.bel.size (fun b e => by have := (hrow b e).1; have := hx.low; omega)).setCell (p := ⟨W0.heap.size, 3, none⟩) (by show w0.heap.size ≤ W0.heap.size; have := hx.low; omega) _, hx.low, (hset rb (by omega)).trans ((hold rb hx.lt hrb).trans hx.box)⟩, ?_, by rw [block_set _ _ _ _ _ _ _ hbx]; rfl, (hset _ (by omega)).trans ((hold _ (Array.getElem?_eq_some_iff.1 H.res).1 heb1).trans H.res), H.ats.keep hsz okk, ?_, ?_, H.rn, H.nb⟩, hbx⟩
  · have h1 : Chg [rb] W0 w1 := ⟨hg.os.trans H.ch.os, hg.tape.trans H.ch.tape, hg.output.trans H.ch.output, Nat.le_trans H.ch.size hg.size, fun i hi hm => (hold i (Nat.lt_of_lt_of_le hi H.ch.size) (fun e => by have := (hrow i e).1; omega)).trans (H.ch.block i hi hm)⟩
    exact h1.set' _ _ _ (.inr (Nat.le_refl _))
  · rw [List.length_append, show ecells (EL ++ [(x, av2, kv2)]) = ecells EL ++ [.string x.space, .string x.name, av2, kv2, .string x.text] from by unfold ecells; rw [List.flatMap_append]; rfl]
    exact rowT_keep ho fun g' hg2 => hset g' (by have := (rowT_lt ho g' hg2).1; omega)
  · intro y hy
    rcases List.mem_append.1 hy with h1 | h1
    · exact (H.kids.keep hsz okk) y h1
    · obtain rfl : y = (x, av2, kv2) := by simpa using h1
      exact ⟨hq1.keep hsz okk, hq2.keep hsz okk⟩
theorem RnI.kidsD {w0 W0 wr : World} {rb : Nat} {bv : Value} {N : Nat} {h : HT} {av : Value} {d : Nat} {EL : List EV} {tx : List UInt8} {a : Nat} {kv : Value} (H : RnI w0 W0 rb bv N h av d EL tx a kv wr) : KidsD (fun b => N ≤ b ∧ b ≠ W0.heap.size + 1) wr (d + 1) kv (EL.map (·.1)) := by
  have hn := H.nb
  exact KidsD.ofOwn (OwnS.ofRow H.row) (fun b hb => ⟨by omega, by omega⟩) (H.kids.mono fun b hb _ => ⟨hb.1, hb.2.2.1⟩)
/-- The element is laid down, to be given back. -/
theorem RnI.give {w0 W0 wr V : World} {rb : Nat} {bv : Value} {N : Nat} {h : HT} {av : Value} {d : Nat} {EL : List EV} {tx : List UInt8} {a : Nat} {kv : Value} (H : RnI w0 W0 rb bv N h av d EL tx a kv wr) (T : ByteArray) (hT : T = ba tx) (hb : Below (put5 wr (W0.heap.size + 1) (.string h.1) (.string h.2.1) av kv (.string T)).heap.size (put5 wr (W0.heap.size + 1) (.string h.1) (.string h.2.1) av kv (.string T)) V) :
    V.heap[W0.heap.size + 1]? = some (.cells #[.string h.1, .string h.2.1, av, kv, .string T] 27 (0, 0)) ∧ ElemD (fun b => N ≤ b) V (d + 1) (.agg #[.string h.1, .string h.2.1, av, kv, .string T]) (mkE h (EL.map (·.1)) tx) ∧ RX w0 rb bv a V ∧ Chg [rb] W0 V ∧ IsEl (.agg #[.string h.1, .string h.2.1, av, kv, .string T]) := by
  subst hT
  have hr := H.rn
  have hn := H.nb
  have hc := put5_chg wr (W0.heap.size + 1) (.string h.1) (.string h.2.1) av kv (.string (ba tx))
  have h5 := put5_at H.res (.string h.1) (.string h.2.1) av kv (.string (ba tx))
  have hx := H.rx
  obtain ⟨p1, c1, hf1, -⟩ := H.ats.form
  obtain ⟨p2, c2, hf2⟩ := rowT_form H.row
  refine ⟨(hb.block _ (Array.getElem?_eq_some_iff.1 h5).1).trans h5, ⟨av, kv, rfl, ?_, ?_⟩, ?_, ?_, ⟨_, _, _, _, _, _, _, _, _, by rw [hf1, hf2]⟩⟩
  · exact (H.ats.keep (ok' := fun b => N ≤ b) hc.size (fun b h1 h2 => ⟨hc.block b h2 (by have := h1.2.2.1; simpa using this), h1.1⟩)).below hb
  · exact (H.kidsD.keep (ok' := fun b => N ≤ b) hc.size (fun b h1 h2 => ⟨hc.block b h2 (by simpa using h1.2), h1.1⟩)).below hb
  · have h6 : RX w0 rb bv a (put5 wr (W0.heap.size + 1) (.string h.1) (.string h.2.1) av kv (.string (ba tx))) := ⟨hx.bel.trans (hc.below hx.bel.size (fun i hi => by simp at hi; subst hi; have := hx.low; omega)), hx.low, (hc.block rb hx.lt (by simp; omega)).trans hx.box⟩
    exact h6.below hb
  · exact (H.ch.then hc (fun i hi => by simp at hi; subst hi; exact .inr (by omega))).then (Chg.of_below hb) (fun i hi => .inl hi)
end Go.Proofs.YtpcajjbdlfookaaGreatDoor

/- xmltree: the reference: whole, over what reads the content. -/
namespace Go.Proofs.YtpcajjbdlfookaaGreatDoor
open Go Go.RowKit Go.Deep Go.Shelf
set_option linter.unusedVariables false
set_option linter.unusedSimpArgs false

theorem beginM_ne {t : Tk} {L : BS} {c : Nat} (h : beginM t L = .error c) : c ≠ 0 := by
  unfold beginM at h
  split at h
  · cases h; decide
  split at h
  · cases h; decide
  split at h
  · cases h; decide
  split at h
  · cases h; decide
  split at h
  · cases h; decide
  · cases h
theorem relM_ne {t : Tk} {L : BS} {c : Nat} (h : relM t L = .error c) : c ≠ 0 := by
  unfold relM at h
  split at h
  · cases h; decide
  · exact beginM_ne h
theorem results_wh (tm : Array Value) (V : World) (b : Nat) (c0 c1 c2 c3 c4 k z : Value) (h2 : tm.getD 10 undef = .pointer (some ⟨b, 0, none⟩)) (h3 : tm.getD 11 undef = k) (h4 : tm.getD 12 undef = z) (h : V.heap[b]? = some (.cells #[c0, c1, c2, c3, c4] 27 (0, 0))) :
    (results Tryz.f22 tm).run Tryz.prog V = .ok (.tuple #[.agg #[c0, c1, c2, c3, c4], k, z]) V := by
  obtain ⟨e0, e1, e2, e3, e4, _⟩ := cellsE5 h
  have h2' : tm[10]?.getD undef = .pointer (some ⟨b, 0, none⟩) := by simpa using h2
  have h3' : tm[11]?.getD undef = k := by simpa using h3
  have h4' : tm[12]?.getD undef = z := by simpa using h4
  simp [results, Tryz.results22, go_sem, h2', h3', h4', e0, e1, e2, e3, e4]
/-- What is asked of the content's reader. -/
def InT (w0 : World) (rb : Nat) (bv : Value) (c : BS → Nat → List UInt8 → HT → Nat → Except (Nat × Nat) (ET × Nat)) (o : Nat) (nm : List UInt8) (k B : Nat) : Prop :=
  ∀ (W : World) (h : HT) (L' : BS) (v av : Value) (N : Nat), RX w0 rb bv k W → RB W v L' → L'.length ≤ B → PairsR (fun b => N ≤ b) W av h.2.2 → rb < N → N ≤ W.heap.size →
    Calls Tryz.prog 40 #[.pointer (some ⟨rb, 0, none⟩), .agg #[.string h.1, .string h.2.1, av, .slice none 0 0, .string ⟨#[]⟩], .string ⟨nm.toArray⟩, v, .int .i64 ((o : Int) + 1)] W (WhE w0 W rb bv N o (c L' o nm h k))
theorem elemW_rel {c : BS → Nat → List UInt8 → HT → Nat → Except (Nat × Nat) (ET × Nat)} {L : BS} {o : Nat} {t : Tk} {q k : Nat} (ho : o < 24) : elemW c L o t q k = elB c o t q k (relM t L) := by
  unfold relM
  by_cases h : 201 < t.attrs.length
  · rw [if_pos h]
    unfold elemW
    rw [if_pos (.inr h)]
    rfl
  · rw [if_neg h]
    exact elemW_eq (by omega)
theorem relM_pre {t : Tk} {L L' : BS} {h : HT} (hb : relM t L = .ok (h, L')) : L'.length ≤ L.length + 201 := by
  unfold relM at hb
  split at hb
  · cases hb
  · obtain ⟨M, rfl, hM⟩ := beginM_pre hb
    rw [List.length_append]
    omega
theorem wh_put {w W V : World} (hb : Below w.heap.size w W) (hz : W.heap[w.heap.size + 1]? = some ZE) (c0 c1 c2 c3 c4 : Value) (hv : Below (put5 W (w.heap.size + 1) c0 c1 c2 c3 c4).heap.size (put5 W (w.heap.size + 1) c0 c1 c2 c3 c4) V) :
    V.heap[w.heap.size + 1]? = some (.cells #[c0, c1, c2, c3, c4] 27 (0, 0)) ∧ Below w.heap.size w V := by
  have h5 := put5_at hz c0 c1 c2 c3 c4
  have hc := put5_chg W (w.heap.size + 1) c0 c1 c2 c3 c4
  have h6 := hb.trans (hc.below hb.size (fun i hi => by simp at hi; omega))
  exact ⟨(hv.block _ (Array.getElem?_eq_some_iff.1 h5).1).trans h5, h6.trans (hv.mono h6.size)⟩
/-- What was given back is laid down. -/
theorem wh_give {w W V : World} {d : Nat} {av kv : Value} {x : ET} (hz : W.heap[w.heap.size + 1]? = some ZE) (c0 c1 c4 : Value) (hv : Below (put5 W (w.heap.size + 1) c0 c1 av kv c4).heap.size (put5 W (w.heap.size + 1) c0 c1 av kv c4) V) (hp : PairsR (fun b => w.heap.size + 2 ≤ b) W av x.attrs) (hk : KidsD (fun b => w.heap.size + 2 ≤ b) W d kv x.kids) : PairsR (fun b => w.heap.size ≤ b) V av x.attrs ∧ KidsD (fun b => w.heap.size ≤ b) V d kv x.kids := by
  have hc := put5_chg W (w.heap.size + 1) c0 c1 av kv c4
  exact ⟨(hp.keep (ok' := fun b => w.heap.size ≤ b) hc.size (fun b h1 h2 => ⟨hc.block b h2 (by simp; omega), by omega⟩)).below hv, (hk.keep (ok' := fun b => w.heap.size ≤ b) hc.size (fun b h1 h2 => ⟨hc.block b h2 (by simp; omega), by omega⟩)).below hv⟩
theorem wh_putC {w W : World} {rb : Nat} (hc : Chg [rb] w W) (hz : W.heap[w.heap.size + 1]? = some ZE) (c0 c1 c2 c3 c4 : Value) :
    (put5 W (w.heap.size + 1) c0 c1 c2 c3 c4).heap[w.heap.size + 1]? = some (.cells #[c0, c1, c2, c3, c4] 27 (0, 0)) ∧ Chg [rb] w (put5 W (w.heap.size + 1) c0 c1 c2 c3 c4) :=
  ⟨put5_at hz c0 c1 c2 c3 c4, hc.then (put5_chg W (w.heap.size + 1) c0 c1 c2 c3 c4) (fun i hi => by simp at hi; subst hi; exact .inr (by omega))⟩
theorem RX.away {w0 w w' : World} {rb b : Nat} {bv : Value} {a : Nat} (h : RX w0 rb bv a w) (hc : Chg [b] w w') (hb : b ≠ rb) (hl : w0.heap.size ≤ b) : RX w0 rb bv a w' := ⟨h.bel.trans (hc.below h.bel.size (fun i hi => by simp at hi; subst hi; exact hl)), h.low, (hc.block rb h.lt (by simpa using Ne.symm hb)).trans h.box⟩
set_option maxRecDepth 100000 in
set_option maxHeartbeats 16000000 in
theorem wholeW_c {w0 w : World} {rb : Nat} {bv v : Value} {L : BS} {c : BS → Nat → List UInt8 → HT → Nat → Except (Nat × Nat) (ET × Nat)} {k : Nat} (h : RX w0 rb bv k w) (hb : RB w v L) (o : Nat) (ho : o < 24) (hL : L.length ≤ 201 * o) (t : Tk) (q : Nat) (s : Value) (hs : AtsIs w s t.attrs) (hok : AtsOk t.attrs) (hnl : t.name.length ≤ 1048576) (hal : ∀ x ∈ t.attrs, x.1.length ≤ 1048576)
    (HCT : InT w0 rb bv c o t.name k (201 * (o + 1))) :
    Calls Tryz.prog 22 #[.pointer (some ⟨rb, 0, none⟩), .agg #[.int .i64 (t.kind : Nat), .string ⟨t.name.toArray⟩, s, .bool t.empty, .string ⟨t.text.toArray⟩], .int .i64 (q : Nat), v, .int .i64 ((o : Int) + 1)] w (WhE w0 w rb bv w.heap.size o (elemW c L o t q k)) := by
  obtain ⟨ps0, cs0, hsv, -⟩ := hs.form
  obtain ⟨N, hN⟩ : ∃ N, N = t.attrs.length := ⟨_, rfl⟩
  rw [← hN] at hsv
  subst hsv
  obtain ⟨pb, cb, hbv, hlb, hmb⟩ := hb.form
  obtain ⟨M, hM⟩ : ∃ M, M = L.length := ⟨_, rfl⟩
  rw [← hM] at hbv
  subst hbv
  have HELM := Lib.hid (fun (W : World) (hbw : Below w.heap.size w W) => relement_c W t (.slice ps0 N cs0) (.slice pb M cb) (hs.below hbw) hok hnl hal L (hb.below hbw) (by omega))
  rw [elemW_rel ho]
  obtain ⟨RB0, hRB⟩ : ∃ R, relM t L = R := ⟨_, rfl⟩
  rw [hRB] at HELM ⊢
  have HRB := Lib.hid hRB
  unfold InT at HCT
  obtain ⟨S, hS⟩ : ∃ S : ByteArray, S = ⟨t.name.toArray⟩ := ⟨_, rfl⟩
  obtain ⟨U, hU⟩ : ∃ U : ByteArray, U = ⟨t.text.toArray⟩ := ⟨_, rfl⟩
  obtain ⟨TK, hTK⟩ : ∃ TK : Int, TK = (t.kind : Nat) := ⟨_, rfl⟩
  obtain ⟨TE, hTE⟩ : ∃ TE, TE = t.empty := ⟨_, rfl⟩
  rw [← hS, ← hU, ← hTK, ← hTE] at HELM
  rw [← hS] at HCT
  rw [← hS, ← hU, ← hTK, ← hTE]
  obtain ⟨W0, hW0⟩ : ∃ W0, W0 = (w.alloc (.cells #[.int .i64 TK, .string S, .slice ps0 N cs0, .bool TE, .string U] 52)).alloc ZE := ⟨_, rfl⟩
  have hb2 : Below w.heap.size w W0 := hW0 ▸ (box_belT w _).trans ((box_belT _ ZE).mono (by simp))
  have ht0 : W0.heap[w.heap.size]? = some (.cells #[.int .i64 TK, .string S, .slice ps0 N cs0, .bool TE, .string U] 52 (0, 0)) := hW0 ▸ ((box_belT _ ZE).block _ (by simp)).trans (heap_alloc_new w _)
  have hzb : W0.heap[w.heap.size + 1]? = some ZE := by
    have := heap_alloc_new (w.alloc (.cells #[.int .i64 TK, .string S, .slice ps0 N cs0, .bool TE, .string U] 52)) ZE
    rw [World.size_alloc] at this
    rw [hW0]
    exact this
  have hsz0 : W0.heap.size = w.heap.size + 2 := by rw [hW0]; simp
  have HE0 := Lib.hid (HELM.out W0 hb2)
  have HB2 := Lib.hid hb2
  have HT0 := Lib.hid ht0
  have HZ0 := Lib.hid hzb
  have HW0 := Lib.hid hW0
  have HSZ := Lib.hid hsz0
  have HX := Lib.hid h
  have HCN := Lib.hid HCT
  have HTE := Lib.hid hTE
  have HL := Lib.hid hL
  have hrl := h.lt
  obtain ⟨t0, t1, t2, t3, t4, tz⟩ := cellsX5 ht0
  clear hS hU hTK hTE hRB hb2 ht0 hzb hs hb h hW0 hsz0 hok hal hnl hN hM hlb hmb HELM HCT hL
  cases RB0 with
  | error cc =>
    have hne := relM_ne HRB.out
    have tz1 : ((cc : Int) == 0) = false := by rw [beq_eq_false_iff_ne]; omega
    have tz2 : ((cc : Int) != 0) = true := by simp only [bne, tz1]; rfl
    have HNE := Lib.hid hne
    clear hne
    go_enter Tryz.func22, Tryz.ntmps22
    go_upto_region 1 with (fail)
    rw [← HW0.out]
    go_wp2_with fail
    refine HE0.out.mono ?_
    rintro e w1 ⟨rfl, hb1⟩
    dsimp only
    have hz1 := (hb1.block (w.heap.size + 1) (by have := HSZ.out; omega)).trans HZ0.out
    have HZ1 := Lib.hid hz1
    have HB1 := Lib.hid (HB2.out.trans (hb1.mono HB2.out.size))
    obtain ⟨z0, z1, z2, z3, z4, zz⟩ := cellsE5 hz1
    have hzl := (Array.getElem?_eq_some_iff.1 hz1).1
    clear hb1 hz1
    go_wp2_with fail
    have hend := wh_put HB1.out HZ1.out (.string ⟨#[]⟩) (.string ⟨#[]⟩) (.slice none 0 0) (.slice none 0 0) (.string ⟨#[]⟩) (box_belT _ (.cells #[.string ⟨#[]⟩, .string ⟨#[]⟩, .slice none 0 0, .slice none 0 0, .string ⟨#[]⟩] 27))
    refine bodyPost_ret (results_wh _ _ (w.heap.size + 1) _ _ _ _ _ _ _ rfl rfl rfl hend.1) rfl ?_
    exact ⟨_, rfl, ⟨_, _, _, _, _, _, _, _, _, rfl⟩, HNE.out, Chg.of_below hend.2⟩
  | ok x =>
    obtain ⟨hh, L'⟩ := x
    have hLp := relM_pre HRB.out
    obtain ⟨RF, hRF⟩ : ∃ R, elB c o t q k (.ok (hh, L')) = R := ⟨_, rfl⟩
    rw [hRF]
    rw [show elB c o t q k (.ok (hh, L')) = if t.empty = true then .ok (mkE hh [] [], k) else c L' o t.name hh k from rfl] at hRF
    have HRF := Lib.hid hRF
    clear hRF
    go_enter Tryz.func22, Tryz.ntmps22
    go_upto_region 1 with (fail)
    rw [← HW0.out]
    go_wp2_with fail
    refine HE0.out.mono ?_
    rintro e w1 ⟨av, v', rfl, hp1, hr1, hb1⟩
    dsimp only
    obtain ⟨pa, ca, hav, -⟩ := hp1.form
    obtain ⟨NA, hNA⟩ : ∃ NA, NA = hh.2.2.length := ⟨_, rfl⟩
    rw [← hNA] at hav
    subst hav
    obtain ⟨p2, c2, hv2, -⟩ := hr1.form
    obtain ⟨M2, hM2⟩ : ∃ M, M = L'.length := ⟨_, rfl⟩
    rw [← hM2] at hv2
    subst hv2
    have hz1 := (hb1.block (w.heap.size + 1) (by have := HSZ.out; omega)).trans HZ0.out
    have HZ1 := Lib.hid hz1
    have HB1 := Lib.hid (HB2.out.trans (hb1.mono HB2.out.size))
    have ht1 := (hb1.block w.heap.size (by have := HSZ.out; omega)).trans HT0.out
    have HP1 := Lib.hid hp1
    have HR1 := Lib.hid hr1
    have hlo : W0.heap.size ≤ w1.heap.size := hb1.size
    clear t0 t1 t2 t3 t4 tz
    obtain ⟨t0, t1, t2, t3, t4, tz⟩ := cellsX5 ht1
    obtain ⟨z0, z1, z2, z3, z4, zz⟩ := cellsE5 hz1
    have hzl := (Array.getElem?_eq_some_iff.1 hz1).1
    have htl := (Array.getElem?_eq_some_iff.1 ht1).1
    have hbe := box_belT w1 (.cells #[.string hh.1, .string hh.2.1, .slice pa NA ca, .slice none 0 0, .string ⟨#[]⟩] 27)
    have HBE := Lib.hid hbe
    have HZ2 := Lib.hid ((hbe.block _ hzl).trans hz1)
    have HNB := Lib.hid (heap_alloc_new w1 (.cells #[.string hh.1, .string hh.2.1, .slice pa NA ca, .slice none 0 0, .string ⟨#[]⟩] 27))
    have HC0 := Lib.hid (HCN.out (w1.alloc (.cells #[.string hh.1, .string hh.2.1, .slice pa NA ca, .slice none 0 0, .string ⟨#[]⟩] 27)) hh L' (.slice p2 M2 c2) (.slice pa NA ca) W0.heap.size (HX.out.below (HB1.out.trans (hbe.mono HB1.out.size))) (hr1.below hbe) (by have := HL.out; omega) (hp1.below hbe) (by have := HSZ.out; omega) (by rw [World.size_alloc]; omega))
    have HSZ2 := HSZ
    clear hb1 hz1 ht1 hp1 hr1 hbe hNA hM2 hLp
    have HTE2 := Lib.hid HTE.out
    cases TE with
    | true =>
      have hrf := HRF.out
      rw [if_pos HTE.out.symm] at hrf
      have HRE := Lib.hid hrf
      clear HC0 hrf
      go_wp2_with fail
      have hend := wh_put HB1.out HZ1.out (.string hh.1) (.string hh.2.1) (.slice pa NA ca) (.slice none 0 0) (.string ⟨#[]⟩) (box_belT _ (.cells #[.string hh.1, .string hh.2.1, .slice pa NA ca, .slice none 0 0, .string ⟨#[]⟩] 27))
      obtain ⟨d, hd⟩ : ∃ d, 24 - o = d + 1 := ⟨23 - o, by omega⟩
      have hgv := wh_give (x := mkE hh [] []) (d := 24 - o) (kv := .slice none 0 0) HZ1.out (.string hh.1) (.string hh.2.1) (.string ⟨#[]⟩) (box_belT _ (.cells #[.string hh.1, .string hh.2.1, .slice pa NA ca, .slice none 0 0, .string ⟨#[]⟩] 27)) (HP1.out.mono (fun b hb _ => by have := HSZ.out; omega)) (by rw [hd]; exact KidsD.nil _ _ _)
      refine bodyPost_ret (results_wh _ _ (w.heap.size + 1) _ _ _ _ _ _ _ rfl rfl rfl hend.1) rfl ?_
      rw [← HRE.out]
      exact ⟨_, rfl, ⟨_, _, rfl, hgv.1, hgv.2⟩, HX.out.below hend.2, Chg.of_below hend.2⟩
    | false =>
      have hrf := HRF.out
      rw [if_neg (by rw [← HTE.out]; simp)] at hrf
      obtain ⟨RC, hRC⟩ : ∃ RC, c L' o t.name hh k = RC := ⟨_, rfl⟩
      rw [hRC] at HC0 hrf
      have HRE := Lib.hid hrf
      clear hrf hRC
      go_wp2_with fail
      refine HC0.out.mono ?_
      rintro e w2 he
      unfold WhE at he
      cases RC with
      | error y =>
        obtain ⟨vv, rfl, ⟨S1, S2, q1, m1, d1, q2, m2, d2, S3, rfl⟩, hne, hc⟩ := he
        have hz2 := (hc.block _ (Array.getElem?_eq_some_iff.1 HZ2.out).1 (by simp; omega)).trans HZ2.out
        have HZ3 := Lib.hid hz2
        have HC2 := Lib.hid hc
        have HNE := Lib.hid hne
        clear z0 z1 z2 z3 z4 zz
        obtain ⟨z0, z1, z2, z3, z4, zz⟩ := cellsE5 hz2
        clear hz2 hc hne
        dsimp only
        go_wp2_with fail
        have hend := wh_putC ((Chg.of_below (HB1.out.trans (HBE.out.mono HB1.out.size))).then HC2.out (fun i hi => .inl hi)) HZ3.out (.string S1) (.string S2) (.slice q1 m1 d1) (.slice q2 m2 d2) (.string S3)
        refine bodyPost_ret (results_wh _ _ (w.heap.size + 1) _ _ _ _ _ _ _ rfl rfl rfl hend.1) rfl ?_
        rw [← HRE.out]
        exact ⟨_, rfl, ⟨_, _, _, _, _, _, _, _, _, rfl⟩, HNE.out, hend.2⟩
      | ok y =>
        obtain ⟨vv, rfl, ⟨av2, kv2, rfl, hp2, hk2⟩, hx2, hc⟩ := he
        obtain ⟨q1, d1, hf1, -⟩ := hp2.form
        obtain ⟨q2, d2, hf2, -⟩ := hk2.form
        obtain ⟨m1, hm1⟩ : ∃ m, m = y.1.attrs.length := ⟨_, rfl⟩
        obtain ⟨m2, hm2⟩ : ∃ m, m = y.1.kids.length := ⟨_, rfl⟩
        rw [← hm1] at hf1
        rw [← hm2] at hf2
        subst hf1 hf2
        have hz2 := (hc.block _ (Array.getElem?_eq_some_iff.1 HZ2.out).1 (by simp; omega)).trans HZ2.out
        have HZ3 := Lib.hid hz2
        have HC2 := Lib.hid hc
        have HPK := Lib.hid (And.intro hp2 hk2)
        have HX2 := Lib.hid hx2
        clear z0 z1 z2 z3 z4 zz
        obtain ⟨z0, z1, z2, z3, z4, zz⟩ := cellsE5 hz2
        clear hz2 hc hp2 hk2 hx2 hm1 hm2
        dsimp only
        go_wp2_with fail
        have hend := wh_putC ((Chg.of_below (HB1.out.trans (HBE.out.mono HB1.out.size))).then HC2.out (fun i hi => .inl hi)) HZ3.out (.string y.1.space) (.string y.1.name) (.slice q1 m1 d1) (.slice q2 m2 d2) (.string y.1.text)
        have hgv := wh_give (x := y.1) (d := 24 - o) HZ3.out (.string y.1.space) (.string y.1.name) (.string y.1.text) (Below.refl _ _) (HPK.out.1.mono (fun b hb _ => by have := HSZ2.out; omega)) (HPK.out.2.mono (fun b hb _ => by have := HSZ2.out; omega))
        refine bodyPost_ret (results_wh _ _ (w.heap.size + 1) _ _ _ _ _ _ _ rfl rfl rfl hend.1) rfl ?_
        rw [← HRE.out]
        exact ⟨_, rfl, ⟨_, _, rfl, hgv.1, hgv.2⟩, HX2.out.away (put5_chg _ _ _ _ _ _ _) (by omega) (by have := HX.out.bel.size; omega), hend.2⟩
end Go.Proofs.YtpcajjbdlfookaaGreatDoor
