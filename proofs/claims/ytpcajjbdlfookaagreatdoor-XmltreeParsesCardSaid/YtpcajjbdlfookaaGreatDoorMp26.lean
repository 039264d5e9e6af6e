/- xmltree: while an element's content is read. -/
import Derived.Test.YtpcajjbdlfookaaGreatDoorMp25
import Derived.Test.YtpcajjbdlfookaaGreatDoorMp12
import Derived.Test.YtpcajjbdlfookaaGreatDoorMp17
import Derived.Deep.LoopGhost
import Derived.Shelf.Strings.BuilderK
namespace Go.Proofs.YtpcajjbdlfookaaGreatDoor
open Go Go.RowKit Go.Deep Go.Shelf
set_option linter.unusedVariables false
set_option linter.unusedSimpArgs false

/-- Blocks of attributes and elements, but not the row that grows. -/
def okG (N : Nat) (kv : Value) (w : World) : Nat → Prop := fun b => okN N w b ∧ kv.ownBlock ≠ some b
/-- While the content is read: the builder's box, the row of kids, the element's box. -/
structure CnI (w0 W0 : World) (pb eb B : Nat) (bv : Value) (L : BS) (h : HT) (av : Value) (d : Nat) (EL : List EV) (tx : List UInt8) (a : Nat) (kv : Value) (wr : World) : Prop where
  px : ∃ sv, PX w0 pb bv sv L a wr
  kp : KpE pb eb W0 wr
  box : wr.heap[eb]? = some (.cells #[.string h.1, .string h.2.1, av, kv, .string ⟨#[]⟩] 27 (0, 0))
  ats : PairsR (okP wr) wr av h.2.2
  row : wr.ownsRow W0.heap.size 27 5 kv EL.length (ecells EL)
  kids : KidsV (okG W0.heap.size kv wr) wr d EL
  bi : BI B B tx wr
  sz : W0.heap.size ≤ wr.heap.size
  eo : w0.heap.size ≤ eb
  el : eb < W0.heap.size
  wo : w0.heap.size ≤ W0.heap.size
  bo : W0.heap.size ≤ B
theorem okG_kp {N pb : Nat} {kv : Value} {w w' : World} {cs : Array Value} (hb : w.heap[pb]? = some (.cells cs 45 (0, 0))) (hk : KpD pb w w') : ∀ b, okG N kv w b → b < w.heap.size → w'.heap[b]? = w.heap[b]? ∧ okG N kv w' b := by
  rintro b ⟨h1, h2⟩ hl
  obtain ⟨h3, h4⟩ := okN_kp hb hk b h1 hl
  exact ⟨h3, h4, h2⟩
/-- The parser goes on. -/
theorem CnI.on {w0 W0 wr w' : World} {pb eb B : Nat} {bv : Value} {L : BS} {h : HT} {av : Value} {d : Nat} {EL : List EV} {tx : List UInt8} {a a' : Nat} {kv sv : Value} (H : CnI w0 W0 pb eb B bv L h av d EL tx a kv wr) (hp : PX w0 pb bv sv L a' w') (hk : KpD pb wr w') (hs : wr.heap.size ≤ w'.heap.size) : CnI w0 W0 pb eb B bv L h av d EL tx a' kv w' := by
  obtain ⟨s0, hx⟩ := H.px
  have hbx := hx.ps.box
  have hne : eb ≠ pb := by
    rintro rfl
    rw [H.box] at hbx
    simp at hbx
  refine ⟨⟨sv, hp⟩, H.kp.trans (hk.e eb), hk _ _ _ _ hne (by decide) H.box, H.ats.keep hs (okP_ke hbx H.box (hk.e eb)), rowT_keep H.row fun g hg => ?_, H.kids.keep hs (okG_kp hbx hk), H.bi.kp hbx hk, Nat.le_trans H.sz hs, H.eo, H.el, H.wo, H.bo⟩
  rcases H.row.2 with ⟨h1, _⟩ | ⟨g', cap, cur, h1, _, hg', _⟩
  · rw [h1] at hg
    simp [Value.ownBlock] at hg
  · rw [h1] at hg
    simp [Value.ownBlock] at hg
    subst hg
    exact (hk _ _ _ _ (by rintro rfl; rw [hg'] at hbx; simp at hbx) (by decide) hg').trans hg'.symm
theorem CnI.below {w0 W0 wr w' : World} {pb eb B : Nat} {bv : Value} {L : BS} {h : HT} {av : Value} {d : Nat} {EL : List EV} {tx : List UInt8} {a : Nat} {kv : Value} (H : CnI w0 W0 pb eb B bv L h av d EL tx a kv wr) (hb : Below wr.heap.size wr w') : CnI w0 W0 pb eb B bv L h av d EL tx a kv w' := by
  obtain ⟨s0, hx⟩ := H.px
  exact H.on (hx.below hb) (KpD.of_below hb) hb.size
/-- A text is added. -/
theorem CnI.text {w0 W0 wr w' : World} {pb eb B : Nat} {bv : Value} {L : BS} {h : HT} {av : Value} {d : Nat} {EL : List EV} {tx t : List UInt8} {a : Nat} {kv : Value} (H : CnI w0 W0 pb eb B bv L h av d EL tx a kv wr) (hb : BA B B (tx ++ t) w') (hl : Below B wr w') (hk : KpW B wr w') : CnI w0 W0 pb eb B bv L h av d EL (tx ++ t) a kv w' := by
  obtain ⟨s0, hx⟩ := H.px
  have hbi : ∃ cs, wr.heap[B]? = some (.cells cs 131 (0, 0)) := by
    rcases H.bi with ⟨_, v, h2, _⟩ | ⟨_, v, h2, _⟩ <;> exact ⟨_, h2⟩
  obtain ⟨cb, hcb⟩ := hbi
  have hnb : ∀ {b : Nat} {cs : Array Value} {T : TypeId} {z : Nat × Nat}, wr.heap[b]? = some (.cells cs T z) → 131 ≠ T → b ≠ B := by
    intro b cs T z hx hT
    rintro rfl
    rw [hcb] at hx
    simp at hx
    exact hT hx.2.1
  have key : ∀ {b : Nat} {cs : Array Value} {T : TypeId} {z : Nat × Nat}, wr.heap[b]? = some (.cells cs T z) → 131 ≠ T → 5 ≠ T → w'.heap[b]? = wr.heap[b]? := fun hx h1 h2 => (hk _ _ _ _ (hnb hx h1) h2 hx).trans hx.symm
  have rowk : ∀ {base n size : Nat} {e : TypeId} {v : Value} {xs : List Value}, wr.ownsRow base e size v n xs → 131 ≠ e → 5 ≠ e → w'.ownsRow base e size v n xs := by
    intro base n size e v xs ho h1 h2
    refine rowT_keep ho fun g hg => ?_
    rcases ho.2 with ⟨h3, _⟩ | ⟨g', cap, cur, h3, _, hg', _⟩
    · rw [h3] at hg
      simp [Value.ownBlock] at hg
    · rw [h3] at hg
      simp [Value.ownBlock] at hg
      subst hg
      exact key hg' h1 h2
  refine ⟨⟨s0, ⟨⟨hx.ps.bel.trans (hl.mono (Nat.le_trans H.wo H.bo)), hx.ps.low, (key hx.ps.box (by decide) (by decide)).trans hx.ps.box⟩, rowk hx.own (by decide) (by decide)⟩⟩, ?_, (key H.box (by decide) (by decide)).trans H.box, H.ats.keep hl.size ?_, rowk H.row (by decide) (by decide), H.kids.keep hl.size ?_, .inr hb, Nat.le_trans H.sz hl.size, H.eo, H.el, H.wo, H.bo⟩
  · intro b cs T z hb1 hb2 hT hx2
    exact (hl.block b (Nat.lt_of_lt_of_le (Array.getElem?_eq_some_iff.1 hx2).1 H.bo)).trans (H.kp b cs T z hb1 hb2 hT hx2)
  · rintro b ⟨cs, z, h1⟩ _
    have h2 := key h1 (by decide) (by decide)
    exact ⟨h2, cs, z, h2.trans h1⟩
  · rintro b ⟨⟨cs, T, z, h1, h2⟩, h3⟩ _
    have h4 := key h1 (by rcases h2 with rfl | ⟨rfl, _⟩ <;> decide) (by rcases h2 with rfl | ⟨rfl, _⟩ <;> decide)
    exact ⟨h4, ⟨cs, T, z, h4.trans h1, h2⟩, h3⟩
/-- A kid is added. -/
theorem CnI.push {w0 W0 wr w1 : World} {pb eb B m : Nat} {bv : Value} {L : BS} {h : HT} {av : Value} {d : Nat} {EL : List EV} {tx : List UInt8} {a : Nat} {kv kv' : Value} (H : CnI w0 W0 pb eb B bv L h av d EL tx a kv wr) (x : EV) (hx1 : PairsR (okG W0.heap.size kv wr) wr x.2.1 x.1.attrs) (hx2 : KidsD (okG W0.heap.size kv wr) wr d x.2.2 x.1.kids) (hg : wr.grownBy w1 kv.ownBlock) (ho : w1.ownsRow W0.heap.size 27 5 kv' m (ecells EL ++ ecell x)) (hm : m = EL.length + 1) (hnew : kv'.ownBlock = kv.ownBlock ∨ ∃ g, kv'.ownBlock = some g ∧ wr.heap.size ≤ g) :
    CnI w0 W0 pb eb B bv L h av d (EL ++ [x]) tx a kv' (w1.setCell ⟨eb, 3, none⟩ kv') := by
  subst hm
  obtain ⟨s0, hx⟩ := H.px
  have hrow := fun g hg => rowT_lt H.row g hg
  have hel := H.el
  have heg : kv.ownBlock ≠ some eb := fun e => by have := (hrow eb e).1; omega
  have hbx : w1.heap[eb]? = some (.cells #[.string h.1, .string h.2.1, av, kv, .string ⟨#[]⟩] 27 (0, 0)) := (hg.block eb (Array.getElem?_eq_some_iff.1 H.box).1 (fun e => heg e.symm)).trans H.box
  have hset : ∀ i, i ≠ eb → (w1.setCell ⟨eb, 3, none⟩ kv').heap[i]? = w1.heap[i]? := fun i hi => Below.heap_setCell _ _ _ _ hi
  have key : ∀ {b : Nat} {cs : Array Value} {T : TypeId} {z : Nat × Nat}, wr.heap[b]? = some (.cells cs T z) → 27 ≠ T → (w1.setCell ⟨eb, 3, none⟩ kv').heap[b]? = wr.heap[b]? := by
    intro b cs T z hb hT
    refine (hset b ?_).trans (hg.block b (Array.getElem?_eq_some_iff.1 hb).1 (fun e => row_ne H.row hb hT b e.symm rfl))
    rintro rfl
    have := H.box
    rw [hb] at this
    simp at this
    exact hT this.2.1.symm
  have rowk : ∀ {base n size : Nat} {e : TypeId} {v : Value} {xs : List Value}, wr.ownsRow base e size v n xs → 27 ≠ e → (w1.setCell ⟨eb, 3, none⟩ kv').ownsRow base e size v n xs := by
    intro base n size e v xs ho h1
    refine rowT_keep ho fun g hg => ?_
    rcases ho.2 with ⟨h3, _⟩ | ⟨g', cap, cur, h3, _, hg', _⟩
    · rw [h3] at hg
      simp [Value.ownBlock] at hg
    · rw [h3] at hg
      simp [Value.ownBlock] at hg
      subst hg
      exact key hg' h1
  have hsz : wr.heap.size ≤ (w1.setCell ⟨eb, 3, none⟩ kv').heap.size := by
    rw [World.size_setCell]
    exact hg.size
  have hbi : BI B B tx (w1.setCell ⟨eb, 3, none⟩ kv') := by
    have k2 : ∀ p, Lib.BuilderAt 131 5 B B p (bcells tx) wr → Lib.BuilderAt 131 5 B B p (bcells tx) (w1.setCell ⟨eb, 3, none⟩ kv') := by
      rintro p ⟨h1, v, h2, h3, h4⟩
      exact ⟨h1, v, (key h2 (by decide)).trans h2, rowk h3 (by decide), h4⟩
    exact H.bi.imp (k2 _) (k2 _)
  have okk : ∀ b, okG W0.heap.size kv wr b → b < wr.heap.size → (w1.setCell ⟨eb, 3, none⟩ kv').heap[b]? = wr.heap[b]? ∧ okG W0.heap.size kv' (w1.setCell ⟨eb, 3, none⟩ kv') b := by
    rintro b ⟨⟨cs, T, z, h1, h2⟩, h3⟩ hl
    have hbe : b ≠ eb := by
      rintro rfl
      rcases h2 with rfl | ⟨_, h4⟩
      · have := H.box
        rw [h1] at this
        simp at this
      · omega
    have h4 := (hset b hbe).trans (hg.block b hl (fun e => h3 e.symm))
    refine ⟨h4, ⟨cs, T, z, h4.trans h1, h2⟩, ?_⟩
    rcases hnew with h5 | ⟨g, h5, h6⟩
    · rw [h5]
      exact h3
    · rw [h5]
      intro e
      have := Option.some.inj e
      omega
  refine ⟨⟨s0, ⟨⟨(hx.ps.bel.grown hg hx.ps.bel.size (fun b e => Nat.le_trans H.wo (hrow b e).1)).setCell (p := ⟨eb, 3, none⟩) H.eo _, hx.ps.low, (key hx.ps.box (by decide)).trans hx.ps.box⟩, rowk hx.own (by decide)⟩⟩, ?_, by rw [block_set _ _ _ _ _ _ _ hbx]; rfl, H.ats.keep hsz ?_, ?_, ?_, hbi, Nat.le_trans H.sz hsz, H.eo, H.el, H.wo, H.bo⟩
  · intro b cs T z hb1 hb2 hT hx2
    have hl := (Array.getElem?_eq_some_iff.1 hx2).1
    have h3 := H.kp b cs T z hb1 hb2 hT hx2
    exact (hset b hb2).trans ((hg.block b (Array.getElem?_eq_some_iff.1 h3).1 (fun e => by have := (hrow b e.symm).1; omega)).trans h3)
  · rintro b ⟨cs, z, h1⟩ _
    have h2 := key h1 (by decide)
    exact ⟨h2, cs, z, h2.trans h1⟩
  · rw [List.length_append, show ecells (EL ++ [x]) = ecells EL ++ ecell x from by unfold ecells; rw [List.flatMap_append]; simp]
    exact rowT_keep ho fun g hg2 => hset g (by have := (rowT_lt ho g hg2).1; omega)
  · intro y hy
    rcases List.mem_append.1 hy with h1 | h1
    · exact (H.kids.keep hsz okk) y h1
    · obtain rfl : y = x := by simpa using h1
      exact ⟨hx1.keep hsz okk, hx2.keep hsz okk⟩
end Go.Proofs.YtpcajjbdlfookaaGreatDoor

/- xmltree: the content is read to its closing tag. -/
namespace Go.Proofs.YtpcajjbdlfookaaGreatDoor
open Go Go.RowKit Go.Deep Go.Shelf
set_option linter.unusedVariables false
set_option linter.unusedSimpArgs false

theorem CnI.kidsD {w0 W0 wr : World} {pb eb B : Nat} {bv : Value} {L : BS} {h : HT} {av : Value} {d : Nat} {EL : List EV} {tx : List UInt8} {a : Nat} {kv : Value} (H : CnI w0 W0 pb eb B bv L h av d EL tx a kv wr) : KidsD (okN W0.heap.size wr) wr (d + 1) kv (EL.map (·.1)) := by
  have hk : KidsV (okN W0.heap.size wr) wr d EL := H.kids.mono fun b hb _ => hb.1
  have hr := OwnS.ofRow H.row
  rcases H.row.2 with ⟨h1, h2⟩ | ⟨g, cap, cur, h1, h2, h3, h4, h5, h6, h7⟩
  · obtain rfl : EL = [] := List.length_eq_zero_iff.1 h2
    rw [h1]
    exact KidsD.nil _ _ _
  · subst h1
    have hx := H.row.1
    refine KidsD.ofOwn1 (g := g) (off := 0) (c := cap) ⟨cur, h3, hx, h4, h5, fun j hj => ?_⟩ rfl ⟨_, _, _, h3, .inr ⟨rfl, h2⟩⟩ hk
    rw [← h7, Nat.zero_add, ← Array.getElem?_toList, List.getElem?_take]
    rw [if_pos (by omega)]
/-- The text is stored. -/
theorem CnI.ends {w0 W0 wr : World} {pb eb B : Nat} {bv : Value} {L : BS} {h : HT} {av : Value} {d : Nat} {EL : List EV} {tx : List UInt8} {a : Nat} {kv : Value} (H : CnI w0 W0 pb eb B bv L h av d EL tx a kv wr) (V : ByteArray) :
    (wr.setCell ⟨eb, 4, none⟩ (.string V)).heap[eb]? = some (.cells #[.string h.1, .string h.2.1, av, kv, .string V] 27 (0, 0)) ∧ PairsR (okP (wr.setCell ⟨eb, 4, none⟩ (.string V))) (wr.setCell ⟨eb, 4, none⟩ (.string V)) av h.2.2 ∧
    KidsD (okN W0.heap.size (wr.setCell ⟨eb, 4, none⟩ (.string V))) (wr.setCell ⟨eb, 4, none⟩ (.string V)) (d + 1) kv (EL.map (·.1)) ∧ (∃ sv, PX w0 pb bv sv L a (wr.setCell ⟨eb, 4, none⟩ (.string V))) ∧ KpE pb eb W0 (wr.setCell ⟨eb, 4, none⟩ (.string V)) := by
  obtain ⟨s0, hx⟩ := H.px
  have hk : KpE pb eb wr (wr.setCell ⟨eb, 4, none⟩ (.string V)) := KpE.set pb eb wr 4 _
  have hsz : wr.heap.size ≤ (wr.setCell ⟨eb, 4, none⟩ (.string V)).heap.size := by rw [World.size_setCell]; exact Nat.le_refl _
  exact ⟨by rw [block_set _ _ _ _ _ _ _ H.box]; rfl, H.ats.keep hsz (okP_ke hx.ps.box H.box hk), H.kidsD.keep hsz (okN_ke hx.ps.box H.box H.el hk), ⟨s0, hx.chgT ((Chg.refl [eb] wr).set' eb 4 _ (.inl (by simp))) H.box H.eo⟩, H.kp.trans hk⟩
/-- A kid that is read may be added. -/
theorem CnI.kid {w0 W0 wr w' : World} {pb eb B : Nat} {bv : Value} {L : BS} {h : HT} {av : Value} {d o : Nat} {EL : List EV} {tx : List UInt8} {a : Nat} {kv : Value} (H : CnI w0 W0 pb eb B bv L h av d EL tx a kv wr) {x : ET × Nat} {e : Ending} (he : EleD w0 wr pb bv L o x e w') (hd : d = 24 - o) (hs : wr.heap.size ≤ w'.heap.size) :
    CnI w0 W0 pb eb B bv L h av d EL tx x.2 kv w' ∧ ∃ av2 kv2, e = .returned (.agg #[.string x.1.space, .string x.1.name, av2, kv2, .string x.1.text]) ∧ PairsR (okG W0.heap.size kv w') w' av2 x.1.attrs ∧ KidsD (okG W0.heap.size kv w') w' d kv2 x.1.kids := by
  obtain ⟨v, sv', rfl, ⟨av2, kv2, rfl, h1, h2⟩, hp, hk⟩ := he
  have up : ∀ b, okN wr.heap.size w' b → b < w'.heap.size → okG W0.heap.size kv w' b := by
    intro b hb hl
    refine ⟨okN_mono H.sz b hb hl, fun e => ?_⟩
    have hr := H.row
    obtain ⟨hge, hlt⟩ := rowT_lt hr b e
    obtain ⟨cs, T, z, h3, h4⟩ := hb
    rcases h4 with rfl | ⟨_, h5⟩
    · have hw := H.on hp hk hs
      exact row_ne hw.row h3 (by decide) b e rfl
    · omega
  subst hd
  exact ⟨H.on hp hk hs, av2, kv2, rfl, h1.mono up, h2.mono up⟩
end Go.Proofs.YtpcajjbdlfookaaGreatDoor

/- xmltree: what an element's content needs before it is walked. -/
namespace Go.Proofs.YtpcajjbdlfookaaGreatDoor
open Go Go.RowKit Go.Deep Go.Shelf
set_option linter.unusedVariables false
set_option linter.unusedSimpArgs false

abbrev ZBd : Obj := .cells #[.pointer none, .slice none 0 0] 131
theorem wstringL (w : World) (B b : Nat) (l t : List UInt8) (h : BI B b l w) (hl : l.length ≤ 70368744177664) (ht : t.length ≤ 33554432) (hB : B ≤ w.heap.size) :
    Calls Tryz.prog 93 #[.pointer (some ⟨b, 0, none⟩), .string ⟨t.toArray⟩] w fun e w' => (∃ n, e = .returned (.tuple #[.int .i64 n, .nilIface])) ∧ BA B b (l ++ t) w' ∧ Below B w w' ∧ KpW b w w' := by
  have := writeStringK_c B b (bcells l) ⟨t.toArray⟩ w h (by rw [bcells_length]; show l.length + t.toArray.size ≤ _; simp; omega) hB
  rw [show bcells l ++ Lib.strCells ⟨t.toArray⟩ = bcells (l ++ t) from by rw [bcells_append]; rfl] at this
  exact this.mono fun e w' ⟨h1, h2, h3, h4⟩ => ⟨⟨_, h1⟩, h2, h3, h4⟩
/-- The beginning of the content. -/
theorem CnI.start {w0 w : World} {pb eb : Nat} {bv sv av : Value} {L : BS} {k d : Nat} {hh : HT} (h : PX w0 pb bv sv L k w) (hbox : w.heap[eb]? = some (.cells #[.string hh.1, .string hh.2.1, av, .slice none 0 0, .string ⟨#[]⟩] 27 (0, 0))) (hats : PairsR (okP w) w av hh.2.2) (hlow : w0.heap.size ≤ eb) (o : Obj) :
    CnI w0 (w.alloc o) pb eb (w.heap.size + 1) bv L hh av d [] [] k (.slice none 0 0) ((w.alloc o).alloc ZBd) := by
  have hb1 := box_belT w o
  have hb2 := box_belT (w.alloc o) ZBd
  have hb : Below w.heap.size w ((w.alloc o).alloc ZBd) := hb1.trans (hb2.mono hb1.size)
  have hel := (Array.getElem?_eq_some_iff.1 hbox).1
  have hn := heap_alloc_new (w.alloc o) ZBd
  rw [World.size_alloc] at hn
  refine ⟨⟨sv, h.below hb⟩, (KpD.of_below hb2).e eb, (hb.block _ hel).trans hbox, hats.keep hb.size (okP_below hb), World.ownsRow_nil _ _ _ _, (fun x hx => by cases hx), .inl ⟨Nat.le_refl _, .slice none 0 0, hn, World.ownsRow_nil _ _ _ _, by simp [Value.ownBlock]⟩, hb2.size, hlow, by rw [World.size_alloc]; omega, by have := h.ps.bel.size; rw [World.size_alloc]; omega, by rw [World.size_alloc]; omega⟩
/-- What is said of a world and a box more is said of the world. -/
theorem ConD.early {w0 w : World} {pb eb o' : Nat} {bv : Value} {L : BS} {R : Except (Nat × Nat) (ET × Nat)} {e : Ending} {w' : World} {ob : Obj} (h : ConD w0 (w.alloc ob) pb bv L eb o' R e w') : ConD w0 w pb bv L eb o' R e w' := by
  have hk : KpE pb eb w (w.alloc ob) := (KpD.of_below (box_belT w ob)).e eb
  unfold ConD at h ⊢
  cases R with
  | error x => exact ⟨h.1, hk.trans h.2.1, h.2.2⟩
  | ok x =>
    obtain ⟨av, kv, sv', h1, h2, h3, h4, h5, h6⟩ := h
    exact ⟨av, kv, sv', h1, h2, h3, h4.mono (okN_mono (by rw [World.size_alloc]; omega)), h5, hk.trans h6⟩
/-- A block that was there and is neither of the three stays. -/
theorem CnI.stay {w0 W0 wr : World} {pb eb B : Nat} {bv : Value} {L : BS} {h : HT} {av : Value} {d : Nat} {EL : List EV} {tx : List UInt8} {a : Nat} {kv : Value} (H : CnI w0 W0 pb eb B bv L h av d EL tx a kv wr) {b : Nat} {cs : Array Value} {z : Nat × Nat} (hb : W0.heap[b]? = some (.cells cs 69 z)) (h1 : b ≠ pb) (h2 : b ≠ eb) : wr.heap[b]? = some (.cells cs 69 z) := H.kp _ _ _ _ h1 h2 (by decide) hb
/-- What is left when the text is taken. -/
structure CnF (w0 W0 : World) (pb eb : Nat) (bv : Value) (L : BS) (h : HT) (av : Value) (d : Nat) (EL : List EV) (a : Nat) (kv : Value) (wr : World) : Prop where
  px : ∃ sv, PX w0 pb bv sv L a wr
  kp : KpE pb eb W0 wr
  box : wr.heap[eb]? = some (.cells #[.string h.1, .string h.2.1, av, kv, .string ⟨#[]⟩] 27 (0, 0))
  ats : PairsR (okP wr) wr av h.2.2
  row : wr.ownsRow W0.heap.size 27 5 kv EL.length (ecells EL)
  kids : KidsV (okG W0.heap.size kv wr) wr d EL
  eo : w0.heap.size ≤ eb
  el : eb < W0.heap.size
theorem CnI.f {w0 W0 wr w' : World} {pb eb B : Nat} {bv : Value} {L : BS} {h : HT} {av : Value} {d : Nat} {EL : List EV} {tx : List UInt8} {a : Nat} {kv : Value} (H : CnI w0 W0 pb eb B bv L h av d EL tx a kv wr) (hl : Below B wr w') (hk : KpW B wr w') : CnF w0 W0 pb eb bv L h av d EL a kv w' := by
  obtain ⟨s0, hx⟩ := H.px
  have hbi : ∃ cs, wr.heap[B]? = some (.cells cs 131 (0, 0)) := by
    rcases H.bi with ⟨_, v, h2, _⟩ | ⟨_, v, h2, _⟩ <;> exact ⟨_, h2⟩
  obtain ⟨cb, hcb⟩ := hbi
  have hnb : ∀ {b : Nat} {cs : Array Value} {T : TypeId} {z : Nat × Nat}, wr.heap[b]? = some (.cells cs T z) → 131 ≠ T → b ≠ B := by
    intro b cs T z hx hT
    rintro rfl
    rw [hcb] at hx
    simp at hx
    exact hT hx.2.1
  have key : ∀ {b : Nat} {cs : Array Value} {T : TypeId} {z : Nat × Nat}, wr.heap[b]? = some (.cells cs T z) → 131 ≠ T → 5 ≠ T → w'.heap[b]? = wr.heap[b]? := fun hx h1 h2 => (hk _ _ _ _ (hnb hx h1) h2 hx).trans hx.symm
  have rowk : ∀ {base n size : Nat} {e : TypeId} {v : Value} {xs : List Value}, wr.ownsRow base e size v n xs → 131 ≠ e → 5 ≠ e → w'.ownsRow base e size v n xs := by
    intro base n size e v xs ho h1 h2
    refine rowT_keep ho fun g hg => ?_
    rcases ho.2 with ⟨h3, _⟩ | ⟨g', cap, cur, h3, _, hg', _⟩
    · rw [h3] at hg
      simp [Value.ownBlock] at hg
    · rw [h3] at hg
      simp [Value.ownBlock] at hg
      subst hg
      exact key hg' h1 h2
  refine ⟨⟨s0, ⟨⟨hx.ps.bel.trans (hl.mono (Nat.le_trans H.wo H.bo)), hx.ps.low, (key hx.ps.box (by decide) (by decide)).trans hx.ps.box⟩, rowk hx.own (by decide) (by decide)⟩⟩, ?_, (key H.box (by decide) (by decide)).trans H.box, H.ats.keep hl.size ?_, rowk H.row (by decide) (by decide), H.kids.keep hl.size ?_, H.eo, H.el⟩
  · intro b cs T z hb1 hb2 hT hx2
    exact (hl.block b (Nat.lt_of_lt_of_le (Array.getElem?_eq_some_iff.1 hx2).1 H.bo)).trans (H.kp b cs T z hb1 hb2 hT hx2)
  · rintro b ⟨cs, z, h1⟩ _
    have h2 := key h1 (by decide) (by decide)
    exact ⟨h2, cs, z, h2.trans h1⟩
  · rintro b ⟨⟨cs, T, z, h1, h2⟩, h3⟩ _
    have h4 := key h1 (by rcases h2 with rfl | ⟨rfl, _⟩ <;> decide) (by rcases h2 with rfl | ⟨rfl, _⟩ <;> decide)
    exact ⟨h4, ⟨cs, T, z, h4.trans h1, h2⟩, h3⟩
theorem CnF.kidsD {w0 W0 wr : World} {pb eb : Nat} {bv : Value} {L : BS} {h : HT} {av : Value} {d : Nat} {EL : List EV} {a : Nat} {kv : Value} (H : CnF w0 W0 pb eb bv L h av d EL a kv wr) : KidsD (okN W0.heap.size wr) wr (d + 1) kv (EL.map (·.1)) := by
  have hk : KidsV (okN W0.heap.size wr) wr d EL := H.kids.mono fun b hb _ => hb.1
  rcases H.row.2 with ⟨h1, h2⟩ | ⟨g, cap, cur, h1, h2, h3, h4, h5, h6, h7⟩
  · obtain rfl : EL = [] := List.length_eq_zero_iff.1 h2
    rw [h1]
    exact KidsD.nil _ _ _
  · subst h1
    have hx := H.row.1
    refine KidsD.ofOwn1 (g := g) (off := 0) (c := cap) ⟨cur, h3, hx, h4, h5, fun j hj => ?_⟩ rfl ⟨_, _, _, h3, .inr ⟨rfl, h2⟩⟩ hk
    rw [← h7, Nat.zero_add, ← Array.getElem?_toList, List.getElem?_take]
    rw [if_pos (by omega)]
/-- The end, where no text is stored. -/
theorem CnF.ends0 {w0 W0 wr : World} {pb eb : Nat} {bv : Value} {L : BS} {h : HT} {av : Value} {d o : Nat} {EL : List EV} {a : Nat} {kv : Value} (H : CnF w0 W0 pb eb bv L h av d EL a kv wr) (hd : d + 1 = 24 - o) : ConD w0 W0 pb bv L eb o (.ok (mkE h (EL.map (·.1)) [], a)) (.returned (.tuple #[])) wr := by
  obtain ⟨s0, hx⟩ := H.px
  exact ⟨av, kv, s0, rfl, H.box, H.ats, by rw [← hd]; exact H.kidsD, hx, H.kp⟩
theorem CnF.ends1 {w0 W0 wr : World} {pb eb : Nat} {bv : Value} {L : BS} {h : HT} {av : Value} {d o : Nat} {EL : List EV} {a : Nat} {kv : Value} (H : CnF w0 W0 pb eb bv L h av d EL a kv wr) (hd : d + 1 = 24 - o) (tx : List UInt8) : ConD w0 W0 pb bv L eb o (.ok (mkE h (EL.map (·.1)) tx, a)) (.returned (.tuple #[])) (wr.setCell ⟨eb, 4, none⟩ (.string (ba tx))) := by
  obtain ⟨s0, hx⟩ := H.px
  have hk : KpE pb eb wr (wr.setCell ⟨eb, 4, none⟩ (.string (ba tx))) := KpE.set pb eb wr 4 _
  have hsz : wr.heap.size ≤ (wr.setCell ⟨eb, 4, none⟩ (.string (ba tx))).heap.size := by rw [World.size_setCell]; exact Nat.le_refl _
  refine ⟨av, kv, s0, rfl, by rw [block_set _ _ _ _ _ _ _ H.box]; rfl, H.ats.keep hsz (okP_ke hx.ps.box H.box hk), ?_, hx.chgT ((Chg.refl [eb] wr).set' eb 4 _ (.inl (by simp))) H.box H.eo, H.kp.trans hk⟩
  rw [← hd]
  exact H.kidsD.keep hsz (okN_ke hx.ps.box H.box H.el hk)
/-- The builder's text; what holds no bytes stays. -/
theorem btextK (w : World) (B b : Nat) (l : List UInt8) (h : BI B b l w) (hB : B ≤ w.heap.size) :
    Calls Tryz.prog 94 #[.pointer (some ⟨b, 0, none⟩)] w fun e w' => e = .returned (.string ⟨l.toArray⟩) ∧ Below B w w' ∧ KpW b w w' := by
  refine (Any.Builder_String_any_k Tryz.lays169 Tryz.Builder_Extra_169 B b l w (Lib.IsBuilderF.of h) hB).mono fun e w' hh => ⟨hh.1, hh.2.2.1, fun d cs T z hd hT hx => ?_⟩
  refine hh.2.2.2 d _ hx (fun e => hd (Option.some.inj e)) fun c fz he => ?_
  simp at he
  exact hT he.2.1.symm
/-- An error while the content is read. -/
theorem CnI.boom {w0 W0 wr w' : World} {pb eb B : Nat} {bv : Value} {L : BS} {h : HT} {av : Value} {d o : Nat} {EL : List EV} {tx : List UInt8} {a : Nat} {kv : Value} (H : CnI w0 W0 pb eb B bv L h av d EL tx a kv wr) {x : Nat × Nat} {e : Ending} (hb : Boom6 x.1 x.2 e) (hk : KpD pb wr w') (hl : Below w0.heap.size w0 w') : ConD w0 W0 pb bv L eb o (.error x) e w' := ⟨hb, H.kp.trans (hk.e eb), hl⟩
theorem contM_text {xs : List UInt8} {f : Nat} {L : BS} {o : Nat} {nm : List UInt8} {h : HT} {ks : List ET} {tx : List UInt8} {a q k : Nat} {t : Tk} (ht : tokM xs a = .ok (t, q, k)) (h3 : t.kind = 3) : contM xs (f + 1) L o nm h ks tx a = contM xs f L o nm h ks (tx ++ t.text) k := by
  rw [contM, ht]
  dsimp only
  rw [if_pos h3]
theorem contM_bad {xs : List UInt8} {f : Nat} {L : BS} {o : Nat} {nm : List UInt8} {h : HT} {ks : List ET} {tx : List UInt8} {a : Nat} {x : Nat × Nat} (ht : tokM xs a = .error x) : contM xs (f + 1) L o nm h ks tx a = .error x := by
  rw [contM, ht]
theorem contM_full {xs : List UInt8} {f : Nat} {L : BS} {o : Nat} {nm : List UInt8} {h : HT} {ks : List ET} {tx : List UInt8} {a q k : Nat} {t : Tk} (ht : tokM xs a = .ok (t, q, k)) (h1 : t.kind = 1) (hf : 100 ≤ ks.length) : contM xs (f + 1) L o nm h ks tx a = .error (q, 4) := by
  rw [contM, ht]
  dsimp only
  rw [if_neg (by omega), if_pos h1, if_pos hf]
theorem contM_kidE {xs : List UInt8} {f : Nat} {L : BS} {o : Nat} {nm : List UInt8} {h : HT} {ks : List ET} {tx : List UInt8} {a q k : Nat} {t : Tk} (ht : tokM xs a = .ok (t, q, k)) (h1 : t.kind = 1) (hf : ¬ 100 ≤ ks.length) {x : Nat × Nat} (he : elemW (fun L' o' nm' h' k' => contM xs f L' o' nm' h' [] [] k') L (o + 1) t q k = .error x) : contM xs (f + 1) L o nm h ks tx a = .error x := by
  rw [contM, ht]
  dsimp only
  rw [if_neg (by omega), if_pos h1, if_neg hf, he]
theorem contM_kid {xs : List UInt8} {f : Nat} {L : BS} {o : Nat} {nm : List UInt8} {h : HT} {ks : List ET} {tx : List UInt8} {a q k : Nat} {t : Tk} (ht : tokM xs a = .ok (t, q, k)) (h1 : t.kind = 1) (hf : ¬ 100 ≤ ks.length) {x : ET × Nat} (he : elemW (fun L' o' nm' h' k' => contM xs f L' o' nm' h' [] [] k') L (o + 1) t q k = .ok x) : contM xs (f + 1) L o nm h ks tx a = contM xs f L o nm h (ks ++ [x.1]) tx x.2 := by
  rw [contM, ht]
  dsimp only
  rw [if_neg (by omega), if_pos h1, if_neg hf, he]
theorem contM_close {xs : List UInt8} {f : Nat} {L : BS} {o : Nat} {nm : List UInt8} {h : HT} {ks : List ET} {tx : List UInt8} {a q k : Nat} {t : Tk} (ht : tokM xs a = .ok (t, q, k)) (h2 : t.kind = 2) (hn : t.name = nm) : contM xs (f + 1) L o nm h ks tx a = .ok (mkE h ks (if ks = [] ∨ blankL tx = false then tx else []), k) := by
  rw [contM, ht]
  dsimp only
  rw [if_neg (by omega), if_neg (by omega), if_pos ⟨h2, hn⟩]
theorem contM_nest {xs : List UInt8} {f : Nat} {L : BS} {o : Nat} {nm : List UInt8} {h : HT} {ks : List ET} {tx : List UInt8} {a q k : Nat} {t : Tk} (ht : tokM xs a = .ok (t, q, k)) (h3 : t.kind ≠ 3) (h1 : t.kind ≠ 1) (hn : ¬ (t.kind = 2 ∧ t.name = nm)) : contM xs (f + 1) L o nm h ks tx a = .error (q, 14) := by
  rw [contM, ht]
  dsimp only
  rw [if_neg h3, if_neg h1, if_neg hn]
/-- A kid's places. -/
theorem kid_goes {xs : List UInt8} {f : Nat} {L : BS} {o : Nat} {t : Tk} {q k : Nat} {x : ET × Nat} (hk : k ≤ xs.length) (h : elemW (fun L' o' nm' h' k' => contM xs f L' o' nm' h' [] [] k') L o t q k = .ok x) : k ≤ x.2 ∧ x.2 ≤ xs.length := elem_goes (f := f) hk (show elemM xs f L o t q k = .ok (x.1, x.2) from h)
end Go.Proofs.YtpcajjbdlfookaaGreatDoor

/- xmltree: a row's last element is stored. -/
namespace Go.Proofs.YtpcajjbdlfookaaGreatDoor
open Go Go.RowKit Go.Deep Go.Shelf
set_option linter.unusedVariables false
set_option linter.unusedSimpArgs false

abbrev put5o (w : World) (g o : Nat) (c0 c1 c2 c3 c4 : Value) : World := ((((w.setCell ⟨g, o, none⟩ c0).setCell ⟨g, o + 1, none⟩ c1).setCell ⟨g, o + 2, none⟩ c2).setCell ⟨g, o + 3, none⟩ c3).setCell ⟨g, o + 4, none⟩ c4
theorem row_set {w : World} {base size n cap g : Nat} {e : TypeId} {xs : List Value} (h : w.ownsRow base e size (.slice (some ⟨g, 0, none⟩) n cap) n xs) (j : Nat) (u : Value) : (w.setCell ⟨g, j, none⟩ u).ownsRow base e size (.slice (some ⟨g, 0, none⟩) n cap) n (xs.set j u) := by
  refine ⟨by rw [List.length_set]; exact h.1, ?_⟩
  rcases h.2 with ⟨h1, _⟩ | ⟨g', cap', cur, h1, h2, h3, h4, h5, h6, h7⟩
  · cases h1
  · cases h1
    refine .inr ⟨g, cap, cur.setIfInBounds j u, rfl, h2, block_set _ _ _ _ _ _ _ h3, h4, h5, by rw [Array.size_setIfInBounds]; exact h6, ?_⟩
    rw [Array.toList_setIfInBounds, List.take_set, h7]
theorem set_last5 (xs : List Value) (z0 z1 z2 z3 z4 c0 c1 c2 c3 c4 : Value) : (((((xs ++ [z0, z1, z2, z3, z4]).set xs.length c0).set (xs.length + 1) c1).set (xs.length + 2) c2).set (xs.length + 3) c3).set (xs.length + 4) c4 = xs ++ [c0, c1, c2, c3, c4] := by
  induction xs with
  | nil => rfl
  | cons x r ih =>
    simp only [List.cons_append, List.length_cons]
    rw [show r.length + 1 + 1 = (r.length + 1) + 1 from rfl, show r.length + 1 + 2 = (r.length + 2) + 1 from rfl, show r.length + 1 + 3 = (r.length + 3) + 1 from rfl, show r.length + 1 + 4 = (r.length + 4) + 1 from rfl]
    simp only [List.set_cons_succ]
    rw [ih]
theorem row_put5 {w : World} {base n m cap g o : Nat} {e : TypeId} {xs : List Value} {z0 z1 z2 z3 z4 : Value} (h : w.ownsRow base e m (.slice (some ⟨g, 0, none⟩) n cap) n (xs ++ [z0, z1, z2, z3, z4])) (ho : o = xs.length) (c0 c1 c2 c3 c4 : Value) : (put5o w g o c0 c1 c2 c3 c4).ownsRow base e m (.slice (some ⟨g, 0, none⟩) n cap) n (xs ++ [c0, c1, c2, c3, c4]) := by
  subst ho
  have := row_set (row_set (row_set (row_set (row_set h xs.length c0) (xs.length + 1) c1) (xs.length + 2) c2) (xs.length + 3) c3) (xs.length + 4) c4
  rwa [set_last5] at this
theorem grown_set {w w' : World} {r : Option Nat} (h : w.grownBy w' r) {g : Nat} (hg : r = some g ∨ w.heap.size ≤ g) (o : Nat) (v : Value) : w.grownBy (w'.setCell ⟨g, o, none⟩ v) r := by
  refine ⟨h.os, h.tape, h.output, by rw [World.size_setCell]; exact h.size, fun k hk hn => ?_⟩
  refine (Below.heap_setCell _ _ _ _ ?_).trans (h.block k hk hn)
  rintro rfl
  rcases hg with h1 | h1
  · exact hn h1.symm
  · exact absurd hk (by omega)
theorem grown_put5 {w w' : World} {r : Option Nat} (h : w.grownBy w' r) {g : Nat} (hg : r = some g ∨ w.heap.size ≤ g) (o : Nat) (c0 c1 c2 c3 c4 : Value) : w.grownBy (put5o w' g o c0 c1 c2 c3 c4) r :=
  grown_set (grown_set (grown_set (grown_set (grown_set h hg _ _) hg _ _) hg _ _) hg _ _) hg _ _
theorem set_comm (w : World) {g b : Nat} (h : g ≠ b) (o j : Nat) (u v : Value) : (w.setCell ⟨g, o, none⟩ u).setCell ⟨b, j, none⟩ v = (w.setCell ⟨b, j, none⟩ v).setCell ⟨g, o, none⟩ u := by
  have : ∀ k : Nat, ((w.setCell ⟨g, o, none⟩ u).setCell ⟨b, j, none⟩ v).heap[k]? = ((w.setCell ⟨b, j, none⟩ v).setCell ⟨g, o, none⟩ u).heap[k]? := by
    intro k
    simp only [World.setCell, Array.getElem?_modify]
    by_cases h1 : g = k
    · subst h1
      simp [Ne.symm h]
    · simp [h1]
  have h2 := Array.ext_getElem? this
  simp only [World.setCell] at h2 ⊢
  rw [h2]
theorem put5_comm (w : World) {g b : Nat} (h : g ≠ b) (o j : Nat) (c0 c1 c2 c3 c4 v : Value) : put5o (w.setCell ⟨b, j, none⟩ v) g o c0 c1 c2 c3 c4 = (put5o w g o c0 c1 c2 c3 c4).setCell ⟨b, j, none⟩ v := by
  unfold put5o
  rw [set_comm _ h, set_comm _ h, set_comm _ h, set_comm _ h, set_comm _ h]
/-- A kid is added: a place is made for it, and it is stored there. -/
theorem CnI.push5 {w0 W0 wr w1 : World} {pb eb B : Nat} {bv : Value} {L : BS} {h : HT} {av : Value} {d : Nat} {EL : List EV} {tx : List UInt8} {a : Nat} {kv : Value} (H : CnI w0 W0 pb eb B bv L h av d EL tx a kv wr) (x : EV) (hx1 : PairsR (okG W0.heap.size kv wr) wr x.2.1 x.1.attrs) (hx2 : KidsD (okG W0.heap.size kv wr) wr d x.2.2 x.1.kids) (hg : wr.grownBy w1 kv.ownBlock) {g cap : Nat} {z0 z1 z2 z3 z4 : Value} (ho : w1.ownsRow W0.heap.size 27 5 (.slice (some ⟨g, 0, none⟩) (EL.length + 1) cap) (EL.length + 1) (ecells EL ++ [z0, z1, z2, z3, z4])) (hnew : kv.ownBlock = some g ∨ wr.heap.size ≤ g) {S1 S2 S3 : ByteArray} (h1 : S1 = x.1.space) (h2 : S2 = x.1.name) (h3 : S3 = x.1.text) :
    CnI w0 W0 pb eb B bv L h av d (EL ++ [x]) tx a (.slice (some ⟨g, 0, none⟩) (EL.length + 1) cap) ((put5o w1 g (EL.length * 5) (.string S1) (.string S2) x.2.1 x.2.2 (.string S3)).setCell ⟨eb, 3, none⟩ (.slice (some ⟨g, 0, none⟩) (EL.length + 1) cap)) := by
  subst h1 h2 h3
  refine H.push x hx1 hx2 (grown_put5 hg hnew _ _ _ _ _ _) (m := EL.length + 1) (row_put5 ho ?_ _ _ _ _ _) rfl ?_
  · unfold ecells
    rw [flat_len ecell_len]
  · rcases hnew with h | h
    · exact .inl h.symm
    · exact .inr ⟨g, rfl, h⟩
end Go.Proofs.YtpcajjbdlfookaaGreatDoor

/- xmltree: a kid that was read. -/
namespace Go.Proofs.YtpcajjbdlfookaaGreatDoor
open Go Go.RowKit Go.Deep Go.Shelf
set_option linter.unusedVariables false
set_option linter.unusedSimpArgs false

/-- A kid was read: the state, and the kid's own lists. -/
structure KidOk (w0 W0 : World) (pb eb B : Nat) (bv : Value) (L : BS) (h : HT) (av : Value) (d : Nat) (EL : List EV) (tx : List UInt8) (a : Nat) (kv : Value) (x : ET) (av2 kv2 : Value) (w : World) : Prop where
  st : CnI w0 W0 pb eb B bv L h av d EL tx a kv w
  prs : PairsR (okG W0.heap.size kv w) w av2 x.attrs
  kds : KidsD (okG W0.heap.size kv w) w d kv2 x.kids
theorem KidOk.below {w0 W0 w w' : World} {pb eb B : Nat} {bv : Value} {L : BS} {h : HT} {av : Value} {d : Nat} {EL : List EV} {tx : List UInt8} {a : Nat} {kv : Value} {x : ET} {av2 kv2 : Value} (H : KidOk w0 W0 pb eb B bv L h av d EL tx a kv x av2 kv2 w) (hb : Below w.heap.size w w') : KidOk w0 W0 pb eb B bv L h av d EL tx a kv x av2 kv2 w' := by
  obtain ⟨s0, hx⟩ := H.st.px
  exact ⟨H.st.below hb, H.prs.keep hb.size (okG_kp hx.ps.box (KpD.of_below hb)), H.kds.keep hb.size (okG_kp hx.ps.box (KpD.of_below hb))⟩
theorem KidOk.push {w0 W0 w W w1 : World} {pb eb B : Nat} {bv : Value} {L : BS} {h : HT} {av : Value} {d : Nat} {EL : List EV} {tx : List UInt8} {a : Nat} {kv : Value} {x : ET} {av2 kv2 : Value} (H : KidOk w0 W0 pb eb B bv L h av d EL tx a kv x av2 kv2 w) (hb : Below w.heap.size w W) (hg : W.grownBy w1 kv.ownBlock) {g cap : Nat} {z0 z1 z2 z3 z4 : Value} (ho : w1.ownsRow W0.heap.size 27 5 (.slice (some ⟨g, 0, none⟩) (EL.length + 1) cap) (EL.length + 1) (ecells EL ++ [z0, z1, z2, z3, z4])) (hnew : kv.ownBlock = some g ∨ g = W.heap.size) {S1 S2 S3 : ByteArray} (h1 : S1 = x.space) (h2 : S2 = x.name) (h3 : S3 = x.text) :
    CnI w0 W0 pb eb B bv L h av d (EL ++ [(x, av2, kv2)]) tx a (.slice (some ⟨g, 0, none⟩) (EL.length + 1) cap) ((put5o w1 g (EL.length * 5) (.string S1) (.string S2) av2 kv2 (.string S3)).setCell ⟨eb, 3, none⟩ (.slice (some ⟨g, 0, none⟩) (EL.length + 1) cap)) ∧ g ≠ eb ∧
    w1.heap[eb]? = some (.cells #[.string h.1, .string h.2.1, av, kv, .string ⟨#[]⟩] 27 (0, 0)) ∧
    (∀ b cs z, w.heap[b]? = some (.cells cs 69 z) → w1.heap[b]? = some (.cells cs 69 z) ∧ g ≠ b) := by
  have H' := H.below hb
  have hr := H'.st.row
  have hrow := fun g hg => rowT_lt hr g hg
  have hel := H'.st.el
  have heb : kv.ownBlock ≠ some eb := fun e => by have := (hrow eb e).1; omega
  have hg0 := (rowT_lt ho g rfl).1
  refine ⟨CnI.push5 H'.st (x, av2, kv2) H'.prs H'.kds hg ho (hnew.imp id fun h => by omega) h1 h2 h3, by omega, (hg.block eb (Array.getElem?_eq_some_iff.1 H'.st.box).1 (fun e => heb e.symm)).trans H'.st.box, fun b cs z hx => ?_⟩
  have hbl := (Array.getElem?_eq_some_iff.1 hx).1
  have hx' : W.heap[b]? = some (.cells cs 69 z) := (hb.block b hbl).trans hx
  have hx1 := (hg.block b (Array.getElem?_eq_some_iff.1 hx').1 (fun e => row_ne hr hx' (by decide) b e.symm rfl)).trans hx'
  exact ⟨hx1, fun e => row_ne ho hx1 (by decide) g rfl e⟩
/-- The row's new place. -/
theorem row_place {w : World} {base n m cap g : Nat} {e : TypeId} {xs : List Value} {z0 z1 z2 z3 z4 : Value} (h : w.ownsRow base e m (.slice (some ⟨g, 0, none⟩) n cap) n (xs ++ [z0, z1, z2, z3, z4])) : w.cell? ⟨g, xs.length, none⟩ = some z0 ∧ w.cell? ⟨g, xs.length + 1, none⟩ = some z1 ∧ w.cell? ⟨g, xs.length + 2, none⟩ = some z2 ∧ w.cell? ⟨g, xs.length + 3, none⟩ = some z3 ∧ w.cell? ⟨g, xs.length + 4, none⟩ = some z4 ∧ (∀ o, w.frozen? ⟨g, o, none⟩ = false) := by
  have ho := OwnS.ofRow h
  have hc := fun j u hu => ho.cell (g := g) (off := 0) rfl j u hu
  simp only [Nat.zero_add] at hc
  refine ⟨hc _ _ (by simp), hc _ _ (by simp), hc _ _ (by simp), hc _ _ (by simp), hc _ _ (by simp), fun o => ?_⟩
  rcases h.2 with ⟨h1, _⟩ | ⟨g', cap', cur, h1, h2, h3, _⟩
  · cases h1
  · cases h1
    simp [World.frozen?, h3]
end Go.Proofs.YtpcajjbdlfookaaGreatDoor
