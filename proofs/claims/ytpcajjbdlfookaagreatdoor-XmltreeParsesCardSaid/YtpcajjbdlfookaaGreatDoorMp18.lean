/- xmltree: next, where it reads a token. -/
import Derived.Test.YtpcajjbdlfookaaGreatDoorMp11
import Derived.Test.YtpcajjbdlfookaaGreatDoorMp08
import Derived.Deep.RegionWith
import Derived.Test.YtpcajjbdlfookaaGreatDoorMp17
import Derived.Test.YtpcajjbdlfookaaGreatDoorMp06
namespace Go.Proofs.YtpcajjbdlfookaaGreatDoor
open Go Go.RowKit Go.Deep Go.Shelf
set_option linter.unusedVariables false
set_option linter.unusedSimpArgs false

/-- The parser at a place. -/
structure PS (w0 : World) (pb : Nat) (bv sv : Value) (a : Nat) (w : World) : Prop where
  bel : Below w0.heap.size w0 w
  low : w0.heap.size ≤ pb
  box : w.heap[pb]? = some (.cells #[bv, .int .i64 a, sv] 45 (0, 0))
theorem PS.lt {w0 : World} {pb : Nat} {bv sv : Value} {a : Nat} {w : World} (h : PS w0 pb bv sv a w) : pb < w.heap.size := (Array.getElem?_eq_some_iff.1 h.box).1
theorem PS.below {w0 : World} {pb : Nat} {bv sv : Value} {a : Nat} {w w' : World} (h : PS w0 pb bv sv a w) (hb : Below w.heap.size w w') : PS w0 pb bv sv a w' := ⟨h.bel.trans (hb.mono h.bel.size), h.low, (hb.block _ h.lt).trans h.box⟩
theorem PS.seek {w0 : World} {pb : Nat} {bv sv : Value} {a : Nat} {w : World} (h : PS w0 pb bv sv a w) (k : Nat) : PS w0 pb bv sv k (w.setCell ⟨pb, 1, none⟩ (.int .i64 k)) :=
  ⟨h.bel.setCell (p := ⟨pb, 1, none⟩) h.low _, h.low, by rw [block_set _ _ _ _ _ _ _ h.box]; rfl⟩
theorem cellsP3 {w : World} {b : Nat} {c0 c1 c2 : Value} {T : TypeId} (h : w.heap[b]? = some (.cells #[c0, c1, c2] T (0, 0))) : w.cell? ⟨b, 0, none⟩ = some c0 ∧ w.cell? ⟨b, 1, none⟩ = some c1 ∧ w.cell? ⟨b, 2, none⟩ = some c2 ∧ (∀ o, w.frozen? ⟨b, o, none⟩ = false) := by
  refine ⟨?_, ?_, ?_, fun o => ?_⟩ <;> simp [World.cell?, World.frozen?, h]
theorem AtsIs.away {w w' : World} {v : Value} {l : List (List UInt8 × List UInt8)} {pb : Nat} {p p' : Option Addr} {n n' c c' : Nat} {i : Int} (h : AtsIs w v l) (hb : w.heap[pb]? = some (.cells #[.slice p n c, .int .i64 i, .slice p' n' c'] 45 (0, 0))) (hk : Chg [pb] w w') : AtsIs w' v l := by
  obtain ⟨q, d, e, h1, h2, h3, h4⟩ := h
  refine ⟨q, d, e, h1, h2, h3, fun hp => ?_⟩
  obtain ⟨b, o, hq, ⟨cs, z, hcs⟩, hx⟩ := h4 hp
  have hne : b ≠ pb := by
    rintro rfl
    rw [hcs] at hb
    simp at hb
  refine ⟨b, o, hq, ⟨cs, z, (hk.block b (Array.getElem?_eq_some_iff.1 hcs).1 (by simpa using hne)).trans hcs⟩, fun j u hu => ?_⟩
  have hc := hx j u hu
  rw [World.cell?_of_block (hk.block b (World.block_lt_of_cell? w _ hc) (by simpa using hne))]
  exact hc
theorem flat_at0 (l : List (List UInt8 × List UInt8)) (h : 0 < l.length) : (l.flatMap fun x => [Value.string ⟨x.1.toArray⟩, Value.string ⟨x.2.toArray⟩])[0]? = some (strLx l[0].1) := by
  cases l with
  | nil => simp at h
  | cons x r => rfl
theorem flat_at1 (l : List (List UInt8 × List UInt8)) (h : 0 < l.length) : (l.flatMap fun x => [Value.string ⟨x.1.toArray⟩, Value.string ⟨x.2.toArray⟩])[1]? = some (strLx l[0].2) := by
  cases l with
  | nil => simp at h
  | cons x r => rfl
/-- A token's box holds no attributes. -/
theorem AtsIs.tok {w w' : World} {v : Value} {l : List (List UInt8 × List UInt8)} {b0 : Nat} (h : AtsIs w v l) (hb : w.heap[b0]? = some (.cells #[.int .i64 0, .string ⟨#[]⟩, .slice none 0 0, .bool false, .string ⟨#[]⟩, .int .i64 0] 69 (0, 0))) (hk : Chg [b0] w w') : AtsIs w' v l := by
  obtain ⟨q, d, e, h1, h2, h3, h4⟩ := h
  refine ⟨q, d, e, h1, h2, h3, fun hp => ?_⟩
  obtain ⟨b, o, hq, ⟨cs, z, hcs⟩, hx⟩ := h4 hp
  have hne : b ≠ b0 := by
    rintro rfl
    rw [hcs] at hb
    simp at hb
  refine ⟨b, o, hq, ⟨cs, z, (hk.block b (Array.getElem?_eq_some_iff.1 hcs).1 (by simpa using hne)).trans hcs⟩, fun j u hu => ?_⟩
  have hc := hx j u hu
  rw [World.cell?_of_block (hk.block b (World.block_lt_of_cell? w _ hc) (by simpa using hne))]
  exact hc
theorem infoTok6 : (Tryz.prog.info? 69).map (·.size) = some 6 := by kernel_rfl
abbrev ZTok : Obj := .cells #[.int .i64 0, .string ⟨#[]⟩, .slice none 0 0, .bool false, .string ⟨#[]⟩, .int .i64 0] 69
abbrev put6 (w : World) (b : Nat) (c0 c1 c2 c3 c4 c5 : Value) : World := (((((w.setCell ⟨b, 0, none⟩ c0).setCell ⟨b, 1, none⟩ c1).setCell ⟨b, 2, none⟩ c2).setCell ⟨b, 3, none⟩ c3).setCell ⟨b, 4, none⟩ c4).setCell ⟨b, 5, none⟩ c5
theorem put6_at {w : World} {b : Nat} {z0 z1 z2 z3 z4 z5 : Value} {T : TypeId} (h : w.heap[b]? = some (.cells #[z0, z1, z2, z3, z4, z5] T (0, 0))) (c0 c1 c2 c3 c4 c5 : Value) : (put6 w b c0 c1 c2 c3 c4 c5).heap[b]? = some (.cells #[c0, c1, c2, c3, c4, c5] T (0, 0)) := by
  have h0 : (w.setCell ⟨b, 0, none⟩ c0).heap[b]? = some (.cells #[c0, z1, z2, z3, z4, z5] T (0, 0)) := by rw [block_set _ _ _ _ _ _ _ h]; rfl
  have h1 : ((w.setCell ⟨b, 0, none⟩ c0).setCell ⟨b, 1, none⟩ c1).heap[b]? = some (.cells #[c0, c1, z2, z3, z4, z5] T (0, 0)) := by rw [block_set _ _ _ _ _ _ _ h0]; rfl
  have h2 : (((w.setCell ⟨b, 0, none⟩ c0).setCell ⟨b, 1, none⟩ c1).setCell ⟨b, 2, none⟩ c2).heap[b]? = some (.cells #[c0, c1, c2, z3, z4, z5] T (0, 0)) := by rw [block_set _ _ _ _ _ _ _ h1]; rfl
  have h3 : ((((w.setCell ⟨b, 0, none⟩ c0).setCell ⟨b, 1, none⟩ c1).setCell ⟨b, 2, none⟩ c2).setCell ⟨b, 3, none⟩ c3).heap[b]? = some (.cells #[c0, c1, c2, c3, z4, z5] T (0, 0)) := by rw [block_set _ _ _ _ _ _ _ h2]; rfl
  have h4 : (((((w.setCell ⟨b, 0, none⟩ c0).setCell ⟨b, 1, none⟩ c1).setCell ⟨b, 2, none⟩ c2).setCell ⟨b, 3, none⟩ c3).setCell ⟨b, 4, none⟩ c4).heap[b]? = some (.cells #[c0, c1, c2, c3, c4, z5] T (0, 0)) := by rw [block_set _ _ _ _ _ _ _ h3]; rfl
  rw [block_set _ _ _ _ _ _ _ h4]; rfl
theorem put6_chg (w : World) (b : Nat) (c0 c1 c2 c3 c4 c5 : Value) : Chg [b] w (put6 w b c0 c1 c2 c3 c4 c5) := (((((((Chg.refl [b] w).set' _ _ _ (.inl (by simp))).set' _ _ _ (.inl (by simp))).set' _ _ _ (.inl (by simp))).set' _ _ _ (.inl (by simp))).set' _ _ _ (.inl (by simp))).set' _ _ _ (.inl (by simp)))
/-- A token is handed out. -/
theorem next_end {w0 w w2 : World} {pb : Nat} {p p' ps : Option Addr} {n n' c c' cs : Nat} {a k N : Nat} {t : Tk} (h : PS w0 pb (.slice p n c) (.slice p' n' c') a w) (hb : Below w.heap.size w w2) (hz : w2.heap[w.heap.size]? = some ZTok) (hat : AtsIs w2 (.slice ps t.attrs.length cs) t.attrs) (o : Obj) (q : Nat) (S1 S2 : ByteArray) (hN : N = t.attrs.length) :
    ((put6 (w2.setCell ⟨pb, 1, none⟩ (.int .i64 k)) w.heap.size (.int .i64 (t.kind : Nat)) (.string S1) (.slice ps N cs) (.bool t.empty) (.string S2) (.int .i64 (q : Nat))).alloc o).heap[w.heap.size]? = some (.cells #[.int .i64 (t.kind : Nat), .string S1, .slice ps N cs, .bool t.empty, .string S2, .int .i64 (q : Nat)] 69 (0, 0)) ∧
    AtsIs ((put6 (w2.setCell ⟨pb, 1, none⟩ (.int .i64 k)) w.heap.size (.int .i64 (t.kind : Nat)) (.string S1) (.slice ps N cs) (.bool t.empty) (.string S2) (.int .i64 (q : Nat))).alloc o) (.slice ps N cs) t.attrs ∧
    PS w0 pb (.slice p n c) (.slice p' n' c') k ((put6 (w2.setCell ⟨pb, 1, none⟩ (.int .i64 k)) w.heap.size (.int .i64 (t.kind : Nat)) (.string S1) (.slice ps N cs) (.bool t.empty) (.string S2) (.int .i64 (q : Nat))).alloc o) ∧
    Chg [pb] w ((put6 (w2.setCell ⟨pb, 1, none⟩ (.int .i64 k)) w.heap.size (.int .i64 (t.kind : Nat)) (.string S1) (.slice ps N cs) (.bool t.empty) (.string S2) (.int .i64 (q : Nat))).alloc o) := by
  subst hN
  have hpl := h.lt
  have hzl : w.heap.size < w2.heap.size := (Array.getElem?_eq_some_iff.1 hz).1
  have h2 := h.below hb
  have h3 := h2.seek k
  have hz2 : (w2.setCell ⟨pb, 1, none⟩ (.int .i64 k)).heap[w.heap.size]? = some ZTok := by
    rw [Below.heap_setCell _ _ _ _ (by simp; omega)]
    exact hz
  have hc := put6_chg (w2.setCell ⟨pb, 1, none⟩ (.int .i64 k)) w.heap.size (.int .i64 (t.kind : Nat)) (.string S1) (.slice ps t.attrs.length cs) (.bool t.empty) (.string S2) (.int .i64 (q : Nat))
  have hba := box_belT (put6 (w2.setCell ⟨pb, 1, none⟩ (.int .i64 k)) w.heap.size (.int .i64 (t.kind : Nat)) (.string S1) (.slice ps t.attrs.length cs) (.bool t.empty) (.string S2) (.int .i64 (q : Nat))) o
  have hat6 := put6_at hz2 (.int .i64 (t.kind : Nat)) (.string S1) (.slice ps t.attrs.length cs) (.bool t.empty) (.string S2) (.int .i64 (q : Nat))
  have hpz : pb ≠ w.heap.size := by omega
  refine ⟨(hba.block _ (Array.getElem?_eq_some_iff.1 hat6).1).trans hat6, ?_, ?_, ?_⟩
  · have a2 := hat.away h2.box ((Chg.refl [pb] _).set' pb 1 (.int .i64 k) (.inl (by simp)))
    exact (a2.tok hz2 hc).below hba
  · have h4 : PS w0 pb (.slice p n c) (.slice p' n' c') k (put6 (w2.setCell ⟨pb, 1, none⟩ (.int .i64 k)) w.heap.size (.int .i64 (t.kind : Nat)) (.string S1) (.slice ps t.attrs.length cs) (.bool t.empty) (.string S2) (.int .i64 (q : Nat))) :=
      ⟨h3.bel.trans (hc.below (B := w0.heap.size) h3.bel.size (fun i hi => by simp at hi; subst hi; exact h.bel.size)), h.low, (hc.block pb h3.lt (by simpa using hpz)).trans h3.box⟩
    exact h4.below hba
  · exact ((((Chg.of_below (S := [pb]) hb).set' pb 1 _ (.inl (by simp))).then hc (fun i hi => by simp at hi; subst hi; exact .inr (Nat.le_refl _))).alloc' o)
/-- How next ends, where it reads a token. -/
def NxtE (w0 w : World) (pb : Nat) (bv sv : Value) (t : Tk) (k a : Nat) (e : Ending) (w' : World) : Prop :=
  ∃ s, e = .returned (.agg #[.int .i64 (t.kind : Nat), .string ⟨t.name.toArray⟩, s, .bool t.empty, .string ⟨t.text.toArray⟩, .int .i64 (a : Nat)]) ∧ AtsIs w' s t.attrs ∧ PS w0 pb bv sv k w' ∧ Chg [pb] w w'
set_option maxRecDepth 100000 in
set_option maxHeartbeats 4000000 in
theorem pnext_c {w0 w : World} (hw0 : BW w0) {pb : Nat} {p p' : Option Addr} {n n' c c' : Nat} {xs : List UInt8} {a k q r : Nat} {t : Tk} (hr : Rd w0 (.slice p n c) xs) (hl : xs.length ≤ 1048576) (h : PS w0 pb (.slice p n c) (.slice p' n' c') a w)
    (hs : skA insP xs a = (q, r)) (hn : nxt insP opnP cloP xs q = (t, k, 0)) :
    Calls Tryz.prog 30 #[.pointer (some ⟨pb, 0, none⟩)] w (NxtE w0 w pb (.slice p n c) (.slice p' n' c') t k q) := by
  have hz : Below w.heap.size w (w.alloc ZTok) := box_belT w ZTok
  have hzw : ∀ W, Below (w.alloc ZTok).heap.size (w.alloc ZTok) W → Below w.heap.size w W := fun W hb => hz.trans (hb.mono hz.size)
  have HZW := Lib.hid hzw
  have HSK := Lib.hid (fun (W : World) (hb : Below (w.alloc ZTok).heap.size (w.alloc ZTok) W) => xskip_c ((hw0.below h.bel).below (hzw W hb)) ((hr.below h.bel).below (hzw W hb)) hl (a : Int))
  have HNX := Lib.hid (fun (W : World) (hb : Below (w.alloc ZTok).heap.size (w.alloc ZTok) W) => next_c ((hw0.below h.bel).below (hzw W hb)) ((hr.below h.bel).below (hzw W hb)) hl (q : Int))
  rw [hs] at HSK
  rw [hn] at HNX
  have HSK2 := Lib.hid (fun (W : World) (hb : Below (w.alloc ZTok).heap.size (w.alloc ZTok) W) => (HSK.out W hb).mono (R' := fun e w' => e = Ending.returned (.tuple #[.int .i64 (q : Nat), .int .i64 (r : Nat)]) ∧ Below (w.alloc ZTok).heap.size (w.alloc ZTok) w') (fun e w' hh => show e = Ending.returned (.tuple #[.int .i64 (q : Nat), .int .i64 (r : Nat)]) ∧ Below (w.alloc ZTok).heap.size (w.alloc ZTok) w' from ⟨hh.1, hb.trans (hh.2.mono hb.size)⟩))
  have HP := Lib.hid h
  have HZ := Lib.hid (Below.refl (w.alloc ZTok).heap.size (w.alloc ZTok))
  have hpl := h.lt
  obtain ⟨x0, x1, x2, xz⟩ := cellsP3 ((hz.block _ hpl).trans h.box)
  obtain ⟨S1, hS1⟩ : ∃ S1, S1 = (⟨t.name.toArray⟩ : ByteArray) := ⟨_, rfl⟩
  obtain ⟨S2, hS2⟩ : ∃ S2, S2 = (⟨t.text.toArray⟩ : ByteArray) := ⟨_, rfl⟩
  have HN1 := Lib.hid hS1
  have HN2 := Lib.hid hS2
  clear hw0 hr hl h hs hn hz hS1 hS2 hzw
  go_enter Tryz.func30, Tryz.ntmps30
  go_wp2_with fail
  go_region_with (go_at_call 59; refine (HSK2.out _ (by first | exact HZ.out | exact HZ.out.drew | exact Go.below_drewN HZ.out _)).mono ?_; rintro e w1 ⟨rfl, hb1⟩; have HB1 := Lib.hid hb1; obtain ⟨y0, y1, y2, yz⟩ := cellsP3 (((HZW.out _ hb1).block _ hpl).trans HP.out.box); clear hb1)
  all_goals
    clear x0 x1 x2 xz
    go_wp2_with fail
    refine (HNX.out _ (by first | exact HB1.out | exact HB1.out.drew | exact Go.below_drewN HB1.out _)).mono ?_
    rintro e w2 ⟨v, rfl, ⟨s, rfl, hat⟩, hb2, hkl⟩
    have hb2' : Below w1.heap.size w1 w2 := ⟨hb2.os, hb2.tape, hb2.output, hb2.size, hb2.block⟩
    have hb3 := HB1.out.trans (hb2'.mono HB1.out.size)
    obtain ⟨ps, cs, hsv, -⟩ := hat.form
    have HAT := Lib.hid hat
    have HB3 := Lib.hid (HZW.out _ hb3)
    clear y0 y1 y2 yz hb2 hb2' hkl hat
    subst hsv
    dsimp only at HAT
    obtain ⟨N, hN⟩ : ∃ N, N = t.attrs.length := ⟨_, rfl⟩
    have HN := Lib.hid hN
    rw [← hN] at HAT
    dsimp only
    rw [← HN1.out, ← HN2.out, ← hN]
    obtain ⟨y0, y1, y2, yz⟩ := cellsP3 (((HZW.out _ hb3).block _ hpl).trans HP.out.box)
    have hzz : w2.heap[w.heap.size]? = some ZTok := (hb3.block _ (by simp)).trans (heap_alloc_new w ZTok)
    have hzl : w.heap.size < w2.heap.size := (Array.getElem?_eq_some_iff.1 hzz).1
    have hpl2 : pb < w2.heap.size := by omega
    have HEND := Lib.hid (next_end (t := t) (k := k) HP.out HB3.out hzz (by have h9 := HAT.out; rw [HN.out] at h9; exact h9) (.cells #[.int .i64 (t.kind : Nat), .string S1, .slice ps N cs, .bool t.empty, .string S2] 52) q S1 S2 HN.out)
    obtain ⟨z0, z1, z2, z3, z4, z5, zz⟩ := cellsE6 hzz
    clear hb3 hN hzz
    go_wp2_with fail
    refine bodyPost_ret (results_cell_row Tryz.results30 _ _ w.heap.size 69 _ (0, 0) _ rfl HEND.out.1 Tryz.underlying69 rfl infoTok6) rfl ?_
    exact ⟨_, by rw [HN1.out, HN2.out], HEND.out.2.1, HEND.out.2.2.1, HEND.out.2.2.2⟩
end Go.Proofs.YtpcajjbdlfookaaGreatDoor

/- xmltree: the parser in memory: its state; fail; next. -/
namespace Go.Proofs.YtpcajjbdlfookaaGreatDoor
open Go Go.RowKit Go.Deep Go.Shelf
set_option linter.unusedVariables false
set_option linter.unusedSimpArgs false

/-- What is kept: blocks that are neither the parser's nor declarations. -/
def KpD (pb : Nat) (w w' : World) : Prop := ∀ (b : Nat) (cs : Array Value) (T : TypeId) (z : Nat × Nat), b ≠ pb → 126 ≠ T → w.heap[b]? = some (.cells cs T z) → w'.heap[b]? = some (.cells cs T z)
theorem KpD.refl (pb : Nat) (w : World) : KpD pb w w := fun b cs T z _ _ h => h
theorem KpD.trans {pb : Nat} {w1 w2 w3 : World} (h : KpD pb w1 w2) (h' : KpD pb w2 w3) : KpD pb w1 w3 := fun b cs T z hb hT hx => h' b cs T z hb hT (h b cs T z hb hT hx)
theorem KpD.of_below {pb : Nat} {w w' : World} (h : Below w.heap.size w w') : KpD pb w w' := fun b cs T z hb hT hx => (h.block b (Array.getElem?_eq_some_iff.1 hx).1).trans hx
theorem KpD.of_chg {pb : Nat} {w w' : World} (h : Chg [pb] w w') : KpD pb w w' := fun b cs T z hb hT hx => (h.block b (Array.getElem?_eq_some_iff.1 hx).1 (by simpa using hb)).trans hx
theorem KpD.set (pb : Nat) (w : World) (o : Nat) (v : Value) : KpD pb w (w.setCell ⟨pb, o, none⟩ v) := fun b cs T z hb hT hx => (Below.heap_setCell _ _ _ _ (by simpa using hb)).trans hx
theorem KpD.grown {pb B n size : Nat} {w w' : World} {v : Value} {xs : List Value} (hg : w.grownBy w' v.ownBlock) (ho : w.ownsRow B 126 size v n xs) : KpD pb w w' := fun b cs T z hb hT hx =>
  (hg.block b (Array.getElem?_eq_some_iff.1 hx).1 (fun e => row_ne ho hx hT b e.symm rfl)).trans hx
def dcells (L : BS) : List Value := L.flatMap fun d => [.string (ba d.1), .string (ba d.2)]
/-- The parser at a place, with its declarations. -/
structure PX (w0 : World) (pb : Nat) (bv sv : Value) (L : BS) (a : Nat) (w : World) : Prop where
  ps : PS w0 pb bv sv a w
  own : w.ownsRow w0.heap.size 126 2 sv L.length (dcells L)
theorem PX.below {w0 : World} {pb : Nat} {bv sv : Value} {L : BS} {a : Nat} {w w' : World} (h : PX w0 pb bv sv L a w) (hb : Below w.heap.size w w') : PX w0 pb bv sv L a w' := ⟨h.ps.below hb, rowT_below h.own hb⟩
theorem PX.next {w0 : World} {pb : Nat} {bv sv : Value} {L : BS} {a k : Nat} {w w' : World} (h : PX w0 pb bv sv L a w) (hp : PS w0 pb bv sv k w') (hc : Chg [pb] w w') : PX w0 pb bv sv L k w' :=
  ⟨hp, rowT_keep h.own fun g hg => hc.block g (rowT_lt h.own g hg).2 (by simpa using row_ne h.own h.ps.box (by decide) g hg)⟩
theorem PX.form {w0 : World} {pb : Nat} {bv sv : Value} {L : BS} {a : Nat} {w : World} (h : PX w0 pb bv sv L a w) : ∃ p c, sv = .slice p L.length c := rowT_form h.own
/-- What is raised. -/
def Boom6 (q c : Nat) (e : Ending) : Prop := e = .panicked [{ v := .iface 41 (.agg #[.int .i64 (q : Nat), .int .i64 (c : Nat)]), recovered := false }]
/-- A token by value. -/
abbrev tokV6 (t : Tk) (s : Value) (q : Nat) : Value := .agg #[.int .i64 (t.kind : Nat), .string ⟨t.name.toArray⟩, s, .bool t.empty, .string ⟨t.text.toArray⟩, .int .i64 (q : Nat)]
set_option maxRecDepth 100000 in
theorem tfail_c (w : World) (k0 t0 s m0 x0 : Value) (q : Nat) (c : Nat) : Calls Tryz.prog 33 #[.agg #[k0, t0, s, m0, x0, .int .i64 (q : Nat)], .int .i64 (c : Nat)] w fun e w' => Boom6 q c e ∧ Below w.heap.size w w' := by
  have HB := Lib.hid (box_belT w (.cells #[k0, t0, s, m0, x0, .int .i64 (q : Nat)] 69))
  go_enter Tryz.func33, Tryz.ntmps33
  go_wp2_with fail
  exact ⟨rfl, rfl, HB.out⟩
/-- How a call ends that may raise. -/
def AftD {α : Type} (w0 w : World) (pb : Nat) (R : Except (Nat × Nat) α) (ok : α → Ending → World → Prop) (e : Ending) (w' : World) : Prop := match R with
  | .error x => Boom6 x.1 x.2 e ∧ KpD pb w w' ∧ Below w0.heap.size w0 w'
  | .ok x => ok x e w'
/-- How next ends where it reads a token. -/
def TokD (w0 w : World) (pb : Nat) (bv sv : Value) (L : BS) (x : Tk × Nat × Nat) (e : Ending) (w' : World) : Prop :=
  ∃ s, e = .returned (tokV6 x.1 s x.2.1) ∧ AtsIs w' s x.1.attrs ∧ PX w0 pb bv sv L x.2.2 w' ∧ KpD pb w w'
set_option maxRecDepth 100000 in
set_option maxHeartbeats 4000000 in
theorem pnextE_c {w0 w : World} (hw0 : BW w0) {pb : Nat} {p p' : Option Addr} {n n' c c' : Nat} {xs : List UInt8} {a k q r z : Nat} {t : Tk} (hr : Rd w0 (.slice p n c) xs) (hl : xs.length ≤ 1048576) (h : PS w0 pb (.slice p n c) (.slice p' n' c') a w)
    (hs : skA insP xs a = (q, r)) (hn : nxt insP opnP cloP xs q = (t, k, z)) (hz : z ≠ 0) :
    Calls Tryz.prog 30 #[.pointer (some ⟨pb, 0, none⟩)] w fun e w' => Boom6 k z e ∧ Below w.heap.size w w' := by
  have hzb : Below w.heap.size w (w.alloc ZTok) := box_belT w ZTok
  have hzw : ∀ W, Below (w.alloc ZTok).heap.size (w.alloc ZTok) W → Below w.heap.size w W := fun W hb => hzb.trans (hb.mono hzb.size)
  have HZW := Lib.hid hzw
  have HSK := Lib.hid (fun (W : World) (hb : Below (w.alloc ZTok).heap.size (w.alloc ZTok) W) => xskip_c ((hw0.below h.bel).below (hzw W hb)) ((hr.below h.bel).below (hzw W hb)) hl (a : Int))
  have HNX := Lib.hid (fun (W : World) (hb : Below (w.alloc ZTok).heap.size (w.alloc ZTok) W) => next_c ((hw0.below h.bel).below (hzw W hb)) ((hr.below h.bel).below (hzw W hb)) hl (q : Int))
  rw [hs] at HSK
  rw [hn] at HNX
  have HSK2 := Lib.hid (fun (W : World) (hb : Below (w.alloc ZTok).heap.size (w.alloc ZTok) W) => (HSK.out W hb).mono (R' := fun e w' => e = Ending.returned (.tuple #[.int .i64 (q : Nat), .int .i64 (r : Nat)]) ∧ Below (w.alloc ZTok).heap.size (w.alloc ZTok) w') (fun e w' hh => show e = Ending.returned (.tuple #[.int .i64 (q : Nat), .int .i64 (r : Nat)]) ∧ Below (w.alloc ZTok).heap.size (w.alloc ZTok) w' from ⟨hh.1, hb.trans (hh.2.mono hb.size)⟩))
  have HP := Lib.hid h
  have HZ := Lib.hid (Below.refl (w.alloc ZTok).heap.size (w.alloc ZTok))
  have hpl := h.lt
  have tz : ((z : Int) == 0) = false := by rw [beq_eq_false_iff_ne]; omega
  have tz2 : (z == 0) = false := by rw [beq_eq_false_iff_ne]; omega
  obtain ⟨x0, x1, x2, xz⟩ := cellsP3 ((hzb.block _ hpl).trans h.box)
  clear hw0 hr hl h hs hn hzb hzw hz
  go_enter Tryz.func30, Tryz.ntmps30
  go_wp2_with fail
  go_region_with (go_at_call 59; refine (HSK2.out _ (by first | exact HZ.out | exact HZ.out.drew | exact Go.below_drewN HZ.out _)).mono ?_; rintro e w1 ⟨rfl, hb1⟩; have HB1 := Lib.hid hb1; obtain ⟨y0, y1, y2, yz⟩ := cellsP3 (((HZW.out _ hb1).block _ hpl).trans HP.out.box); clear hb1)
  all_goals
    clear x0 x1 x2 xz
    go_wp2_with fail
    refine (HNX.out _ (by first | exact HB1.out | exact HB1.out.drew | exact Go.below_drewN HB1.out _)).mono ?_
    rintro e w2 ⟨v, rfl, ⟨s, rfl, hat⟩, hb2, hkl⟩
    have hb2' : Below w1.heap.size w1 w2 := ⟨hb2.os, hb2.tape, hb2.output, hb2.size, hb2.block⟩
    have HB3 := Lib.hid (HZW.out _ (HB1.out.trans (hb2'.mono HB1.out.size)))
    obtain ⟨ps, cs, hsv, -⟩ := hat.form
    subst hsv
    clear y0 y1 y2 yz hb2 hb2' hkl hat
    dsimp only
    go_wp2_with fail
    exact ⟨rfl, rfl, HB3.out.alloc HB3.out.size _⟩
end Go.Proofs.YtpcajjbdlfookaaGreatDoor

/- xmltree: declare and space. -/
namespace Go.Proofs.YtpcajjbdlfookaaGreatDoor
open Go Go.RowKit Go.Deep Go.Shelf
set_option linter.unusedVariables false
set_option linter.unusedSimpArgs false

theorem infoDc : (Tryz.prog.info? 126).map (fun i => (i.zero, i.size, i.bytes)) = some (some (.agg #[.string ⟨#[]⟩, .string ⟨#[]⟩]), 2, 32) := by kernel_rfl
theorem infoDcX : ∃ i0, Tryz.prog.info? 126 = some i0 ∧ i0.zero = some (.agg #[.string ⟨#[]⟩, .string ⟨#[]⟩]) ∧ i0.size = 2 ∧ i0.bytes = 32 := by
  have h := infoDc
  cases hi : Tryz.prog.info? 126 with
  | none => rw [hi] at h; simp at h
  | some i =>
    rw [hi] at h
    simp at h
    exact ⟨i, rfl, h.1, h.2.1, h.2.2⟩
theorem ba_data (s : ByteArray) : ba s.data.toList = s := by simp [ba]
theorem ba_toList (l : List UInt8) : (ba l).data.toList = l := by simp [ba]
theorem PX.push {w0 w w' : World} {pb m : Nat} {bv sv sv' : Value} {L : BS} {a : Nat} (h : PX w0 pb bv sv L a w) (P V : ByteArray) (hg : w.grownBy w' sv.ownBlock) (ho : w'.ownsRow w0.heap.size 126 2 sv' m (dcells L ++ [.string P, .string V])) (hm : m = L.length + 1) :
    PX w0 pb bv sv' (L ++ [(P.data.toList, V.data.toList)]) a (w'.setCell ⟨pb, 2, none⟩ sv') ∧ KpD pb w (w'.setCell ⟨pb, 2, none⟩ sv') ∧ w'.heap[pb]? = some (.cells #[bv, .int .i64 a, sv] 45 (0, 0)) := by
  subst hm
  have hbx : w'.heap[pb]? = some (.cells #[bv, .int .i64 a, sv] 45 (0, 0)) := (hg.block pb h.ps.lt (fun e => row_ne h.own h.ps.box (by decide) pb e.symm rfl)).trans h.ps.box
  refine ⟨⟨⟨?_, h.ps.low, by rw [block_set _ _ _ _ _ _ _ hbx]; rfl⟩, ?_⟩, (KpD.grown hg h.own).trans (KpD.set pb w' 2 sv'), hbx⟩
  · exact (h.ps.bel.grown hg h.ps.bel.size (fun b e => (rowT_lt h.own b e).1)).setCell (p := ⟨pb, 2, none⟩) h.ps.low _
  · have e : dcells (L ++ [(P.data.toList, V.data.toList)]) = dcells L ++ [.string P, .string V] := by
      unfold dcells
      rw [List.flatMap_append]
      simp [ba_data]
    rw [e, List.length_append]
    exact rowT_keep ho (fun g hg => Below.heap_setCell _ _ _ _ (by simpa using row_ne ho hbx (by decide) g hg))
def DclE (w0 w : World) (pb : Nat) (bv : Value) (L : BS) (a q : Nat) (p v : List UInt8) (e : Ending) (w' : World) : Prop :=
  if badD p v then Boom6 q 16 e ∧ KpD pb w w' ∧ Below w0.heap.size w0 w' else e = .returned (.tuple #[]) ∧ (∃ sv', PX w0 pb bv sv' (L ++ [(p, v)]) a w') ∧ KpD pb w w'
set_option maxRecDepth 100000 in
set_option maxHeartbeats 4000000 in
theorem declare_c {w0 w : World} {pb : Nat} {bv sv : Value} {L : BS} {a : Nat} (h : PX w0 pb bv sv L a w) (hL : L.length ≤ 1000000) (k0 t0 s m0 x0 : Value) (q : Nat) (P V : ByteArray) :
    Calls Tryz.prog 89 #[.pointer (some ⟨pb, 0, none⟩), .agg #[k0, t0, s, m0, x0, .int .i64 (q : Nat)], .agg #[.string P, .string V]] w (DclE w0 w pb bv L a q P.data.toList V.data.toList) := by
  obtain ⟨i0, hi, hz0, hz1, hz2⟩ := infoDcX
  have hb2 : Below w.heap.size w ((w.alloc (.cells #[k0, t0, s, m0, x0, .int .i64 (q : Nat)] 69)).alloc (.cells #[.string P, .string V] 126)) := (box_belT w _).trans ((box_belT _ _).mono (by simp))
  have HB2 := Lib.hid hb2
  have HX := Lib.hid h
  have hpl := h.ps.lt
  obtain ⟨pv, cv, rfl⟩ := h.form
  obtain ⟨x0', x1', x2', xz'⟩ := cellsP3 h.ps.box
  have eP : P.toList = P.data.toList := ByteArray.toList_eq _
  have eV : V.toList = V.data.toList := ByteArray.toList_eq _
  obtain ⟨b1, t1⟩ : ∃ b, (P.toList == [120, 109, 108]) = b := ⟨_, rfl⟩
  obtain ⟨b2, t2⟩ : ∃ b, (P.toList == [120, 109, 108, 110, 115]) = b := ⟨_, rfl⟩
  obtain ⟨b3, t3⟩ : ∃ b, P.toList.isEmpty = b := ⟨_, rfl⟩
  obtain ⟨b4, t4⟩ : ∃ b, V.toList.isEmpty = b := ⟨_, rfl⟩
  have HBD := Lib.hid (show badD P.data.toList V.data.toList ↔ (b1 = true ∨ b2 = true ∨ (b3 = false ∧ b4 = true)) from by
    unfold badD
    rw [← eP, ← eV, ← t1, ← t2, ← t3, ← t4, beq_iff_eq, beq_iff_eq, List.isEmpty_iff, ← Bool.not_eq_true, List.isEmpty_iff])
  have HFL := Lib.hid (fun (W : World) (hb : Below w.heap.size w W) => (tfail_c W k0 t0 s m0 x0 q 16).mono (R' := fun e w' => Boom6 q 16 e ∧ KpD pb w w' ∧ Below w0.heap.size w0 w') (fun e w' hh => ⟨hh.1, KpD.of_below (hb.trans (hh.2.mono hb.size)), h.ps.bel.trans ((hb.trans (hh.2.mono hb.size)).mono h.ps.bel.size)⟩))
  unfold DclE
  have HA := Lib.hid (hb2.trans ((box_belT _ (.cells #[.string P, .string V] 126)).mono hb2.size))
  have HNB := Lib.hid (show (((w.alloc (.cells #[k0, t0, s, m0, x0, .int .i64 (q : Nat)] 69)).alloc (.cells #[.string P, .string V] 126)).alloc (.cells #[.string P, .string V] 126)).heap[w.heap.size + 1 + 1]? = some (.cells #[.string P, .string V] 126 (0, 0)) from by
    have h9 := heap_alloc_new ((w.alloc (.cells #[k0, t0, s, m0, x0, .int .i64 (q : Nat)] 69)).alloc (.cells #[.string P, .string V] 126)) (.cells #[.string P, .string V] 126)
    rw [World.size_alloc, World.size_alloc] at h9
    exact h9)
  clear h hb2 eP eV
  by_cases hbad : b1 = true ∨ b2 = true ∨ (b3 = false ∧ b4 = true)
  · suffices hs : Calls Tryz.prog 89 #[.pointer (some ⟨pb, 0, none⟩), .agg #[k0, t0, s, m0, x0, .int .i64 (q : Nat)], .agg #[.string P, .string V]] w (fun e w' => Boom6 q 16 e ∧ KpD pb w w' ∧ Below w0.heap.size w0 w') from hs.mono fun e w' hh => by rw [if_pos (HBD.out.2 hbad)]; exact hh
    have HBA := Lib.hid hbad
    clear hbad
    cases b1 with
    | true =>
      go_enter Tryz.func89, Tryz.ntmps89
      go_wp2_with (go_at_call 33; refine (HFL.out _ HB2.out).mono ?_; rintro e w1 ⟨he, hk⟩; unfold Boom6 at he; subst he; have HK := Lib.hid hk; clear hk)
      exact ⟨rfl, rfl, HK.out⟩
    | false =>
      cases b2 with
      | true =>
        go_enter Tryz.func89, Tryz.ntmps89
        go_wp2_with (go_at_call 33; refine (HFL.out _ HB2.out).mono ?_; rintro e w1 ⟨he, hk⟩; unfold Boom6 at he; subst he; have HK := Lib.hid hk; clear hk)
        exact ⟨rfl, rfl, HK.out⟩
      | false =>
        obtain ⟨rfl, rfl⟩ : b3 = false ∧ b4 = true := by simpa using HBA.out
        go_enter Tryz.func89, Tryz.ntmps89
        go_wp2_with (go_at_call 33; refine (HFL.out _ HB2.out).mono ?_; rintro e w1 ⟨he, hk⟩; unfold Boom6 at he; subst he; have HK := Lib.hid hk; clear hk)
        exact ⟨rfl, rfl, HK.out⟩
  · suffices hs : Calls Tryz.prog 89 #[.pointer (some ⟨pb, 0, none⟩), .agg #[k0, t0, s, m0, x0, .int .i64 (q : Nat)], .agg #[.string P, .string V]] w (fun e w' => e = .returned (.tuple #[]) ∧ (∃ sv', PX w0 pb bv sv' (L ++ [(P.data.toList, V.data.toList)]) a w') ∧ KpD pb w w') from hs.mono fun e w' hh => by rw [if_neg (fun hh => hbad (HBD.out.1 hh))]; exact hh
    obtain ⟨rfl, rfl, h34⟩ : b1 = false ∧ b2 = false ∧ (b3 = true ∨ b4 = false) := by cases b1 <;> cases b2 <;> cases b3 <;> cases b4 <;> simp_all
    have H34 := Lib.hid h34
    clear hbad h34
    have hall : (b3 = true) ∨ (b3 = false ∧ b4 = false) := by have := H34.out; cases b3 <;> cases b4 <;> simp_all
    have hpl1 : pb < w.heap.size + 1 := by omega
    have hpl2 : pb < w.heap.size + 1 + 1 := by omega
    rcases hall with rfl | ⟨rfl, rfl⟩
    all_goals
      go_enter Tryz.func89, Tryz.ntmps89
      go_wp2_with fail
      go_region_law (first
        | (refine step_append_lies _ (by rfl) _ _ 43 (by rfl) w0.heap.size 126 i0 (.agg #[.string ⟨#[]⟩, .string ⟨#[]⟩]) 2 32 Tryz.underlying43 hi hz0 hz1 hz2 rfl (by omega) (.slice pv L.length cv) L.length (dcells L) (by rfl) (rowT_below HX.out.own (by first | exact HA.out | exact HA.out.drew | exact Go.below_drewN HA.out _)) ⟨w.heap.size + 1 + 1, 0, none⟩ 1 1 [.string P, .string V] (by rfl) (by simp) (World.news_of_block HNB.out) (by simp [Value.oneCell']) (by omega) (by unfold maxLen; omega) (by omega) (by have := HX.out.ps.bel.size; simp; omega) (w.heap.size + 3) (by simp) ?_
           intro g6 cap6 w6 hown6 hgrow6 hat6 hlt6
           have hpu := (HX.out.below (show Below w.heap.size w _ from by first | exact HA.out | exact HA.out.drew | exact Go.below_drewN HA.out _)).push P V hgrow6 hown6 rfl
           have HPU := Lib.hid (show (∃ sv', PX w0 pb bv sv' (L ++ [(P.data.toList, V.data.toList)]) a (w6.setCell ⟨pb, 2, none⟩ (.slice (some ⟨g6, 0, none⟩) (L.length + 1) cap6))) ∧ KpD pb w (w6.setCell ⟨pb, 2, none⟩ (.slice (some ⟨g6, 0, none⟩) (L.length + 1) cap6)) from ⟨⟨_, hpu.1⟩, (KpD.of_below (by first | exact HA.out | exact HA.out.drew | exact Go.below_drewN HA.out _)).trans hpu.2.1⟩)
           obtain ⟨y0, y1, y2, yz⟩ := cellsP3 hpu.2.2
           clear hown6 hgrow6 hat6 hlt6 hpu)
        | fail "no arm")
      all_goals
        go_wp2_with fail
        refine bodyPost_end (results_none rfl _ _ _) rfl ?_
        exact ⟨rfl, HPU.out.1, HPU.out.2⟩
end Go.Proofs.YtpcajjbdlfookaaGreatDoor

/- xmltree: space: what a prefix names. -/
namespace Go.Proofs.YtpcajjbdlfookaaGreatDoor
open Go Go.RowKit Go.Deep Go.Shelf
set_option linter.unusedVariables false
set_option linter.unusedSimpArgs false

theorem PX.decl {w0 w : World} {pb : Nat} {bv sv : Value} {L : BS} {a : Nat} (h : PX w0 pb bv sv L a w) {k : Nat} (hk : k < L.length) : ∃ b c, sv = .slice (some ⟨b, 0, none⟩) L.length c ∧ L.length ≤ c ∧ c ≤ maxLen ∧ b < w.heap.size ∧ w.cell? ⟨b, k * 2, none⟩ = some (.string (ba L[k].1)) ∧ w.cell? ⟨b, k * 2 + 1, none⟩ = some (.string (ba L[k].2)) := by
  have ho := OwnS.ofRow h.own
  obtain ⟨p, c, hv, h1, h2, h3⟩ := ho.form
  rcases h.own.2 with ⟨_, h0⟩ | ⟨g, cap, cur, hv2, hbg, hg, _⟩
  · omega
  · rw [hv] at hv2
    cases hv2
    have hf : ∀ j, j < 2 → (dcells L)[k * 2 + j]? = [Value.string (ba L[k].1), Value.string (ba L[k].2)][j]? := fun j hj => flat_at (f := fun d : List UInt8 × List UInt8 => [Value.string (ba d.1), Value.string (ba d.2)]) (fun x => rfl) L k j hk hj
    have c0 := ho.cell hv (k * 2 + 0) _ (hf 0 (by omega))
    have c1 := ho.cell hv (k * 2 + 1) _ (hf 1 (by omega))
    refine ⟨g, c, hv, h1, h2, (Array.getElem?_eq_some_iff.1 hg).1, ?_, ?_⟩
    · simpa using c0
    · simpa using c1
theorem fndB_hit {L : BS} {k : Nat} {p : List UInt8} (hk : k < L.length) (h : L[k].1 = p) : fndB L (k + 1) p = some L[k].2 := by
  simp [fndB, hk, h]
theorem fndB_miss {L : BS} {k : Nat} {p : List UInt8} (hk : k < L.length) (h : L[k].1 ≠ p) : fndB L (k + 1) p = fndB L k p := by
  simp [fndB, hk, h]
def SpE (w : World) (q : Nat) (R : Option (List UInt8)) (e : Ending) (w' : World) : Prop := (match R with
  | none => Boom6 q 16 e
  | some s => e = .returned (.string (ba s))) ∧ Below w.heap.size w w'
set_option maxRecDepth 100000 in
set_option maxHeartbeats 4000000 in
theorem space_c' {w0 w : World} {pb : Nat} {bv sv : Value} {L : BS} {a : Nat} (h : PX w0 pb bv sv L a w) (hL : L.length ≤ 1000000) (k0 t0 s m0 x0 : Value) (q : Nat) (P : ByteArray) :
    Calls Tryz.prog 91 #[.pointer (some ⟨pb, 0, none⟩), .agg #[k0, t0, s, m0, x0, .int .i64 (q : Nat)], .string P] w (SpE w q (spcM L P.data.toList)) := by
  have HZ := Lib.hid (box_belT w (.cells #[k0, t0, s, m0, x0, .int .i64 (q : Nat)] 69))
  have HX := Lib.hid h
  have hpl := h.ps.lt
  obtain ⟨pv, cv, rfl⟩ := h.form
  obtain ⟨y0, y1, y2, yz⟩ := cellsP3 h.ps.box
  have eP : P.toList = P.data.toList := ByteArray.toList_eq _
  obtain ⟨N, hN⟩ : ∃ N, N = L.length := ⟨_, rfl⟩
  have HN := Lib.hid hN
  rw [← hN] at y2 hL
  by_cases h1 : P.data.toList = [120, 109, 108]
  · have t1 : (P.toList == [120, 109, 108]) = true := by rw [eP, h1]; decide
    have HR := Lib.hid (show spcM L P.data.toList = some nsX from if_pos h1)
    clear h eP h1 hN
    go_enter Tryz.func91, Tryz.ntmps91
    go_wp2_with fail
    go_ret
    rw [HR.out]
    exact ⟨rfl, HZ.out⟩
  have t1 : (P.toList == [120, 109, 108]) = false := by rw [eP, beq_eq_false_iff_ne]; exact h1
  have HR := Lib.hid (show spcM L P.data.toList = match fndB L L.length P.data.toList with | some s => some s | none => if P.data.toList = [] then some [] else none from if_neg h1)
  have HEP := Lib.hid eP
  have hw1 : IntKind.i64.wrap ((N : Int) - 1) = (N : Int) - 1 := by rw [IntKind.wrap_i64]; omega
  clear h eP h1 hN
  go_enter Tryz.func91, Tryz.ntmps91
  go_wp2_with fail
  go_loopw [7] (fun i wr => ∃ k : Nat, k ≤ N ∧ i = .int .i64 ((k : Int) - 1) ∧ Hid (fndB L L.length P.data.toList = fndB L k P.data.toList) ∧ wr = w.alloc (.cells #[k0, t0, s, m0, x0, .int .i64 (q : Nat)] 69)) (fun i _ => (intOf i + 1).toNat)
  case atStart => exact ⟨N, by omega, rfl, Lib.hid (by rw [HN.out]), rfl⟩
  case round =>
    obtain ⟨k, hk, rfl, HF, rfl⟩ := hrel
    by_cases hlt : 0 < k
    · obtain ⟨k, rfl⟩ : ∃ k', k = k' + 1 := ⟨k - 1, by omega⟩
      have hkl : k < L.length := by rw [← HN.out]; omega
      obtain ⟨b, c, hv, hcl, hcm, hbl, g0, g1⟩ := HX.out.decl hkl
      rw [← HN.out] at hv
      cases hv
      have hb0 : b < w.heap.size := hbl
      have e1 : ((k + 1 : Nat) : Int) - 1 = (k : Int) := by omega
      have hge : decide ((0 : Int) ≤ (k : Int)) = true := decide_eq_true (by omega)
      have HHIT := Lib.hid (fun hh => fndB_hit (p := P.data.toList) hkl hh)
      have HMIS := Lib.hid (fun hh => fndB_miss (p := P.data.toList) hkl hh)
      rw [e1]
      obtain ⟨x, hx⟩ : ∃ x, L[k] = x := ⟨_, rfl⟩
      rw [hx] at g0 g1 HHIT HMIS
      obtain ⟨x1, x2⟩ := x
      dsimp only at g0 g1 HHIT HMIS
      obtain ⟨X1, hX1⟩ : ∃ X, X = ba x1 := ⟨_, rfl⟩
      obtain ⟨X2, hX2⟩ : ∃ X, X = ba x2 := ⟨_, rfl⟩
      rw [← hX1] at g0
      rw [← hX2] at g1
      have eX : X1.toList = x1 := by rw [ByteArray.toList_eq, hX1, ba_toList]
      have HX2 := Lib.hid hX2
      have hkN : k < N := by omega
      by_cases heq : x1 = P.data.toList
      · have t2 : (X1.toList == P.toList) = true := by rw [eX, HEP.out, heq]; exact beq_self_eq_true _
        have HE := Lib.hid (show spcM L P.data.toList = some x2 from by rw [HR.out, HF.out, HHIT.out heq])
        clear heq eX hX1 hX2 hx hkl
        go_wp2_with fail
        go_ret
        rw [HE.out]
        exact ⟨by rw [HX2.out]; rfl, HZ.out⟩
      · have t2 : (X1.toList == P.toList) = false := by rw [eX, HEP.out, beq_eq_false_iff_ne]; exact heq
        have HE := Lib.hid (show fndB L L.length P.data.toList = fndB L k P.data.toList from by rw [HF.out, HMIS.out heq])
        clear heq eX hX1 hX2 hx hkl
        have hw2 : IntKind.i64.wrap ((k : Int) - 1) = (k : Int) - 1 := by rw [IntKind.wrap_i64]; omega
        go_wp2_with fail
        go_roundw
        case rel => exact ⟨k, by omega, by go_num, HE, by first | trivial | rfl⟩
        case measure => simp [intOf]
    · obtain rfl : k = 0 := by omega
      have hge : decide ((0 : Int) ≤ ((0 : Nat) : Int) - 1) = false := by decide
      have HF2 := Lib.hid (show spcM L P.data.toList = if P.data.toList = [] then some [] else none from by rw [HR.out, HF.out]; rfl)
      by_cases hp : P.data.toList = []
      · have t3 : P.toList.isEmpty = true := by rw [HEP.out, hp]; rfl
        have HE := Lib.hid (show spcM L P.data.toList = some [] from by rw [HF2.out, if_pos hp])
        clear hp
        go_wp2_with fail
        go_ret
        rw [HE.out]
        exact ⟨rfl, HZ.out⟩
      · have t3 : P.toList.isEmpty = false := by rw [HEP.out, ← Bool.not_eq_true, List.isEmpty_iff]; exact hp
        have HE := Lib.hid (show spcM L P.data.toList = none from by rw [HF2.out, if_neg hp])
        have HFL := Lib.hid (tfail_c (w.alloc (.cells #[k0, t0, s, m0, x0, .int .i64 (q : Nat)] 69)) k0 t0 s m0 x0 q 16)
        clear hp
        go_wp2_with (go_at_call 33; refine (HFL.out).mono ?_; rintro e w1 ⟨he, hb⟩; unfold Boom6 at he; subst he; have HB := Lib.hid (HZ.out.trans (hb.mono HZ.out.size)); clear hb)
        rw [HE.out]
        exact ⟨rfl, rfl, HB.out⟩
end Go.Proofs.YtpcajjbdlfookaaGreatDoor
