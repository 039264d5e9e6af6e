/- xmltree: next, where it reads a token. -/
import Derived.Test.YtpcajjbdlfookaaGreatDoorMw43
import Derived.Test.YtpcajjbdlfookaaGreatDoorMw24
import Derived.Deep.RegionWith
import Derived.Test.YtpcajjbdlfookaaGreatDoorMw27
import Derived.Test.YtpcajjbdlfookaaGreatDoorMw18
namespace Go.Proofs.YtpcajjbdlfookaaGreatDoor
open Go Go.RowKit Go.Deep Go.Shelf
set_option linter.unusedVariables false
set_option linter.unusedSimpArgs false

theorem AtsIs.below {w w' : World} {v : Value} {l : List (List UInt8 × List UInt8)} (h : AtsIs w v l) (hb : Below w.heap.size w w') : AtsIs w' v l := by
  obtain ⟨p, c, hv, h1, h2, h3, h4⟩ := h
  refine ⟨p, c, hv, h1, h2, h3, fun hp => ?_⟩
  obtain ⟨b, o, hbo, hx⟩ := h4 hp
  exact ⟨b, o, hbo, fun j u hu => chg_cell (pb := b + 1) (Chg.of_below hb) (hx j u hu) (by omega)⟩
/-- The parser at a place. -/
structure PS (w0 : World) (pb : Nat) (bv sv : Value) (a : Nat) (w : World) : Prop where
  bel : Below w0.heap.size w0 w
  low : w0.heap.size ≤ pb
  box : w.heap[pb]? = some (.cells #[bv, .int .i64 a, sv] 45 (0, 0))
theorem PS.lt {w0 : World} {pb : Nat} {bv sv : Value} {a : Nat} {w : World} (h : PS w0 pb bv sv a w) : pb < w.heap.size := (Array.getElem?_eq_some_iff.1 h.box).1
theorem PS.below {w0 : World} {pb : Nat} {bv sv : Value} {a : Nat} {w w' : World} (h : PS w0 pb bv sv a w) (hb : Below w.heap.size w w') : PS w0 pb bv sv a w' := ⟨h.bel.trans (hb.mono h.bel.size), h.low, (hb.block _ h.lt).trans h.box⟩
theorem PS.seek {w0 : World} {pb : Nat} {bv sv : Value} {a : Nat} {w : World} (h : PS w0 pb bv sv a w) (k : Nat) : PS w0 pb bv sv k (w.setCell ⟨pb, 1, none⟩ (.int .i64 k)) :=
  ⟨h.bel.setCell (p := ⟨pb, 1, none⟩) h.low _, h.low, by rw [block_set _ _ _ _ _ _ _ h.box]; rfl⟩
theorem cellsP3 {w : World} {b : Nat} {c0 c1 c2 : Value} {T : TypeId} (h : w.heap[b]? = some (.cells #[c0, c1, c2] T (0, 0))) : w.cell? ⟨b, 0, none⟩ = some c0 ∧ w.cell? ⟨b, 1, none⟩ = some c1 ∧ w.cell? ⟨b, 2, none⟩ = some c2 ∧ (∀ o, w.frozen? ⟨b, o, none⟩ = false) := by
  refine ⟨?_, ?_, ?_, fun o => ?_⟩ <;> simp [World.cell?, World.frozen?, h]
theorem AtsIs.away {w w' : World} {v : Value} {l : List (List UInt8 × List UInt8)} {pb : Nat} {p p' : Option Addr} {n n' c c' : Nat} {i : Int} (h : AtsIs w v l) (hb : w.heap[pb]? = some (.cells #[.slice p n c, .int .i64 i, .slice p' n' c'] 45 (0, 0))) (hk : Chg [pb] w w') : AtsIs w' v l := by
  obtain ⟨q, d, e, h1, h2, h3, h4⟩ := h
  refine ⟨q, d, e, h1, h2, h3, fun hp => ?_⟩
  obtain ⟨b, o, hq, hx⟩ := h4 hp
  refine ⟨b, o, hq, fun j u hu => ?_⟩
  have hc := hx j u hu
  have hne : b ≠ pb := by
    rintro rfl
    have hs : ∃ s, u = .string s := by
      have := List.mem_of_getElem? hu
      rw [List.mem_flatMap] at this
      obtain ⟨x, _, hx2⟩ := this
      simp at hx2
      rcases hx2 with h9 | h9 <;> exact ⟨_, h9⟩
    obtain ⟨s, rfl⟩ := hs
    simp only [World.cell?, hb] at hc
    rcases ho : o + j with _ | _ | _ | m
    · simp [ho] at hc
    · simp [ho] at hc
    · simp [ho] at hc
    · simp [ho] at hc
  rw [World.cell?_of_block (hk.block b (World.block_lt_of_cell? w _ hc) (by simpa using hne))]
  exact hc
theorem flat_at0 (l : List (List UInt8 × List UInt8)) (h : 0 < l.length) : (l.flatMap fun x => [Value.string ⟨x.1.toArray⟩, Value.string ⟨x.2.toArray⟩])[0]? = some (strLx l[0].1) := by
  cases l with
  | nil => simp at h
  | cons x r => rfl
theorem flat_at1 (l : List (List UInt8 × List UInt8)) (h : 0 < l.length) : (l.flatMap fun x => [Value.string ⟨x.1.toArray⟩, Value.string ⟨x.2.toArray⟩])[1]? = some (strLx l[0].2) := by
  cases l with
  | nil => simp at h
  | cons x r => rfl
/-- A token's box holds no attributes. -/
theorem AtsIs.tok {w w' : World} {v : Value} {l : List (List UInt8 × List UInt8)} {b0 : Nat} (h : AtsIs w v l) (hb : w.heap[b0]? = some (.cells #[.int .i64 0, .string ⟨#[]⟩, .slice none 0 0, .bool false, .string ⟨#[]⟩, .int .i64 0] 69 (0, 0))) (hk : Chg [b0] w w') : AtsIs w' v l := by
  obtain ⟨q, d, e, h1, h2, h3, h4⟩ := h
  refine ⟨q, d, e, h1, h2, h3, fun hp => ?_⟩
  obtain ⟨b, o, hq, hx⟩ := h4 hp
  refine ⟨b, o, hq, fun j u hu => ?_⟩
  have hc := hx j u hu
  have hne : b ≠ b0 := by
    rintro rfl
    have c0 := hx 0 (strLx l[0].1) (flat_at0 l hp)
    have c1 := hx 1 (strLx l[0].2) (flat_at1 l hp)
    simp only [World.cell?, hb] at c0 c1
    match o, c0, c1 with
    | 0, c0, c1 => simp at c0
    | 1, c0, c1 => simp at c1
    | 2, c0, c1 => simp at c0
    | 3, c0, c1 => simp at c0
    | 4, c0, c1 => simp at c1
    | 5, c0, c1 => simp at c0
    | m + 6, c0, c1 => simp at c0
  rw [World.cell?_of_block (hk.block b (World.block_lt_of_cell? w _ hc) (by simpa using hne))]
  exact hc
theorem infoTok6 : (Tryz.prog.info? 69).map (·.size) = some 6 := by kernel_rfl
abbrev ZTok : Obj := .cells #[.int .i64 0, .string ⟨#[]⟩, .slice none 0 0, .bool false, .string ⟨#[]⟩, .int .i64 0] 69
abbrev put6 (w : World) (b : Nat) (c0 c1 c2 c3 c4 c5 : Value) : World := (((((w.setCell ⟨b, 0, none⟩ c0).setCell ⟨b, 1, none⟩ c1).setCell ⟨b, 2, none⟩ c2).setCell ⟨b, 3, none⟩ c3).setCell ⟨b, 4, none⟩ c4).setCell ⟨b, 5, none⟩ c5
theorem put6_at {w : World} {b : Nat} {z0 z1 z2 z3 z4 z5 : Value} {T : TypeId} (h : w.heap[b]? = some (.cells #[z0, z1, z2, z3, z4, z5] T (0, 0))) (c0 c1 c2 c3 c4 c5 : Value) : (put6 w b c0 c1 c2 c3 c4 c5).heap[b]? = some (.cells #[c0, c1, c2, c3, c4, c5] T (0, 0)) := by
  have h0 : (w.setCell ⟨b, 0, none⟩ c0).heap[b]? = some (.cells #[c0, z1, z2, z3, z4, z5] T (0, 0)) := by rw [block_set _ _ _ _ _ _ _ h]; rfl
  have h1 : ((w.setCell ⟨b, 0, none⟩ c0).setCell ⟨b, 1, none⟩ c1).heap[b]? = some (.cells #[c0, c1, z2, z3, z4, z5] T (0, 0)) := by rw [block_set _ _ _ _ _ _ _ h0]; rfl
  have h2 : (((w.setCell ⟨b, 0, none⟩ c0).setCell ⟨b, 1, none⟩ c1).setCell ⟨b, 2, none⟩ c2).heap[b]? = some (.cells #[c0, c1, c2, z3, z4, z5] T (0, 0)) := by rw [block_set _ _ _ _ _ _ _ h1]; rfl
  have h3 : ((((w.setCell ⟨b, 0, none⟩ c0).setCell ⟨b, 1, none⟩ c1).setCell ⟨b, 2, none⟩ c2).setCell ⟨b, 3, none⟩ c3).heap[b]? = some (.cells #[c0, c1, c2, c3, z4, z5] T (0, 0)) := by rw [block_set _ _ _ _ _ _ _ h2]; rfl
  have h4 : (((((w.setCell ⟨b, 0, none⟩ c0).setCell ⟨b, 1, none⟩ c1).setCell ⟨b, 2, none⟩ c2).setCell ⟨b, 3, none⟩ c3).setCell ⟨b, 4, none⟩ c4).heap[b]? = some (.cells #[c0, c1, c2, c3, c4, z5] T (0, 0)) := by rw [block_set _ _ _ _ _ _ _ h3]; rfl
  rw [block_set _ _ _ _ _ _ _ h4]; rfl
theorem put6_chg (w : World) (b : Nat) (c0 c1 c2 c3 c4 c5 : Value) : Chg [b] w (put6 w b c0 c1 c2 c3 c4 c5) := (((((((Chg.refl [b] w).set' _ _ _ (.inl (by simp))).set' _ _ _ (.inl (by simp))).set' _ _ _ (.inl (by simp))).set' _ _ _ (.inl (by simp))).set' _ _ _ (.inl (by simp))).set' _ _ _ (.inl (by simp)))
/-- A token is handed out. -/
theorem next_end {w0 w w2 : World} {pb : Nat} {p p' ps : Option Addr} {n n' c c' cs : Nat} {a k N : Nat} {t : Tk} (h : PS w0 pb (.slice p n c) (.slice p' n' c') a w) (hb : Below w.heap.size w w2) (hz : w2.heap[w.heap.size]? = some ZTok) (hat : AtsIs w2 (.slice ps t.attrs.length cs) t.attrs) (o : Obj) (q : Nat) (S1 S2 : ByteArray) (hN : N = t.attrs.length) :
    ((put6 (w2.setCell ⟨pb, 1, none⟩ (.int .i64 k)) w.heap.size (.int .i64 (t.kind : Nat)) (.string S1) (.slice ps N cs) (.bool t.empty) (.string S2) (.int .i64 (q : Nat))).alloc o).heap[w.heap.size]? = some (.cells #[.int .i64 (t.kind : Nat), .string S1, .slice ps N cs, .bool t.empty, .string S2, .int .i64 (q : Nat)] 69 (0, 0)) ∧
    AtsIs ((put6 (w2.setCell ⟨pb, 1, none⟩ (.int .i64 k)) w.heap.size (.int .i64 (t.kind : Nat)) (.string S1) (.slice ps N cs) (.bool t.empty) (.string S2) (.int .i64 (q : Nat))).alloc o) (.slice ps N cs) t.attrs ∧
    PS w0 pb (.slice p n c) (.slice p' n' c') k ((put6 (w2.setCell ⟨pb, 1, none⟩ (.int .i64 k)) w.heap.size (.int .i64 (t.kind : Nat)) (.string S1) (.slice ps N cs) (.bool t.empty) (.string S2) (.int .i64 (q : Nat))).alloc o) ∧
    Chg [pb] w ((put6 (w2.setCell ⟨pb, 1, none⟩ (.int .i64 k)) w.heap.size (.int .i64 (t.kind : Nat)) (.string S1) (.slice ps N cs) (.bool t.empty) (.string S2) (.int .i64 (q : Nat))).alloc o) := by
  subst hN
  have hpl := h.lt
  have hzl : w.heap.size < w2.heap.size := (Array.getElem?_eq_some_iff.1 hz).1
  have h2 := h.below hb
  have h3 := h2.seek k
  have hz2 : (w2.setCell ⟨pb, 1, none⟩ (.int .i64 k)).heap[w.heap.size]? = some ZTok := by
    rw [Below.heap_setCell _ _ _ _ (by simp; omega)]
    exact hz
  have hc := put6_chg (w2.setCell ⟨pb, 1, none⟩ (.int .i64 k)) w.heap.size (.int .i64 (t.kind : Nat)) (.string S1) (.slice ps t.attrs.length cs) (.bool t.empty) (.string S2) (.int .i64 (q : Nat))
  have hba := box_belT (put6 (w2.setCell ⟨pb, 1, none⟩ (.int .i64 k)) w.heap.size (.int .i64 (t.kind : Nat)) (.string S1) (.slice ps t.attrs.length cs) (.bool t.empty) (.string S2) (.int .i64 (q : Nat))) o
  have hat6 := put6_at hz2 (.int .i64 (t.kind : Nat)) (.string S1) (.slice ps t.attrs.length cs) (.bool t.empty) (.string S2) (.int .i64 (q : Nat))
  have hpz : pb ≠ w.heap.size := by omega
  refine ⟨(hba.block _ (Array.getElem?_eq_some_iff.1 hat6).1).trans hat6, ?_, ?_, ?_⟩
  · have a2 := hat.away h2.box ((Chg.refl [pb] _).set' pb 1 (.int .i64 k) (.inl (by simp)))
    exact (a2.tok hz2 hc).below hba
  · have h4 : PS w0 pb (.slice p n c) (.slice p' n' c') k (put6 (w2.setCell ⟨pb, 1, none⟩ (.int .i64 k)) w.heap.size (.int .i64 (t.kind : Nat)) (.string S1) (.slice ps t.attrs.length cs) (.bool t.empty) (.string S2) (.int .i64 (q : Nat))) :=
      ⟨h3.bel.trans (hc.below (B := w0.heap.size) h3.bel.size (fun i hi => by simp at hi; subst hi; exact h.bel.size)), h.low, (hc.block pb h3.lt (by simpa using hpz)).trans h3.box⟩
    exact h4.below hba
  · exact ((((Chg.of_below (S := [pb]) hb).set' pb 1 _ (.inl (by simp))).then hc (fun i hi => by simp at hi; subst hi; exact .inr (Nat.le_refl _))).alloc' o)
/-- How next ends, where it reads a token. -/
def NxtE (w0 w : World) (pb : Nat) (bv sv : Value) (t : Tk) (k a : Nat) (e : Ending) (w' : World) : Prop :=
  ∃ s, e = .returned (.agg #[.int .i64 (t.kind : Nat), .string ⟨t.name.toArray⟩, s, .bool t.empty, .string ⟨t.text.toArray⟩, .int .i64 (a : Nat)]) ∧ AtsIs w' s t.attrs ∧ PS w0 pb bv sv k w' ∧ Chg [pb] w w'
set_option maxRecDepth 100000 in
set_option maxHeartbeats 4000000 in
theorem pnext_c {w0 w : World} (hw0 : BW w0) {pb : Nat} {p p' : Option Addr} {n n' c c' : Nat} {xs : List UInt8} {a k q r : Nat} {t : Tk} (hr : Rd w0 (.slice p n c) xs) (hl : xs.length ≤ 1048576) (h : PS w0 pb (.slice p n c) (.slice p' n' c') a w)
    (hs : skA insP xs a = (q, r)) (hn : nxt insP opnP cloP xs q = (t, k, 0)) :
    Calls Tryz.prog 30 #[.pointer (some ⟨pb, 0, none⟩)] w (NxtE w0 w pb (.slice p n c) (.slice p' n' c') t k q) := by
  have hz : Below w.heap.size w (w.alloc ZTok) := box_belT w ZTok
  have hzw : ∀ W, Below (w.alloc ZTok).heap.size (w.alloc ZTok) W → Below w.heap.size w W := fun W hb => hz.trans (hb.mono hz.size)
  have HZW := Lib.hid hzw
  have HSK := Lib.hid (fun (W : World) (hb : Below (w.alloc ZTok).heap.size (w.alloc ZTok) W) => xskip_c ((hw0.below h.bel).below (hzw W hb)) ((hr.below h.bel).below (hzw W hb)) hl (a : Int))
  have HNX := Lib.hid (fun (W : World) (hb : Below (w.alloc ZTok).heap.size (w.alloc ZTok) W) => next_c ((hw0.below h.bel).below (hzw W hb)) ((hr.below h.bel).below (hzw W hb)) hl (q : Int))
  rw [hs] at HSK
  rw [hn] at HNX
  have HSK2 := Lib.hid (fun (W : World) (hb : Below (w.alloc ZTok).heap.size (w.alloc ZTok) W) => (HSK.out W hb).mono (R' := fun e w' => e = Ending.returned (.tuple #[.int .i64 (q : Nat), .int .i64 (r : Nat)]) ∧ Below (w.alloc ZTok).heap.size (w.alloc ZTok) w') (fun e w' hh => show e = Ending.returned (.tuple #[.int .i64 (q : Nat), .int .i64 (r : Nat)]) ∧ Below (w.alloc ZTok).heap.size (w.alloc ZTok) w' from ⟨hh.1, hb.trans (hh.2.mono hb.size)⟩))
  have HP := Lib.hid h
  have HZ := Lib.hid (Below.refl (w.alloc ZTok).heap.size (w.alloc ZTok))
  have hpl := h.lt
  obtain ⟨x0, x1, x2, xz⟩ := cellsP3 ((hz.block _ hpl).trans h.box)
  obtain ⟨S1, hS1⟩ : ∃ S1, S1 = (⟨t.name.toArray⟩ : ByteArray) := ⟨_, rfl⟩
  obtain ⟨S2, hS2⟩ : ∃ S2, S2 = (⟨t.text.toArray⟩ : ByteArray) := ⟨_, rfl⟩
  have HN1 := Lib.hid hS1
  have HN2 := Lib.hid hS2
  clear hw0 hr hl h hs hn hz hS1 hS2 hzw
  go_enter Tryz.func30, Tryz.ntmps30
  go_wp2_with fail
  go_region_with (go_at_call 59; refine (HSK2.out _ (by first | exact HZ.out | exact HZ.out.drew | exact Go.below_drewN HZ.out _)).mono ?_; rintro e w1 ⟨rfl, hb1⟩; have HB1 := Lib.hid hb1; obtain ⟨y0, y1, y2, yz⟩ := cellsP3 (((HZW.out _ hb1).block _ hpl).trans HP.out.box); clear hb1)
  all_goals
    clear x0 x1 x2 xz
    go_wp2_with fail
    refine (HNX.out _ (by first | exact HB1.out | exact HB1.out.drew | exact Go.below_drewN HB1.out _)).mono ?_
    rintro e w2 ⟨v, rfl, ⟨s, rfl, hat⟩, hb2, hkl⟩
    have hb2' : Below w1.heap.size w1 w2 := ⟨hb2.os, hb2.tape, hb2.output, hb2.size, hb2.block⟩
    have hb3 := HB1.out.trans (hb2'.mono HB1.out.size)
    obtain ⟨ps, cs, hsv, -⟩ := hat.form
    have HAT := Lib.hid hat
    have HB3 := Lib.hid (HZW.out _ hb3)
    clear y0 y1 y2 yz hb2 hb2' hkl hat
    subst hsv
    dsimp only at HAT
    obtain ⟨N, hN⟩ : ∃ N, N = t.attrs.length := ⟨_, rfl⟩
    have HN := Lib.hid hN
    rw [← hN] at HAT
    dsimp only
    rw [← HN1.out, ← HN2.out, ← hN]
    obtain ⟨y0, y1, y2, yz⟩ := cellsP3 (((HZW.out _ hb3).block _ hpl).trans HP.out.box)
    have hzz : w2.heap[w.heap.size]? = some ZTok := (hb3.block _ (by simp)).trans (heap_alloc_new w ZTok)
    have hzl : w.heap.size < w2.heap.size := (Array.getElem?_eq_some_iff.1 hzz).1
    have hpl2 : pb < w2.heap.size := by omega
    have HEND := Lib.hid (next_end (t := t) (k := k) HP.out HB3.out hzz (by have h9 := HAT.out; rw [HN.out] at h9; exact h9) (.cells #[.int .i64 (t.kind : Nat), .string S1, .slice ps N cs, .bool t.empty, .string S2] 52) q S1 S2 HN.out)
    obtain ⟨z0, z1, z2, z3, z4, z5, zz⟩ := cellsE6 hzz
    clear hb3 hN hzz
    go_wp2_with fail
    refine bodyPost_ret (results_cell_row Tryz.results30 _ _ w.heap.size 69 _ (0, 0) _ rfl HEND.out.1 Tryz.underlying69 rfl infoTok6) rfl ?_
    exact ⟨_, by rw [HN1.out, HN2.out], HEND.out.2.1, HEND.out.2.2.1, HEND.out.2.2.2⟩
end Go.Proofs.YtpcajjbdlfookaaGreatDoor

/- xmltree: clone: a copy with memory of its own. -/
namespace Go.Proofs.YtpcajjbdlfookaaGreatDoor
open Go Go.RowKit Go.Deep
set_option linter.unusedVariables false
set_option linter.unusedSimpArgs false

theorem ecells_set : ∀ (L : List EV) (k : Nat) (hk : k < L.length) (x : EV), (((((ecells L).set (k * 5) (.string x.1.space)).set (k * 5 + 1) (.string x.1.name)).set (k * 5 + 2) x.2.1).set (k * 5 + 3) x.2.2).set (k * 5 + 4) (.string x.1.text) = ecells (L.set k x)
  | [], k, hk, x => by simp at hk
  | y :: t, 0, hk, x => rfl
  | y :: t, k + 1, hk, x => by
    have ih := ecells_set t k (by simpa using hk) x
    have e : ecells (y :: t) = .string y.1.space :: .string y.1.name :: y.2.1 :: y.2.2 :: .string y.1.text :: ecells t := rfl
    have e2 : ecells ((y :: t).set (k + 1) x) = .string y.1.space :: .string y.1.name :: y.2.1 :: y.2.2 :: .string y.1.text :: ecells (t.set k x) := rfl
    rw [e2, ← ih, e, show (k + 1) * 5 = k * 5 + 5 by omega, show k * 5 + 5 + 1 = k * 5 + 1 + 5 by omega, show k * 5 + 5 + 2 = k * 5 + 2 + 5 by omega, show k * 5 + 5 + 3 = k * 5 + 3 + 5 by omega, show k * 5 + 5 + 4 = k * 5 + 4 + 5 by omega]
    simp only [List.set_cons_succ]
/-- A store of a whole element into a row. -/
abbrev putE (w : World) (g o : Nat) (c0 c1 c2 c3 c4 : Value) : World := ((((w.setCell ⟨g, o, none⟩ c0).setCell ⟨g, o + 1, none⟩ c1).setCell ⟨g, o + 2, none⟩ c2).setCell ⟨g, o + 3, none⟩ c3).setCell ⟨g, o + 4, none⟩ c4
theorem Own1.put {w : World} {g off n c : Nat} {E : TypeId} {L : List EV} (h : Own1 w g off E n 5 c (ecells L)) (k : Nat) (hk : k < L.length) (x : EV) : Own1 (putE w g (off + k * 5) (.string x.1.space) (.string x.1.name) x.2.1 x.2.2 (.string x.1.text)) g off E n 5 c (ecells (L.set k x)) := by
  have hl : (ecells L).length = L.length * 5 := flat_len ecell_len L
  have h1 := h.set (k * 5) (by omega) (.string x.1.space)
  have h2 := h1.set (k * 5 + 1) (by simp only [List.length_set]; omega) (.string x.1.name)
  have h3 := h2.set (k * 5 + 2) (by simp only [List.length_set]; omega) x.2.1
  have h4 := h3.set (k * 5 + 3) (by simp only [List.length_set]; omega) x.2.2
  have h5 := h4.set (k * 5 + 4) (by simp only [List.length_set]; omega) (.string x.1.text)
  rw [ecells_set L k hk x] at h5
  exact h5
theorem putE_chg (w : World) (g o : Nat) (c0 c1 c2 c3 c4 : Value) : Chg [g] w (putE w g o c0 c1 c2 c3 c4) := ((((((Chg.refl [g] w).set' _ _ _ (.inl (by simp))).set' _ _ _ (.inl (by simp))).set' _ _ _ (.inl (by simp))).set' _ _ _ (.inl (by simp))).set' _ _ _ (.inl (by simp)))
theorem KidsD.ofOwn1 {ok : Nat → Prop} {w : World} {d g off c n : Nat} {L : List EV} (h : Own1 w g off 27 n 5 c (ecells L)) (hn : n = L.length) (hok : ok g) (hk : KidsV ok w d L) : KidsD ok w (d + 1) (.slice (some ⟨g, off, none⟩) n c) (L.map (·.1)) := by
  subst hn
  have h' := h
  obtain ⟨cur, hg, hl, h1, h2, hx⟩ := h
  refine ⟨_, c, by rw [List.length_map], by rw [List.length_map]; exact h1, h2, by simp, fun hp => ?_⟩
  refine ⟨g, off, rfl, (Array.getElem?_eq_some_iff.1 hg).1, hok, fun k hk2 => ?_⟩
  rw [List.length_map] at hk2
  have hc := fun j (hj : j < 5) u (hu : (ecell L[k])[j]? = some u) => h'.cell (k * 5 + j) u (by unfold ecells; rw [flat_at ecell_len L k j hk2 hj]; exact hu)
  obtain ⟨hp1, hk1⟩ := hk _ (List.getElem_mem hk2)
  rw [List.getElem_map]
  exact ⟨L[k].2.1, L[k].2.2, ⟨hc 0 (by omega) _ rfl, by rw [Nat.add_assoc]; exact hc 1 (by omega) _ rfl, by rw [Nat.add_assoc]; exact hc 2 (by omega) _ rfl, by rw [Nat.add_assoc]; exact hc 3 (by omega) _ rfl, by rw [Nat.add_assoc]; exact hc 4 (by omega) _ rfl⟩, hp1, hk1⟩
theorem infoE5 : (Tryz.prog.info? 27).map (·.size) = some 5 := by kernel_rfl
abbrev ZE : Obj := .cells #[.string ⟨#[]⟩, .string ⟨#[]⟩, .slice none 0 0, .slice none 0 0, .string ⟨#[]⟩] 27
/-- Blocks that neither the two boxes nor the row are. -/
def okC (ok : Nat → Prop) (B g : Nat) : Nat → Prop := fun b => ok b ∧ b ≠ B ∧ b ≠ B + 1 ∧ b ≠ g
/-- While the kids are copied. -/
def ClI (ok : Nat → Prop) (w : World) (S1 S2 S3 : ByteArray) (p1 : Option Addr) (N c1 g off M c2 d : Nat) (la : List PT) (lk : List ET) (wr : World) : Prop :=
  ∃ L : List EV, L.map (·.1) = lk ∧ Own1 wr g off 27 M 5 c2 (ecells L) ∧ KidsV (okC ok w.heap.size g) wr d L ∧ wr.heap[w.heap.size]? = some (.cells #[.string S1, .string S2, .slice p1 N c1, .slice (some ⟨g, off, none⟩) M c2, .string S3] 27 (0, 0)) ∧ wr.heap[w.heap.size + 1]? = some ZE ∧ PairsR (okC ok w.heap.size g) wr (.slice p1 N c1) la ∧ Below w.heap.size w wr ∧ w.heap.size + 2 ≤ g
theorem ClI.put {ok : Nat → Prop} {w wr w3 : World} {S1 S2 S3 : ByteArray} {p1 : Option Addr} {N c1 g off M c2 d : Nat} {la : List PT} {lk : List ET} (h : ClI ok w S1 S2 S3 p1 N c1 g off M c2 d la lk wr) (hb3 : Below wr.heap.size wr w3) {k : Nat} {x : ET} (hk : k < lk.length) (hx : lk[k] = x) {av kv : Value} (hE : PairsR (okC ok w.heap.size g) w3 av x.attrs ∧ KidsD (okC ok w.heap.size g) w3 d kv x.kids) :
    ClI ok w S1 S2 S3 p1 N c1 g off M c2 d la lk (putE w3 g (off + k * 5) (.string x.space) (.string x.name) av kv (.string x.text)) := by
  obtain ⟨L, hL, hown, hLV, hx0, hx1, hp, hb, hg⟩ := h
  have hLl : L.length = lk.length := by rw [← hL, List.length_map]
  have hc := putE_chg w3 g (off + k * 5) (.string x.space) (.string x.name) av kv (.string x.text)
  obtain ⟨cur, hgl, _⟩ := id hown
  have hglt := (Array.getElem?_eq_some_iff.1 hgl).1
  have hkeep : ∀ b, okC ok w.heap.size g b → b < w3.heap.size → (putE w3 g (off + k * 5) (.string x.space) (.string x.name) av kv (.string x.text)).heap[b]? = w3.heap[b]? ∧ okC ok w.heap.size g b := fun b ho hl => ⟨hc.block b hl (by simpa using ho.2.2.2), ho⟩
  have hblk : ∀ b, b < wr.heap.size → b ≠ g → (putE w3 g (off + k * 5) (.string x.space) (.string x.name) av kv (.string x.text)).heap[b]? = wr.heap[b]? := fun b hl hn => (hc.block b (Nat.lt_of_lt_of_le hl hb3.size) (by simpa using hn)).trans (hb3.block b hl)
  refine ⟨L.set k (x, av, kv), ?_, (hown.keep (hb3.block g hglt)).put k (by omega) (x, av, kv), ?_, (hblk _ (Array.getElem?_eq_some_iff.1 hx0).1 (by omega)).trans hx0, (hblk _ (Array.getElem?_eq_some_iff.1 hx1).1 (by omega)).trans hx1, (hp.below hb3).keep hc.size hkeep, ?_, hg⟩
  · rw [List.map_set, hL, ← hx]
    exact List.set_getElem_self ..
  · intro y hy
    rcases List.mem_or_eq_of_mem_set hy with h1 | rfl
    · have := (hLV.below hb3).keep hc.size hkeep
      exact this y h1
    · exact ⟨hE.1.keep hc.size hkeep, hE.2.keep hc.size hkeep⟩
  · exact ((Chg.of_below (S := []) (hb.trans (hb3.mono hb.size))).then hc (fun i hi => by simp at hi; subst hi; exact .inr (by omega))).below (Nat.le_refl _) (by simp)
def okB (ok : Nat → Prop) (B : Nat) : Nat → Prop := fun b => ok b ∧ b ≠ B ∧ b ≠ B + 1
/-- A copy is handed out. -/
theorem clone_end {ok : Nat → Prop} {w wr : World} {d : Nat} {S1 S2 S3 : ByteArray} {p1 p2 : Option Addr} {N c1 M c2 : Nat} {lp : List PT} {lk : List ET} (hx1 : wr.heap[w.heap.size + 1]? = some ZE) (hp : PairsR (okB ok w.heap.size) wr (.slice p1 N c1) lp) (hk : KidsD (okB ok w.heap.size) wr d (.slice p2 M c2) lk) (hb : Below w.heap.size w wr) :
    (put5 wr (w.heap.size + 1) (.string S1) (.string S2) (.slice p1 N c1) (.slice p2 M c2) (.string S3)).heap[w.heap.size + 1]? = some (.cells #[.string S1, .string S2, .slice p1 N c1, .slice p2 M c2, .string S3] 27 (0, 0)) ∧
    ElemD ok (put5 wr (w.heap.size + 1) (.string S1) (.string S2) (.slice p1 N c1) (.slice p2 M c2) (.string S3)) d (.agg #[.string S1, .string S2, .slice p1 N c1, .slice p2 M c2, .string S3]) (.mk S1 S2 lp lk S3) ∧
    Below w.heap.size w (put5 wr (w.heap.size + 1) (.string S1) (.string S2) (.slice p1 N c1) (.slice p2 M c2) (.string S3)) := by
  have hc := put5_chg wr (w.heap.size + 1) (.string S1) (.string S2) (.slice p1 N c1) (.slice p2 M c2) (.string S3)
  have hk1 : ∀ b, okB ok w.heap.size b → b < wr.heap.size → (put5 wr (w.heap.size + 1) (.string S1) (.string S2) (.slice p1 N c1) (.slice p2 M c2) (.string S3)).heap[b]? = wr.heap[b]? ∧ ok b := fun b ho hl => ⟨hc.block b hl (by simpa using ho.2.2), ho.1⟩
  refine ⟨put5_at hx1 _ _ _ _ _, ⟨_, _, rfl, hp.keep hc.size hk1, hk.keep hc.size hk1⟩, ?_⟩
  exact ((Chg.of_below (S := []) hb).then hc (fun i hi => by simp at hi; subst hi; exact .inr (by omega))).below (Nat.le_refl _) (by simp)

end Go.Proofs.YtpcajjbdlfookaaGreatDoor
