/- xmltree: begin. -/
import Derived.Test.YtpcajjbdlfookaaGreatDoorMp21
import Derived.Test.YtpcajjbdlfookaaGreatDoorMp20
namespace Go.Proofs.YtpcajjbdlfookaaGreatDoor
open Go Go.RowKit Go.Deep Go.Shelf
set_option linter.unusedVariables false
set_option linter.unusedSimpArgs false

theorem AtsIs.kp {w w' : World} {v : Value} {l : List (List UInt8 × List UInt8)} {pb : Nat} {cs : Array Value} (h : AtsIs w v l) (hb : w.heap[pb]? = some (.cells cs 45 (0, 0))) (hk : KpD pb w w') : AtsIs w' v l := by
  obtain ⟨q, d, e, h1, h2, h3, h4⟩ := h
  refine ⟨q, d, e, h1, h2, h3, fun hp => ?_⟩
  obtain ⟨b, o, hq, ⟨cs', z, hcs⟩, hx⟩ := h4 hp
  have hne : b ≠ pb := by
    rintro rfl
    rw [hcs] at hb
    simp at hb
  have hcs2 := hk b cs' _ z hne (by decide) hcs
  refine ⟨b, o, hq, ⟨cs', z, hcs2⟩, fun j u hu => ?_⟩
  rw [World.cell?_of_block (hcs2.trans hcs.symm)]
  exact hx j u hu
theorem AtsIs.at2 {w : World} {v : Value} {l : List (List UInt8 × List UInt8)} (h : AtsIs w v l) {k : Nat} (hk : k < l.length) : ∃ b o c, v = .slice (some ⟨b, o, none⟩) l.length c ∧ b < w.heap.size ∧ w.cell? ⟨b, o + k * 2, none⟩ = some (.string (ba l[k].1)) ∧ w.cell? ⟨b, o + k * 2 + 1, none⟩ = some (.string (ba l[k].2)) := by
  obtain ⟨p, c, e, h1, h2, h3, h4⟩ := h
  obtain ⟨b, o, hp, -, hx⟩ := h4 (by omega)
  have hf : ∀ j, j < 2 → (l.flatMap fun x => [Value.string ⟨x.1.toArray⟩, Value.string ⟨x.2.toArray⟩])[k * 2 + j]? = [Value.string ⟨l[k].1.toArray⟩, Value.string ⟨l[k].2.toArray⟩][j]? := fun j hj => flat_at (f := fun x : List UInt8 × List UInt8 => [Value.string ⟨x.1.toArray⟩, Value.string ⟨x.2.toArray⟩]) (fun x => rfl) l k j hk hj
  have c0 := hx (k * 2 + 0) _ (hf 0 (by omega))
  have c1 := hx (k * 2 + 1) _ (hf 1 (by omega))
  exact ⟨b, o, c, by rw [e, hp], World.block_lt_of_cell? w _ c0, c0, by rw [Nat.add_assoc]; exact c1⟩
/-- Blocks of attributes. -/
def okP (w : World) : Nat → Prop := fun b => ∃ cs z, w.heap[b]? = some (.cells cs 58 z)
/-- Blocks of attributes, and of elements from a place on. -/
def okN (N : Nat) (w : World) : Nat → Prop := fun b => ∃ cs T z, w.heap[b]? = some (.cells cs T z) ∧ (T = 58 ∨ (T = 27 ∧ N ≤ b))
theorem okN_kp {N : Nat} {w w' : World} {pb : Nat} {cs : Array Value} (hb : w.heap[pb]? = some (.cells cs 45 (0, 0))) (hk : KpD pb w w') : ∀ b, okN N w b → b < w.heap.size → w'.heap[b]? = w.heap[b]? ∧ okN N w' b := by
  rintro b ⟨cs', T, z, h1, h2⟩ _
  have hne : b ≠ pb := by
    rintro rfl
    rw [h1] at hb
    rcases h2 with rfl | ⟨rfl, _⟩ <;> simp at hb
  have h3 := hk b cs' T z hne (by rcases h2 with rfl | ⟨rfl, _⟩ <;> decide) h1
  exact ⟨h3.trans h1.symm, ⟨cs', T, z, h3, h2⟩⟩
theorem okN_below {N : Nat} {w w' : World} (hb : Below w.heap.size w w') : ∀ b, okN N w b → b < w.heap.size → w'.heap[b]? = w.heap[b]? ∧ okN N w' b := by
  rintro b ⟨cs', T, z, h1, h2⟩ hl
  have h3 := hb.block b hl
  exact ⟨h3, ⟨cs', T, z, h3.trans h1, h2⟩⟩
theorem okN_set {N eb j : Nat} {w : World} {v : Value} (he : eb < N) {cs : Array Value} {z : Nat × Nat} (hb : w.heap[eb]? = some (.cells cs 27 z)) : ∀ b, okN N w b → b < w.heap.size → (w.setCell ⟨eb, j, none⟩ v).heap[b]? = w.heap[b]? ∧ okN N (w.setCell ⟨eb, j, none⟩ v) b := by
  rintro b ⟨cs', T, z', h1, h2⟩ hl
  have hne : b ≠ eb := by
    rintro rfl
    rcases h2 with rfl | ⟨_, h3⟩
    · rw [h1] at hb
      simp at hb
    · omega
  have h3 := Below.heap_setCell w ⟨eb, j, none⟩ v b hne
  exact ⟨h3, ⟨cs', T, z', h3.trans h1, h2⟩⟩
theorem okP_row {w : World} {base n size : Nat} {v : Value} {xs : List Value} (h : w.ownsRow base 58 size v n xs) : ∀ b, v.ownBlock = some b → okP w b := by
  intro b hb
  rcases h.2 with ⟨rfl, _⟩ | ⟨g, cap, cur, rfl, _, hg, _⟩
  · simp [Value.ownBlock] at hb
  · simp [Value.ownBlock] at hb
    subst hb
    exact ⟨_, _, hg⟩
theorem okP_N {N : Nat} {w : World} : ∀ b, okP w b → b < w.heap.size → okN N w b := fun b ⟨cs, z, h⟩ _ => ⟨cs, _, z, h, .inl rfl⟩
theorem okN_mono {N N' : Nat} (hN : N' ≤ N) {w : World} : ∀ b, okN N w b → b < w.heap.size → okN N' w b := fun b ⟨cs, T, z, h, h2⟩ _ => ⟨cs, T, z, h, h2.imp id fun h3 => ⟨h3.1, Nat.le_trans hN h3.2⟩⟩
/-- Attributes in a row that was made. -/
theorem pairs_row {w : World} {base : Nat} {v : Value} {l : List PT} (h : w.ownsRow base 58 3 v l.length (pcells l)) : PairsR (okP w) w v l := by
  obtain ⟨p, c, hv⟩ := rowT_form h
  have ho := OwnS.ofRow h
  obtain ⟨p', c', hv', h1, h2, h3⟩ := ho.form
  refine ⟨p', c', hv', h1, h2, h3, fun hp => ?_⟩
  obtain ⟨a2, c2, e2, g1, g2, g3, g4⟩ := PairsR.ofOwn (ok := Any) ho (fun b _ => trivial)
  rw [hv'] at e2
  cases e2
  obtain ⟨b, o, hb, hlt, _, hx⟩ := g4 hp
  refine ⟨b, o, hb, hlt, okP_row h b ?_, hx⟩
  rw [hv', hb]
  rfl
def BegE (w0 w : World) (pb : Nat) (bv : Value) (a q : Nat) (R : Except Nat (HT × BS)) (e : Ending) (w' : World) : Prop := match R with
  | .error c => Boom6 q c e ∧ KpD pb w w' ∧ Below w0.heap.size w0 w'
  | .ok (h, L') => ∃ av sv', e = .returned (.agg #[.string h.1, .string h.2.1, av, .slice none 0 0, .string ⟨#[]⟩]) ∧ PairsR (okP w') w' av h.2.2 ∧ PX w0 pb bv sv' L' a w' ∧ KpD pb w w'
theorem Chg.below2 {S : List Nat} {B : Nat} {w0 w w' : World} (h : Chg S w w') (hb : Below B w0 w) (hB : B ≤ w.heap.size) (hS : ∀ i ∈ S, B ≤ i) : Below B w0 w' := hb.trans (h.below hB hS)
theorem KpD.thenB {pb B : Nat} {w w1 w2 : World} (h : KpD pb w w1) (hb : Below B w1 w2) (hB : w.heap.size ≤ B) : KpD pb w w2 := fun b cs T z hne hT hx => (hb.block b (Nat.lt_of_lt_of_le (Array.getElem?_eq_some_iff.1 hx).1 hB)).trans (h b cs T z hne hT hx)
/-- While the declarations are read. -/
structure DcI (w0 W0 : World) (pb : Nat) (bv : Value) (a : Nat) (L : BS) (l : List (List UInt8 × List UInt8)) (k : Nat) (wr : World) : Prop where
  st : ∃ sv Lk, PX w0 pb bv sv Lk a wr ∧ declM L l = declM Lk (l.drop k) ∧ Lk.length ≤ L.length + k
  kp : KpD pb W0 wr
theorem declM_skip {L : BS} {l : List (List UInt8 × List UInt8)} {k : Nat} (hk : k < l.length) (h : (dclM l[k].1).2 = false) : declM L (l.drop k) = declM L (l.drop (k + 1)) := by
  rw [List.drop_eq_getElem_cons hk, declM, h, if_neg (by simp)]
theorem declM_bad {L : BS} {l : List (List UInt8 × List UInt8)} {k : Nat} (hk : k < l.length) (h : (dclM l[k].1).2 = true) (hb : badD (dclM l[k].1).1 l[k].2) : declM L (l.drop k) = none := by
  rw [List.drop_eq_getElem_cons hk, declM, h, if_pos rfl, if_pos hb]
theorem declM_push {L : BS} {l : List (List UInt8 × List UInt8)} {k : Nat} (hk : k < l.length) (h : (dclM l[k].1).2 = true) (hb : ¬ badD (dclM l[k].1).1 l[k].2) : declM L (l.drop k) = declM (L ++ [((dclM l[k].1).1, l[k].2)]) (l.drop (k + 1)) := by
  rw [List.drop_eq_getElem_cons hk, declM, h, if_pos rfl, if_neg hb]
theorem pairsM_skip {L : BS} {ps : List PT} {l : List (List UInt8 × List UInt8)} {k : Nat} (hk : k < l.length) (h : (dclM l[k].1).2 = true) : pairsM L ps (l.drop k) = pairsM L ps (l.drop (k + 1)) := by
  rw [List.drop_eq_getElem_cons hk, pairsM, h, if_pos rfl]
theorem pairsM_step {L : BS} {ps : List PT} {l : List (List UInt8 × List UInt8)} {k : Nat} (hk : k < l.length) (h : (dclM l[k].1).2 = false) : pairsM L ps (l.drop k) = match pairM L l[k] with | none => none | some p => pairsM L (ps ++ [p]) (l.drop (k + 1)) := by
  rw [List.drop_eq_getElem_cons hk, pairsM, h, if_neg (by simp)]
  cases pairM L l[k] <;> rfl
/-- While the attributes are read. -/
structure PrI (w0 W0 : World) (pb : Nat) (bv : Value) (a : Nat) (L' : BS) (eb : Nat) (SP NM : ByteArray) (l : List (List UInt8 × List UInt8)) (k : Nat) (sv av : Value) (ps : List PT) (wr : World) : Prop where
  px : PX w0 pb bv sv L' a wr
  kp : KpD pb W0 wr
  box : wr.heap[eb]? = some (.cells #[.string SP, .string NM, av, .slice none 0 0, .string ⟨#[]⟩] 27 (0, 0))
  own : wr.ownsRow W0.heap.size 58 3 av ps.length (pcells ps)
  eq : pairsM L' [] l = pairsM L' ps (l.drop k)
  len : ps.length ≤ k
  hi : W0.heap.size ≤ eb
  lo : w0.heap.size ≤ W0.heap.size
  sz : W0.heap.size ≤ wr.heap.size
theorem PrI.step {w0 W0 wr w' : World} {pb : Nat} {bv : Value} {a : Nat} {L' : BS} {eb : Nat} {SP NM : ByteArray} {l : List (List UInt8 × List UInt8)} {k k' : Nat} {sv av : Value} {ps : List PT} (h : PrI w0 W0 pb bv a L' eb SP NM l k sv av ps wr) (hb : Below wr.heap.size wr w') (hk : k ≤ k') (he : pairsM L' ps (l.drop k) = pairsM L' ps (l.drop k')) : PrI w0 W0 pb bv a L' eb SP NM l k' sv av ps w' :=
  ⟨h.px.below hb, h.kp.trans (KpD.of_below hb), (hb.block _ (Array.getElem?_eq_some_iff.1 h.box).1).trans h.box, rowT_below h.own hb, h.eq.trans he, Nat.le_trans h.len hk, h.hi, h.lo, Nat.le_trans h.sz hb.size⟩
theorem PrI.push {w0 W0 wr w' : World} {pb m : Nat} {bv : Value} {a : Nat} {L' : BS} {eb : Nat} {SP NM : ByteArray} {l : List (List UInt8 × List UInt8)} {k : Nat} {sv av av' : Value} {ps : List PT} (h : PrI w0 W0 pb bv a L' eb SP NM l k sv av ps wr) (p : PT) (hg : wr.grownBy w' av.ownBlock) (ho : w'.ownsRow W0.heap.size 58 3 av' m (pcells ps ++ [.string p.1, .string p.2.1, .string p.2.2])) (hm : m = ps.length + 1) (he : pairsM L' ps (l.drop k) = pairsM L' (ps ++ [p]) (l.drop (k + 1))) :
    PrI w0 W0 pb bv a L' eb SP NM l (k + 1) sv av' (ps ++ [p]) (w'.setCell ⟨eb, 2, none⟩ av') ∧ w'.heap[eb]? = some (.cells #[.string SP, .string NM, av, .slice none 0 0, .string ⟨#[]⟩] 27 (0, 0)) := by
  subst hm
  have hbx : w'.heap[eb]? = some (.cells #[.string SP, .string NM, av, .slice none 0 0, .string ⟨#[]⟩] 27 (0, 0)) := (hg.block eb (Array.getElem?_eq_some_iff.1 h.box).1 (fun e => row_ne h.own h.box (by decide) eb e.symm rfl)).trans h.box
  have hrow := fun g hg => rowT_lt h.own g hg
  have hpe : pb ≠ eb := by
    rintro rfl
    have h1 := h.px.ps.box
    rw [h.box] at h1
    simp at h1
  have hbel : Below w0.heap.size w0 w' := h.px.ps.bel.grown hg h.px.ps.bel.size (fun b e => by
    have := (hrow b e).1
    have h8 := (Array.getElem?_eq_some_iff.1 h.box).1
    have := h.px.ps.bel.size
    have := h.lo
    omega)
  have hpx : w'.heap[pb]? = wr.heap[pb]? := hg.block pb h.px.ps.lt (fun e => row_ne h.own h.px.ps.box (by decide) pb e.symm rfl)
  have hset : ∀ i, i ≠ eb → (w'.setCell ⟨eb, 2, none⟩ av').heap[i]? = w'.heap[i]? := fun i hi => Below.heap_setCell _ _ _ _ hi
  refine ⟨⟨⟨⟨hbel.setCell (p := ⟨eb, 2, none⟩) (by have := h.lo; have := h.hi; show w0.heap.size ≤ eb; omega) _, h.px.ps.low, (hset pb hpe).trans (hpx.trans h.px.ps.box)⟩, rowT_keep h.px.own fun g hg2 => (hset g (row_ne h.px.own h.box (by decide) g hg2)).trans (hg.block g (rowT_lt h.px.own g hg2).2 (fun e => by
    have ha := h.px.own
    rcases h.own.2 with ⟨rfl, _⟩ | ⟨g', cap, cur, rfl, _, hg', _⟩
    · simp [Value.ownBlock] at e
    · simp [Value.ownBlock] at e
      subst e
      exact row_ne ha hg' (by decide) _ hg2 rfl))⟩, ?_, by rw [block_set _ _ _ _ _ _ _ hbx]; rfl, ?_, h.eq.trans he, by rw [List.length_append]; have := h.len; simp; omega, h.hi, h.lo, by have := h.sz; have := hg.size; simp [World.size_setCell]; omega⟩, hbx⟩
  · have h1 : KpD pb W0 w' := h.kp.thenB (B := W0.heap.size) ((Below.refl _ wr).grown hg h.sz (fun b e => (hrow b e).1)) (Nat.le_refl _)
    exact h1.thenB (B := W0.heap.size) ((Below.refl _ w').setCell (p := ⟨eb, 2, none⟩) h.hi av') (Nat.le_refl _)
  · have e : pcells (ps ++ [p]) = pcells ps ++ [.string p.1, .string p.2.1, .string p.2.2] := by
      unfold pcells
      rw [List.flatMap_append]
      rfl
    rw [e, List.length_append]
    exact rowT_keep ho fun g hg2 => hset g (row_ne ho hbx (by decide) g hg2)
set_option maxRecDepth 100000 in
set_option maxHeartbeats 16000000 in
theorem begin_c {w0 w : World} {pb : Nat} {bv sv : Value} {L : BS} {a : Nat} (h : PX w0 pb bv sv L a w) (hL : L.length ≤ 900000) (t : Tk) (q : Nat) (s : Value) (hs : AtsIs w s t.attrs) (hat : t.attrs.length ≤ 201) (hnl : t.name.length ≤ 1048576) (hal : ∀ x ∈ t.attrs, x.1.length ≤ 1048576) :
    Calls Tryz.prog 61 #[.pointer (some ⟨pb, 0, none⟩), tokV6 t s q] w (BegE w0 w pb bv a q (beginM t L)) := by
  obtain ⟨ps0, cs0, hsv, -⟩ := hs.form
  subst hsv
  obtain ⟨N, hN⟩ : ∃ N, N = t.attrs.length := ⟨_, rfl⟩
  obtain ⟨S, hS⟩ : ∃ S : ByteArray, S = ⟨t.name.toArray⟩ := ⟨_, rfl⟩
  obtain ⟨U, hU⟩ : ∃ U : ByteArray, U = ⟨t.text.toArray⟩ := ⟨_, rfl⟩
  obtain ⟨TK, hTK⟩ : ∃ TK : Int, TK = (t.kind : Nat) := ⟨_, rfl⟩
  obtain ⟨TE, hTE⟩ : ∃ TE, TE = t.empty := ⟨_, rfl⟩
  have hSd : S.data.toList = t.name := by rw [hS]
  have hSs : S.size ≤ 140737488355328 := by
    have := size_data S
    rw [hSd] at this
    omega
  have HSP := Lib.hid (fun W => split_c W S hSs)
  rw [hSd] at HSP
  obtain ⟨P, hP⟩ : ∃ P : ByteArray, P = ⟨(splM t.name).1.toArray⟩ := ⟨_, rfl⟩
  obtain ⟨NM, hNM⟩ : ∃ P : ByteArray, P = ⟨(splM t.name).2.toArray⟩ := ⟨_, rfl⟩
  rw [← hP, ← hNM] at HSP
  have HP := Lib.hid (show P.data.toList = (splM t.name).1 from by rw [hP])
  have HNM := Lib.hid (show NM = ba (splM t.name).2 from hNM)
  unfold tokV6
  rw [← hN] at hs ⊢
  rw [← hS, ← hU, ← hTK, ← hTE]
  obtain ⟨W0, hW0⟩ : ∃ W0, W0 = (w.alloc (.cells #[.int .i64 TK, .string S, .slice ps0 N cs0, .bool TE, .string U, .int .i64 (q : Nat)] 69)).alloc ZE := ⟨_, rfl⟩
  have hb2 : Below w.heap.size w W0 := hW0 ▸ (box_belT w _).trans ((box_belT _ ZE).mono (by simp))
  have ht0 : W0.heap[w.heap.size]? = some (.cells #[.int .i64 TK, .string S, .slice ps0 N cs0, .bool TE, .string U, .int .i64 (q : Nat)] 69 (0, 0)) := hW0 ▸ ((box_belT _ ZE).block _ (by simp)).trans (heap_alloc_new w _)
  have hz0 : W0.heap[w.heap.size + 1]? = some ZE := by
    have := heap_alloc_new (w.alloc (.cells #[.int .i64 TK, .string S, .slice ps0 N cs0, .bool TE, .string U, .int .i64 (q : Nat)] 69)) ZE
    rw [World.size_alloc] at this
    rw [hW0]
    exact this
  have hsz0 : W0.heap.size = w.heap.size + 2 := by rw [hW0]; simp
  have HSZ0 := Lib.hid hsz0
  have HT0 := Lib.hid ht0
  have HZ0 := Lib.hid hz0
  have HB2 := Lib.hid hb2
  have HX0 := Lib.hid (h.below hb2)
  have HW0LE := Lib.hid (show w0.heap.size ≤ w.heap.size from h.ps.bel.size)
  have HAT0 := Lib.hid (hs.below hb2)
  have HN := Lib.hid hN
  have HAL := Lib.hid hal
  have HW0 := Lib.hid hW0
  have hpne : w.heap.size ≠ pb := by have := h.ps.lt; omega
  have HTB := Lib.hid (fun (W : World) (hk : KpD pb W0 W) => hk w.heap.size _ _ _ hpne (by decide) ht0)
  have hpne1 : w.heap.size + 1 ≠ pb := by have := h.ps.lt; omega
  have HZB := Lib.hid (fun (W : World) (hk : KpD pb W0 W) => hk (w.heap.size + 1) _ _ _ hpne1 (by decide) hz0)
  have HATB := Lib.hid (fun (W : World) (hk : KpD pb W0 W) => AtsIs.kp (hs.below hb2) (h.below hb2).ps.box hk)
  have HFL := Lib.hid (fun (W : World) (c : Nat) (hk : KpD pb W0 W) (hbl : Below w0.heap.size w0 W) => (tfail_c W (.int .i64 TK) (.string S) (.slice ps0 N cs0) (.bool TE) (.string U) q c).mono (R' := fun e w' => Boom6 q c e ∧ KpD pb w w' ∧ Below w0.heap.size w0 w') (fun e w' hh => ⟨hh.1, (KpD.of_below hb2).trans (hk.trans (KpD.of_below hh.2)), hbl.trans (hh.2.mono hbl.size)⟩))
  have HWR := Lib.hid (written_c W0 (.int .i64 TK) (.string S) (.bool TE) (.string U) (.int .i64 (q : Nat)) (.slice ps0 N cs0) t.attrs (hs.below hb2) (by omega))
  rw [← hN] at HWR
  have hatN : N ≤ 201 := by omega
  obtain ⟨R, hR⟩ : ∃ R, beginM t L = R := ⟨_, rfl⟩
  rw [hR]
  have HR := Lib.hid hR
  obtain ⟨t0, t1, t2, t3, t4, t5, tz⟩ := cellsE6 ht0
  clear hS hSd hSs hU hTK hTE hP hNM hb2 ht0 hz0 hs h hW0 hsz0 hR hal hN
  go_enter Tryz.func61, Tryz.ntmps61
  go_wp2_with fail
  rw [← HW0.out]
  refine (HWR.out).mono ?_
  rintro e w1 ⟨v1, rfl, hown1, hb1⟩
  have hrd := RdS.ofRow (l := t.attrs.map fun a => ba a.1) (by
    rw [List.length_map, ← HN.out, List.map_map]
    exact hown1)
  clear t0 t1 t2 t3 t4 t5 tz
  have HTW := Lib.hid (twiceS_c w1 v1 _ hrd)
  have HB1 := Lib.hid hb1
  obtain ⟨a1, c1, hv1, -⟩ := id hrd
  obtain ⟨M1, hM1⟩ : ∃ M1, M1 = (t.attrs.map fun a => ba a.1).length := ⟨_, rfl⟩
  rw [← hM1] at hv1
  clear hown1 hb1 hrd hM1
  subst hv1
  go_wp2_with fail
  refine HTW.out.mono ?_
  rintro e w2 ⟨htw, hb2⟩
  have HB02 := Lib.hid (HB1.out.trans (hb2.mono HB1.out.size))
  have HK2 := Lib.hid (KpD.of_below (pb := pb) HB02.out)
  obtain ⟨t0, t1, t2, t3, t4, t5, tz⟩ := cellsE6 (HTB.out _ HK2.out)
  clear hb2
  rcases htw with ⟨hd, rfl⟩ | ⟨hd, rfl⟩
  · have HE := Lib.hid (show R = .error 15 from by rw [← HR.out]; unfold beginM; rw [if_pos hd])
    have HF := Lib.hid (HFL.out w2 15 HK2.out ((HX0.out.below HB02.out).ps.bel))
    clear hd
    go_wp2_with (go_at_call 33; refine (HF.out).mono ?_; rintro e w3 ⟨he, hk⟩; unfold Boom6 at he; subst he; have HK := Lib.hid hk; clear hk)
    rw [HE.out]
    exact ⟨rfl, rfl, HK.out⟩
  have HND := Lib.hid (Classical.not_not.1 hd)
  have HI0 := Lib.hid (show DcI w0 W0 pb bv a L t.attrs 0 w2 from ⟨⟨_, L, HX0.out.below HB02.out, by simp, by omega⟩, HK2.out⟩)
  clear hd
  go_wp2_with fail
  clear t0 t1 t2 t3 t4 t5 tz
  go_loopw [25] (fun i wr => ∃ k : Nat, k ≤ N ∧ i = .int .i64 k ∧ Hid (DcI w0 W0 pb bv a L t.attrs k wr)) (fun i _ => N - (intOf i).toNat)
  case atStart => exact ⟨0, by omega, rfl, HI0⟩
  case round =>
    obtain ⟨k, hk, rfl, HI⟩ := hrel
    obtain ⟨sv1, Lk, hx1, hdm, hlk⟩ := HI.out.st
    have HX1 := Lib.hid hx1
    have HDM := Lib.hid hdm
    have htb := HTB.out _ HI.out.kp
    obtain ⟨t0, t1, t2, t3, t4, t5, tz⟩ := cellsE6 htb
    have htl : w.heap.size < wr.heap.size := (Array.getElem?_eq_some_iff.1 htb).1
    clear htb hdm
    by_cases hlt : k < N
    · have hkl : k < t.attrs.length := by rw [← HN.out]; exact hlt
      obtain ⟨b, o, cc, hv2, hbl, e0, e1⟩ := (HATB.out _ HI.out.kp).at2 hkl
      rw [← HN.out] at hv2
      cases hv2
      have HSK := Lib.hid (fun hh => declM_skip (L := Lk) hkl hh)
      have HBD := Lib.hid (fun hh hb => declM_bad (L := Lk) hkl hh hb)
      have HPS := Lib.hid (fun hh hb => declM_push (L := Lk) hkl hh hb)
      obtain ⟨x, hx⟩ : ∃ x, t.attrs[k] = x := ⟨_, rfl⟩
      rw [hx] at e0 e1 HSK HBD HPS
      obtain ⟨x1, x2⟩ := x
      dsimp only at e0 e1 HSK HBD HPS
      obtain ⟨A1, hA1⟩ : ∃ A, A = ba x1 := ⟨_, rfl⟩
      obtain ⟨A2, hA2⟩ : ∃ A, A = ba x2 := ⟨_, rfl⟩
      rw [← hA1] at e0
      rw [← hA2] at e1
      have HD := Lib.hid (fun W => declares_c W A1)
      rw [hA1, ba_toList, ← hA1] at HD
      obtain ⟨P1, hP1⟩ : ∃ P : ByteArray, P = ⟨(dclM x1).1.toArray⟩ := ⟨_, rfl⟩
      obtain ⟨qd, hqd⟩ : ∃ qd, (dclM x1).2 = qd := ⟨_, rfl⟩
      rw [← hP1, hqd] at HD
      rw [hqd] at HSK HBD HPS
      have HWA := Lib.hid (box_belT wr (.cells #[.string A1, .string A2] 114))
      have HKA := Lib.hid (HI.out.kp.trans (KpD.of_below (pb := pb) HWA.out))
      have HDC := Lib.hid (declare_c (hx1.below HWA.out) (by omega) (.int .i64 TK) (.string S) (.slice (some ⟨b, o, none⟩) N cs0) (.bool TE) (.string U) q P1 A2)
      unfold DclE at HDC
      rw [show P1.data.toList = (dclM x1).1 from by rw [hP1], hA2, ba_toList, ← hA2] at HDC
      clear hkl hx hA1 hA2 hP1 hqd hx1
      go_wp2_with fail
      refine (HD.out _).mono ?_
      rintro e w3 ⟨rfl, rfl⟩
      cases qd
      · have HE := Lib.hid (show DcI w0 W0 pb bv a L t.attrs (k + 1) (wr.alloc (.cells #[.string A1, .string A2] 114)) from ⟨⟨_, Lk, HX1.out.below HWA.out, by rw [HDM.out, HSK.out rfl], by omega⟩, HKA.out⟩)
        go_wp2_with fail
        go_roundw
        case rel => exact ⟨k + 1, by omega, by go_num, HE⟩
        case measure => simp [intOf]; omega
      · by_cases hbad : badD (dclM x1).1 x2
        · have HE := Lib.hid (show R = .error 16 from by rw [← HR.out]; unfold beginM; rw [if_neg (Classical.not_not.2 HND.out), HDM.out, HBD.out rfl hbad])
          have HDC2 := Lib.hid (HDC.out.mono (R' := fun e w' => Boom6 q 16 e ∧ KpD pb (wr.alloc (.cells #[.string A1, .string A2] 114)) w' ∧ Below w0.heap.size w0 w') (fun e w' hh => by rw [if_pos hbad] at hh; exact hh))
          clear hbad
          go_wp2_with (go_at_call 89; refine (HDC2.out).mono ?_; rintro e w4 ⟨he, hk4, hb4⟩; unfold Boom6 at he; subst he; have HK := Lib.hid (show KpD pb w w4 ∧ Below w0.heap.size w0 w4 from ⟨(KpD.of_below HB2.out).trans (HKA.out.trans hk4), hb4⟩); clear hk4 hb4)
          rw [HE.out]
          exact ⟨rfl, rfl, HK.out⟩
        · have HDC2 := Lib.hid (HDC.out.mono (R' := fun e w' => e = .returned (.tuple #[]) ∧ (∃ sv', PX w0 pb bv sv' (Lk ++ [((dclM x1).1, x2)]) a w') ∧ KpD pb (wr.alloc (.cells #[.string A1, .string A2] 114)) w') (fun e w' hh => by rw [if_neg hbad] at hh; exact hh))
          have HP2 := Lib.hid (HPS.out rfl hbad)
          clear hbad
          go_wp2_with fail
          refine (HDC2.out).mono ?_
          rintro e w4 ⟨rfl, ⟨sv4, hx4⟩, hk4⟩
          have HE := Lib.hid (show DcI w0 W0 pb bv a L t.attrs (k + 1) w4 from ⟨⟨sv4, _, hx4, by rw [HDM.out, HP2.out], by rw [List.length_append]; simp; omega⟩, HKA.out.trans hk4⟩)
          clear hx4 hk4
          go_wp2_with fail
          go_roundw
          case rel => exact ⟨k + 1, by omega, by go_num, HE⟩
          case measure => simp [intOf]; omega
    · have HDS := Lib.hid (show declM L t.attrs = some Lk from by rw [HDM.out, List.drop_of_length_le (by rw [← HN.out]; omega)]; rfl)
      have HKR := Lib.hid HI.out.kp
      have hlL : Lk.length ≤ 1000000 := by omega
      go_wp2_with fail
      refine (HSP.out _).mono ?_
      rintro e w3 ⟨rfl, hb3⟩
      have HX3 := Lib.hid (HX1.out.below hb3)
      have HK3 := Lib.hid (HKR.out.trans (KpD.of_below hb3))
      clear t0 t1 t2 t3 t4 t5 tz hb3
      have htb3 := HTB.out _ HK3.out
      obtain ⟨t0, t1, t2, t3, t4, t5, tz⟩ := cellsE6 htb3
      have htl3 : w.heap.size < w3.heap.size := (Array.getElem?_eq_some_iff.1 htb3).1
      have HSC := Lib.hid (space_c' HX3.out hlL (.int .i64 TK) (.string S) (.slice ps0 N cs0) (.bool TE) (.string U) q P)
      unfold SpE at HSC
      rw [HP.out] at HSC
      obtain ⟨SR, hSR⟩ : ∃ SR, spcM Lk (splM t.name).1 = SR := ⟨_, rfl⟩
      rw [hSR] at HSC
      have HSR := Lib.hid hSR
      clear htb3 hSR htl
      cases SR with
      | none =>
        have HE := Lib.hid (show R = .error 16 from by rw [← HR.out]; unfold beginM; rw [if_neg (Classical.not_not.2 HND.out), HDS.out]; dsimp only; rw [HSR.out])
        have hRE := HE.out
        clear HR
        subst hRE
        go_wp2_with fail
        refine (HSC.out).mono ?_
        rintro e w4 ⟨he, hb⟩
        try dsimp only at he
        unfold Boom6 at he
        subst he
        exact ⟨rfl, rfl, (KpD.of_below HB2.out).trans (HK3.out.trans (KpD.of_below hb)), HX3.out.ps.bel.trans (hb.mono HX3.out.ps.bel.size)⟩
      | some sp =>
      obtain ⟨SP, hSP⟩ : ∃ SP, SP = ba sp := ⟨_, rfl⟩
      have HSPB := Lib.hid hSP
      dsimp only at HSC
      rw [← hSP] at HSC
      clear hSP
      go_wp2_with fail
      refine (HSC.out).mono ?_
      rintro e w4 ⟨rfl, hb4⟩
      have HX4 := Lib.hid (HX3.out.below hb4)
      have HK4 := Lib.hid (HK3.out.trans (KpD.of_below hb4))
      have hW0le : W0.heap.size ≤ w4.heap.size := by
        have h1 := (Array.getElem?_eq_some_iff.1 (HZB.out _ HK4.out)).1
        have := HSZ0.out
        omega
      have HWE := Lib.hid (box_belT w4 (.cells #[.string SP, .string NM, .slice none 0 0, .slice none 0 0, .string ⟨#[]⟩] 27))
      have HPI0 := Lib.hid (show PrI w0 W0 pb bv a Lk w4.heap.size SP NM t.attrs 0 sv1 (.slice none 0 0) [] (w4.alloc (.cells #[.string SP, .string NM, .slice none 0 0, .slice none 0 0, .string ⟨#[]⟩] 27)) from
        ⟨HX4.out.below HWE.out, HK4.out.trans (KpD.of_below HWE.out), heap_alloc_new w4 _, World.ownsRow_nil _ _ _ _, by simp, by simp, hW0le, HX0.out.ps.bel.size, Nat.le_trans hW0le HWE.out.size⟩)
      clear t0 t1 t2 t3 t4 t5 tz hb4 htl3 hW0le
      have htb4 := HTB.out _ HK4.out
      obtain ⟨t0, t1, t2, t3, t4, t5, tz⟩ := cellsE6 htb4
      have htl4 : w.heap.size < w4.heap.size := (Array.getElem?_eq_some_iff.1 htb4).1
      clear htb4
      go_wp2_with fail
      clear t0 t1 t2 t3 t4 t5 tz
      go_loopw [61] (fun i wr => ∃ (k : Nat) (sv av : Value) (ps : List PT), k ≤ N ∧ i = .int .i64 k ∧ Hid (PrI w0 W0 pb bv a Lk w4.heap.size SP NM t.attrs k sv av ps wr)) (fun i _ => N - (intOf i).toNat)
      case atStart => exact ⟨0, _, _, _, by omega, rfl, HPI0⟩
      case round =>
        obtain ⟨k, sv5, av5, ps5, hk, rfl, HPI⟩ := hrel
        have htb := HTB.out _ HPI.out.kp
        obtain ⟨t0, t1, t2, t3, t4, t5, tz⟩ := cellsE6 htb
        have htl : w.heap.size < wr.heap.size := (Array.getElem?_eq_some_iff.1 htb).1
        obtain ⟨r0, r1, r2, r3, r4, rz⟩ := box5b HPI.out.box (Below.refl _ _)
        have hel : w4.heap.size < wr.heap.size := (Array.getElem?_eq_some_iff.1 HPI.out.box).1
        clear htb
        by_cases hlt : k < N
        · have hkl : k < t.attrs.length := by rw [← HN.out]; exact hlt
          obtain ⟨b, o, cc, hv2, hbl, e0, e1⟩ := (HATB.out _ HPI.out.kp).at2 hkl
          rw [← HN.out] at hv2
          cases hv2
          have HSK := Lib.hid (fun hh => pairsM_skip (L := Lk) (ps := ps5) hkl hh)
          have HST := Lib.hid (fun hh => pairsM_step (L := Lk) (ps := ps5) hkl hh)
          have HLEN := Lib.hid (HAL.out _ (List.getElem_mem hkl))
          obtain ⟨x, hx⟩ : ∃ x, t.attrs[k] = x := ⟨_, rfl⟩
          rw [hx] at e0 e1 HSK HST HLEN
          obtain ⟨x1, x2⟩ := x
          dsimp only at e0 e1 HSK HLEN
          obtain ⟨A1, hA1⟩ : ∃ A, A = ba x1 := ⟨_, rfl⟩
          obtain ⟨A2, hA2⟩ : ∃ A, A = ba x2 := ⟨_, rfl⟩
          rw [← hA1] at e0
          rw [← hA2] at e1
          have HD := Lib.hid (fun W => declares_c W A1)
          rw [hA1, ba_toList, ← hA1] at HD
          obtain ⟨P1, hP1⟩ : ∃ P : ByteArray, P = ⟨(dclM x1).1.toArray⟩ := ⟨_, rfl⟩
          obtain ⟨qd, hqd⟩ : ∃ qd, (dclM x1).2 = qd := ⟨_, rfl⟩
          rw [← hP1, hqd] at HD
          rw [hqd] at HSK HST
          have hA1s : A1.size ≤ 140737488355328 := by
            have h9 := size_data A1
            rw [hA1, ba_toList, ← hA1] at h9
            have := HLEN.out
            omega
          have HWA := Lib.hid (box_belT wr (.cells #[.string A1, .string A2] 114))
          have HPA := Lib.hid (HPI.out.step HWA.out (Nat.le_refl k) rfl)
          have HPC := Lib.hid (fun (W : World) (hb : Below (wr.alloc (.cells #[.string A1, .string A2] 114)).heap.size (wr.alloc (.cells #[.string A1, .string A2] 114)) W) => pair_c (HPA.out.px.below hb) hlL (.int .i64 TK) (.string S) (.slice (some ⟨b, o, none⟩) N cs0) (.bool TE) (.string U) q A1 A2 hA1s)
          unfold PairE at HPC
          rw [show A1.data.toList = x1 from by rw [hA1, ba_toList], show A2.data.toList = x2 from by rw [hA2, ba_toList]] at HPC
          clear hkl hx hA1 hA2 hP1 hqd hA1s
          go_wp2_with fail
          refine (HD.out _).mono ?_
          rintro e w5 ⟨rfl, rfl⟩
          cases qd
          · obtain ⟨PR, hPR⟩ : ∃ PR, pairM Lk (x1, x2) = PR := ⟨_, rfl⟩
            rw [hPR] at HPC
            have HST2 := Lib.hid (HST.out rfl)
            rw [hPR] at HST2
            clear hPR
            cases PR with
            | none =>
              have HE := Lib.hid (show R = .error 16 from by
                rw [← HR.out]; unfold beginM
                rw [if_neg (Classical.not_not.2 HND.out), HDS.out]; dsimp only
                rw [HSR.out]; dsimp only
                rw [HPI.out.eq, HST2.out])
              have hRE := HE.out
              clear HR
              subst hRE
              go_wp2_with fail
              go_region_dies
              all_goals
                refine (HPC.out _ (by first | exact Below.refl _ _ | exact (Below.refl _ _).drew | exact (Below.refl _ _).drew.drew | exact Go.below_drewN (Below.refl _ _) _)).mono ?_
                rintro e w6 ⟨he, hb⟩
                have hb' : Below (wr.alloc (.cells #[.string A1, .string A2] 114)).heap.size (wr.alloc (.cells #[.string A1, .string A2] 114)) w6 := by first | exact hb | exact ((Below.refl _ _).drew).trans hb | exact ((Below.refl _ _).drew.drew).trans hb | exact (Go.below_drewN (Below.refl _ _) _).trans hb
                try dsimp only at he
                unfold Boom6 at he
                subst he
                exact ⟨rfl, rfl, (KpD.of_below HB2.out).trans (HPA.out.kp.trans (KpD.of_below hb')), HPA.out.px.ps.bel.trans (hb'.mono HPA.out.px.ps.bel.size)⟩
            | some pt =>
              obtain ⟨i0, hi, hz0, hz1, hz2⟩ := infoPrX
              obtain ⟨pv, cv, hav⟩ := rowT_form HPA.out.own
              obtain ⟨M5, hM5⟩ : ∃ M, M = ps5.length := ⟨_, rfl⟩
              rw [← hM5] at hav
              subst hav
              have hm5 : M5 ≤ 201 := by have := HPI.out.len; omega
              have HM5 := Lib.hid hM5
              obtain ⟨q1, q2, q3⟩ := pt
              dsimp only at HST2
              have HST3 := Lib.hid HST2.out
              dsimp only [ptV] at HPC
              obtain ⟨r0, r1, r2, r3, r4, rz⟩ := box5b HPA.out.box (Below.refl _ _)
              have hel2 := (Array.getElem?_eq_some_iff.1 HPA.out.box).1
              clear hM5
              go_wp2_with fail
              go_region_law (first
                | (go_simp
                   go_at_call 92
                   refine (HPC.out _ (by first | exact Below.refl _ _ | exact (Below.refl _ _).drew | exact (Below.refl _ _).drew.drew | exact Go.below_drewN (Below.refl _ _) _)).mono ?_
                   rintro e w6 ⟨he, hb⟩
                   have hb' : Below (wr.alloc (.cells #[.string A1, .string A2] 114)).heap.size (wr.alloc (.cells #[.string A1, .string A2] 114)) w6 := by first | exact hb | exact ((Below.refl _ _).drew).trans hb | exact ((Below.refl _ _).drew.drew).trans hb | exact (Go.below_drewN (Below.refl _ _) _).trans hb
                   try dsimp only at he
                   subst he
                   have HP6 := Lib.hid (HPA.out.step hb' (Nat.le_refl k) rfl)
                   have HOW6 := Lib.hid (show w6.ownsRow W0.heap.size 58 3 (.slice pv M5 cv) M5 (pcells ps5) from by have h9 := HP6.out.own; rwa [← HM5.out] at h9)
                   have HA6 := Lib.hid (box_belT w6 (.cells #[.string q1, .string q2, .string q3] 58))
                   obtain ⟨d0, d1, d2, d3, d4, dz⟩ := box5b HP6.out.box (Below.refl _ _)
                   have s2 := (box5b HP6.out.box HA6.out).2.2.1
                   have hel6 := (Array.getElem?_eq_some_iff.1 HP6.out.box).1
                   have HSZ6 := Lib.hid HP6.out.sz
                   clear hb hb')
                | (refine step_append_lies _ (by rfl) _ _ 24 (by rfl) W0.heap.size 58 i0 (.agg #[.string ⟨#[]⟩, .string ⟨#[]⟩, .string ⟨#[]⟩]) 3 48 Tryz.underlying24 hi hz0 hz1 hz2 rfl (by omega) (.slice pv M5 cv) M5 (pcells ps5) (by rfl) (rowT_below HOW6.out (by first | exact HA6.out | exact HA6.out.drew | exact Go.below_drewN HA6.out _)) ⟨w6.heap.size, 0, none⟩ 1 1 [.string q1, .string q2, .string q3] (by rfl) (by simp) (World.news_of_block (heap_alloc_new w6 _)) (by simp [Value.oneCell']) (by omega) (by unfold maxLen; omega) (by omega) (by have := HSZ6.out; simp; omega) (w6.heap.size + 1) (by simp) ?_
                   intro g6 cap6 w7 hown7 hgrow7 hat7 hlt7
                   have hpu := (HP6.out.step (show Below w6.heap.size w6 _ from by first | exact HA6.out | exact HA6.out.drew | exact Go.below_drewN HA6.out _) (Nat.le_refl k) rfl).push (q1, q2, q3) hgrow7 hown7 (by rw [HM5.out]) HST3.out
                   have HPU := Lib.hid hpu.1
                   obtain ⟨g0, g1, g2, g3, g4, gz⟩ := box5b hpu.2 (Below.refl _ _)
                   clear hown7 hgrow7 hat7 hlt7 hpu)
                | fail "no arm")
              all_goals
                go_wp2_with fail
                go_roundw
                case rel => exact ⟨k + 1, _, _, _, by omega, by go_num, HPU⟩
                case measure => simp [intOf]; omega
          · have HE := Lib.hid (HPI.out.step HWA.out (Nat.le_succ k) (HSK.out rfl))
            go_wp2_with fail
            go_roundw
            case rel => exact ⟨k + 1, _, _, _, by omega, by go_num, HE⟩
            case measure => simp [intOf]; omega
        · have HPE := Lib.hid (show pairsM Lk [] t.attrs = some ps5 from by rw [HPI.out.eq, List.drop_of_length_le (by rw [← HN.out]; omega)]; rfl)
          have hpl5 : ps5.length ≤ 1048576 := by have := HPI.out.len; omega
          have HKY := Lib.hid (keys_c wr _ ps5 (pairs_row HPI.out.own) hpl5)
          obtain ⟨pv, cv, hav⟩ := rowT_form HPI.out.own
          obtain ⟨M5, hM5⟩ : ∃ M, M = ps5.length := ⟨_, rfl⟩
          rw [← hM5] at hav
          subst hav
          have HM5 := Lib.hid hM5
          clear hpl5 hM5
          go_wp2_with fail
          refine HKY.out.mono ?_
          rintro e w6 ⟨v6, rfl, hown6, hb6⟩
          have hrd := RdK.ofRow (l := keysL ps5) (by rw [show (keysL ps5).length = ps5.length by simp [keysL], ← kcells_eq]; exact hown6)
          have HTK := Lib.hid (twiceK_c w6 v6 _ hrd)
          have HB6 := Lib.hid hb6
          obtain ⟨a6, c6, hv6, -⟩ := id hrd
          obtain ⟨M6, hM6⟩ : ∃ M, M = (keysL ps5).length := ⟨_, rfl⟩
          rw [← hM6] at hv6
          clear hown6 hb6 hrd hM6 t0 t1 t2 t3 t4 t5 tz r0 r1 r2 r3 r4 rz
          subst hv6
          go_wp2_with fail
          refine HTK.out.mono ?_
          rintro e w7 ⟨htw, hb7⟩
          have HP7 := Lib.hid (HPI.out.step (HB6.out.trans (hb7.mono HB6.out.size)) (Nat.le_refl k) rfl)
          obtain ⟨t0, t1, t2, t3, t4, t5, tz⟩ := cellsE6 (HTB.out _ HP7.out.kp)
          obtain ⟨r0, r1, r2, r3, r4, rz⟩ := box5b HP7.out.box (Below.refl _ _)
          have hz7 := HZB.out _ HP7.out.kp
          obtain ⟨z0, z1, z2, z3, z4, zz⟩ := cellsE5 hz7
          have HZ7 := Lib.hid hz7
          clear hb7 hz7
          rcases htw with ⟨hd, rfl⟩ | ⟨hd, rfl⟩
          · have HE := Lib.hid (show R = .error 15 from by
              rw [← HR.out]; unfold beginM
              rw [if_neg (Classical.not_not.2 HND.out), HDS.out]; dsimp only
              rw [HSR.out]; dsimp only
              rw [HPE.out]; dsimp only
              rw [if_pos hd])
            have HF := Lib.hid (HFL.out w7 15 HP7.out.kp HP7.out.px.ps.bel)
            clear hd
            go_wp2_with (go_at_call 33; refine (HF.out).mono ?_; rintro e w8 ⟨he, hk⟩; unfold Boom6 at he; subst he; have HK := Lib.hid hk; clear hk)
            rw [HE.out]
            exact ⟨rfl, rfl, HK.out⟩
          · have HE := Lib.hid (show R = .ok ((SP, NM, ps5), Lk) from by
              rw [← HR.out]; unfold beginM
              rw [if_neg (Classical.not_not.2 HND.out), HDS.out]; dsimp only
              rw [HSR.out]; dsimp only
              rw [HPE.out]; dsimp only
              rw [if_neg hd, HSPB.out, HNM.out])
            have hRE := HE.out
            clear HR hd
            subst hRE
            have HEND := Lib.hid (put5_at HZ7.out (.string SP) (.string NM) (.slice pv M5 cv) (.slice none 0 0) (.string ⟨#[]⟩))
            have hcg := put5_chg w7 (w.heap.size + 1) (.string SP) (.string NM) (.slice pv M5 cv) (.slice none 0 0) (.string ⟨#[]⟩)
            have hge1 : w0.heap.size ≤ w.heap.size + 1 := by
              have h1 := HP7.out.lo
              have h2 := HSZ0.out
              have h3 := HX0.out.ps.low
              have h4 := hpne1
              have h5 := HW0LE.out
              omega
            have HFIN := Lib.hid (show PairsR (okP (put5 w7 (w.heap.size + 1) (.string SP) (.string NM) (.slice pv M5 cv) (.slice none 0 0) (.string ⟨#[]⟩))) (put5 w7 (w.heap.size + 1) (.string SP) (.string NM) (.slice pv M5 cv) (.slice none 0 0) (.string ⟨#[]⟩)) (.slice pv M5 cv) ps5 ∧ PX w0 pb bv sv5 Lk a (put5 w7 (w.heap.size + 1) (.string SP) (.string NM) (.slice pv M5 cv) (.slice none 0 0) (.string ⟨#[]⟩)) ∧ KpD pb w (put5 w7 (w.heap.size + 1) (.string SP) (.string NM) (.slice pv M5 cv) (.slice none 0 0) (.string ⟨#[]⟩)) from by
              refine ⟨pairs_row (base := W0.heap.size) (rowT_keep HP7.out.own fun g hg => hcg.block g (rowT_lt HP7.out.own g hg).2 (by have h1 := (rowT_lt HP7.out.own g hg).1; have h2 := HSZ0.out; simp; omega)), ⟨⟨hcg.below2 HP7.out.px.ps.bel HP7.out.px.ps.bel.size (fun i hi => by simp at hi; subst hi; exact hge1), HP7.out.px.ps.low, (hcg.block pb HP7.out.px.ps.lt (by simpa using hpne1.symm)).trans HP7.out.px.ps.box⟩, rowT_keep HP7.out.px.own fun g hg => hcg.block g (rowT_lt HP7.out.px.own g hg).2 (by simpa using row_ne HP7.out.px.own HZ7.out (by decide) g hg)⟩, ?_⟩
              refine ((KpD.of_below HB2.out).trans HP7.out.kp).thenB (B := w.heap.size) ?_ (Nat.le_refl _)
              exact hcg.below2 (Below.refl _ _) (by have := (Array.getElem?_eq_some_iff.1 HZ7.out).1; omega) (fun i hi => by simp at hi; subst hi; omega))
            clear hcg hge1
            go_wp2_with fail
            refine bodyPost_ret (results_cell_row Tryz.results61 _ _ (w.heap.size + 1) 27 _ (0, 0) _ rfl HEND.out Tryz.underlying27 rfl infoE5) rfl ?_
            exact ⟨_, _, rfl, HFIN.out.1, HFIN.out.2.1, HFIN.out.2.2⟩
end Go.Proofs.YtpcajjbdlfookaaGreatDoor
