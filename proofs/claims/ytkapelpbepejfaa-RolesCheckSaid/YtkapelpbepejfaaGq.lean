/- dossierref13.items: the items of a tree as the reference lists them. Written by tools/gengq.py. -/
import Derived.Test.YtkapelpbepejfaaGp
namespace Go.Proofs.Ytkapelpbepejfaa
open Go Go.RowKit Go.Deep Go.Shelf
set_option linter.unusedVariables false
set_option linter.unusedSimpArgs false

theorem flatI_len : ∀ (d : Nat) (x : IT), (flatI d x).length = cntI d x
  | 0, _ => rfl
  | d + 1, x => by
    have h : ∀ l : List IT, (l.flatMap (flatI d)).length = (l.map (cntI d)).sum := fun l => by
      induction l with
      | nil => rfl
      | cons y t ih => rw [List.flatMap_cons, List.length_append, ih, flatI_len d y]; simp
    simp only [flatI, cntI, List.length_cons]
    rw [h]
    omega
/-- The items ahead, behind some of those directly below. -/
def flatP (d : Nat) (x : IT) (P : List IT) : List IT := x :: P.flatMap (flatI d)
theorem flatP_len (d : Nat) (x : IT) (P : List IT) : (flatP d x P).length = 1 + (P.map (cntI d)).sum := by
  unfold flatP
  rw [List.length_cons]
  have h : ∀ l : List IT, (l.flatMap (flatI d)).length = (l.map (cntI d)).sum := fun l => by
    induction l with
    | nil => rfl
    | cons y t ih => rw [List.flatMap_cons, List.length_append, ih, flatI_len d y]; simp
  rw [h]
  omega
theorem OwnS.baseG {w : World} {base : Nat} {e : TypeId} {size : Nat} {v : Value} {n : Nat} {xs : List Value} (h : OwnS w base e size v n xs) : ∀ g, v.ownBlock = some g → base ≤ g := by
  intro k hk
  rcases h.2 with ⟨rfl, _⟩ | ⟨g, off, cap, cur, rfl, hb, _⟩
  · simp [Value.ownBlock] at hk
  · simp [Value.ownBlock] at hk
    omega
theorem OwnS.weak {w : World} {base base' : Nat} {e : TypeId} {size : Nat} {v : Value} {n : Nat} {xs : List Value} (h : OwnS w base e size v n xs) (hb : base' ≤ base) : OwnS w base' e size v n xs := by
  refine ⟨h.1, h.2.imp (fun h => h) ?_⟩
  rintro ⟨g, off, cap, cur, h1, h2, h3⟩
  exact ⟨g, off, cap, cur, h1, Nat.le_trans hb h2, h3⟩
/-- A list of items as they lie in a world. -/
def ItsI (W0 : World) (S : Nat → Prop) (w : World) (bx : Obj) (d : Nat) (x : IT) (P : List IT) (v : Value) (wr : World) : Prop :=
  wr.heap[w.heap.size]? = some bx ∧ ∃ L : List (List Value × IT), L.map (·.2) = flatP d x P ∧ OwnS wr (w.heap.size + 1) 27 14 v L.length (rowsI L) ∧ (∀ p ∈ L, ∃ d', ItemV S W0 d' p.1 p.2) ∧ Below w.heap.size w wr
theorem ItsI.below {W0 : World} {S : Nat → Prop} {w : World} {bx : Obj} {d : Nat} {x : IT} {P : List IT} {v : Value} {wr : World} (h : ItsI W0 S w bx d x P v wr) : Below w.heap.size w wr := by
  obtain ⟨_, _, _, _, _, h⟩ := h
  exact h
/-- What lists all items of a tree. -/
def ItsE (W0 : World) (S : Nat → Prop) (d : Nat) (x : IT) (w : World) (e : Ending) (w' : World) : Prop :=
  ∃ (L : List (List Value × IT)) (v : Value), e = .returned v ∧ L.map (·.2) = flatI d x ∧ OwnS w' w.heap.size 27 14 v L.length (rowsI L) ∧ (∀ p ∈ L, ∃ d', ItemV S W0 d' p.1 p.2) ∧ Below w.heap.size w w'
theorem itsSrc {W0 : World} {S : Nat → Prop} {w2 : World} {base : Nat} {v : Value} {L2 : List (List Value × IT)} (h : OwnS w2 base 27 14 v L2.length (rowsI L2)) (hall2 : ∀ p ∈ L2, ∃ d', ItemV S W0 d' p.1 p.2) : Src Try.prog 14 25 v L2.length (rowsI L2) w2 := by
  have hr := h.rdn (fun u hu => by
    obtain ⟨p, hp, hup⟩ := List.mem_flatMap.1 hu
    obtain ⟨d', hd⟩ := hall2 p hp
    exact hd.one u hup)
  obtain ⟨a, c, hv, _⟩ := h.form
  subst hv
  cases a with
  | none =>
    obtain ⟨h0, h1, h2⟩ := hr.nilA
    have h0' : L2 = [] := List.eq_nil_of_length_eq_zero h0
    subst h0' h1
    exact Src.ofNil w2 Try.underlying25 0
  | some a => exact hr.srcA (P := Try.prog) (t := 25) Try.underlying25

set_option maxRecDepth 100000 in
set_option maxHeartbeats 4000000 in
theorem items_c (W0 : World) (S : Nat → Prop) : ∀ (d : Nat) (w : World) (cs : List Value) (x : IT), ItemV S W0 d cs x → Below W0.heap.size W0 w → cntI d x ≤ 260 →
    Calls Try.prog 34 #[.agg cs.toArray] w (ItsE W0 S d x w) := by
  intro d
  induction d with
  | zero => rintro w cs x ⟨ho, ev, xv, rv, kv, tv, e, k1, k2, k3, k4, k5⟩; exact k4.elim
  | succ d ih =>
    intro w cs x hiv hb0 hcnt
    have HIH := Lib.hid ih
    have HB00 := Lib.hid hb0
    have HIVX := Lib.hid hiv
    obtain ⟨i0, i1, i2, en, ex, i5, i6, i7, i8, i9, i10, ro, ki, tb⟩ := x
    have HSUM := Lib.hid (show ∀ P : List IT, (∃ Q, ki ++ tb = P ++ Q) → 1 + (P.map (cntI d)).sum ≤ 260 from fun P ⟨Q, hQ⟩ => by
      have h : cntI (d + 1) (.mk i0 i1 i2 en ex i5 i6 i7 i8 i9 i10 ro ki tb) = 1 + ((ki ++ tb).map (cntI d)).sum := rfl
      rw [h, hQ, List.map_append, List.sum_append] at hcnt
      omega)
    obtain ⟨hok1, ev, xv, rv, kv, tv, rfl, k1, k2, k3, k4, k5⟩ := hiv
    dsimp only [IT.entry, IT.exit, IT.roles, IT.kids, IT.table] at k1 k2 k3 k4 k5
    obtain ⟨a3, q3, rfl, _⟩ := k1.form
    obtain ⟨a4, q4, rfl, _⟩ := k2.form
    obtain ⟨a11, q11, rfl, _⟩ := k3.form
    obtain ⟨a12, q12, rfl, hkl, hkc, _⟩ := k4.form
    obtain ⟨a13, q13, rfl, htl, htc, _⟩ := k5.form
    have hkn : ki.length ≤ 9223372036854775807 := by unfold maxLen at hkc; omega
    have htn : tb.length ≤ 9223372036854775807 := by unfold maxLen at htc; omega
    simp only [item14, IT.id, IT.nm, IT.kind, IT.man, IT.req, IT.rep, IT.auto, IT.free, IT.after] at HIVX ⊢
    obtain ⟨n12, hn12⟩ : ∃ n, n = ki.length := ⟨_, rfl⟩
    obtain ⟨n13, hn13⟩ : ∃ n, n = tb.length := ⟨_, rfl⟩
    have K4 : Hid (ItemsD S W0 (d + 1) (.slice a12 n12 q12) ki ∧ n12 = ki.length) := ⟨by rw [hn12]; exact k4, hn12⟩
    have K5 : Hid (ItemsD S W0 (d + 1) (.slice a13 n13 q13) tb ∧ n13 = tb.length) := ⟨by rw [hn13]; exact k5, hn13⟩
    rw [← hn12] at HIVX hkn ⊢
    rw [← hn13] at HIVX htn ⊢
    generalize en.length = n3 at *
    generalize ex.length = n4 at *
    generalize ro.length = n11 at *
    obtain ⟨w0, hw0⟩ : ∃ y, y = (w.alloc (.cells #[.string i0, .string i1, .int .i64 i2, .slice a3 n3 q3, .slice a4 n4 q4, .string i5, .string i6, .string i7, .bool i8, .bool i9, .int .i64 i10, .slice a11 n11 q11, .slice a12 n12 q12, .slice a13 n13 q13] 27)).alloc (.cells #[.string i0, .string i1, .int .i64 i2, .slice a3 n3 q3, .slice a4 n4 q4, .string i5, .string i6, .string i7, .bool i8, .bool i9, .int .i64 i10, .slice a11 n11 q11, .slice a12 n12 q12, .slice a13 n13 q13] 27) := ⟨_, rfl⟩
    have HW0 := Lib.hid hw0
    have hB1 : Below w.heap.size w w0 := by rw [hw0]; exact ((Below.refl _ _).alloc (Nat.le_refl _) _).alloc (by simp) _
    have hx0 : w0.heap[w.heap.size]? = some (.cells #[.string i0, .string i1, .int .i64 i2, .slice a3 n3 q3, .slice a4 n4 q4, .string i5, .string i6, .string i7, .bool i8, .bool i9, .int .i64 i10, .slice a11 n11 q11, .slice a12 n12 q12, .slice a13 n13 q13] 27 (0, 0)) := by rw [hw0]; exact (Below.heap_alloc _ _ _ (by simp)).trans (heap_alloc_new w _)
    have hx1 : w0.heap[w.heap.size + 1]? = some (.cells #[.string i0, .string i1, .int .i64 i2, .slice a3 n3 q3, .slice a4 n4 q4, .string i5, .string i6, .string i7, .bool i8, .bool i9, .int .i64 i10, .slice a11 n11 q11, .slice a12 n12 q12, .slice a13 n13 q13] 27 (0, 0)) := by rw [hw0]; simpa using heap_alloc_new (w.alloc (.cells #[.string i0, .string i1, .int .i64 i2, .slice a3 n3 q3, .slice a4 n4 q4, .string i5, .string i6, .string i7, .bool i8, .bool i9, .int .i64 i10, .slice a11 n11 q11, .slice a12 n12 q12, .slice a13 n13 q13] 27)) (.cells #[.string i0, .string i1, .int .i64 i2, .slice a3 n3 q3, .slice a4 n4 q4, .string i5, .string i6, .string i7, .bool i8, .bool i9, .int .i64 i10, .slice a11 n11 q11, .slice a12 n12 q12, .slice a13 n13 q13] 27)
    obtain ⟨bx, hbxe⟩ : ∃ bx, bx = Obj.cells #[.string i0, .string i1, .int .i64 i2, .slice a3 n3 q3, .slice a4 n4 q4, .string i5, .string i6, .string i7, .bool i8, .bool i9, .int .i64 i10, .slice a11 n11 q11, .slice a12 n12 q12, .slice a13 n13 q13] 27 (0, 0) := ⟨_, rfl⟩
    have HBXE := Lib.hid hbxe
    have hxb : w0.heap[w.heap.size]? = some bx := hx0.trans (by rw [hbxe])
    have HI0 := Lib.hid (show ItsI W0 S w bx d (.mk i0 i1 i2 en ex i5 i6 i7 i8 i9 i10 ro ki tb) (ki.take 0) (.slice (some ⟨w.heap.size + 1, 0, none⟩) 1 1) w0 from
      ⟨hxb, [([.string i0, .string i1, .int .i64 i2, .slice a3 n3 q3, .slice a4 n4 q4, .string i5, .string i6, .string i7, .bool i8, .bool i9, .int .i64 i10, .slice a11 n11 q11, .slice a12 n12 q12, .slice a13 n13 q13], (.mk i0 i1 i2 en ex i5 i6 i7 i8 i9 i10 ro ki tb))], by simp [flatP], ⟨rfl, .inr ⟨w.heap.size + 1, 0, 1, _, rfl, by omega, hx1, Nat.le_refl _, by unfold maxLen; omega, by simp, by simp [rowsI]⟩⟩, fun p hp => by
        simp only [List.mem_singleton] at hp
        subst hp
        exact ⟨d + 1, HIVX.out⟩, hB1⟩)
    clear ih hb0 hcnt k1 k2 k3 k4 k5 hn12 hn13 hkl hkc htl htc hw0 hB1 hx1 hok1 hxb hbxe
    go_enter Try.func34, Try.ntmps34
    go_upto_region 2 with (fail)
    rw [← HW0.out]
    obtain ⟨d0, d1, d2, d3, d4, d5, d6, d7, d8, d9, d10, d11, d12, d13, dz⟩ := cellsG14 hx0
    clear hx0
    go_wp2_with fail
    clear d0 d1 d2 d3 d4 d5 d6 d7 d8 d9 d10 d11 d12 d13 dz
    go_loopw [3, 13] (fun v i wr => ∃ (j : Nat), j ≤ n12 ∧ i = .int .i64 j ∧ ItsI W0 S w bx d (.mk i0 i1 i2 en ex i5 i6 i7 i8 i9 i10 ro ki tb) (ki.take j) v wr) (fun _ i _ => n12 - (intOf i).toNat)
    case atStart => exact ⟨0, by omega, rfl, HI0.out⟩
    case round =>
      obtain ⟨j, hj, rfl, hI⟩ := hrel
      have HI := Lib.hid hI
      obtain ⟨hbx, L, hL, hown, hall, hbw⟩ := hI
      obtain ⟨va, vc, hvv, hvl, hvm, _⟩ := hown.form
      subst hvv
      have HOW := Lib.hid hown
      have HBW := Lib.hid hbw
      have HAL := Lib.hid hall
      have HLL := Lib.hid hL
      have HBX := Lib.hid hbx
      have hbxl : w.heap.size < wr.heap.size := (Array.getElem?_eq_some_iff.1 hbx).1
      clear hown hall hL hbx
      by_cases hjl : j < n12
      · have hjl2 : j < ki.length := by have := K4.out.2; omega
        obtain ⟨g, o, c, ev, xv, rv, kv, tv, hv, _, _, hSg, hgl, ⟨c0, c1, c2, c3, c4, c5, c6, c7, c8, c9, c10, c11, c12, c13⟩, hiv⟩ := K4.out.1.elem j hjl2
        simp only [Value.slice.injEq] at hv
        obtain ⟨rfl, hx9, rfl⟩ := hv
        clear hx9
        have hg0 : ∀ p, (wr.cell? ⟨g, p, none⟩) = W0.cell? ⟨g, p, none⟩ := fun p => (HB00.out.trans (hbw.mono HB00.out.size)).cell (p := ⟨g, p, none⟩) hgl
        have e0 := (hg0 _).trans c0
        have e1 := (hg0 _).trans c1
        have e2 := (hg0 _).trans c2
        have e3 := (hg0 _).trans c3
        have e4 := (hg0 _).trans c4
        have e5 := (hg0 _).trans c5
        have e6 := (hg0 _).trans c6
        have e7 := (hg0 _).trans c7
        have e8 := (hg0 _).trans c8
        have e9 := (hg0 _).trans c9
        have e10 := (hg0 _).trans c10
        have e11 := (hg0 _).trans c11
        have e12 := (hg0 _).trans c12
        have e13 := (hg0 _).trans c13
        have htk : ki.take j ++ [ki[j]] = ki.take (j + 1) := List.take_append_getElem hjl2
        have hcj : cntI d ki[j] + L.length ≤ 260 := by
          have h1 : L.length = (flatP d (.mk i0 i1 i2 en ex i5 i6 i7 i8 i9 i10 ro ki tb) (ki.take j)).length := by rw [← HLL.out, List.length_map]
          have h3 := HSUM.out (ki.take (j + 1)) (by
            rw [show ki ++ tb = ki.take (j + 1) ++ (ki.drop (j + 1) ++ tb) by rw [← List.append_assoc, List.take_append_drop]]
            exact ⟨_, rfl⟩)
          rw [h1, flatP_len]
          rw [← htk] at h3
          simp only [List.map_append, List.sum_append, List.map_cons, List.map_nil, List.sum_cons, List.sum_nil] at h3 ⊢
          omega
        generalize ki[j] = y at *
        have HREC := Lib.hid (fun (W : World) (hW : Below w.heap.size w W) => HIH.out W _ y hiv (HB00.out.trans (hW.mono HB00.out.size)) (by omega))
        have HCJ := Lib.hid hcj
        have HTK := Lib.hid htk
        obtain ⟨m1, m2, m3', m4', m5'⟩ := hiv.forms
        obtain ⟨y0, y1, y2, yen, yex, y5, y6, y7, y8, y9, y10, yro, yki, ytb⟩ := y
        dsimp only [IT.entry, IT.exit, IT.roles, IT.kids, IT.table] at m1 m2 m3' m4' m5'
        obtain ⟨b3, p3, rfl, _⟩ := m1.form
        obtain ⟨b4, p4, rfl, _⟩ := m2.form
        obtain ⟨b11, p11, rfl, _⟩ := m3'.form
        obtain ⟨b12, p12, rfl, _⟩ := m4'.form
        obtain ⟨b13, p13, rfl, _⟩ := m5'.form
        simp only [item14, IT.id, IT.nm, IT.kind, IT.man, IT.req, IT.rep, IT.auto, IT.free, IT.after] at HREC e0 e1 e2 e3 e4 e5 e6 e7 e8 e9 e10 e11 e12 e13
        clear hg0 c0 c1 c2 c3 c4 c5 c6 c7 c8 c9 c10 c11 c12 c13 hiv m1 m2 m3' m4' m5' hbw hcj htk
        generalize yen.length = m3 at *
        generalize yex.length = m4 at *
        generalize yro.length = m11 at *
        generalize yki.length = m12 at *
        generalize ytb.length = m13 at *
        obtain ⟨N, hN⟩ : ∃ N, N = L.length := ⟨_, rfl⟩
        rw [← hN] at HOW HCJ hvl ⊢
        have HN := Lib.hid hN
        clear hN
        go_wp2_with fail
        refine (HREC.out _ (HBW.out.alloc HBW.out.size _)).mono ?_
        rintro e w2 ⟨L2, v2, rfl, hL2, hown2, hall2, hb2⟩
        obtain ⟨ua, uc, hu, hul, hum, hunil⟩ := hown2.form
        subst hu
        have HB2 := Lib.hid ((HBW.out.alloc HBW.out.size (.cells #[.string y0, .string y1, .int .i64 y2, .slice b3 m3 p3, .slice b4 m4 p4, .string y5, .string y6, .string y7, .bool y8, .bool y9, .int .i64 y10, .slice b11 m11 p11, .slice b12 m12 p12, .slice b13 m13 p13] 27)).trans (hb2.mono (HBW.out.alloc HBW.out.size _).size))
        have HL2 := Lib.hid (show L2.length + N ≤ 260 from by
          have h1 : L2.length = (flatI d (.mk y0 y1 y2 yen yex y5 y6 y7 y8 y9 y10 yro yki ytb)).length := by rw [← hL2, List.length_map]
          have := HCJ.out
          rw [h1, flatI_len]
          omega)
        have HALL := Lib.hid hall2
        have HSRC := Lib.hid (itsSrc hown2 hall2)
        have HBX2 := Lib.hid (show w2.heap[w.heap.size]? = some bx from (hb2.block _ (by simp; omega)).trans ((Below.heap_alloc _ _ _ hbxl).trans HBX.out))
        have HOW2 := Lib.hid (show OwnS w2 (w.heap.size + 1) 27 14 (.slice va N vc) N (rowsI L) from (HOW.out.belowG ((Below.refl wr.heap.size wr).alloc (Nat.le_refl _) (.cells #[.string y0, .string y1, .int .i64 y2, .slice b3 m3 p3, .slice b4 m4 p4, .string y5, .string y6, .string y7, .bool y8, .bool y9, .int .i64 y10, .slice b11 m11 p11, .slice b12 m12 p12, .slice b13 m13 p13] 27))).belowG hb2)
        have HL2E := Lib.hid hL2
        obtain ⟨N2, hN2⟩ : ∃ N, N = L2.length := ⟨_, rfl⟩
        rw [← hN2] at HSRC HL2 ⊢
        have HN2 := Lib.hid hN2
        clear hL2 hown2 hall2 hb2 hN2 e0 e1 e2 e3 e4 e5 e6 e7 e8 e9 e10 e11 e12 e13
        obtain ⟨z0, hz, hz0, hz1, hz2⟩ := infoG_parts infoGItem
        go_wp2_with (at_builtin; refine wpList_append_S rfl _ _ 25 25 rfl (w.heap.size + 1) 27 z0 _ 14 224 Try.underlying25 hz hz0 hz1 hz2 rfl (Nat.succ_pos _) (.slice va N vc) N (rowsI L) rfl HOW2.out (.slice ua N2 uc) N2 (rowsI L2) rfl HSRC.out ?c1 ?c2 ?c3 ?_)
        case c1 => have := HL2.out; unfold maxLen; omega
        case c2 => have := HL2.out; omega
        case c3 => have := (Array.getElem?_eq_some_iff.1 HBX2.out).1; omega
        intro v3 w3 hown3 hgrow3 hl3
        have HNX := Lib.hid (show ItsI W0 S w bx d (.mk i0 i1 i2 en ex i5 i6 i7 i8 i9 i10 ro ki tb) (ki.take (j + 1)) v3 w3 from
          ⟨(hgrow3.block _ (Array.getElem?_eq_some_iff.1 HBX2.out).1 (fun e => by have := HOW2.out.baseG _ e.symm; omega)).trans HBX2.out, L ++ L2, by rw [List.map_append, HLL.out, HL2E.out, ← HTK.out]; simp [flatP], by rw [List.length_append, ← HN.out, ← HN2.out]; simpa [rowsI] using hown3, fun p hp => (List.mem_append.1 hp).elim (HAL.out p) (HALL.out p), HB2.out.grown hgrow3 HB2.out.size (fun k hk => by have := HOW2.out.baseG k hk; omega)⟩)
        obtain ⟨za, zc, hz3, _⟩ := hown3.form
        subst hz3
        clear hown3 hgrow3 hl3 hz hz0 hz1 hz2
        go_wp2_with fail
        go_roundw
        case rel => exact ⟨j + 1, by omega, by go_num, HNX.out⟩
        case measure => simp [intOf]; omega
      · have hje : j = n12 := by omega
        have HE := Lib.hid (show ItsI W0 S w bx d (.mk i0 i1 i2 en ex i5 i6 i7 i8 i9 i10 ro ki tb) (ki) (.slice va L.length vc) wr from by
          have := HI.out
          rwa [List.take_of_length_le (by have := K4.out.2; omega)] at this)
        obtain ⟨N, hN⟩ : ∃ N, N = L.length := ⟨_, rfl⟩
        rw [← hN] at HE hvl ⊢
        clear hjl hN hbw HOW HAL HLL HBX
        subst hje
        have hx2 := HE.out.1
        rw [HBXE.out] at hx2
        obtain ⟨d0, d1, d2, d3, d4, d5, d6, d7, d8, d9, d10, d11, d12, d13, dz⟩ := cellsG14 hx2
        clear hx2
        go_wp2_with fail
        clear d0 d1 d2 d3 d4 d5 d6 d7 d8 d9 d10 d11 d12 d13 dz
        go_loopw [3, 25] (fun v i wr => ∃ (j : Nat), j ≤ n13 ∧ i = .int .i64 j ∧ ItsI W0 S w bx d (.mk i0 i1 i2 en ex i5 i6 i7 i8 i9 i10 ro ki tb) (ki ++ tb.take j) v wr) (fun _ i _ => n13 - (intOf i).toNat)
        case atStart => exact ⟨0, by omega, rfl, by simpa using HE.out⟩
        case round =>
          obtain ⟨j, hj, rfl, hI⟩ := hrel
          have HI := Lib.hid hI
          obtain ⟨hbx, L, hL, hown, hall, hbw⟩ := hI
          obtain ⟨va, vc, hvv, hvl, hvm, _⟩ := hown.form
          subst hvv
          have HOW := Lib.hid hown
          have HBW := Lib.hid hbw
          have HAL := Lib.hid hall
          have HLL := Lib.hid hL
          have HBX := Lib.hid hbx
          have hbxl : w.heap.size < wr.heap.size := (Array.getElem?_eq_some_iff.1 hbx).1
          clear hown hall hL hbx
          by_cases hjl : j < n13
          · have hjl2 : j < tb.length := by have := K5.out.2; omega
            obtain ⟨g, o, c, ev, xv, rv, kv, tv, hv, _, _, hSg, hgl, ⟨c0, c1, c2, c3, c4, c5, c6, c7, c8, c9, c10, c11, c12, c13⟩, hiv⟩ := K5.out.1.elem j hjl2
            simp only [Value.slice.injEq] at hv
            obtain ⟨rfl, hx9, rfl⟩ := hv
            clear hx9
            have hg0 : ∀ p, (wr.cell? ⟨g, p, none⟩) = W0.cell? ⟨g, p, none⟩ := fun p => (HB00.out.trans (hbw.mono HB00.out.size)).cell (p := ⟨g, p, none⟩) hgl
            have e0 := (hg0 _).trans c0
            have e1 := (hg0 _).trans c1
            have e2 := (hg0 _).trans c2
            have e3 := (hg0 _).trans c3
            have e4 := (hg0 _).trans c4
            have e5 := (hg0 _).trans c5
            have e6 := (hg0 _).trans c6
            have e7 := (hg0 _).trans c7
            have e8 := (hg0 _).trans c8
            have e9 := (hg0 _).trans c9
            have e10 := (hg0 _).trans c10
            have e11 := (hg0 _).trans c11
            have e12 := (hg0 _).trans c12
            have e13 := (hg0 _).trans c13
            have htk : tb.take j ++ [tb[j]] = tb.take (j + 1) := List.take_append_getElem hjl2
            have hcj : cntI d tb[j] + L.length ≤ 260 := by
              have h1 : L.length = (flatP d (.mk i0 i1 i2 en ex i5 i6 i7 i8 i9 i10 ro ki tb) (ki ++ tb.take j)).length := by rw [← HLL.out, List.length_map]
              have h3 := HSUM.out (ki ++ tb.take (j + 1)) (by
                rw [show ki ++ tb = (ki ++ tb.take (j + 1)) ++ tb.drop (j + 1) by rw [List.append_assoc, List.take_append_drop]]
                exact ⟨_, rfl⟩)
              rw [h1, flatP_len]
              rw [← htk] at h3
              simp only [List.map_append, List.sum_append, List.map_cons, List.map_nil, List.sum_cons, List.sum_nil] at h3 ⊢
              omega
            generalize tb[j] = y at *
            have HREC := Lib.hid (fun (W : World) (hW : Below w.heap.size w W) => HIH.out W _ y hiv (HB00.out.trans (hW.mono HB00.out.size)) (by omega))
            have HCJ := Lib.hid hcj
            have HTK := Lib.hid htk
            obtain ⟨m1, m2, m3', m4', m5'⟩ := hiv.forms
            obtain ⟨y0, y1, y2, yen, yex, y5, y6, y7, y8, y9, y10, yro, yki, ytb⟩ := y
            dsimp only [IT.entry, IT.exit, IT.roles, IT.kids, IT.table] at m1 m2 m3' m4' m5'
            obtain ⟨b3, p3, rfl, _⟩ := m1.form
            obtain ⟨b4, p4, rfl, _⟩ := m2.form
            obtain ⟨b11, p11, rfl, _⟩ := m3'.form
            obtain ⟨b12, p12, rfl, _⟩ := m4'.form
            obtain ⟨b13, p13, rfl, _⟩ := m5'.form
            simp only [item14, IT.id, IT.nm, IT.kind, IT.man, IT.req, IT.rep, IT.auto, IT.free, IT.after] at HREC e0 e1 e2 e3 e4 e5 e6 e7 e8 e9 e10 e11 e12 e13
            clear hg0 c0 c1 c2 c3 c4 c5 c6 c7 c8 c9 c10 c11 c12 c13 hiv m1 m2 m3' m4' m5' hbw hcj htk
            generalize yen.length = m3 at *
            generalize yex.length = m4 at *
            generalize yro.length = m11 at *
            generalize yki.length = m12 at *
            generalize ytb.length = m13 at *
            obtain ⟨N, hN⟩ : ∃ N, N = L.length := ⟨_, rfl⟩
            rw [← hN] at HOW HCJ hvl ⊢
            have HN := Lib.hid hN
            clear hN
            go_wp2_with fail
            refine (HREC.out _ (HBW.out.alloc HBW.out.size _)).mono ?_
            rintro e w2 ⟨L2, v2, rfl, hL2, hown2, hall2, hb2⟩
            obtain ⟨ua, uc, hu, hul, hum, hunil⟩ := hown2.form
            subst hu
            have HB2 := Lib.hid ((HBW.out.alloc HBW.out.size (.cells #[.string y0, .string y1, .int .i64 y2, .slice b3 m3 p3, .slice b4 m4 p4, .string y5, .string y6, .string y7, .bool y8, .bool y9, .int .i64 y10, .slice b11 m11 p11, .slice b12 m12 p12, .slice b13 m13 p13] 27)).trans (hb2.mono (HBW.out.alloc HBW.out.size _).size))
            have HL2 := Lib.hid (show L2.length + N ≤ 260 from by
              have h1 : L2.length = (flatI d (.mk y0 y1 y2 yen yex y5 y6 y7 y8 y9 y10 yro yki ytb)).length := by rw [← hL2, List.length_map]
              have := HCJ.out
              rw [h1, flatI_len]
              omega)
            have HALL := Lib.hid hall2
            have HSRC := Lib.hid (itsSrc hown2 hall2)
            have HBX2 := Lib.hid (show w2.heap[w.heap.size]? = some bx from (hb2.block _ (by simp; omega)).trans ((Below.heap_alloc _ _ _ hbxl).trans HBX.out))
            have HOW2 := Lib.hid (show OwnS w2 (w.heap.size + 1) 27 14 (.slice va N vc) N (rowsI L) from (HOW.out.belowG ((Below.refl wr.heap.size wr).alloc (Nat.le_refl _) (.cells #[.string y0, .string y1, .int .i64 y2, .slice b3 m3 p3, .slice b4 m4 p4, .string y5, .string y6, .string y7, .bool y8, .bool y9, .int .i64 y10, .slice b11 m11 p11, .slice b12 m12 p12, .slice b13 m13 p13] 27))).belowG hb2)
            have HL2E := Lib.hid hL2
            obtain ⟨N2, hN2⟩ : ∃ N, N = L2.length := ⟨_, rfl⟩
            rw [← hN2] at HSRC HL2 ⊢
            have HN2 := Lib.hid hN2
            clear hL2 hown2 hall2 hb2 hN2 e0 e1 e2 e3 e4 e5 e6 e7 e8 e9 e10 e11 e12 e13
            obtain ⟨z0, hz, hz0, hz1, hz2⟩ := infoG_parts infoGItem
            go_wp2_with (at_builtin; refine wpList_append_S rfl _ _ 25 25 rfl (w.heap.size + 1) 27 z0 _ 14 224 Try.underlying25 hz hz0 hz1 hz2 rfl (Nat.succ_pos _) (.slice va N vc) N (rowsI L) rfl HOW2.out (.slice ua N2 uc) N2 (rowsI L2) rfl HSRC.out ?c1 ?c2 ?c3 ?_)
            case c1 => have := HL2.out; unfold maxLen; omega
            case c2 => have := HL2.out; omega
            case c3 => have := (Array.getElem?_eq_some_iff.1 HBX2.out).1; omega
            intro v3 w3 hown3 hgrow3 hl3
            have HNX := Lib.hid (show ItsI W0 S w bx d (.mk i0 i1 i2 en ex i5 i6 i7 i8 i9 i10 ro ki tb) (ki ++ tb.take (j + 1)) v3 w3 from
              ⟨(hgrow3.block _ (Array.getElem?_eq_some_iff.1 HBX2.out).1 (fun e => by have := HOW2.out.baseG _ e.symm; omega)).trans HBX2.out, L ++ L2, by rw [List.map_append, HLL.out, HL2E.out, ← HTK.out]; simp [flatP], by rw [List.length_append, ← HN.out, ← HN2.out]; simpa [rowsI] using hown3, fun p hp => (List.mem_append.1 hp).elim (HAL.out p) (HALL.out p), HB2.out.grown hgrow3 HB2.out.size (fun k hk => by have := HOW2.out.baseG k hk; omega)⟩)
            obtain ⟨za, zc, hz3, _⟩ := hown3.form
            subst hz3
            clear hown3 hgrow3 hl3 hz hz0 hz1 hz2
            go_wp2_with fail
            go_roundw
            case rel => exact ⟨j + 1, by omega, by go_num, HNX.out⟩
            case measure => simp [intOf]; omega
          · have hje : j = n13 := by omega
            have HE := Lib.hid (show ItsI W0 S w bx d (.mk i0 i1 i2 en ex i5 i6 i7 i8 i9 i10 ro ki tb) (ki ++ tb) (.slice va L.length vc) wr from by
              have := HI.out
              rwa [List.take_of_length_le (by have := K5.out.2; omega)] at this)
            obtain ⟨N, hN⟩ : ∃ N, N = L.length := ⟨_, rfl⟩
            rw [← hN] at HE hvl ⊢
            clear hjl hN hbw HOW HAL HLL HBX
            subst hje
            go_wp2_with fail
            go_ret
            obtain ⟨_, L', k1, k2, k3, k4⟩ := HE.out
            have hl : N = L'.length := by
              obtain ⟨_, _, h, _⟩ := k2.form
              simp only [Value.slice.injEq] at h
              exact h.2.1
            exact ⟨L', _, by rfl, k1, by subst hl; exact k2.weak (by omega), k3, k4⟩
end Go.Proofs.Ytkapelpbepejfaa
