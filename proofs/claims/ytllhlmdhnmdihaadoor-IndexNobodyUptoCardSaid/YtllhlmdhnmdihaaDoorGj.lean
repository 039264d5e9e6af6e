/- model.walk with any visitor; model.Find. Written by tools/gengj.py. -/
import Derived.Test.YtllhlmdhnmdihaaDoorGi
namespace Go.Proofs.YtllhlmdhnmdihaaDoor
open Go Go.RowKit Go.Deep Go.Shelf
set_option linter.unusedVariables false
set_option linter.unusedSimpArgs false

/-- A model: its roles, its plan; what else it has. -/
structure MT where
  mi : ByteArray
  mn : ByteArray
  roles : List ByteArray
  plan : IT
/-- A model given by value. -/
def ModelV (S : Nat → Prop) (w : World) (d : Nat) (cs : List Value) (m : MT) : Prop :=
  ∃ ra rc fa fn fc pc, cs = [.string m.mi, .string m.mn, .slice ra m.roles.length rc, .slice fa fn fc] ++ pc ∧ TextsD S w (.slice ra m.roles.length rc) m.roles ∧ ItemV S w d pc m.plan
theorem ModelV.keep {S : Nat → Prop} {w w' : World} {d : Nat} {cs : List Value} {m : MT} (h : ModelV S w d cs m) (hs : w.heap.size ≤ w'.heap.size) (hk : ∀ k, S k → k < w.heap.size → w'.heap[k]? = w.heap[k]?) : ModelV S w' d cs m := by
  obtain ⟨ra, rc, fa, fn, fc, pc, e, h1, h2⟩ := h
  exact ⟨ra, rc, fa, fn, fc, pc, e, h1.keep hs hk, h2.keep hs hk⟩
theorem ModelV.below {S : Nat → Prop} {w w' : World} {d : Nat} {cs : List Value} {m : MT} (h : ModelV S w d cs m) (hb : Below w.heap.size w w') : ModelV S w' d cs m := h.keep hb.size (fun k _ hl => hb.block k hl)
theorem ItemV.shape {S : Nat → Prop} {w : World} {d : Nat} {cs : List Value} {x : IT} (h : ItemV S w d cs x) : ∃ i0 i1 i2 a3 n3 q3 a4 n4 q4 i5 i6 i7 i8 i9 i10 a11 n11 q11 a12 n12 q12 a13 n13 q13, cs = [.string i0, .string i1, .int .i64 i2, .slice a3 n3 q3, .slice a4 n4 q4, .string i5, .string i6, .string i7, .bool i8, .bool i9, .int .i64 i10, .slice a11 n11 q11, .slice a12 n12 q12, .slice a13 n13 q13] := by
  obtain ⟨_, ev, xv, rv, kv, tv, rfl, k1, k2, k3, k4, k5⟩ := h
  obtain ⟨a3, q3, rfl, _⟩ := k1.form
  obtain ⟨a4, q4, rfl, _⟩ := k2.form
  obtain ⟨a11, q11, rfl, _⟩ := k3.form
  obtain ⟨a12, q12, rfl, _⟩ := k4.form
  obtain ⟨a13, q13, rfl, _⟩ := k5.form
  exact ⟨_, _, _, _, _, _, _, _, _, _, _, _, _, _, _, _, _, _, _, _, _, _, _, _, rfl⟩

set_option maxRecDepth 100000 in
set_option maxHeartbeats 2000000 in
theorem mwalk_c {σ : Type} {W0 : World} {S0 : Nat → Prop} {F : FuncId} {caps : Array Value} (V : Vis σ W0 S0 F caps) (d : Nat) (w : World) (cs : List Value) (m : MT) (s : σ) (T : Nat → Prop) (hm : ModelV S0 W0 d cs m) (hok : okIG d 0 m.plan) (hbud : V.bud s + cntI d m.plan ≤ 260) (hst : V.St s T w) (hb0 : Below W0.heap.size W0 w) :
    Calls Tryd.prog 31 #[.agg cs.toArray, .func (.func F) #[] caps] w fun e w' => e = .returned (.tuple #[]) ∧ (∃ T, V.St (walkM V.step d s m.plan []).1 T w') ∧ Below W0.heap.size W0 w' := by
  obtain ⟨mi, mn, mroles, plan⟩ := m
  obtain ⟨ra, rc, fa, fn, fc, pc, rfl, h1, h2⟩ := hm
  obtain ⟨rn, hrn⟩ : ∃ n, n = mroles.length := ⟨_, rfl⟩
  simp only at h1 h2 hok hbud ⊢
  rw [← hrn] at h1 ⊢
  have hsz := hb0.size
  have HCW := Lib.hid (fun (W : World) (hws : WalkS V (w.heap.size + 1) [] s (.slice none 0 0) W) => walk_c V (w.heap.size + 1) d W pc plan s (.slice none 0 0) [] h2 hok hbud hws)
  obtain ⟨i0, i1, i2, a3, n3, q3, a4, n4, q4, i5, i6, i7, i8, i9, i10, a11, n11, q11, a12, n12, q12, a13, n13, q13, rfl⟩ := h2.shape
  have hT := V.own _ _ _ hst
  have HWS := Lib.hid (show WalkS V (w.heap.size + 1) [] s (.slice none 0 0) ((w.alloc (.cells #[.string mi, .string mn, .slice ra rn rc, .slice fa fn fc, .string i0, .string i1, .int .i64 i2, .slice a3 n3 q3, .slice a4 n4 q4, .string i5, .string i6, .string i7, .bool i8, .bool i9, .int .i64 i10, .slice a11 n11 q11, .slice a12 n12 q12, .slice a13 n13 q13] 38)).alloc (.cells #[.slice none 0 0, .func (.func F) #[] caps] 117)) from by
    refine ⟨T, V.keep _ _ _ _ hst (by simp; omega) (fun k _ hk => (Below.heap_alloc _ _ _ (by simp; omega)).trans (Below.heap_alloc _ _ _ hk)), (hb0.alloc hsz _).alloc (by simp; omega) _, ?_, OwnS.nil _ _ _ _, ⟨fun ht => absurd (hT _ ht) (by omega), fun k hk => by simp [Value.ownBlock] at hk⟩, by omega⟩
    simpa using heap_alloc_new (w.alloc (.cells #[.string mi, .string mn, .slice ra rn rc, .slice fa fn fc, .string i0, .string i1, .int .i64 i2, .slice a3 n3 q3, .slice a4 n4 q4, .string i5, .string i6, .string i7, .bool i8, .bool i9, .int .i64 i10, .slice a11 n11 q11, .slice a12 n12 q12, .slice a13 n13 q13] 38)) (.cells #[.slice none 0 0, .func (.func F) #[] caps] 117))
  clear h1 h2 hok hbud hst hb0 hrn hT
  simp only [List.cons_append, List.nil_append] at *
  have hsf := fun (a : Addr) (W : World) => run_store Tryd.prog W a (.func (.func F) #[] caps) Mode.plain rfl
  go_enter Tryd.func31, Tryd.ntmps31
  go_wp2_with fail
  refine (HCW.out _ HWS.out).mono ?_
  rintro e w2 ⟨rfl, hT2, hB2, hq2⟩
  have HT2 := Lib.hid hT2
  have HB2 := Lib.hid hB2
  clear hT2 hB2 hq2
  go_wp2_with fail
  refine bodyPost_end (v := .tuple #[]) (by simp [results, Tryd.results31, go_sem]) rfl ?_
  exact ⟨rfl, HT2.out, HB2.out⟩

/-- A cell that is stored as it is. -/
theorem setG_same {w : World} {b o : Nat} {u : Value} {cs : Array Value} {T : TypeId} {fr : Nat × Nat} (h : w.heap[b]? = some (.cells cs T fr)) (hc : cs[o]? = some u) : w.setCell ⟨b, o, none⟩ u = w := by
  have e : (w.setCell ⟨b, o, none⟩ u).heap = w.heap := by
    refine Array.ext_getElem? fun k => ?_
    simp only [World.setCell, Array.getElem?_modify]
    by_cases hk : b = k
    · subst hk
      rw [if_pos rfl, h]
      have hlt := (Array.getElem?_eq_some_iff.1 hc)
      obtain ⟨h1, h2⟩ := hlt
      have : cs.setIfInBounds o u = cs := by
        refine Array.ext_getElem? fun j => ?_
        rw [Array.getElem?_setIfInBounds]
        by_cases hj : o = j
        · subst hj; simp [h1, ← h2]
        · rw [if_neg hj]
      simp [this]
    · rw [if_neg hk]
  cases w
  simp only [World.setCell] at e ⊢
  simp only [World.mk.injEq, and_true, true_and]
  exact e
theorem results_find (tm : Array Value) (V : World) (b1 b2 : Nat) (cs : Array Value) (c : Value) (h4 : tm.getD 4 undef = .pointer (some ⟨b1, 0, none⟩)) (h5 : tm.getD 5 undef = .pointer (some ⟨b2, 0, none⟩)) (hcs : cs.size = 14) (hb1 : V.heap[b1]? = some (.cells cs 36 (0, 0))) (hb2 : V.heap[b2]? = some (.cells #[c] 4 (0, 0))) :
    (results Tryd.f16 tm).run Tryd.prog V = .ok (.tuple #[.agg cs, c]) V := by
  have e := run_loadVar_row (P := Tryd.prog) V b1 36 36 cs (0, 0) _ hb1 Tryd.underlying36 rfl (by rw [hcs]; exact infoGI14)
  obtain ⟨e8, _⟩ := one_cellG hb2
  have h4' : tm[4]?.getD undef = .pointer (some ⟨b1, 0, none⟩) := by simpa using h4
  have h5' : tm[5]?.getD undef = .pointer (some ⟨b2, 0, none⟩) := by simpa using h5
  have e' : Sem.run Tryd.prog (loadVar 4 ⟨b2, 0, none⟩) V = .ok c V := by simp [go_sem, e8]
  simp [results, Tryd.results16, asAddr, h4', h5', e, e', Sem.run_bind]
theorem infoGM18 : (Tryd.prog.info? 38).map (·.size) = some 18 := by kernel_rfl

/-- What a search gives: the first item of the ID, in memory of its own. -/
def FindE (w : World) (r : Option IT) (e : Ending) (w' : World) : Prop :=
  ∃ cs : List Value, e = .returned (.tuple #[.agg cs.toArray, .bool r.isSome]) ∧ cs.length = 14 ∧ Below w.heap.size w w' ∧ match r with
    | none => cs = zero14
    | some y => ∃ d, ItemV (fun k => w.heap.size ≤ k) w' d cs y
def firstI (id : ByteArray) (d : Nat) (x : IT) : Option IT := (flatIG d x).find? (fun y => y.id.toList == id.toList)
set_option maxRecDepth 100000 in
set_option maxHeartbeats 2000000 in
theorem find_c {S : Nat → Prop} (d : Nat) (w : World) (cs : List Value) (m : MT) (id : ByteArray) (hm : ModelV S w d cs m) (hok : okIG d 0 m.plan) (hbud : cntI d m.plan ≤ 260) :
    Calls Tryd.prog 16 #[.agg cs.toArray, .string id] w (FindE w (firstI id d m.plan)) := by
  have HMW := Lib.hid (fun (W : World) (T : Nat → Prop) (hst : FSt w.heap.size id (none, false) T W) (hb : Below w.heap.size w W) => mwalk_c (findV w S w.heap.size id (Nat.le_refl _)) d W cs m (none, false) T hm hok (by show 0 + _ ≤ 260; omega) hst hb)
  have hfr : walkM (findV w S w.heap.size id (Nat.le_refl _)).step d (none, false) m.plan [] = findR id (none, false) (flatIG d m.plan) := walkM_find id d _ _ _
  rw [hfr] at HMW
  obtain ⟨r, hr⟩ : ∃ r, r = firstI id d m.plan := ⟨_, rfl⟩
  have hne : (findR id (none, false) (flatIG d m.plan)).1 = (r, r.isSome) := by
    rw [hr]
    unfold findR firstI
    cases (flatIG d m.plan).find? (fun y => y.id.toList == id.toList) <;> simp
  rw [hne] at HMW
  rw [← hr]
  obtain ⟨mi, mn, mroles, plan⟩ := m
  obtain ⟨ra, rc, fa, fn, fc, pc, rfl, h1, h2⟩ := hm
  obtain ⟨rn, hrn⟩ : ∃ n, n = mroles.length := ⟨_, rfl⟩
  simp only at h1 h2 HMW ⊢
  rw [← hrn] at h1 HMW ⊢
  obtain ⟨i0, i1, i2, a3, n3, q3, a4, n4, q4, i5, i6, i7, i8, i9, i10, a11, n11, q11, a12, n12, q12, a13, n13, q13, rfl⟩ := h2.shape
  clear h1 h2 hok hbud hrn hr hfr hne
  simp only [List.cons_append, List.nil_append] at *
  obtain ⟨w0, hw0⟩ : ∃ y, y = (((w.alloc (.cells #[.string mi, .string mn, .slice ra rn rc, .slice fa fn fc, .string i0, .string i1, .int .i64 i2, .slice a3 n3 q3, .slice a4 n4 q4, .string i5, .string i6, .string i7, .bool i8, .bool i9, .int .i64 i10, .slice a11 n11 q11, .slice a12 n12 q12, .slice a13 n13 q13] 38)).alloc (.cells #[.string id] 9)).alloc (.cells #[.string ⟨#[]⟩, .string ⟨#[]⟩, .int .i64 0, .slice none 0 0, .slice none 0 0, .string ⟨#[]⟩, .string ⟨#[]⟩, .string ⟨#[]⟩, .bool false, .bool false, .int .i64 0, .slice none 0 0, .slice none 0 0, .slice none 0 0] 36)).alloc (.cells #[.bool false] 4) := ⟨_, rfl⟩
  have hsz0 : w0.heap.size = w.heap.size + 4 := by rw [hw0]; simp
  have hB0 : Below w.heap.size w w0 := by rw [hw0]; exact ((((Below.refl _ _).alloc (Nat.le_refl _) _).alloc (by simp) _).alloc (by simp; omega) _).alloc (by simp; omega) _
  have q0 : w0.heap[w.heap.size]? = some (.cells #[.string mi, .string mn, .slice ra rn rc, .slice fa fn fc, .string i0, .string i1, .int .i64 i2, .slice a3 n3 q3, .slice a4 n4 q4, .string i5, .string i6, .string i7, .bool i8, .bool i9, .int .i64 i10, .slice a11 n11 q11, .slice a12 n12 q12, .slice a13 n13 q13] 38 (0, 0)) := by
    rw [hw0]
    exact (Below.heap_alloc _ _ _ (by simp; try omega)).trans ((Below.heap_alloc _ _ _ (by simp; try omega)).trans ((Below.heap_alloc _ _ _ (by simp)).trans (heap_alloc_new w _)))
  have q1 : w0.heap[w.heap.size + 1]? = some (.cells #[.string id] 9 (0, 0)) := by
    rw [hw0]
    exact (Below.heap_alloc _ _ _ (by simp; try omega)).trans ((Below.heap_alloc _ _ _ (by simp)).trans (by simpa using heap_alloc_new (w.alloc (.cells #[.string mi, .string mn, .slice ra rn rc, .slice fa fn fc, .string i0, .string i1, .int .i64 i2, .slice a3 n3 q3, .slice a4 n4 q4, .string i5, .string i6, .string i7, .bool i8, .bool i9, .int .i64 i10, .slice a11 n11 q11, .slice a12 n12 q12, .slice a13 n13 q13] 38)) (.cells #[.string id] 9)))
  have q2 : w0.heap[w.heap.size + 2]? = some (.cells #[.string ⟨#[]⟩, .string ⟨#[]⟩, .int .i64 0, .slice none 0 0, .slice none 0 0, .string ⟨#[]⟩, .string ⟨#[]⟩, .string ⟨#[]⟩, .bool false, .bool false, .int .i64 0, .slice none 0 0, .slice none 0 0, .slice none 0 0] 36 (0, 0)) := by
    rw [hw0]
    exact (Below.heap_alloc _ _ _ (by simp)).trans (by simpa using heap_alloc_new ((w.alloc (.cells #[.string mi, .string mn, .slice ra rn rc, .slice fa fn fc, .string i0, .string i1, .int .i64 i2, .slice a3 n3 q3, .slice a4 n4 q4, .string i5, .string i6, .string i7, .bool i8, .bool i9, .int .i64 i10, .slice a11 n11 q11, .slice a12 n12 q12, .slice a13 n13 q13] 38)).alloc (.cells #[.string id] 9)) (.cells #[.string ⟨#[]⟩, .string ⟨#[]⟩, .int .i64 0, .slice none 0 0, .slice none 0 0, .string ⟨#[]⟩, .string ⟨#[]⟩, .string ⟨#[]⟩, .bool false, .bool false, .int .i64 0, .slice none 0 0, .slice none 0 0, .slice none 0 0] 36))
  have q3' : w0.heap[w.heap.size + 3]? = some (.cells #[.bool false] 4 (0, 0)) := by
    rw [hw0]
    simpa using heap_alloc_new (((w.alloc (.cells #[.string mi, .string mn, .slice ra rn rc, .slice fa fn fc, .string i0, .string i1, .int .i64 i2, .slice a3 n3 q3, .slice a4 n4 q4, .string i5, .string i6, .string i7, .bool i8, .bool i9, .int .i64 i10, .slice a11 n11 q11, .slice a12 n12 q12, .slice a13 n13 q13] 38)).alloc (.cells #[.string id] 9)).alloc (.cells #[.string ⟨#[]⟩, .string ⟨#[]⟩, .int .i64 0, .slice none 0 0, .slice none 0 0, .string ⟨#[]⟩, .string ⟨#[]⟩, .string ⟨#[]⟩, .bool false, .bool false, .int .i64 0, .slice none 0 0, .slice none 0 0, .slice none 0 0] 36)) (.cells #[.bool false] 4)
  have HST := Lib.hid (show FSt w.heap.size id (none, false) (fun k => k = w.heap.size + 1 ∨ k = w.heap.size + 2 ∨ k = w.heap.size + 3) w0 from
    ⟨⟨.inl rfl, .inr (.inl rfl), .inr (.inr rfl)⟩, fun k hk => by omega, q1, q3', zero14, q2, rfl, rfl⟩)
  have HB0 := Lib.hid hB0
  have HQ0 := Lib.hid q0
  have HW0 := Lib.hid hw0
  have HI := Lib.hid infoGM18
  clear q0 q1 q2 q3' hsz0 hB0 hw0
  go_enter Tryd.func16, Tryd.ntmps16
  go_upto_region 1 with (fail)
  rw [← HW0.out]
  go_wp2_with (refine wpList_load_row rfl 38 (Operand.tmp 2) rfl w.heap.size rfl 38 _ (0, 0) _ HQ0.out Tryd.underlying38 rfl HI.out ?_)
  refine (HMW.out _ _ HST.out HB0.out).mono ?_
  rintro e w2 ⟨rfl, ⟨T2, hst2⟩, hb2⟩
  have HST2 := Lib.hid hst2
  have HB2 := Lib.hid hb2
  obtain ⟨_, _, _, h3, gc, h4, h5, h6⟩ := hst2
  have hsh : ∃ i0 i1 i2 a3 n3 q3 a4 n4 q4 i5 i6 i7 i8 i9 i10 a11 n11 q11 a12 n12 q12 a13 n13 q13, gc = [.string i0, .string i1, .int .i64 i2, .slice a3 n3 q3, .slice a4 n4 q4, .string i5, .string i6, .string i7, .bool i8, .bool i9, .int .i64 i10, .slice a11 n11 q11, .slice a12 n12 q12, .slice a13 n13 q13] := by
    cases r with
    | none => exact ⟨_, _, _, _, _, _, _, _, _, _, _, _, _, _, _, _, _, _, _, _, _, _, _, _, h6⟩
    | some y =>
      obtain ⟨_, hd⟩ := h6
      exact hd.shape
  obtain ⟨j0, j1, j2, b3, m3, p3, b4, m4, p4, j5, j6, j7, j8, j9, j10, b11, m11, p11, b12, m12, p12, b13, m13, p13, rfl⟩ := hsh
  · skip
    have HF2 := Lib.hid h4
    have HS2 := Lib.hid h3
    have HG := Lib.hid h6
    obtain ⟨f0, f1, f2, f3, f4, f5, f6, f7, f8, f9, f10, f11, f12, f13, fz⟩ := cellsG14 (b := w.heap.size + 1 + 1) h4
    obtain ⟨t0, tz⟩ := one_cellG (b := w.heap.size + 1 + 1 + 1) h3
    clear h3 h4 h6 hb2
    have e0 : w2.setCell ⟨w.heap.size + 1 + 1, 0, none⟩ (.string j0) = w2 := setG_same (T := 36) (fr := (0, 0)) HF2.out rfl
    have e1 : w2.setCell ⟨w.heap.size + 1 + 1, 1, none⟩ (.string j1) = w2 := setG_same (T := 36) (fr := (0, 0)) HF2.out rfl
    have e2 : w2.setCell ⟨w.heap.size + 1 + 1, 2, none⟩ (.int .i64 j2) = w2 := setG_same (T := 36) (fr := (0, 0)) HF2.out rfl
    have e3 : w2.setCell ⟨w.heap.size + 1 + 1, 3, none⟩ (.slice b3 m3 p3) = w2 := setG_same (T := 36) (fr := (0, 0)) HF2.out rfl
    have e4 : w2.setCell ⟨w.heap.size + 1 + 1, 4, none⟩ (.slice b4 m4 p4) = w2 := setG_same (T := 36) (fr := (0, 0)) HF2.out rfl
    have e5 : w2.setCell ⟨w.heap.size + 1 + 1, 5, none⟩ (.string j5) = w2 := setG_same (T := 36) (fr := (0, 0)) HF2.out rfl
    have e6 : w2.setCell ⟨w.heap.size + 1 + 1, 6, none⟩ (.string j6) = w2 := setG_same (T := 36) (fr := (0, 0)) HF2.out rfl
    have e7 : w2.setCell ⟨w.heap.size + 1 + 1, 7, none⟩ (.string j7) = w2 := setG_same (T := 36) (fr := (0, 0)) HF2.out rfl
    have e8 : w2.setCell ⟨w.heap.size + 1 + 1, 8, none⟩ (.bool j8) = w2 := setG_same (T := 36) (fr := (0, 0)) HF2.out rfl
    have e9 : w2.setCell ⟨w.heap.size + 1 + 1, 9, none⟩ (.bool j9) = w2 := setG_same (T := 36) (fr := (0, 0)) HF2.out rfl
    have e10 : w2.setCell ⟨w.heap.size + 1 + 1, 10, none⟩ (.int .i64 j10) = w2 := setG_same (T := 36) (fr := (0, 0)) HF2.out rfl
    have e11 : w2.setCell ⟨w.heap.size + 1 + 1, 11, none⟩ (.slice b11 m11 p11) = w2 := setG_same (T := 36) (fr := (0, 0)) HF2.out rfl
    have e12 : w2.setCell ⟨w.heap.size + 1 + 1, 12, none⟩ (.slice b12 m12 p12) = w2 := setG_same (T := 36) (fr := (0, 0)) HF2.out rfl
    have e13 : w2.setCell ⟨w.heap.size + 1 + 1, 13, none⟩ (.slice b13 m13 p13) = w2 := setG_same (T := 36) (fr := (0, 0)) HF2.out rfl
    have e14 : w2.setCell ⟨w.heap.size + 1 + 1 + 1, 0, none⟩ (.bool r.isSome) = w2 := setG_same (T := 4) (fr := (0, 0)) HS2.out rfl
    go_wp2_with fail
    go_region
    all_goals
      go_wp2_with fail
      refine bodyPost_ret (results_find _ w2.drew (w.heap.size + 2) (w.heap.size + 3) _ _ rfl rfl rfl HF2.out HS2.out) rfl ?_
      refine ⟨_, rfl, rfl, HB2.out.drew, ?_⟩
      have hg := HG.out
      cases r with
      | none => exact hg
      | some y =>
        obtain ⟨d', hd⟩ := hg
        exact ⟨d', (hd.mono (S' := fun k => w.heap.size ≤ k) (fun k _ hS => by omega)).keep (w' := w2.drew) (Nat.le_refl _) (fun _ _ _ => rfl)⟩
end Go.Proofs.YtllhlmdhnmdihaaDoor
