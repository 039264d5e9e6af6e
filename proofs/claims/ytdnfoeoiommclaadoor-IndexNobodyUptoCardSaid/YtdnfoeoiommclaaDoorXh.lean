/- An index at constants: model.Find at the plan. -/
import Derived.Test.YtdnfoeoiommclaaDoorXe
import Derived.Laws.EntriesVeiled
namespace Go.Proofs.YtdnfoeoiommclaaDoor
open Go Go.RowKit Go.Shelf
set_option linter.unusedVariables false
set_option linter.unusedSimpArgs false

theorem Found1B.back {w W : World} {bs bf : Nat} {w' : World} (hb : Below w.heap.size w W) (h : Found1B W bs bf w') (h2 : bs < w.heap.size) : Found1B w bs bf w' := by
  obtain ⟨a, n, c, h3, h4, h5, h6, h7⟩ := h
  have := hb.size
  refine ⟨a, n, c, h3, h4, h5.mono hb.size, fun B w0 hb0 k1 k2 => h6 B w0 (hb0.trans (hb.mono (by omega))) k1 k2, fun k hk k1 k2 => (h7 k (by omega) k1 k2).trans (hb.block k hk)⟩

/-- Where a search's variables lie, the walker's own object among them. -/
structure Seeks (w w1 : World) (bi bs bf B : Nat) (a : Option Addr) (n c : Nat) : Prop where
  h1 : bi < bf
  h2 : bf < bs
  h3 : bs < w.heap.size
  hi : w.heap[bi]? = some (.cells #[.string ⟨#[112]⟩] 9 (0, 0))
  hs : w.heap[bs]? = some (.cells #[.bool false] 4 (0, 0))
  hf : w.heap[bf]? = some (.cells (itemX ⟨#[]⟩ 0 (.slice none 0 0) (.slice none 0 0)) 36 (0, 0))
  hk : KidIs B w1 (.slice a n c)
  h0 : w1.heap.size ≤ bi
  hw1 : ∀ k, k < w1.heap.size → w.heap[k]? = w1.heap[k]?
theorem Seeks.below {w W w1 : World} {bi bs bf B : Nat} {a : Option Addr} {n c : Nat} (h : Seeks w w1 bi bs bf B a n c) (hb : Below w.heap.size w W) : Seeks W w1 bi bs bf B a n c := by
  obtain ⟨h1, h2, h3, hi, hs, hf, hk, h0, hw1⟩ := h
  have := hb.size
  exact ⟨h1, h2, by omega, (hb.block _ (by omega)).trans hi, (hb.block _ h3).trans hs, (hb.block _ (by omega)).trans hf, hk, h0, fun k hk => (hb.block _ (by omega)).trans (hw1 k hk)⟩

set_option maxRecDepth 100000 in
set_option maxHeartbeats 1000000 in
theorem walk1_x (w w1 : World) (wk bi bs bf B : Nat) (a : Option Addr) (n c : Nat) (h : Seeks w w1 bi bs bf B a n c)
    (hw : w.heap[wk]? = some (.cells #[.slice none 0 0, .func (.func 31) #[] #[.pointer (some ⟨bi, 0, none⟩), .pointer (some ⟨bs, 0, none⟩), .pointer (some ⟨bf, 0, none⟩)]] 117 (0, 0))) :
    Calls Tryd.prog 43 #[.pointer (some ⟨wk, 0, none⟩), .agg (itemX ⟨#[112]⟩ 0 (.slice none 0 0) (.slice a n c))] w (Found1 w bs bf) := by
  have hE := enters_of Tryd.func31 (by kernel_rfl) rfl
  have HF := Lib.hid (fun (ar : Value) (W : World) (hb : Below w.heap.size w W) => have k := h.below hb; (find1_x W bi bs bf B a n c ar k.h1 k.h2 k.h3 k.hi k.hs k.hf w1 k.hk k.h0 k.hw1).mono fun _ _ hx => And.intro hx.1 (Found1B.back hb hx.2 h.h3))
  have hwk : wk < w.heap.size := (Array.getElem?_eq_some_iff.1 hw).1
  have c0 : w.cell? ⟨wk, 0, none⟩ = some (.slice none 0 0) := by simp [World.cell?, hw]
  have c1 : w.cell? ⟨wk, 1, none⟩ = some (.func (.func 31) #[] #[.pointer (some ⟨bi, 0, none⟩), .pointer (some ⟨bs, 0, none⟩), .pointer (some ⟨bf, 0, none⟩)]) := by simp [World.cell?, hw]
  clear h hw
  unfold itemX at HF ⊢
  go_enter Tryd.func43, Tryd.ntmps43
  go_wp2_with fail
  go_region_law (go_simp; go_at_call 31; refine (HF.out _ _ (((Below.refl _ _).alloc (Nat.le_refl _) _).drew)).mono ?_; rintro e w2 ⟨rfl, hx⟩; have HX := Lib.hid hx; clear hx)
  all_goals
    go_wp2_with fail
    go_ret
    exact ⟨rfl, HX.out⟩
end Go.Proofs.YtdnfoeoiommclaaDoor

/- An index at constants: model.Find at the plan. -/
namespace Go.Proofs.YtdnfoeoiommclaaDoor
open Go Go.RowKit Go.Shelf
set_option linter.unusedVariables false
set_option linter.unusedSimpArgs false

/-- A model's cells: nothing but a plan with kids. -/
def modelX (kids : Value) : Array Value := #[.string ⟨#[]⟩, .string ⟨#[]⟩, .slice none 0 0, .slice none 0 0, .string ⟨#[112]⟩, .string ⟨#[]⟩, .int .i64 0, .slice none 0 0, .slice none 0 0, .string ⟨#[]⟩, .string ⟨#[]⟩, .string ⟨#[]⟩, .bool false, .bool false, .int .i64 0, .slice none 0 0, kids, .slice none 0 0]

set_option maxRecDepth 100000 in
set_option maxHeartbeats 1000000 in
theorem walkM_x (w w1 : World) (bi bs bf B : Nat) (a : Option Addr) (n c : Nat) (h : Seeks w w1 bi bs bf B a n c) :
    Calls Tryd.prog 30 #[.agg (modelX (.slice a n c)), .func (.func 31) #[] #[.pointer (some ⟨bi, 0, none⟩), .pointer (some ⟨bs, 0, none⟩), .pointer (some ⟨bf, 0, none⟩)]] w fun e w' => e = .returned (.tuple #[]) ∧ Found1B w bs bf w' := by
  have HF := Lib.hid (fun (wk : Nat) (W : World) (hb : Below w.heap.size w W) (hw) => (walk1_x W w1 wk bi bs bf B a n c (h.below hb) hw).mono fun _ _ hx => And.intro hx.1 (Found1B.back hb hx.2 h.h3))
  clear h
  unfold modelX
  unfold itemX at HF
  go_enter Tryd.func30, Tryd.ntmps30
  go_wp2_with fail
  refine (HF.out _ _ (((Below.refl _ _).alloc (Nat.le_refl _) _).alloc (by simp) _) (two_new w _ _)).mono ?_
  rintro e w2 ⟨rfl, hx⟩
  have HX := Lib.hid hx
  clear hx
  go_wp2_with fail
  refine bodyPost_end (v := .tuple #[]) (by simp [results, Tryd.results30, go_sem]) rfl ?_
  exact ⟨rfl, HX.out⟩
end Go.Proofs.YtdnfoeoiommclaaDoor

/- An index at constants: model.Find at the plan. -/
namespace Go.Proofs.YtdnfoeoiommclaaDoor
open Go Go.RowKit Go.Shelf
set_option linter.unusedVariables false
set_option linter.unusedSimpArgs false

/-- What the search for the plan gives. -/
def PlanC (w : World) (e : Ending) (w' : World) : Prop := ∃ a n c, e = .returned (.tuple #[.agg (itemX ⟨#[112]⟩ 0 (.slice none 0 0) (.slice a n c)), .bool true]) ∧ KidIs w.heap.size w' (.slice a n c) ∧ Below w.heap.size w w'
theorem boxesX (w : World) (o1 o2 o3 o4 : Obj) (w0 : World) (hw : w0 = (((w.alloc o1).alloc o2).alloc o3).alloc o4) :
    w0.heap[w.heap.size]? = some o1 ∧ w0.heap[w.heap.size + 1]? = some o2 ∧ w0.heap[w.heap.size + 2]? = some o3 ∧ w0.heap[w.heap.size + 3]? = some o4 ∧ w0.heap.size = w.heap.size + 4 ∧ Below w.heap.size w w0 := by
  subst hw
  have h4 : ∀ k, k < w.heap.size + 3 → ((((w.alloc o1).alloc o2).alloc o3).alloc o4).heap[k]? = (((w.alloc o1).alloc o2).alloc o3).heap[k]? := fun k hk => Below.heap_alloc _ _ _ (by simp; omega)
  have h3 : ∀ k, k < w.heap.size + 2 → (((w.alloc o1).alloc o2).alloc o3).heap[k]? = ((w.alloc o1).alloc o2).heap[k]? := fun k hk => Below.heap_alloc _ _ _ (by simp; omega)
  refine ⟨(h4 _ (by omega)).trans ((h3 _ (by omega)).trans (two_old w _ _)), (h4 _ (by omega)).trans ((h3 _ (by omega)).trans (two_new w _ _)), (h4 _ (by omega)).trans (by simpa using heap_alloc_new ((w.alloc o1).alloc o2) o3), by simpa using heap_alloc_new (((w.alloc o1).alloc o2).alloc o3) o4, by simp, ((((Below.refl _ _).alloc (Nat.le_refl _) _).alloc (by simp) _).alloc (by simp; omega) _).alloc (by simp; omega) _⟩

/-- A cell that is stored as it is. -/
theorem setX_same {w : World} {b o : Nat} {u : Value} {cs : Array Value} {T : TypeId} {fr : Nat × Nat} (h : w.heap[b]? = some (.cells cs T fr)) (hc : cs[o]? = some u) : w.setCell ⟨b, o, none⟩ u = w := by
  have e : (w.setCell ⟨b, o, none⟩ u).heap = w.heap := by
    refine Array.ext_getElem? fun k => ?_
    simp only [World.setCell, Array.getElem?_modify]
    by_cases hk : b = k
    · subst hk
      rw [if_pos rfl, h]
      have hlt := (Array.getElem?_eq_some_iff.1 hc)
      obtain ⟨h1, h2⟩ := hlt
      have : cs.setIfInBounds o u = cs := by
        refine Array.ext_getElem? fun j => ?_
        rw [Array.getElem?_setIfInBounds]
        by_cases hj : o = j
        · subst hj; simp [h1, ← h2]
        · rw [if_neg hj]
      simp [this]
    · rw [if_neg hk]
  cases w
  simp only [World.setCell] at e ⊢
  simp only [World.mk.injEq, and_true, true_and]
  exact e
theorem results_findM (tm : Array Value) (V : World) (b1 b2 : Nat) (c0 c1 c2 c3 c4 c5 c6 c7 c8 c9 c10 c11 c12 c13 c : Value) (h4 : tm.getD 4 undef = .pointer (some ⟨b1, 0, none⟩)) (h5 : tm.getD 5 undef = .pointer (some ⟨b2, 0, none⟩)) (hb1 : V.heap[b1]? = some (.cells #[c0, c1, c2, c3, c4, c5, c6, c7, c8, c9, c10, c11, c12, c13] 36 (0, 0))) (hb2 : V.heap[b2]? = some (.cells #[c] 4 (0, 0))) :
    (results Tryd.f16 tm).run Tryd.prog V = .ok (.tuple #[.agg #[c0, c1, c2, c3, c4, c5, c6, c7, c8, c9, c10, c11, c12, c13], c]) V := by
  have e := run_loadVar_row (P := Tryd.prog) V b1 36 36 #[c0, c1, c2, c3, c4, c5, c6, c7, c8, c9, c10, c11, c12, c13] (0, 0) _ hb1 Tryd.underlying36 rfl infoI14
  obtain ⟨e8, _⟩ := cells1x hb2
  have h4' : tm[4]?.getD undef = .pointer (some ⟨b1, 0, none⟩) := by simpa using h4
  have h5' : tm[5]?.getD undef = .pointer (some ⟨b2, 0, none⟩) := by simpa using h5
  have e' : Sem.run Tryd.prog (loadVar 4 ⟨b2, 0, none⟩) V = .ok c V := by simp [go_sem, e8]
  simp [results, Tryd.results16, asAddr, h4', h5', e, e', Sem.run_bind]
theorem infoM18 : (Tryd.prog.info? 38).map (·.size) = some 18 := by kernel_rfl

set_option maxRecDepth 100000 in
set_option maxHeartbeats 1000000 in
theorem findM_x (w : World) (B : Nat) (a : Option Addr) (n c : Nat) (hk : KidIs B w (.slice a n c)) :
    Calls Tryd.prog 16 #[.agg (modelX (.slice a n c)), .string ⟨#[112]⟩] w (PlanC w) := by
  obtain ⟨w0, hw0⟩ : ∃ x, x = (((w.alloc (.cells (modelX (.slice a n c)) 38)).alloc (.cells #[.string ⟨#[112]⟩] 9)).alloc (.cells (itemX ⟨#[]⟩ 0 (.slice none 0 0) (.slice none 0 0)) 36)).alloc (.cells #[.bool false] 4) := ⟨_, rfl⟩
  obtain ⟨q0, q1, q2, q3, hz, hb⟩ := boxesX w _ _ _ _ w0 hw0
  have HS := Lib.hid (show Seeks w0 w (w.heap.size + 1) (w.heap.size + 3) (w.heap.size + 2) B a n c from ⟨by omega, by omega, by omega, q1, q3, q2, hk, by omega, fun k hk => hb.block k hk⟩)
  have HW := Lib.hid (fun (W : World) (hb : W = w0) => walkM_x w0 w _ _ _ B a n c HS.out)
  have HB := Lib.hid hb
  have HQ0 := Lib.hid q0
  have HZ := Lib.hid hz
  unfold modelX at HW hw0 HQ0
  unfold itemX at hw0
  have HW0 := Lib.hid hw0
  clear hk q1 q2 q3 q0 hz hb hw0
  unfold modelX
  go_enter Tryd.func16, Tryd.ntmps16
  go_upto_region 1 with (fail)
  rw [← HW0.out]
  have HI := Lib.hid infoM18
  go_wp2_with (refine wpList_load_row rfl 38 (Operand.tmp 2) rfl w.heap.size rfl 38 _ (0, 0) _ HQ0.out Tryd.underlying38 rfl HI.out ?_)
  refine (HW.out _ rfl).mono ?_
  rintro e w2 ⟨rfl, a2, n2, c2, hs2, hf2, hk2, hb2, he2⟩
  have HK2 := Lib.hid hk2
  have HB2 := Lib.hid (hb2 w.heap.size w HB.out (by omega) (by omega))
  have HF2 := Lib.hid hf2
  have HS2 := Lib.hid hs2
  obtain ⟨f0, f1, f2, f3, f4, f5, f6, f7, f8, f9, f10, f11, f12, f13, fz⟩ := cells14 hf2
  obtain ⟨t0, tz⟩ := cells1x hs2
  clear hs2 hf2 hk2 hb2 he2
  unfold itemX at HF2
  have e0 : w2.setCell ⟨w.heap.size + 1 + 1, 0, none⟩ (.string ⟨#[112]⟩) = w2 := setX_same (T := 36) (fr := (0, 0)) HF2.out rfl
  have e1 : w2.setCell ⟨w.heap.size + 1 + 1, 1, none⟩ (.string ⟨#[]⟩) = w2 := setX_same (T := 36) (fr := (0, 0)) HF2.out rfl
  have e2 : w2.setCell ⟨w.heap.size + 1 + 1, 2, none⟩ (.int .i64 0) = w2 := setX_same (T := 36) (fr := (0, 0)) HF2.out rfl
  have e3 : w2.setCell ⟨w.heap.size + 1 + 1, 3, none⟩ (.slice none 0 0) = w2 := setX_same (T := 36) (fr := (0, 0)) HF2.out rfl
  have e4 : w2.setCell ⟨w.heap.size + 1 + 1, 4, none⟩ (.slice none 0 0) = w2 := setX_same (T := 36) (fr := (0, 0)) HF2.out rfl
  have e5 : w2.setCell ⟨w.heap.size + 1 + 1, 5, none⟩ (.string ⟨#[]⟩) = w2 := setX_same (T := 36) (fr := (0, 0)) HF2.out rfl
  have e6 : w2.setCell ⟨w.heap.size + 1 + 1, 6, none⟩ (.string ⟨#[]⟩) = w2 := setX_same (T := 36) (fr := (0, 0)) HF2.out rfl
  have e7 : w2.setCell ⟨w.heap.size + 1 + 1, 7, none⟩ (.string ⟨#[]⟩) = w2 := setX_same (T := 36) (fr := (0, 0)) HF2.out rfl
  have e8 : w2.setCell ⟨w.heap.size + 1 + 1, 8, none⟩ (.bool false) = w2 := setX_same (T := 36) (fr := (0, 0)) HF2.out rfl
  have e9 : w2.setCell ⟨w.heap.size + 1 + 1, 9, none⟩ (.bool false) = w2 := setX_same (T := 36) (fr := (0, 0)) HF2.out rfl
  have e10 : w2.setCell ⟨w.heap.size + 1 + 1, 10, none⟩ (.int .i64 0) = w2 := setX_same (T := 36) (fr := (0, 0)) HF2.out rfl
  have e11 : w2.setCell ⟨w.heap.size + 1 + 1, 11, none⟩ (.slice none 0 0) = w2 := setX_same (T := 36) (fr := (0, 0)) HF2.out rfl
  have e12 : w2.setCell ⟨w.heap.size + 1 + 1, 12, none⟩ (.slice a2 n2 c2) = w2 := setX_same (T := 36) (fr := (0, 0)) HF2.out rfl
  have e13 : w2.setCell ⟨w.heap.size + 1 + 1, 13, none⟩ (.slice none 0 0) = w2 := setX_same (T := 36) (fr := (0, 0)) HF2.out rfl
  have e14 : w2.setCell ⟨w.heap.size + 1 + 1 + 1, 0, none⟩ (.bool true) = w2 := setX_same (T := 4) (fr := (0, 0)) HS2.out rfl
  go_wp2_with fail
  go_region
  all_goals
    go_wp2_with fail
    refine bodyPost_ret (results_findM _ w2.drew (w.heap.size + 2) (w.heap.size + 3) _ _ _ _ _ _ _ _ _ _ _ _ _ _ _ rfl rfl HF2.out HS2.out) rfl ?_
    exact ⟨_, _, _, rfl, (HK2.out.mono (by have := HB.out.size; exact this)).keep (.ofBelow _ ((Below.refl _ _).drew)), HB2.out.drew⟩
end Go.Proofs.YtdnfoeoiommclaaDoor
