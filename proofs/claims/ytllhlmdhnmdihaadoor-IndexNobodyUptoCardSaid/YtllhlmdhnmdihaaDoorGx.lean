/- model.Flat. Written by tools/gengx.py. -/
import Derived.Test.YtllhlmdhnmdihaaDoorGt
namespace Go.Proofs.YtllhlmdhnmdihaaDoor
open Go Go.RowKit Go.Deep Go.Shelf
set_option linter.unusedVariables false
set_option linter.unusedSimpArgs false

/-- The visitor that lists the items. -/
def flatV (W0 : World) (S0 : Nat → Prop) (B : Nat) : Vis (List IT) W0 S0 34 #[.pointer (some ⟨B, 0, none⟩)] where
  St := LSt W0 B
  step := fun s x _ => (s ++ [bare x], true)
  bud := fun s => s.length
  budS := fun s x _ => by simp
  keep := fun s T W W' h hs hk => h.keep hs hk
  own := fun s T W h => h.2.1
  enters := fun args w => enters_of Tryd.func34 (by kernel_rfl) rfl args w
  call := fun s T W d cs x av ar hst hbud hb hiv _ => flat1_c W0 S0 B s T W d cs x av hst hbud hb hiv
theorem foldW_list (f : List IT → IT → List IT × Bool) (g : IT → List IT) (h : ∀ s y, f s y = (s ++ g y, true)) : ∀ (P : List IT) (s : List IT), foldW f s P = (s ++ P.flatMap g, true)
  | [], s => by simp [foldW]
  | y :: r, s => by
    show (if (f s y).2 then foldW f (f s y).1 r else ((f s y).1, false)) = _
    rw [h s y, if_pos rfl, foldW_list f g h r, List.flatMap_cons, List.append_assoc]
theorem walkM_flat : ∀ (d : Nat) (s : List IT) (x : IT) (ar : List ByteArray), walkM (fun s x _ => (s ++ [bare x], true)) d s x ar = (s ++ (flatIG d x).map bare, true)
  | 0, s, x, ar => by simp [walkM, flatIG]
  | d + 1, s, x, ar => by
    have hf := foldW_list (fun s k => walkM (fun s x _ => (s ++ [bare x], true)) d s k (ar ++ [x.id])) (fun y => (flatIG d y).map bare) (fun s y => walkM_flat d s y _)
    simp only [walkM, if_true]
    rw [hf]
    simp only [flatIG, List.map_cons, List.map_flatMap, List.append_assoc, List.singleton_append]
/-- What a listing gives. -/
def FlatE (w : World) (l : List IT) (e : Ending) (w' : World) : Prop :=
  ∃ (L : List (List Value × IT)) (v : Value), e = .returned v ∧ L.map (·.2) = l ∧ OwnS w' w.heap.size 36 14 v L.length (rowsI L) ∧ (∀ p ∈ L, ∃ d', ItemV (fun k => w.heap.size ≤ k) w' d' p.1 p.2) ∧ Below w.heap.size w w'

set_option maxRecDepth 100000 in
set_option maxHeartbeats 2000000 in
theorem flat_c {S : Nat → Prop} (d : Nat) (w : World) (cs : List Value) (m : MT) (hm : ModelV S w d cs m) (hok : okIG d 0 m.plan) (hbud : cntI d m.plan ≤ 260) :
    Calls Tryd.prog 17 #[.agg cs.toArray] w (FlatE w ((flatIG d m.plan).map bare)) := by
  have HMW := Lib.hid (fun (W : World) (T : Nat → Prop) (hst : LSt w (w.heap.size + 1) [] T W) (hb : Below w.heap.size w W) => mwalk_c (flatV w S (w.heap.size + 1)) d W cs m [] T hm hok (by show 0 + _ ≤ 260; omega) hst hb)
  have hfr : walkM (flatV w S (w.heap.size + 1)).step d [] m.plan [] = ([] ++ (flatIG d m.plan).map bare, true) := walkM_flat d _ _ _
  rw [hfr, List.nil_append] at HMW
  obtain ⟨fl, hfl⟩ : ∃ l, l = (flatIG d m.plan).map bare := ⟨_, rfl⟩
  rw [← hfl] at HMW ⊢
  obtain ⟨mi, mn, mroles, plan⟩ := m
  obtain ⟨ra, rc, fa, fn, fc, pc, rfl, h1, h2⟩ := hm
  simp only at h1 h2 HMW ⊢
  obtain ⟨i0, i1, i2, a3, n3, q3, a4, n4, q4, i5, i6, i7, i8, i9, i10, a11, n11, q11, a12, n12, q12, a13, n13, q13, rfl⟩ := h2.shape
  generalize mroles.length = rn at *
  clear h1 h2 hok hbud hfl hfr
  simp only [List.cons_append, List.nil_append] at *
  obtain ⟨w0, hw0⟩ : ∃ y, y = (w.alloc (.cells #[.string mi, .string mn, .slice ra rn rc, .slice fa fn fc, .string i0, .string i1, .int .i64 i2, .slice a3 n3 q3, .slice a4 n4 q4, .string i5, .string i6, .string i7, .bool i8, .bool i9, .int .i64 i10, .slice a11 n11 q11, .slice a12 n12 q12, .slice a13 n13 q13] 38)).alloc (.cells #[.slice none 0 0] 34) := ⟨_, rfl⟩
  have hsz0 : w0.heap.size = w.heap.size + 2 := by rw [hw0]; simp
  have HB0 := Lib.hid (show Below w.heap.size w w0 from by rw [hw0]; exact ((Below.refl _ _).alloc (Nat.le_refl _) _).alloc (by simp) _)
  have HQ0 := Lib.hid (show w0.heap[w.heap.size]? = some (.cells #[.string mi, .string mn, .slice ra rn rc, .slice fa fn fc, .string i0, .string i1, .int .i64 i2, .slice a3 n3 q3, .slice a4 n4 q4, .string i5, .string i6, .string i7, .bool i8, .bool i9, .int .i64 i10, .slice a11 n11 q11, .slice a12 n12 q12, .slice a13 n13 q13] 38 (0, 0)) from by rw [hw0]; exact (Below.heap_alloc _ _ _ (by simp)).trans (heap_alloc_new w _))
  have q1 : w0.heap[w.heap.size + 1]? = some (.cells #[.slice none 0 0] 34 (0, 0)) := by rw [hw0]; simpa using heap_alloc_new (w.alloc (.cells #[.string mi, .string mn, .slice ra rn rc, .slice fa fn fc, .string i0, .string i1, .int .i64 i2, .slice a3 n3 q3, .slice a4 n4 q4, .string i5, .string i6, .string i7, .bool i8, .bool i9, .int .i64 i10, .slice a11 n11 q11, .slice a12 n12 q12, .slice a13 n13 q13] 38)) (.cells #[.slice none 0 0] 34)
  have HST := Lib.hid (show LSt w (w.heap.size + 1) [] (fun k => k = w.heap.size + 1) w0 from
    ⟨rfl, fun k hk => by omega, by omega, [], .slice none 0 0, rfl, q1, OwnS.nil _ _ _ _, fun k hk => by simp [Value.ownBlock] at hk, by simp⟩)
  have HW0 := Lib.hid hw0
  have HI := Lib.hid infoGM18
  clear q1 hsz0 hw0
  go_enter Tryd.func17, Tryd.ntmps17
  go_upto_region 2 with (fail)
  rw [← HW0.out]
  go_wp2_with (refine wpList_load_rowG (by rfl) 38 (Operand.tmp 1) rfl w.heap.size rfl 38 _ (0, 0) _ HQ0.out Tryd.underlying38 rfl HI.out ?_)
  refine (HMW.out _ _ HST.out HB0.out).mono ?_
  rintro e w2 ⟨rfl, ⟨T2, hst2⟩, hb2⟩
  have HB2 := Lib.hid hb2
  obtain ⟨_, _, _, L, v, hL, h4, h5, h6, h7⟩ := hst2
  have HR := Lib.hid (show L.map (·.2) = fl ∧ OwnS w2 w.heap.size 36 14 v L.length (rowsI L) ∧ (∀ p ∈ L, ∃ d', ItemV (fun k => w.heap.size ≤ k) w2 d' p.1 p.2) from ⟨hL, h5.weak (by omega), fun p hp => by
    obtain ⟨d', hd⟩ := h7 p hp
    exact ⟨d', hd.mono (fun k _ hS => by omega)⟩⟩)
  obtain ⟨va, vc, hv, _⟩ := h5.form
  subst hv
  obtain ⟨f0, fz⟩ := one_cellG h4
  clear h4 h5 h6 h7 hL hb2
  go_wp2_with fail
  go_ret
  exact ⟨L, _, by rfl, HR.out.1, HR.out.2.1, HR.out.2.2, HB2.out⟩
end Go.Proofs.YtllhlmdhnmdihaaDoor
