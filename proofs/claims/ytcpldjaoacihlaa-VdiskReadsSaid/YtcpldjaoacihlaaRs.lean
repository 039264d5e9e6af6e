/- the reference's disk: set. -/
import Derived.Test.YtcpldjaoacihlaaRt
import Derived.Deep.RegionHeld3
import Derived.StillTailTactics
import Derived.Test.YtcpldjaoacihlaaCut
namespace Go.Proofs.Ytcpldjaoacihlaa
open Go.RowKit
set_option linter.unusedVariables false

theorem infoF : (Try.prog.info? 69).map (fun i => (i.zero, i.size, i.bytes)) = some (some (.agg #[.string ⟨#[]⟩, .slice none 0 0, .int .i64 0]), 3, 48) := by kernel_rfl

theorem flat_app (a b : Ents) : flat (a ++ b) = flat a ++ flat b := by simp [flat]
theorem OwnS.below {w w' : World} {base : Nat} {e : TypeId} {size : Nat} {v : Value} {n : Nat} {xs : List Value} (h : OwnS w base e size v n xs) (hb : Below w.heap.size w w') : OwnS w' base e size v n xs :=
  h.keep fun g hg => hb.block g (h.lt g hg)
/-- v[:k] as what an append takes. -/
theorem OwnS.srcTo {w : World} {base : Nat} {e : TypeId} {a : Option Addr} {n c : Nat} {G : Ents} (h : OwnS w base e 3 (.slice a n c) G.length (flat G)) (hone : ∀ u ∈ flat G, u.oneCell' = true) (k : Nat) (hk : k ≤ G.length) (t : TypeId) {e' : TypeId} (ht : Try.prog.underlying t = some (.slice e')) :
    Src Try.prog 3 t (.slice a k c) k (flat (G.take k)) w := by
  have hsub : ∀ j u, (flat (G.take k))[j]? = some u → (flat G)[j]? = some u := fun j u hj => by
    conv => lhs; rw [← List.take_append_drop k G, flat_app]
    rw [List.getElem?_append_left (List.getElem?_eq_some_iff.1 hj).1]
    exact hj
  cases a with
  | none =>
    obtain ⟨_, _, e1, h1, _, h3⟩ := h.form
    simp only [Value.slice.injEq] at e1
    obtain ⟨rfl, rfl, rfl⟩ := e1
    have := h3 rfl
    subst this
    have hk0 : k = 0 := by omega
    subst hk0
    exact Src.ofNil w ht 0
  | some a =>
    rcases h.2 with ⟨hv, _⟩ | ⟨g, off, cap, cur, hv, _⟩
    · cases hv
    · have hv' := hv
      simp only [Value.slice.injEq, Option.some.injEq] at hv'
      obtain ⟨rfl, _, _⟩ := hv'
      refine Src.ofSlice w ht _ k c _ (by rw [flat_length, List.length_take, Nat.min_eq_left hk]) (fun j u hj => ?_) (fun u hu => hone u ?_)
      · rw [Addr.add_lit]
        exact h.cell hv j u (hsub j u hj)
      · obtain ⟨j, hj, rfl⟩ := List.getElem_of_mem hu
        exact List.mem_of_getElem? (hsub j _ (List.getElem?_eq_getElem hj))
theorem flat_one (G : Ents) (h : ∀ p ∈ G, p.2.1.oneCell' = true) : ∀ u ∈ flat G, u.oneCell' = true := by
  intro u hu
  simp only [flat, List.mem_flatMap] at hu
  obtain ⟨p, hp, hu⟩ := hu
  simp only [fcells, List.mem_cons, List.not_mem_nil, or_false] at hu
  rcases hu with rfl | rfl | rfl
  · rfl
  · exact h p hp
  · rfl

/-- v[k:] as what an append takes. -/
theorem OwnS.srcFrom {w : World} {base : Nat} {e : TypeId} {g off n c : Nat} {G : Ents} (h : OwnS w base e 3 (.slice (some ⟨g, off, none⟩) n c) G.length (flat G)) (hone : ∀ u ∈ flat G, u.oneCell' = true) (k : Nat) (hk : k ≤ G.length) (t : TypeId) {e' : TypeId} (ht : Try.prog.underlying t = some (.slice e')) (c' : Nat) :
    Src Try.prog 3 t (.slice (some ⟨g, off + k * 3, none⟩) (G.length - k) c') (G.length - k) (flat (G.drop k)) w := by
  have hsub : ∀ j u, (flat (G.drop k))[j]? = some u → (flat G)[k * 3 + j]? = some u := fun j u hj => by
    conv => lhs; rw [← List.take_append_drop k G, flat_app]
    rw [List.getElem?_append_right (by rw [flat_length, List.length_take, Nat.min_eq_left hk]; omega), flat_length, List.length_take, Nat.min_eq_left hk, Nat.add_sub_cancel_left]
    exact hj
  refine Src.ofSlice w ht _ _ c' _ (by rw [flat_length, List.length_drop]) (fun j u hj => ?_) (fun u hu => hone u ?_)
  · rw [Addr.add_lit, Nat.add_assoc]
    rcases h.2 with ⟨hv, _⟩ | ⟨g', off', cap, cur, hv, _⟩
    · cases hv
    · have hv' := hv
      simp only [Value.slice.injEq, Option.some.injEq, Addr.mk.injEq, and_true] at hv'
      obtain ⟨⟨rfl, rfl⟩, _, _⟩ := hv'
      exact h.cell hv _ u (hsub j u hj)
  · obtain ⟨j, hj, rfl⟩ := List.getElem_of_mem hu
    exact List.mem_of_getElem? (hsub j _ (List.getElem?_eq_getElem hj))
/-- A new empty row. -/
theorem own_new (W : World) (X : Nat) (hX : X = W.heap.size) (e : TypeId) (size : Nat) : OwnS (W.alloc (.cells #[] e)) 0 e size (.slice (some ⟨X, 0, none⟩) 0 0) 0 [] := by
  subst hX
  exact ⟨by simp, .inr ⟨_, 0, 0, #[], rfl, Nat.zero_le _, heap_alloc_new W _, Nat.le_refl _, Nat.zero_le _, by simp, by simp⟩⟩
theorem OwnS.alloc {w : World} {base : Nat} {e : TypeId} {size : Nat} {v : Value} {n : Nat} {xs : List Value} (h : OwnS w base e size v n xs) (o : Obj) : OwnS (w.alloc o) base e size v n xs := h.below ((Below.refl _ _).alloc (Nat.le_refl _) o)
/-- One file, in a block of its own. -/
theorem src_file {W : World} {Y : Nat} {n : ByteArray} {v x : Value} (h : W.heap[Y]? = some (.cells #[.string n, v, x] 69 (0, 0))) (hv : v.oneCell' = true) (hx : x.oneCell' = true) :
    Src Try.prog 3 62 (.slice (some ⟨Y, 0, none⟩) 1 1) 1 [.string n, v, x] W := by
  refine Src.ofSlice W Try.underlying62 _ 1 1 _ rfl (fun j u hj => ?_) (by simp [hv, hx]; rfl)
  rw [Addr.add_lit, cell_of_row W Y (0 + j) _ _ (0, 0) h]
  simpa using hj

theorem heap_new {W : World} (X : Nat) (o : Obj) (hX : X = W.heap.size) : (W.alloc o).heap[X]? = some o := by subst hX; exact heap_alloc_new W o

theorem srcNil (W : World) (t : TypeId) (a : Option Addr) (c : Nat) {e' : TypeId} (ht : Try.prog.underlying t = some (.slice e')) : Src Try.prog 3 t (.slice a 0 c) 0 [] W := by
  cases a with
  | none => exact Src.ofNil W ht c
  | some a => exact Src.ofSlice W ht a 0 c [] rfl (by simp) (by simp)

theorem step_append_B {ops : Array Oper} {o : Oper} {a : Act} {w : World} {Q : Exit → Act → World → Prop} {K : Act → World → Prop} {E : Prop} (hgd : o.guard = none) (s x : Operand)
    (ho : o.op = .call { callee := .builtin .append, args := #[s, x], argTypes := #[62, 62] }) (B0 : Nat) (W0 : World) (hBW : B0 ≤ W0.heap.size) (v : Value) (n : Nat) (xs : List Value) (hs : a.eval s = v) (xv : Value) (m : Nat) (news : List Value) (hx : a.eval x = xv)
    (hB : Below B0 W0 w) (hown : OwnS w 0 69 3 v n xs) (hvB : ∀ g, v.ownBlock = some g → B0 ≤ g) (hsrc : Below B0 W0 w → Src Try.prog 3 62 xv m news w) (hnm : n + m ≤ 10000000)
    (h : ∀ v' w', OwnS w' 0 69 3 v' (n + m) (xs ++ news) → w.grownBy w' v.ownBlock → Below B0 W0 w' → (∀ g, v'.ownBlock = some g → B0 ≤ g) → K (a.put o.dst v') w') :
    if Region.wanted o (yielded ops a.tmps) = true then Oper.wp Try.prog o a w K Q else E := by
  obtain ⟨i0, hi, hz0, hz1, hz2⟩ := info_parts infoF
  refine step_append_S hgd s x _ _ ho 0 69 i0 _ 3 48 Try.underlying62 hi hz0 hz1 hz2 rfl (Nat.succ_pos _) v n xs hs hown xv m news hx (hsrc hB) (by unfold maxLen; omega) (by omega) (Nat.zero_le _) ?_
  intro v' w' h1 h2 h3
  refine h v' w' h1 h2 (hB.grown h2 (Nat.le_trans hBW hB.size) hvB) fun g hg => ?_
  rcases h3 with h | h
  · exact hvB g (by rw [← h]; exact hg)
  · rw [hg] at h
    simp only [Option.some.injEq] at h
    have := hB.size
    omega

theorem Rd.keep' {w w' : World} {v : Value} {xs : List UInt8} (h : Rd w v xs) (hb : ∀ g, xs.length ≠ 0 → v.ownBlock = some g → w'.heap[g]? = w.heap[g]?) : Rd w' v xs := by
  obtain ⟨a, c, hv, k1, k2, k3, k4⟩ := h
  refine ⟨a, c, hv, k1, k2, k3, fun h0 => ?_⟩
  obtain ⟨b, o, rfl, hx⟩ := k4 h0
  exact ⟨b, o, rfl, fun i hi => by rw [World.cell?_of_block (w := w) (hb b (by omega) (by rw [hv]; rfl))]; exact hx i hi⟩
theorem mem_bblks {G : Ents} {p : List UInt8 × (Value × Fl)} {g : Nat} (hp : p ∈ G) (h0 : p.2.2.data.length ≠ 0) (hg : p.2.1.ownBlock = some g) : g ∈ bblks G := by
  unfold bblks
  rw [List.mem_filterMap]
  exact ⟨p, hp, by rw [if_neg h0, hg]⟩

/-- What set leaves. -/
def SetPost (w : World) (qb : Nat) (s : DS) (lv : Value) (G : Ents) (n : List UInt8) (bv : Value) (f : Fl) (w' : World) : Prop :=
  ∃ lv', RC w' qb { s with fs := putA n f s.fs } lv' (putA n (bv, f) G) ∧ (lv'.ownBlock = lv.ownBlock ∨ ∃ g, lv'.ownBlock = some g ∧ w.heap.size < g) ∧ Chg (qb :: lv.ownBlock.toList) w w'

section
variable {w : World} {qb : Nat} {s : DS} {lv : Value} {G : Ents}

theorem blk_far {o : Obj} {w4 : World} (hlt : qb < w.heap.size) (hB : Below (w.heap.size + 1) (w.alloc o) w4) : w4.heap[qb]? = w.heap[qb]? :=
  (hB.block qb (by omega)).trans (Below.heap_alloc _ _ _ hlt)

theorem set_fin (h : RC w qb s lv G) (hbb : qb ∉ bblks G) (n : ByteArray) (bv : Value) (f : Fl) (hrd : Rd w bv f.data) (hbv : ∀ g, f.data.length ≠ 0 → bv.ownBlock = some g → g ≠ qb)
    (hg : (getA n.data.toList G).isSome = false) (ho : ({ s with fs := putA n.data.toList f s.fs } : DS).Ok) {K : Nat} (hK : K = posA n.data.toList G) {o : Obj} {w4 : World} {v4 : Value} (hB : Below (w.heap.size + 1) (w.alloc o) w4)
    {N : Nat} {X : List Value} (hown : OwnS w4 0 69 3 v4 N X) (hN : N = G.length + 1) (hXs : X = flat (G.take K) ++ [.string n, bv, .int .i64 f.sy] ++ flat (G.drop K)) (hX : ∀ g, v4.ownBlock = some g → w.heap.size + 1 ≤ g) :
    SetPost w qb s lv G n.data.toList bv f (w4.setCell ⟨qb, 0, none⟩ v4) := by
  have hlt := h.ltq
  have hg' : getA n.data.toList G = none := by cases hh : getA n.data.toList G; rfl; rw [hh] at hg; cases hg
  have hKl : K ≤ G.length := by rw [hK]; exact posA_le
  have hput := putA_new (b := (bv, f)) h.risG hg'
  rw [← hK] at hput
  have hfl : flat (putA n.data.toList (bv, f) G) = X := by
    rw [hput, flat_app, hXs]
    simp [flat, fcells]
  have hln : (putA n.data.toList (bv, f) G).length = N := by
    rw [hput, hN]; simp; omega
  have hfar : ∀ g, g < w.heap.size → g ≠ qb → (w4.setCell ⟨qb, 0, none⟩ v4).heap[g]? = w.heap[g]? := fun g h1 h2 => (Below.heap_setCell _ _ _ _ h2).trans ((hB.block g (by omega)).trans (Below.heap_alloc _ _ _ h1))
  refine ⟨v4, ⟨(heap_mod ((blk_far hlt hB).trans h.blk)).trans rfl, ?_, ?_, fun p hp => ?_, ho⟩, .inr ?_, ?_⟩
  · rw [hfl, hln]
    exact hown.keep fun g hg => Below.heap_setCell _ _ _ _ (show g ≠ qb from by have := hX g hg; omega)
  · show putA n.data.toList f s.fs = fils (putA n.data.toList (bv, f) G)
    rw [h.fs]
    unfold fils
    exact (mapA_putA (fun b : Value × Fl => b.2) _ (bv, f) _).symm
  · rcases mem_putA.1 hp with rfl | ⟨hp, _⟩
    · exact Rd.keep' hrd fun g h1 h2 => hfar g (Rd.lt hrd (by simp only at h1; omega) g h2) (hbv g h1 h2)
    · exact Rd.keep' (h.rd p hp) fun g h1 h2 => hfar g (h.ltb g (mem_bblks hp h1 h2)) fun e => hbb (by rw [← e]; exact mem_bblks hp h1 h2)
  · obtain ⟨_, _, rfl, _⟩ := hown.form
    rcases hown.2 with ⟨_, h0⟩ | ⟨g, off, cap, cur, hv, _⟩
    · omega
    · exact ⟨g, by rw [hv]; rfl, by have := hX g (by rw [hv]; rfl); omega⟩
  · have hc : Chg (qb :: lv.ownBlock.toList) w w4 := ⟨hB.os, hB.tape, hB.output, by have := hB.size; simp at this; omega, fun i hi _ => (hB.block i (by omega)).trans (Below.heap_alloc _ _ _ hi)⟩
    exact hc.set' _ _ _ (by simp)


set_option maxRecDepth 100000 in
set_option maxHeartbeats 8000000 in
theorem set_new1 {g off c : Nat} (h : RC w qb s (.slice (some ⟨g, off, none⟩) G.length c) G) (hq : (Value.slice (some ⟨g, off, none⟩) G.length c).ownBlock ≠ some qb) (hbb : qb ∉ bblks G) (hl : G.length ≤ 1000000) (n : ByteArray) (hn : n.size ≤ 9223372036854775807) (bp : Option Addr) (bc : Nat) (f : Fl)
    (hrd : Rd w (.slice bp f.data.length bc) f.data) (hbv : ∀ g, f.data.length ≠ 0 → (Value.slice bp f.data.length bc).ownBlock = some g → g ≠ qb) (hg : getA n.data.toList G = none) (ho : ({ s with fs := putA n.data.toList f s.fs } : DS).Ok) (hcK : ¬ c = posA n.data.toList G) :
    Calls Try.prog 59 #[.pointer (some ⟨qb, 0, none⟩), .agg #[.string n, .slice bp f.data.length bc, .int .i64 f.sy]] w fun e w' => e = .returned (.tuple #[]) ∧ SetPost w qb s (.slice (some ⟨g, off, none⟩) G.length c) G n.data.toList (.slice bp f.data.length bc) f w' := by
  have HC := Lib.hid h
  have HN := Lib.hid hn
  have HG := Lib.hid (show (getA n.data.toList G).isSome = false from by rw [hg]; rfl)
  have HQ := Lib.hid hq
  have HBV := Lib.hid (And.intro hbb (And.intro hrd (And.intro hbv ho)))
  obtain ⟨i0, hi, hz0, hz1, hz2⟩ := info_parts infoF
  obtain ⟨l1, l2⟩ : G.length ≤ c ∧ c ≤ maxLen := by
    obtain ⟨_, _, e, l1, l2, _⟩ := h.row.form
    simp only [Value.slice.injEq, true_and] at e
    omega
  obtain ⟨c0, c1, c2, c3, cf⟩ := cells4 h.blk
  have hltq := h.ltq
  obtain ⟨K, hK⟩ : ∃ K, K = posA n.data.toList G := ⟨_, rfl⟩
  have HK := Lib.hid hK
  have hKl : K ≤ G.length := by rw [hK]; exact posA_le
  rw [← hK] at hcK
  unfold maxLen at l2
  have i1 : (0 : Int) ≤ (K : Int) := by omega
  have i2 : (K : Int) ≤ (G.length : Int) := by omega
  have i3 : (K : Int) ≤ (c : Int) := by omega
  have i4 : (G.length : Int) ≤ (c : Int) := by omega
  clear h hn hg hq hK c1 c2 c3 cf hbb hrd hbv ho
  have HSF := Lib.hid (flat_one G (fun p hp => by obtain ⟨_, _, hv, _⟩ := HC.out.rd p hp; rw [hv]; rfl))
  have KEEP : ∀ w', Below (w.heap.size + 1) (w.alloc (.cells #[.string n, .slice bp f.data.length bc, .int .i64 f.sy] 69)) w' →
      w'.cell? ⟨qb, 0, none⟩ = some (.slice (some ⟨g, off, none⟩) G.length c) ∧ w'.cell? ⟨w.heap.size, 0, none⟩ = some (.string n) ∧ w'.cell? ⟨w.heap.size, 1, none⟩ = some (.slice bp f.data.length bc) ∧ w'.cell? ⟨w.heap.size, 2, none⟩ = some (.int .i64 f.sy) ∧
      Below (w.heap.size + 1) (w.alloc (.cells #[.string n, .slice bp f.data.length bc, .int .i64 f.sy] 69)) w' := fun w' hb => by
    refine ⟨?_, ?_, ?_, ?_, hb⟩
    · rw [hb.cell (by simp; omega), World.cell?_of_block (w := w) (Below.heap_alloc w _ _ hltq)]; exact c0
    · rw [hb.cell (by simp)]; go_simp
    · rw [hb.cell (by simp)]; go_simp
    · rw [hb.cell (by simp)]; go_simp
  have HKP := Lib.hid KEEP
  clear KEEP
  go_enter Try.func59, Try.ntmps59
  go_wp2_with fail
  refine (place_r (HC.out.alloc _) n HN.out).mono ?_
  rintro e w' ⟨rfl, kd, rfl⟩
  rw [HG.out, ← HK.out]
  go_wp2_with fail
  refine wp_region_cut (S := (fun w' => w'.cell? ⟨qb, 0, none⟩ = some (.slice (some ⟨g, off, none⟩) G.length c) ∧ w'.cell? ⟨w.heap.size, 0, none⟩ = some (.string n) ∧ w'.cell? ⟨w.heap.size, 1, none⟩ = some (.slice bp f.data.length bc) ∧ w'.cell? ⟨w.heap.size, 2, none⟩ = some (.int .i64 f.sy) ∧
      Below (w.heap.size + 1) (w.alloc (.cells #[.string n, .slice bp f.data.length bc, .int .i64 f.sy] 69)) w')) 21 (by kernel_rfl) (by kernel_rfl) ?_ (fun hHeld => ?_)
  · (try dsimp only)
    (first
        | exact HKP.out _ (below_drewN (Below.refl _ _) _)
        | exact HKP.out _ (Below.drew (below_drewN ((Below.refl (w.heap.size + 1) (w.alloc (.cells #[.string n, .slice bp f.data.length bc, .int .i64 f.sy] 69)))) kd))
        | (go_split_ands; refine HKP.out _ (Below.alloc ?_ ?_ _); · assumption
           · first | simp | (have := hB2.size; simp at this; omega) | (have := hB3.size; simp at this; omega))
        | (refine HKP.out _ ?_; assumption))
  simp only [List.take_succ_cons, List.take_zero]
  (try dsimp only at hHeld)
  all_goals (repeat (first
         | (refine wpAnyH_take (i := 0) (v := ?_) rfl (by decide +kernel) (by decide +kernel) (by decide +kernel) (fun _ _ _ h => h) (Or.inl ⟨by rfl, ?_⟩) (by assumption) ?_; rotate_left 1; (focus (intro w hSw; (try dsimp only at hSw); (try simp only [List.getElem_toArray, List.getElem_cons_zero]); first | (go_simp; done) | (go_simp; with_reducible rfl))); (try simp only [Act.put, List.getElem_toArray, List.getElem_cons_zero, List.setIfInBounds_toArray, List.set_cons_zero, List.set_cons_succ]))
         | (refine wpAnyH_take (i := 2) (v := ?_) rfl (by decide +kernel) (by decide +kernel) (by decide +kernel) (fun _ _ _ h => h) (Or.inl ⟨by rfl, ?_⟩) (by assumption) ?_; rotate_left 1; (focus (intro w hSw; (try dsimp only at hSw); (try simp only [List.getElem_toArray, List.getElem_cons_succ, List.getElem_cons_zero]); first | (go_simp; done) | (go_simp; with_reducible rfl))); (try simp only [Act.put, List.getElem_toArray, List.getElem_cons_succ, List.getElem_cons_zero, List.setIfInBounds_toArray, List.set_cons_zero, List.set_cons_succ]))
         | (refine wpAnyH_take (i := 3) (v := ?_) rfl (by decide +kernel) (by decide +kernel) (by decide +kernel) (fun _ _ _ h => h) (Or.inl ⟨by rfl, ?_⟩) (by assumption) ?_; rotate_left 1; (focus (intro w hSw; (try dsimp only at hSw); (try simp only [List.getElem_toArray, List.getElem_cons_succ, List.getElem_cons_zero]); first | (go_simp; done) | (go_simp; with_reducible rfl))); (try simp only [Act.put, List.getElem_toArray, List.getElem_cons_succ, List.getElem_cons_zero, List.setIfInBounds_toArray, List.set_cons_zero, List.set_cons_succ]))
         | (refine wpAnyH_take (i := 4) (v := ?_) rfl (by decide +kernel) (by decide +kernel) (by decide +kernel) (fun _ _ _ h => h) (Or.inl ⟨by rfl, ?_⟩) (by assumption) ?_; rotate_left 1; (focus (intro w hSw; (try dsimp only at hSw); (try simp only [List.getElem_toArray, List.getElem_cons_succ, List.getElem_cons_zero]); first | (go_simp; done) | (go_simp; with_reducible rfl))); (try simp only [Act.put, List.getElem_toArray, List.getElem_cons_succ, List.getElem_cons_zero, List.setIfInBounds_toArray, List.set_cons_zero, List.set_cons_succ]))
         | (refine wpAnyH_take (i := 5) (v := ?_) rfl (by decide +kernel) (by decide +kernel) (by decide +kernel) (fun _ _ _ h => h) (Or.inl ⟨by rfl, ?_⟩) (by assumption) ?_; rotate_left 1; (focus (intro w hSw; (try dsimp only at hSw); (try simp only [List.getElem_toArray, List.getElem_cons_succ, List.getElem_cons_zero]); first | (go_simp; done) | (go_simp; with_reducible rfl))); (try simp only [Act.put, List.getElem_toArray, List.getElem_cons_succ, List.getElem_cons_zero, List.setIfInBounds_toArray, List.set_cons_zero, List.set_cons_succ]))
         | (refine wpAnyH_take (i := 6) (v := ?_) rfl (by decide +kernel) (by decide +kernel) (by decide +kernel) (fun _ _ _ h => h) (Or.inl ⟨by rfl, ?_⟩) (by assumption) ?_; rotate_left 1; (focus (intro w hSw; (try dsimp only at hSw); (try simp only [List.getElem_toArray, List.getElem_cons_succ, List.getElem_cons_zero]); first | (go_simp; done) | (go_simp; with_reducible rfl))); (try simp only [Act.put, List.getElem_toArray, List.getElem_cons_succ, List.getElem_cons_zero, List.setIfInBounds_toArray, List.set_cons_zero, List.set_cons_succ]))
         | (refine wpAnyH_take (i := 7) (v := ?_) rfl (by decide +kernel) (by decide +kernel) (by decide +kernel) (fun _ _ _ h => h) (Or.inl ⟨by rfl, ?_⟩) (by assumption) ?_; rotate_left 1; (focus (intro w hSw; (try dsimp only at hSw); (try simp only [List.getElem_toArray, List.getElem_cons_succ, List.getElem_cons_zero]); first | (go_simp; done) | (go_simp; with_reducible rfl))); (try simp only [Act.put, List.getElem_toArray, List.getElem_cons_succ, List.getElem_cons_zero, List.setIfInBounds_toArray, List.set_cons_zero, List.set_cons_succ]))
         | (refine wpAnyH_take (i := 9) (v := ?_) rfl (by decide +kernel) (by decide +kernel) (by decide +kernel) (fun _ _ _ h => h) (Or.inl ⟨by rfl, ?_⟩) (by assumption) ?_; rotate_left 1; (focus (intro w hSw; (try dsimp only at hSw); (try simp only [List.getElem_toArray, List.getElem_cons_succ, List.getElem_cons_zero]); first | (go_simp; done) | (go_simp; with_reducible rfl))); (try simp only [Act.put, List.getElem_toArray, List.getElem_cons_succ, List.getElem_cons_zero, List.setIfInBounds_toArray, List.set_cons_zero, List.set_cons_succ]))
         | (refine wpAnyH_take (i := 12) (v := ?_) rfl (by decide +kernel) (by decide +kernel) (by decide +kernel) (fun _ _ _ h => h) (Or.inl ⟨by rfl, ?_⟩) (by assumption) ?_; rotate_left 1; (focus (intro w hSw; (try dsimp only at hSw); (try simp only [List.getElem_toArray, List.getElem_cons_succ, List.getElem_cons_zero]); first | (go_simp; done) | (go_simp; with_reducible rfl))); (try simp only [Act.put, List.getElem_toArray, List.getElem_cons_succ, List.getElem_cons_zero, List.setIfInBounds_toArray, List.set_cons_zero, List.set_cons_succ]))
         | (refine wpAnyH_take (i := 13) (v := ?_) rfl (by decide +kernel) (by decide +kernel) (by decide +kernel) (fun _ _ _ h => h) (Or.inl ⟨by rfl, ?_⟩) (by assumption) ?_; rotate_left 1; (focus (intro w hSw; (try dsimp only at hSw); (try simp only [List.getElem_toArray, List.getElem_cons_succ, List.getElem_cons_zero]); first | (go_simp; done) | (go_simp; with_reducible rfl))); (try simp only [Act.put, List.getElem_toArray, List.getElem_cons_succ, List.getElem_cons_zero, List.setIfInBounds_toArray, List.set_cons_zero, List.set_cons_succ]))
         | (refine wpAnyH_take (i := 14) (v := ?_) rfl (by decide +kernel) (by decide +kernel) (by decide +kernel) (fun _ _ _ h => h) (Or.inl ⟨by rfl, ?_⟩) (by assumption) ?_; rotate_left 1; (focus (intro w hSw; (try dsimp only at hSw); (try simp only [List.getElem_toArray, List.getElem_cons_succ, List.getElem_cons_zero]); first | (go_simp; done) | (go_simp; with_reducible rfl))); (try simp only [Act.put, List.getElem_toArray, List.getElem_cons_succ, List.getElem_cons_zero, List.setIfInBounds_toArray, List.set_cons_zero, List.set_cons_succ]))
         | (refine wpAnyH_take (i := 15) (v := ?_) rfl (by decide +kernel) (by decide +kernel) (by decide +kernel) (fun _ _ _ h => h) (Or.inl ⟨by rfl, ?_⟩) (by assumption) ?_; rotate_left 1; (focus (intro w hSw; (try dsimp only at hSw); (try simp only [List.getElem_toArray, List.getElem_cons_succ, List.getElem_cons_zero]); first | (go_simp; done) | (go_simp; with_reducible rfl))); (try simp only [Act.put, List.getElem_toArray, List.getElem_cons_succ, List.getElem_cons_zero, List.setIfInBounds_toArray, List.set_cons_zero, List.set_cons_succ]))
         | (refine wpAnyH_take (i := 16) (v := ?_) rfl (by decide +kernel) (by decide +kernel) (by decide +kernel) (fun _ _ _ h => h) (Or.inl ⟨by rfl, ?_⟩) (by assumption) ?_; rotate_left 1; (focus (intro w hSw; (try dsimp only at hSw); (try simp only [List.getElem_toArray, List.getElem_cons_succ, List.getElem_cons_zero]); first | (go_simp; done) | (go_simp; with_reducible rfl))); (try simp only [Act.put, List.getElem_toArray, List.getElem_cons_succ, List.getElem_cons_zero, List.setIfInBounds_toArray, List.set_cons_zero, List.set_cons_succ]))
         | (refine wpAnyH_take (i := 17) (v := ?_) rfl (by decide +kernel) (by decide +kernel) (by decide +kernel) (fun _ _ _ h => h) (Or.inl ⟨by rfl, ?_⟩) (by assumption) ?_; rotate_left 1; (focus (intro w hSw; (try dsimp only at hSw); (try simp only [List.getElem_toArray, List.getElem_cons_succ, List.getElem_cons_zero]); first | (go_simp; done) | (go_simp; with_reducible rfl))); (try simp only [Act.put, List.getElem_toArray, List.getElem_cons_succ, List.getElem_cons_zero, List.setIfInBounds_toArray, List.set_cons_zero, List.set_cons_succ]))
         | (refine wpAnyH_take (i := 19) (v := ?_) rfl (by decide +kernel) (by decide +kernel) (by decide +kernel) (fun _ _ _ h => h) (Or.inl ⟨by rfl, ?_⟩) (by assumption) ?_; rotate_left 1; (focus (intro w hSw; (try dsimp only at hSw); (try simp only [List.getElem_toArray, List.getElem_cons_succ, List.getElem_cons_zero]); first | (go_simp; done) | (go_simp; with_reducible rfl))); (try simp only [Act.put, List.getElem_toArray, List.getElem_cons_succ, List.getElem_cons_zero, List.setIfInBounds_toArray, List.set_cons_zero, List.set_cons_succ]))
         | (refine wpAnyH_take (i := 20) (v := ?_) rfl (by decide +kernel) (by decide +kernel) (by decide +kernel) (fun _ _ _ h => h) (Or.inl ⟨by rfl, ?_⟩) (by assumption) ?_; rotate_left 1; (focus (intro w hSw; (try dsimp only at hSw); (try simp only [List.getElem_toArray, List.getElem_cons_succ, List.getElem_cons_zero]); first | (go_simp; done) | (go_simp; with_reducible rfl))); (try simp only [Act.put, List.getElem_toArray, List.getElem_cons_succ, List.getElem_cons_zero, List.setIfInBounds_toArray, List.set_cons_zero, List.set_cons_succ]))
         | fail "nothing to take"))
  iterate 5 (all_goals (
    (first
      | (refine wpAnyH_ready (rs := [1, 10]) (by decide +kernel) (by simp) ?_; refine (AllReadyH.cons rfl (fun Kx hKx => ?_) (AllReadyH.cons rfl (fun Kx hKx => ?_) AllReadyH.nil)))
      | (refine wpAnyH_ready (rs := [8, 10]) (by decide +kernel) (by simp) ?_; refine (AllReadyH.cons rfl (fun Kx hKx => ?_) (AllReadyH.cons rfl (fun Kx hKx => ?_) AllReadyH.nil)))
      | (refine wpAnyH_ready (rs := [1]) (by decide +kernel) (by simp) ?_; refine (AllReadyH.cons rfl (fun Kx hKx => ?_) AllReadyH.nil))
      | (refine wpAnyH_ready (rs := [10]) (by decide +kernel) (by simp) ?_; refine (AllReadyH.cons rfl (fun Kx hKx => ?_) AllReadyH.nil))
      | (refine wpAnyH_ready (rs := [8]) (by decide +kernel) (by simp) ?_; refine (AllReadyH.cons rfl (fun Kx hKx => ?_) AllReadyH.nil))
      | (refine wpAnyH_ready (rs := [11]) (by decide +kernel) (by simp) ?_; refine (AllReadyH.cons rfl (fun Kx hKx => ?_) AllReadyH.nil))
      | (refine wpAnyH_ready (rs := [18]) (by decide +kernel) (by simp) ?_; refine (AllReadyH.cons rfl (fun Kx hKx => ?_) AllReadyH.nil)))
    all_goals (
      first
        | (first
          | (go_split_ands
             refine step_append_B (by rfl) (Operand.tmp 22) (Operand.tmp 28) (by rfl) (w.heap.size + 1) (w.alloc (.cells #[.string n, .slice bp f.data.length bc, .int .i64 f.sy] 69)) (Nat.le_of_eq (by simp)) (.slice (some ⟨w.heap.size + 1, 0, none⟩) 0 0) 0 [] (by rfl) (.slice (some ⟨g, off, none⟩) K c) K (flat (G.take K)) (by rfl) ?_ ?_ ?_ ?_ ?_ ?_
             · assumption
             · first | exact own_new _ _ (by simp) _ _ | exact (own_new _ _ (by simp) _ _).alloc _
             · intro g' hg'; simp only [Value.ownBlock, Option.some.injEq] at hg'; omega
             · intro hB1; exact (HC.out.row.below (((Below.refl _ _).alloc (Nat.le_refl _) _).trans (hB1.mono (by omega)))).srcTo HSF.out K hKl _ Try.underlying62
             · omega
             intro v2 w2 hown2 hgrow2 hB2 hX2)
          | (go_split_ands
             refine step_append_B (by rfl) (Operand.tmp 22) (Operand.tmp 28) (by rfl) (w.heap.size + 1) (w.alloc (.cells #[.string n, .slice bp f.data.length bc, .int .i64 f.sy] 69)) (Nat.le_of_eq (by simp)) (.slice (some ⟨w.heap.size + 1 + 1, 0, none⟩) 0 0) 0 [] (by rfl) (.slice (some ⟨g, off, none⟩) K c) K (flat (G.take K)) (by rfl) ?_ ?_ ?_ ?_ ?_ ?_
             · assumption
             · first | exact own_new _ _ (by simp) _ _ | exact (own_new _ _ (by simp) _ _).alloc _
             · intro g' hg'; simp only [Value.ownBlock, Option.some.injEq] at hg'; omega
             · intro hB1; exact (HC.out.row.below (((Below.refl _ _).alloc (Nat.le_refl _) _).trans (hB1.mono (by omega)))).srcTo HSF.out K hKl _ Try.underlying62
             · omega
             intro v2 w2 hown2 hgrow2 hB2 hX2)
          | (go_split_ands
             refine step_append_B (by rfl) (Operand.tmp 29) (Operand.tmp 31) (by rfl) (w.heap.size + 1) (w.alloc (.cells #[.string n, .slice bp f.data.length bc, .int .i64 f.sy] 69)) (Nat.le_of_eq (by simp)) v2 (0 + K) ([] ++ flat (G.take K)) (by rfl) (.slice (some ⟨w2.heap.size, 0, none⟩) 1 1) 1 [.string n, .slice bp f.data.length bc, .int .i64 f.sy] (by rfl) ?_ ?_ ?_ ?_ ?_ ?_
             · assumption
             · exact hown2.alloc _
             · exact hX2
             · intro hB1; exact src_file (heap_alloc_new w2 _) rfl rfl
             · omega
             intro v3 w3 hown3 hgrow3 hB3 hX3)
          | (go_split_ands
             refine step_append_B (by rfl) (Operand.tmp 29) (Operand.tmp 31) (by rfl) (w.heap.size + 1) (w.alloc (.cells #[.string n, .slice bp f.data.length bc, .int .i64 f.sy] 69)) (Nat.le_of_eq (by simp)) v2 (0 + K) ([] ++ flat (G.take K)) (by rfl) (.slice (some ⟨w.heap.size + 1 + 1, 0, none⟩) 1 1) 1 [.string n, .slice bp f.data.length bc, .int .i64 f.sy] (by rfl) ?_ ?_ ?_ ?_ ?_ ?_
             · assumption
             · exact hown2
             · exact hX2
             · intro hB1; exact src_file ((hgrow2.block _ (by simp) (by simp [Value.ownBlock])).trans (heap_new _ _ (by simp))) rfl rfl
             · omega
             intro v3 w3 hown3 hgrow3 hB3 hX3)
          | (go_split_ands
             refine step_append_B (by rfl) (Operand.tmp 29) (Operand.tmp 31) (by rfl) (w.heap.size + 1) (w.alloc (.cells #[.string n, .slice bp f.data.length bc, .int .i64 f.sy] 69)) (Nat.le_of_eq (by simp)) v2 (0 + K) ([] ++ flat (G.take K)) (by rfl) (.slice (some ⟨w.heap.size + 1, 0, none⟩) 1 1) 1 [.string n, .slice bp f.data.length bc, .int .i64 f.sy] (by rfl) ?_ ?_ ?_ ?_ ?_ ?_
             · assumption
             · exact hown2
             · exact hX2
             · intro hB1; exact src_file ((hgrow2.block _ (by simp) (by simp [Value.ownBlock])).trans ((Below.heap_alloc _ _ _ (by simp)).trans (heap_new _ _ (by simp)))) rfl rfl
             · omega
             intro v3 w3 hown3 hgrow3 hB3 hX3)
          | (go_split_ands
             refine step_append_B (by rfl) (Operand.tmp 32) (Operand.tmp 38) (by rfl) (w.heap.size + 1) (w.alloc (.cells #[.string n, .slice bp f.data.length bc, .int .i64 f.sy] 69)) (Nat.le_of_eq (by simp)) v3 (0 + K + 1) ([] ++ flat (G.take K) ++ [.string n, .slice bp f.data.length bc, .int .i64 f.sy]) (by rfl) (.slice (some ⟨g, off + K * 3, none⟩) (G.length - K) (c - K)) (G.length - K) (flat (G.drop K)) (by rfl) ?_ ?_ ?_ ?_ ?_ ?_
             · assumption
             · exact hown3
             · exact hX3
             · intro hB1; exact (HC.out.row.below (((Below.refl _ _).alloc (Nat.le_refl _) _).trans (hB1.mono (by omega)))).srcFrom HSF.out K hKl _ Try.underlying62 _
             · omega
             intro v4 w4 hown4 hgrow4 hB4 hX4)
          | fail "no arm")
        | ((try simp only [List.getElem_toArray, List.getElem_cons_succ, List.getElem_cons_zero]); go_simp)
      refine hKx.out _ _ ?_ (fun hHeld => ?_)
      · (try dsimp only)
        (first
            | exact HKP.out _ (below_drewN (Below.refl _ _) _)
            | exact HKP.out _ (Below.drew (below_drewN ((Below.refl (w.heap.size + 1) (w.alloc (.cells #[.string n, .slice bp f.data.length bc, .int .i64 f.sy] 69)))) kd))
            | (go_split_ands; refine HKP.out _ (Below.alloc ?_ ?_ _); · assumption
               · first | simp | (have := hB2.size; simp at this; omega) | (have := hB3.size; simp at this; omega))
            | (refine HKP.out _ ?_; assumption))
      (try dsimp only at hHeld)
      clear hKx Kx
      (try simp only [Act.put, List.getElem_toArray, List.getElem_cons_succ, List.getElem_cons_zero, List.setIfInBounds_toArray, List.set_cons_zero, List.set_cons_succ])
      repeat (first
         | (refine wpAnyH_take (i := 0) (v := ?_) rfl (by decide +kernel) (by decide +kernel) (by decide +kernel) (fun _ _ _ h => h) (Or.inl ⟨by rfl, ?_⟩) (by assumption) ?_; rotate_left 1; (focus (intro w hSw; (try dsimp only at hSw); (try simp only [List.getElem_toArray, List.getElem_cons_zero]); first | (go_simp; done) | (go_simp; with_reducible rfl))); (try simp only [Act.put, List.getElem_toArray, List.getElem_cons_zero, List.setIfInBounds_toArray, List.set_cons_zero, List.set_cons_succ]))
         | (refine wpAnyH_take (i := 2) (v := ?_) rfl (by decide +kernel) (by decide +kernel) (by decide +kernel) (fun _ _ _ h => h) (Or.inl ⟨by rfl, ?_⟩) (by assumption) ?_; rotate_left 1; (focus (intro w hSw; (try dsimp only at hSw); (try simp only [List.getElem_toArray, List.getElem_cons_succ, List.getElem_cons_zero]); first | (go_simp; done) | (go_simp; with_reducible rfl))); (try simp only [Act.put, List.getElem_toArray, List.getElem_cons_succ, List.getElem_cons_zero, List.setIfInBounds_toArray, List.set_cons_zero, List.set_cons_succ]))
         | (refine wpAnyH_take (i := 3) (v := ?_) rfl (by decide +kernel) (by decide +kernel) (by decide +kernel) (fun _ _ _ h => h) (Or.inl ⟨by rfl, ?_⟩) (by assumption) ?_; rotate_left 1; (focus (intro w hSw; (try dsimp only at hSw); (try simp only [List.getElem_toArray, List.getElem_cons_succ, List.getElem_cons_zero]); first | (go_simp; done) | (go_simp; with_reducible rfl))); (try simp only [Act.put, List.getElem_toArray, List.getElem_cons_succ, List.getElem_cons_zero, List.setIfInBounds_toArray, List.set_cons_zero, List.set_cons_succ]))
         | (refine wpAnyH_take (i := 4) (v := ?_) rfl (by decide +kernel) (by decide +kernel) (by decide +kernel) (fun _ _ _ h => h) (Or.inl ⟨by rfl, ?_⟩) (by assumption) ?_; rotate_left 1; (focus (intro w hSw; (try dsimp only at hSw); (try simp only [List.getElem_toArray, List.getElem_cons_succ, List.getElem_cons_zero]); first | (go_simp; done) | (go_simp; with_reducible rfl))); (try simp only [Act.put, List.getElem_toArray, List.getElem_cons_succ, List.getElem_cons_zero, List.setIfInBounds_toArray, List.set_cons_zero, List.set_cons_succ]))
         | (refine wpAnyH_take (i := 5) (v := ?_) rfl (by decide +kernel) (by decide +kernel) (by decide +kernel) (fun _ _ _ h => h) (Or.inl ⟨by rfl, ?_⟩) (by assumption) ?_; rotate_left 1; (focus (intro w hSw; (try dsimp only at hSw); (try simp only [List.getElem_toArray, List.getElem_cons_succ, List.getElem_cons_zero]); first | (go_simp; done) | (go_simp; with_reducible rfl))); (try simp only [Act.put, List.getElem_toArray, List.getElem_cons_succ, List.getElem_cons_zero, List.setIfInBounds_toArray, List.set_cons_zero, List.set_cons_succ]))
         | (refine wpAnyH_take (i := 6) (v := ?_) rfl (by decide +kernel) (by decide +kernel) (by decide +kernel) (fun _ _ _ h => h) (Or.inl ⟨by rfl, ?_⟩) (by assumption) ?_; rotate_left 1; (focus (intro w hSw; (try dsimp only at hSw); (try simp only [List.getElem_toArray, List.getElem_cons_succ, List.getElem_cons_zero]); first | (go_simp; done) | (go_simp; with_reducible rfl))); (try simp only [Act.put, List.getElem_toArray, List.getElem_cons_succ, List.getElem_cons_zero, List.setIfInBounds_toArray, List.set_cons_zero, List.set_cons_succ]))
         | (refine wpAnyH_take (i := 7) (v := ?_) rfl (by decide +kernel) (by decide +kernel) (by decide +kernel) (fun _ _ _ h => h) (Or.inl ⟨by rfl, ?_⟩) (by assumption) ?_; rotate_left 1; (focus (intro w hSw; (try dsimp only at hSw); (try simp only [List.getElem_toArray, List.getElem_cons_succ, List.getElem_cons_zero]); first | (go_simp; done) | (go_simp; with_reducible rfl))); (try simp only [Act.put, List.getElem_toArray, List.getElem_cons_succ, List.getElem_cons_zero, List.setIfInBounds_toArray, List.set_cons_zero, List.set_cons_succ]))
         | (refine wpAnyH_take (i := 9) (v := ?_) rfl (by decide +kernel) (by decide +kernel) (by decide +kernel) (fun _ _ _ h => h) (Or.inl ⟨by rfl, ?_⟩) (by assumption) ?_; rotate_left 1; (focus (intro w hSw; (try dsimp only at hSw); (try simp only [List.getElem_toArray, List.getElem_cons_succ, List.getElem_cons_zero]); first | (go_simp; done) | (go_simp; with_reducible rfl))); (try simp only [Act.put, List.getElem_toArray, List.getElem_cons_succ, List.getElem_cons_zero, List.setIfInBounds_toArray, List.set_cons_zero, List.set_cons_succ]))
         | (refine wpAnyH_take (i := 12) (v := ?_) rfl (by decide +kernel) (by decide +kernel) (by decide +kernel) (fun _ _ _ h => h) (Or.inl ⟨by rfl, ?_⟩) (by assumption) ?_; rotate_left 1; (focus (intro w hSw; (try dsimp only at hSw); (try simp only [List.getElem_toArray, List.getElem_cons_succ, List.getElem_cons_zero]); first | (go_simp; done) | (go_simp; with_reducible rfl))); (try simp only [Act.put, List.getElem_toArray, List.getElem_cons_succ, List.getElem_cons_zero, List.setIfInBounds_toArray, List.set_cons_zero, List.set_cons_succ]))
         | (refine wpAnyH_take (i := 13) (v := ?_) rfl (by decide +kernel) (by decide +kernel) (by decide +kernel) (fun _ _ _ h => h) (Or.inl ⟨by rfl, ?_⟩) (by assumption) ?_; rotate_left 1; (focus (intro w hSw; (try dsimp only at hSw); (try simp only [List.getElem_toArray, List.getElem_cons_succ, List.getElem_cons_zero]); first | (go_simp; done) | (go_simp; with_reducible rfl))); (try simp only [Act.put, List.getElem_toArray, List.getElem_cons_succ, List.getElem_cons_zero, List.setIfInBounds_toArray, List.set_cons_zero, List.set_cons_succ]))
         | (refine wpAnyH_take (i := 14) (v := ?_) rfl (by decide +kernel) (by decide +kernel) (by decide +kernel) (fun _ _ _ h => h) (Or.inl ⟨by rfl, ?_⟩) (by assumption) ?_; rotate_left 1; (focus (intro w hSw; (try dsimp only at hSw); (try simp only [List.getElem_toArray, List.getElem_cons_succ, List.getElem_cons_zero]); first | (go_simp; done) | (go_simp; with_reducible rfl))); (try simp only [Act.put, List.getElem_toArray, List.getElem_cons_succ, List.getElem_cons_zero, List.setIfInBounds_toArray, List.set_cons_zero, List.set_cons_succ]))
         | (refine wpAnyH_take (i := 15) (v := ?_) rfl (by decide +kernel) (by decide +kernel) (by decide +kernel) (fun _ _ _ h => h) (Or.inl ⟨by rfl, ?_⟩) (by assumption) ?_; rotate_left 1; (focus (intro w hSw; (try dsimp only at hSw); (try simp only [List.getElem_toArray, List.getElem_cons_succ, List.getElem_cons_zero]); first | (go_simp; done) | (go_simp; with_reducible rfl))); (try simp only [Act.put, List.getElem_toArray, List.getElem_cons_succ, List.getElem_cons_zero, List.setIfInBounds_toArray, List.set_cons_zero, List.set_cons_succ]))
         | (refine wpAnyH_take (i := 16) (v := ?_) rfl (by decide +kernel) (by decide +kernel) (by decide +kernel) (fun _ _ _ h => h) (Or.inl ⟨by rfl, ?_⟩) (by assumption) ?_; rotate_left 1; (focus (intro w hSw; (try dsimp only at hSw); (try simp only [List.getElem_toArray, List.getElem_cons_succ, List.getElem_cons_zero]); first | (go_simp; done) | (go_simp; with_reducible rfl))); (try simp only [Act.put, List.getElem_toArray, List.getElem_cons_succ, List.getElem_cons_zero, List.setIfInBounds_toArray, List.set_cons_zero, List.set_cons_succ]))
         | (refine wpAnyH_take (i := 17) (v := ?_) rfl (by decide +kernel) (by decide +kernel) (by decide +kernel) (fun _ _ _ h => h) (Or.inl ⟨by rfl, ?_⟩) (by assumption) ?_; rotate_left 1; (focus (intro w hSw; (try dsimp only at hSw); (try simp only [List.getElem_toArray, List.getElem_cons_succ, List.getElem_cons_zero]); first | (go_simp; done) | (go_simp; with_reducible rfl))); (try simp only [Act.put, List.getElem_toArray, List.getElem_cons_succ, List.getElem_cons_zero, List.setIfInBounds_toArray, List.set_cons_zero, List.set_cons_succ]))
         | (refine wpAnyH_take (i := 19) (v := ?_) rfl (by decide +kernel) (by decide +kernel) (by decide +kernel) (fun _ _ _ h => h) (Or.inl ⟨by rfl, ?_⟩) (by assumption) ?_; rotate_left 1; (focus (intro w hSw; (try dsimp only at hSw); (try simp only [List.getElem_toArray, List.getElem_cons_succ, List.getElem_cons_zero]); first | (go_simp; done) | (go_simp; with_reducible rfl))); (try simp only [Act.put, List.getElem_toArray, List.getElem_cons_succ, List.getElem_cons_zero, List.setIfInBounds_toArray, List.set_cons_zero, List.set_cons_succ]))
         | (refine wpAnyH_take (i := 20) (v := ?_) rfl (by decide +kernel) (by decide +kernel) (by decide +kernel) (fun _ _ _ h => h) (Or.inl ⟨by rfl, ?_⟩) (by assumption) ?_; rotate_left 1; (focus (intro w hSw; (try dsimp only at hSw); (try simp only [List.getElem_toArray, List.getElem_cons_succ, List.getElem_cons_zero]); first | (go_simp; done) | (go_simp; with_reducible rfl))); (try simp only [Act.put, List.getElem_toArray, List.getElem_cons_succ, List.getElem_cons_zero, List.setIfInBounds_toArray, List.set_cons_zero, List.set_cons_succ]))
         | fail "nothing to take"))))
  all_goals refine wpAnyH_done (by decide +kernel) ?_ _
  all_goals simp only [cutPost, List.drop_succ_cons, List.drop_zero]
  all_goals (
    have hHd := hHeld
    have ho4 := Lib.hid hown4
    obtain ⟨a4, c4, hv4, _⟩ := hown4.form
    have hg4 := (cells4 ((blk_far hltq hB4).trans HC.out.blk)).2.2.2.2 0
    have hc4 := hHd.1
    rw [Nat.zero_add] at hv4
    subst hv4
    clear hHd
    go_wp2_with fail
    refine bodyPost_end (v := .tuple #[]) (by simp [results, Try.results59, go_sem]) rfl ?_
    exact ⟨rfl, set_fin HC.out HBV.out.1 n _ f HBV.out.2.1 HBV.out.2.2.1 HG.out HBV.out.2.2.2 HK.out hB4 ho4.out (by simp <;> omega) (by simp [flat]) hX4⟩)

set_option maxRecDepth 100000 in
set_option maxHeartbeats 8000000 in
theorem set_new2 {g off : Nat} (h : RC w qb s (.slice (some ⟨g, off, none⟩) G.length G.length) G) (hq : (Value.slice (some ⟨g, off, none⟩) G.length G.length).ownBlock ≠ some qb) (hbb : qb ∉ bblks G) (hl : G.length ≤ 1000000) (n : ByteArray) (hn : n.size ≤ 9223372036854775807) (bp : Option Addr) (bc : Nat) (f : Fl)
    (hrd : Rd w (.slice bp f.data.length bc) f.data) (hbv : ∀ g, f.data.length ≠ 0 → (Value.slice bp f.data.length bc).ownBlock = some g → g ≠ qb) (hg : getA n.data.toList G = none) (ho : ({ s with fs := putA n.data.toList f s.fs } : DS).Ok) (hcK : posA n.data.toList G = G.length) :
    Calls Try.prog 59 #[.pointer (some ⟨qb, 0, none⟩), .agg #[.string n, .slice bp f.data.length bc, .int .i64 f.sy]] w fun e w' => e = .returned (.tuple #[]) ∧ SetPost w qb s (.slice (some ⟨g, off, none⟩) G.length G.length) G n.data.toList (.slice bp f.data.length bc) f w' := by
  have HC := Lib.hid h
  have HN := Lib.hid hn
  have HG := Lib.hid (show (getA n.data.toList G).isSome = false from by rw [hg]; rfl)
  have HQ := Lib.hid hq
  have HBV := Lib.hid (And.intro hbb (And.intro hrd (And.intro hbv ho)))
  obtain ⟨i0, hi, hz0, hz1, hz2⟩ := info_parts infoF
  have l2 : G.length ≤ maxLen := by unfold maxLen; omega
  obtain ⟨c0, c1, c2, c3, cf⟩ := cells4 h.blk
  have hltq := h.ltq
  have HK := Lib.hid hcK.symm
  unfold maxLen at l2
  have i1 : (0 : Int) ≤ (G.length : Int) := by omega
  clear h hn hg hq hcK c1 c2 c3 cf hbb hrd hbv ho
  have HSF := Lib.hid (flat_one G (fun p hp => by obtain ⟨_, _, hv, _⟩ := HC.out.rd p hp; rw [hv]; rfl))
  have KEEP : ∀ w', Below (w.heap.size + 1) (w.alloc (.cells #[.string n, .slice bp f.data.length bc, .int .i64 f.sy] 69)) w' →
      w'.cell? ⟨qb, 0, none⟩ = some (.slice (some ⟨g, off, none⟩) G.length G.length) ∧ w'.cell? ⟨w.heap.size, 0, none⟩ = some (.string n) ∧ w'.cell? ⟨w.heap.size, 1, none⟩ = some (.slice bp f.data.length bc) ∧ w'.cell? ⟨w.heap.size, 2, none⟩ = some (.int .i64 f.sy) ∧
      Below (w.heap.size + 1) (w.alloc (.cells #[.string n, .slice bp f.data.length bc, .int .i64 f.sy] 69)) w' := fun w' hb => by
    refine ⟨?_, ?_, ?_, ?_, hb⟩
    · rw [hb.cell (by simp; omega), World.cell?_of_block (w := w) (Below.heap_alloc w _ _ hltq)]; exact c0
    · rw [hb.cell (by simp)]; go_simp
    · rw [hb.cell (by simp)]; go_simp
    · rw [hb.cell (by simp)]; go_simp
  have HKP := Lib.hid KEEP
  clear KEEP
  go_enter Try.func59, Try.ntmps59
  go_wp2_with fail
  refine (place_r (HC.out.alloc _) n HN.out).mono ?_
  rintro e w' ⟨rfl, kd, rfl⟩
  rw [HG.out, ← HK.out]
  go_wp2_with fail
  refine wp_region_cut (S := (fun w' => w'.cell? ⟨qb, 0, none⟩ = some (.slice (some ⟨g, off, none⟩) G.length G.length) ∧ w'.cell? ⟨w.heap.size, 0, none⟩ = some (.string n) ∧ w'.cell? ⟨w.heap.size, 1, none⟩ = some (.slice bp f.data.length bc) ∧ w'.cell? ⟨w.heap.size, 2, none⟩ = some (.int .i64 f.sy) ∧
      Below (w.heap.size + 1) (w.alloc (.cells #[.string n, .slice bp f.data.length bc, .int .i64 f.sy] 69)) w')) 21 (by kernel_rfl) (by kernel_rfl) ?_ (fun hHeld => ?_)
  · (try dsimp only)
    (first
        | exact HKP.out _ (below_drewN (Below.refl _ _) _)
        | exact HKP.out _ (Below.drew (below_drewN ((Below.refl (w.heap.size + 1) (w.alloc (.cells #[.string n, .slice bp f.data.length bc, .int .i64 f.sy] 69)))) kd))
        | (go_split_ands; refine HKP.out _ (Below.alloc ?_ ?_ _); · assumption
           · first | simp | (have := hB2.size; simp at this; omega) | (have := hB3.size; simp at this; omega))
        | (refine HKP.out _ ?_; assumption))
  simp only [List.take_succ_cons, List.take_zero]
  (try dsimp only at hHeld)
  all_goals (repeat (first
         | (refine wpAnyH_take (i := 0) (v := ?_) rfl (by decide +kernel) (by decide +kernel) (by decide +kernel) (fun _ _ _ h => h) (Or.inl ⟨by rfl, ?_⟩) (by assumption) ?_; rotate_left 1; (focus (intro w hSw; (try dsimp only at hSw); (try simp only [List.getElem_toArray, List.getElem_cons_zero]); first | (go_simp; done) | (go_simp; with_reducible rfl))); (try simp only [Act.put, List.getElem_toArray, List.getElem_cons_zero, List.setIfInBounds_toArray, List.set_cons_zero, List.set_cons_succ]))
         | (refine wpAnyH_take (i := 2) (v := ?_) rfl (by decide +kernel) (by decide +kernel) (by decide +kernel) (fun _ _ _ h => h) (Or.inl ⟨by rfl, ?_⟩) (by assumption) ?_; rotate_left 1; (focus (intro w hSw; (try dsimp only at hSw); (try simp only [List.getElem_toArray, List.getElem_cons_succ, List.getElem_cons_zero]); first | (go_simp; done) | (go_simp; with_reducible rfl))); (try simp only [Act.put, List.getElem_toArray, List.getElem_cons_succ, List.getElem_cons_zero, List.setIfInBounds_toArray, List.set_cons_zero, List.set_cons_succ]))
         | (refine wpAnyH_take (i := 3) (v := ?_) rfl (by decide +kernel) (by decide +kernel) (by decide +kernel) (fun _ _ _ h => h) (Or.inl ⟨by rfl, ?_⟩) (by assumption) ?_; rotate_left 1; (focus (intro w hSw; (try dsimp only at hSw); (try simp only [List.getElem_toArray, List.getElem_cons_succ, List.getElem_cons_zero]); first | (go_simp; done) | (go_simp; with_reducible rfl))); (try simp only [Act.put, List.getElem_toArray, List.getElem_cons_succ, List.getElem_cons_zero, List.setIfInBounds_toArray, List.set_cons_zero, List.set_cons_succ]))
         | (refine wpAnyH_take (i := 4) (v := ?_) rfl (by decide +kernel) (by decide +kernel) (by decide +kernel) (fun _ _ _ h => h) (Or.inl ⟨by rfl, ?_⟩) (by assumption) ?_; rotate_left 1; (focus (intro w hSw; (try dsimp only at hSw); (try simp only [List.getElem_toArray, List.getElem_cons_succ, List.getElem_cons_zero]); first | (go_simp; done) | (go_simp; with_reducible rfl))); (try simp only [Act.put, List.getElem_toArray, List.getElem_cons_succ, List.getElem_cons_zero, List.setIfInBounds_toArray, List.set_cons_zero, List.set_cons_succ]))
         | (refine wpAnyH_take (i := 5) (v := ?_) rfl (by decide +kernel) (by decide +kernel) (by decide +kernel) (fun _ _ _ h => h) (Or.inl ⟨by rfl, ?_⟩) (by assumption) ?_; rotate_left 1; (focus (intro w hSw; (try dsimp only at hSw); (try simp only [List.getElem_toArray, List.getElem_cons_succ, List.getElem_cons_zero]); first | (go_simp; done) | (go_simp; with_reducible rfl))); (try simp only [Act.put, List.getElem_toArray, List.getElem_cons_succ, List.getElem_cons_zero, List.setIfInBounds_toArray, List.set_cons_zero, List.set_cons_succ]))
         | (refine wpAnyH_take (i := 6) (v := ?_) rfl (by decide +kernel) (by decide +kernel) (by decide +kernel) (fun _ _ _ h => h) (Or.inl ⟨by rfl, ?_⟩) (by assumption) ?_; rotate_left 1; (focus (intro w hSw; (try dsimp only at hSw); (try simp only [List.getElem_toArray, List.getElem_cons_succ, List.getElem_cons_zero]); first | (go_simp; done) | (go_simp; with_reducible rfl))); (try simp only [Act.put, List.getElem_toArray, List.getElem_cons_succ, List.getElem_cons_zero, List.setIfInBounds_toArray, List.set_cons_zero, List.set_cons_succ]))
         | (refine wpAnyH_take (i := 7) (v := ?_) rfl (by decide +kernel) (by decide +kernel) (by decide +kernel) (fun _ _ _ h => h) (Or.inl ⟨by rfl, ?_⟩) (by assumption) ?_; rotate_left 1; (focus (intro w hSw; (try dsimp only at hSw); (try simp only [List.getElem_toArray, List.getElem_cons_succ, List.getElem_cons_zero]); first | (go_simp; done) | (go_simp; with_reducible rfl))); (try simp only [Act.put, List.getElem_toArray, List.getElem_cons_succ, List.getElem_cons_zero, List.setIfInBounds_toArray, List.set_cons_zero, List.set_cons_succ]))
         | (refine wpAnyH_take (i := 9) (v := ?_) rfl (by decide +kernel) (by decide +kernel) (by decide +kernel) (fun _ _ _ h => h) (Or.inl ⟨by rfl, ?_⟩) (by assumption) ?_; rotate_left 1; (focus (intro w hSw; (try dsimp only at hSw); (try simp only [List.getElem_toArray, List.getElem_cons_succ, List.getElem_cons_zero]); first | (go_simp; done) | (go_simp; with_reducible rfl))); (try simp only [Act.put, List.getElem_toArray, List.getElem_cons_succ, List.getElem_cons_zero, List.setIfInBounds_toArray, List.set_cons_zero, List.set_cons_succ]))
         | (refine wpAnyH_take (i := 12) (v := ?_) rfl (by decide +kernel) (by decide +kernel) (by decide +kernel) (fun _ _ _ h => h) (Or.inl ⟨by rfl, ?_⟩) (by assumption) ?_; rotate_left 1; (focus (intro w hSw; (try dsimp only at hSw); (try simp only [List.getElem_toArray, List.getElem_cons_succ, List.getElem_cons_zero]); first | (go_simp; done) | (go_simp; with_reducible rfl))); (try simp only [Act.put, List.getElem_toArray, List.getElem_cons_succ, List.getElem_cons_zero, List.setIfInBounds_toArray, List.set_cons_zero, List.set_cons_succ]))
         | (refine wpAnyH_take (i := 13) (v := ?_) rfl (by decide +kernel) (by decide +kernel) (by decide +kernel) (fun _ _ _ h => h) (Or.inl ⟨by rfl, ?_⟩) (by assumption) ?_; rotate_left 1; (focus (intro w hSw; (try dsimp only at hSw); (try simp only [List.getElem_toArray, List.getElem_cons_succ, List.getElem_cons_zero]); first | (go_simp; done) | (go_simp; with_reducible rfl))); (try simp only [Act.put, List.getElem_toArray, List.getElem_cons_succ, List.getElem_cons_zero, List.setIfInBounds_toArray, List.set_cons_zero, List.set_cons_succ]))
         | (refine wpAnyH_take (i := 14) (v := ?_) rfl (by decide +kernel) (by decide +kernel) (by decide +kernel) (fun _ _ _ h => h) (Or.inl ⟨by rfl, ?_⟩) (by assumption) ?_; rotate_left 1; (focus (intro w hSw; (try dsimp only at hSw); (try simp only [List.getElem_toArray, List.getElem_cons_succ, List.getElem_cons_zero]); first | (go_simp; done) | (go_simp; with_reducible rfl))); (try simp only [Act.put, List.getElem_toArray, List.getElem_cons_succ, List.getElem_cons_zero, List.setIfInBounds_toArray, List.set_cons_zero, List.set_cons_succ]))
         | (refine wpAnyH_take (i := 15) (v := ?_) rfl (by decide +kernel) (by decide +kernel) (by decide +kernel) (fun _ _ _ h => h) (Or.inl ⟨by rfl, ?_⟩) (by assumption) ?_; rotate_left 1; (focus (intro w hSw; (try dsimp only at hSw); (try simp only [List.getElem_toArray, List.getElem_cons_succ, List.getElem_cons_zero]); first | (go_simp; done) | (go_simp; with_reducible rfl))); (try simp only [Act.put, List.getElem_toArray, List.getElem_cons_succ, List.getElem_cons_zero, List.setIfInBounds_toArray, List.set_cons_zero, List.set_cons_succ]))
         | (refine wpAnyH_take (i := 16) (v := ?_) rfl (by decide +kernel) (by decide +kernel) (by decide +kernel) (fun _ _ _ h => h) (Or.inl ⟨by rfl, ?_⟩) (by assumption) ?_; rotate_left 1; (focus (intro w hSw; (try dsimp only at hSw); (try simp only [List.getElem_toArray, List.getElem_cons_succ, List.getElem_cons_zero]); first | (go_simp; done) | (go_simp; with_reducible rfl))); (try simp only [Act.put, List.getElem_toArray, List.getElem_cons_succ, List.getElem_cons_zero, List.setIfInBounds_toArray, List.set_cons_zero, List.set_cons_succ]))
         | (refine wpAnyH_take (i := 17) (v := ?_) rfl (by decide +kernel) (by decide +kernel) (by decide +kernel) (fun _ _ _ h => h) (Or.inl ⟨by rfl, ?_⟩) (by assumption) ?_; rotate_left 1; (focus (intro w hSw; (try dsimp only at hSw); (try simp only [List.getElem_toArray, List.getElem_cons_succ, List.getElem_cons_zero]); first | (go_simp; done) | (go_simp; with_reducible rfl))); (try simp only [Act.put, List.getElem_toArray, List.getElem_cons_succ, List.getElem_cons_zero, List.setIfInBounds_toArray, List.set_cons_zero, List.set_cons_succ]))
         | (refine wpAnyH_take (i := 19) (v := ?_) rfl (by decide +kernel) (by decide +kernel) (by decide +kernel) (fun _ _ _ h => h) (Or.inl ⟨by rfl, ?_⟩) (by assumption) ?_; rotate_left 1; (focus (intro w hSw; (try dsimp only at hSw); (try simp only [List.getElem_toArray, List.getElem_cons_succ, List.getElem_cons_zero]); first | (go_simp; done) | (go_simp; with_reducible rfl))); (try simp only [Act.put, List.getElem_toArray, List.getElem_cons_succ, List.getElem_cons_zero, List.setIfInBounds_toArray, List.set_cons_zero, List.set_cons_succ]))
         | (refine wpAnyH_take (i := 20) (v := ?_) rfl (by decide +kernel) (by decide +kernel) (by decide +kernel) (fun _ _ _ h => h) (Or.inl ⟨by rfl, ?_⟩) (by assumption) ?_; rotate_left 1; (focus (intro w hSw; (try dsimp only at hSw); (try simp only [List.getElem_toArray, List.getElem_cons_succ, List.getElem_cons_zero]); first | (go_simp; done) | (go_simp; with_reducible rfl))); (try simp only [Act.put, List.getElem_toArray, List.getElem_cons_succ, List.getElem_cons_zero, List.setIfInBounds_toArray, List.set_cons_zero, List.set_cons_succ]))
         | fail "nothing to take"))
  iterate 5 (all_goals (
    (first
      | (refine wpAnyH_ready (rs := [1, 10]) (by decide +kernel) (by simp) ?_; refine (AllReadyH.cons rfl (fun Kx hKx => ?_) (AllReadyH.cons rfl (fun Kx hKx => ?_) AllReadyH.nil)))
      | (refine wpAnyH_ready (rs := [8, 10]) (by decide +kernel) (by simp) ?_; refine (AllReadyH.cons rfl (fun Kx hKx => ?_) (AllReadyH.cons rfl (fun Kx hKx => ?_) AllReadyH.nil)))
      | (refine wpAnyH_ready (rs := [1]) (by decide +kernel) (by simp) ?_; refine (AllReadyH.cons rfl (fun Kx hKx => ?_) AllReadyH.nil))
      | (refine wpAnyH_ready (rs := [10]) (by decide +kernel) (by simp) ?_; refine (AllReadyH.cons rfl (fun Kx hKx => ?_) AllReadyH.nil))
      | (refine wpAnyH_ready (rs := [8]) (by decide +kernel) (by simp) ?_; refine (AllReadyH.cons rfl (fun Kx hKx => ?_) AllReadyH.nil))
      | (refine wpAnyH_ready (rs := [11]) (by decide +kernel) (by simp) ?_; refine (AllReadyH.cons rfl (fun Kx hKx => ?_) AllReadyH.nil))
      | (refine wpAnyH_ready (rs := [18]) (by decide +kernel) (by simp) ?_; refine (AllReadyH.cons rfl (fun Kx hKx => ?_) AllReadyH.nil)))
    all_goals (
      first
        | (first
          | (go_split_ands
             refine step_append_B (by rfl) (Operand.tmp 22) (Operand.tmp 28) (by rfl) (w.heap.size + 1) (w.alloc (.cells #[.string n, .slice bp f.data.length bc, .int .i64 f.sy] 69)) (Nat.le_of_eq (by simp)) (.slice (some ⟨w.heap.size + 1, 0, none⟩) 0 0) 0 [] (by rfl) (.slice (some ⟨g, off, none⟩) G.length G.length) G.length (flat (G.take G.length)) (by rfl) ?_ ?_ ?_ ?_ ?_ ?_
             · assumption
             · first | exact own_new _ _ (by simp) _ _ | exact (own_new _ _ (by simp) _ _).alloc _
             · intro g' hg'; simp only [Value.ownBlock, Option.some.injEq] at hg'; omega
             · intro hB1; exact (HC.out.row.below (((Below.refl _ _).alloc (Nat.le_refl _) _).trans (hB1.mono (by omega)))).srcTo HSF.out G.length (Nat.le_refl _) _ Try.underlying62
             · omega
             intro v2 w2 hown2 hgrow2 hB2 hX2)
          | (go_split_ands
             refine step_append_B (by rfl) (Operand.tmp 22) (Operand.tmp 28) (by rfl) (w.heap.size + 1) (w.alloc (.cells #[.string n, .slice bp f.data.length bc, .int .i64 f.sy] 69)) (Nat.le_of_eq (by simp)) (.slice (some ⟨w.heap.size + 1 + 1, 0, none⟩) 0 0) 0 [] (by rfl) (.slice (some ⟨g, off, none⟩) G.length G.length) G.length (flat (G.take G.length)) (by rfl) ?_ ?_ ?_ ?_ ?_ ?_
             · assumption
             · first | exact own_new _ _ (by simp) _ _ | exact (own_new _ _ (by simp) _ _).alloc _
             · intro g' hg'; simp only [Value.ownBlock, Option.some.injEq] at hg'; omega
             · intro hB1; exact (HC.out.row.below (((Below.refl _ _).alloc (Nat.le_refl _) _).trans (hB1.mono (by omega)))).srcTo HSF.out G.length (Nat.le_refl _) _ Try.underlying62
             · omega
             intro v2 w2 hown2 hgrow2 hB2 hX2)
          | (go_split_ands
             refine step_append_B (by rfl) (Operand.tmp 29) (Operand.tmp 31) (by rfl) (w.heap.size + 1) (w.alloc (.cells #[.string n, .slice bp f.data.length bc, .int .i64 f.sy] 69)) (Nat.le_of_eq (by simp)) v2 (0 + G.length) ([] ++ flat (G.take G.length)) (by rfl) (.slice (some ⟨w2.heap.size, 0, none⟩) 1 1) 1 [.string n, .slice bp f.data.length bc, .int .i64 f.sy] (by rfl) ?_ ?_ ?_ ?_ ?_ ?_
             · assumption
             · exact hown2.alloc _
             · exact hX2
             · intro hB1; exact src_file (heap_alloc_new w2 _) rfl rfl
             · omega
             intro v3 w3 hown3 hgrow3 hB3 hX3)
          | (go_split_ands
             refine step_append_B (by rfl) (Operand.tmp 29) (Operand.tmp 31) (by rfl) (w.heap.size + 1) (w.alloc (.cells #[.string n, .slice bp f.data.length bc, .int .i64 f.sy] 69)) (Nat.le_of_eq (by simp)) v2 (0 + G.length) ([] ++ flat (G.take G.length)) (by rfl) (.slice (some ⟨w.heap.size + 1 + 1, 0, none⟩) 1 1) 1 [.string n, .slice bp f.data.length bc, .int .i64 f.sy] (by rfl) ?_ ?_ ?_ ?_ ?_ ?_
             · assumption
             · exact hown2
             · exact hX2
             · intro hB1; exact src_file ((hgrow2.block _ (by simp) (by simp [Value.ownBlock])).trans (heap_new _ _ (by simp))) rfl rfl
             · omega
             intro v3 w3 hown3 hgrow3 hB3 hX3)
          | (go_split_ands
             refine step_append_B (by rfl) (Operand.tmp 29) (Operand.tmp 31) (by rfl) (w.heap.size + 1) (w.alloc (.cells #[.string n, .slice bp f.data.length bc, .int .i64 f.sy] 69)) (Nat.le_of_eq (by simp)) v2 (0 + G.length) ([] ++ flat (G.take G.length)) (by rfl) (.slice (some ⟨w.heap.size + 1, 0, none⟩) 1 1) 1 [.string n, .slice bp f.data.length bc, .int .i64 f.sy] (by rfl) ?_ ?_ ?_ ?_ ?_ ?_
             · assumption
             · exact hown2
             · exact hX2
             · intro hB1; exact src_file ((hgrow2.block _ (by simp) (by simp [Value.ownBlock])).trans ((Below.heap_alloc _ _ _ (by simp)).trans (heap_new _ _ (by simp)))) rfl rfl
             · omega
             intro v3 w3 hown3 hgrow3 hB3 hX3)
          | (go_split_ands
             refine step_append_B (by rfl) (Operand.tmp 32) (Operand.tmp 38) (by rfl) (w.heap.size + 1) (w.alloc (.cells #[.string n, .slice bp f.data.length bc, .int .i64 f.sy] 69)) (Nat.le_of_eq (by simp)) v3 (0 + G.length + 1) ([] ++ flat (G.take G.length) ++ [.string n, .slice bp f.data.length bc, .int .i64 f.sy]) (by rfl) (.slice (some ⟨g, off, none⟩) 0 0) 0 [] (by rfl) ?_ ?_ ?_ ?_ ?_ ?_
             · assumption
             · exact hown3
             · exact hX3
             · intro hB1; exact srcNil _ _ _ _ Try.underlying62
             · omega
             intro v4 w4 hown4 hgrow4 hB4 hX4)
          | fail "no arm")
        | ((try simp only [List.getElem_toArray, List.getElem_cons_succ, List.getElem_cons_zero]); go_simp)
      refine hKx.out _ _ ?_ (fun hHeld => ?_)
      · (try dsimp only)
        (first
            | exact HKP.out _ (below_drewN (Below.refl _ _) _)
            | exact HKP.out _ (Below.drew (below_drewN ((Below.refl (w.heap.size + 1) (w.alloc (.cells #[.string n, .slice bp f.data.length bc, .int .i64 f.sy] 69)))) kd))
            | (go_split_ands; refine HKP.out _ (Below.alloc ?_ ?_ _); · assumption
               · first | simp | (have := hB2.size; simp at this; omega) | (have := hB3.size; simp at this; omega))
            | (refine HKP.out _ ?_; assumption))
      (try dsimp only at hHeld)
      clear hKx Kx
      (try simp only [Act.put, List.getElem_toArray, List.getElem_cons_succ, List.getElem_cons_zero, List.setIfInBounds_toArray, List.set_cons_zero, List.set_cons_succ])
      repeat (first
         | (refine wpAnyH_take (i := 0) (v := ?_) rfl (by decide +kernel) (by decide +kernel) (by decide +kernel) (fun _ _ _ h => h) (Or.inl ⟨by rfl, ?_⟩) (by assumption) ?_; rotate_left 1; (focus (intro w hSw; (try dsimp only at hSw); (try simp only [List.getElem_toArray, List.getElem_cons_zero]); first | (go_simp; done) | (go_simp; with_reducible rfl))); (try simp only [Act.put, List.getElem_toArray, List.getElem_cons_zero, List.setIfInBounds_toArray, List.set_cons_zero, List.set_cons_succ]))
         | (refine wpAnyH_take (i := 2) (v := ?_) rfl (by decide +kernel) (by decide +kernel) (by decide +kernel) (fun _ _ _ h => h) (Or.inl ⟨by rfl, ?_⟩) (by assumption) ?_; rotate_left 1; (focus (intro w hSw; (try dsimp only at hSw); (try simp only [List.getElem_toArray, List.getElem_cons_succ, List.getElem_cons_zero]); first | (go_simp; done) | (go_simp; with_reducible rfl))); (try simp only [Act.put, List.getElem_toArray, List.getElem_cons_succ, List.getElem_cons_zero, List.setIfInBounds_toArray, List.set_cons_zero, List.set_cons_succ]))
         | (refine wpAnyH_take (i := 3) (v := ?_) rfl (by decide +kernel) (by decide +kernel) (by decide +kernel) (fun _ _ _ h => h) (Or.inl ⟨by rfl, ?_⟩) (by assumption) ?_; rotate_left 1; (focus (intro w hSw; (try dsimp only at hSw); (try simp only [List.getElem_toArray, List.getElem_cons_succ, List.getElem_cons_zero]); first | (go_simp; done) | (go_simp; with_reducible rfl))); (try simp only [Act.put, List.getElem_toArray, List.getElem_cons_succ, List.getElem_cons_zero, List.setIfInBounds_toArray, List.set_cons_zero, List.set_cons_succ]))
         | (refine wpAnyH_take (i := 4) (v := ?_) rfl (by decide +kernel) (by decide +kernel) (by decide +kernel) (fun _ _ _ h => h) (Or.inl ⟨by rfl, ?_⟩) (by assumption) ?_; rotate_left 1; (focus (intro w hSw; (try dsimp only at hSw); (try simp only [List.getElem_toArray, List.getElem_cons_succ, List.getElem_cons_zero]); first | (go_simp; done) | (go_simp; with_reducible rfl))); (try simp only [Act.put, List.getElem_toArray, List.getElem_cons_succ, List.getElem_cons_zero, List.setIfInBounds_toArray, List.set_cons_zero, List.set_cons_succ]))
         | (refine wpAnyH_take (i := 5) (v := ?_) rfl (by decide +kernel) (by decide +kernel) (by decide +kernel) (fun _ _ _ h => h) (Or.inl ⟨by rfl, ?_⟩) (by assumption) ?_; rotate_left 1; (focus (intro w hSw; (try dsimp only at hSw); (try simp only [List.getElem_toArray, List.getElem_cons_succ, List.getElem_cons_zero]); first | (go_simp; done) | (go_simp; with_reducible rfl))); (try simp only [Act.put, List.getElem_toArray, List.getElem_cons_succ, List.getElem_cons_zero, List.setIfInBounds_toArray, List.set_cons_zero, List.set_cons_succ]))
         | (refine wpAnyH_take (i := 6) (v := ?_) rfl (by decide +kernel) (by decide +kernel) (by decide +kernel) (fun _ _ _ h => h) (Or.inl ⟨by rfl, ?_⟩) (by assumption) ?_; rotate_left 1; (focus (intro w hSw; (try dsimp only at hSw); (try simp only [List.getElem_toArray, List.getElem_cons_succ, List.getElem_cons_zero]); first | (go_simp; done) | (go_simp; with_reducible rfl))); (try simp only [Act.put, List.getElem_toArray, List.getElem_cons_succ, List.getElem_cons_zero, List.setIfInBounds_toArray, List.set_cons_zero, List.set_cons_succ]))
         | (refine wpAnyH_take (i := 7) (v := ?_) rfl (by decide +kernel) (by decide +kernel) (by decide +kernel) (fun _ _ _ h => h) (Or.inl ⟨by rfl, ?_⟩) (by assumption) ?_; rotate_left 1; (focus (intro w hSw; (try dsimp only at hSw); (try simp only [List.getElem_toArray, List.getElem_cons_succ, List.getElem_cons_zero]); first | (go_simp; done) | (go_simp; with_reducible rfl))); (try simp only [Act.put, List.getElem_toArray, List.getElem_cons_succ, List.getElem_cons_zero, List.setIfInBounds_toArray, List.set_cons_zero, List.set_cons_succ]))
         | (refine wpAnyH_take (i := 9) (v := ?_) rfl (by decide +kernel) (by decide +kernel) (by decide +kernel) (fun _ _ _ h => h) (Or.inl ⟨by rfl, ?_⟩) (by assumption) ?_; rotate_left 1; (focus (intro w hSw; (try dsimp only at hSw); (try simp only [List.getElem_toArray, List.getElem_cons_succ, List.getElem_cons_zero]); first | (go_simp; done) | (go_simp; with_reducible rfl))); (try simp only [Act.put, List.getElem_toArray, List.getElem_cons_succ, List.getElem_cons_zero, List.setIfInBounds_toArray, List.set_cons_zero, List.set_cons_succ]))
         | (refine wpAnyH_take (i := 12) (v := ?_) rfl (by decide +kernel) (by decide +kernel) (by decide +kernel) (fun _ _ _ h => h) (Or.inl ⟨by rfl, ?_⟩) (by assumption) ?_; rotate_left 1; (focus (intro w hSw; (try dsimp only at hSw); (try simp only [List.getElem_toArray, List.getElem_cons_succ, List.getElem_cons_zero]); first | (go_simp; done) | (go_simp; with_reducible rfl))); (try simp only [Act.put, List.getElem_toArray, List.getElem_cons_succ, List.getElem_cons_zero, List.setIfInBounds_toArray, List.set_cons_zero, List.set_cons_succ]))
         | (refine wpAnyH_take (i := 13) (v := ?_) rfl (by decide +kernel) (by decide +kernel) (by decide +kernel) (fun _ _ _ h => h) (Or.inl ⟨by rfl, ?_⟩) (by assumption) ?_; rotate_left 1; (focus (intro w hSw; (try dsimp only at hSw); (try simp only [List.getElem_toArray, List.getElem_cons_succ, List.getElem_cons_zero]); first | (go_simp; done) | (go_simp; with_reducible rfl))); (try simp only [Act.put, List.getElem_toArray, List.getElem_cons_succ, List.getElem_cons_zero, List.setIfInBounds_toArray, List.set_cons_zero, List.set_cons_succ]))
         | (refine wpAnyH_take (i := 14) (v := ?_) rfl (by decide +kernel) (by decide +kernel) (by decide +kernel) (fun _ _ _ h => h) (Or.inl ⟨by rfl, ?_⟩) (by assumption) ?_; rotate_left 1; (focus (intro w hSw; (try dsimp only at hSw); (try simp only [List.getElem_toArray, List.getElem_cons_succ, List.getElem_cons_zero]); first | (go_simp; done) | (go_simp; with_reducible rfl))); (try simp only [Act.put, List.getElem_toArray, List.getElem_cons_succ, List.getElem_cons_zero, List.setIfInBounds_toArray, List.set_cons_zero, List.set_cons_succ]))
         | (refine wpAnyH_take (i := 15) (v := ?_) rfl (by decide +kernel) (by decide +kernel) (by decide +kernel) (fun _ _ _ h => h) (Or.inl ⟨by rfl, ?_⟩) (by assumption) ?_; rotate_left 1; (focus (intro w hSw; (try dsimp only at hSw); (try simp only [List.getElem_toArray, List.getElem_cons_succ, List.getElem_cons_zero]); first | (go_simp; done) | (go_simp; with_reducible rfl))); (try simp only [Act.put, List.getElem_toArray, List.getElem_cons_succ, List.getElem_cons_zero, List.setIfInBounds_toArray, List.set_cons_zero, List.set_cons_succ]))
         | (refine wpAnyH_take (i := 16) (v := ?_) rfl (by decide +kernel) (by decide +kernel) (by decide +kernel) (fun _ _ _ h => h) (Or.inl ⟨by rfl, ?_⟩) (by assumption) ?_; rotate_left 1; (focus (intro w hSw; (try dsimp only at hSw); (try simp only [List.getElem_toArray, List.getElem_cons_succ, List.getElem_cons_zero]); first | (go_simp; done) | (go_simp; with_reducible rfl))); (try simp only [Act.put, List.getElem_toArray, List.getElem_cons_succ, List.getElem_cons_zero, List.setIfInBounds_toArray, List.set_cons_zero, List.set_cons_succ]))
         | (refine wpAnyH_take (i := 17) (v := ?_) rfl (by decide +kernel) (by decide +kernel) (by decide +kernel) (fun _ _ _ h => h) (Or.inl ⟨by rfl, ?_⟩) (by assumption) ?_; rotate_left 1; (focus (intro w hSw; (try dsimp only at hSw); (try simp only [List.getElem_toArray, List.getElem_cons_succ, List.getElem_cons_zero]); first | (go_simp; done) | (go_simp; with_reducible rfl))); (try simp only [Act.put, List.getElem_toArray, List.getElem_cons_succ, List.getElem_cons_zero, List.setIfInBounds_toArray, List.set_cons_zero, List.set_cons_succ]))
         | (refine wpAnyH_take (i := 19) (v := ?_) rfl (by decide +kernel) (by decide +kernel) (by decide +kernel) (fun _ _ _ h => h) (Or.inl ⟨by rfl, ?_⟩) (by assumption) ?_; rotate_left 1; (focus (intro w hSw; (try dsimp only at hSw); (try simp only [List.getElem_toArray, List.getElem_cons_succ, List.getElem_cons_zero]); first | (go_simp; done) | (go_simp; with_reducible rfl))); (try simp only [Act.put, List.getElem_toArray, List.getElem_cons_succ, List.getElem_cons_zero, List.setIfInBounds_toArray, List.set_cons_zero, List.set_cons_succ]))
         | (refine wpAnyH_take (i := 20) (v := ?_) rfl (by decide +kernel) (by decide +kernel) (by decide +kernel) (fun _ _ _ h => h) (Or.inl ⟨by rfl, ?_⟩) (by assumption) ?_; rotate_left 1; (focus (intro w hSw; (try dsimp only at hSw); (try simp only [List.getElem_toArray, List.getElem_cons_succ, List.getElem_cons_zero]); first | (go_simp; done) | (go_simp; with_reducible rfl))); (try simp only [Act.put, List.getElem_toArray, List.getElem_cons_succ, List.getElem_cons_zero, List.setIfInBounds_toArray, List.set_cons_zero, List.set_cons_succ]))
         | fail "nothing to take"))))
  all_goals refine wpAnyH_done (by decide +kernel) ?_ _
  all_goals simp only [cutPost, List.drop_succ_cons, List.drop_zero]
  all_goals (
    have hHd := hHeld
    have ho4 := Lib.hid hown4
    obtain ⟨a4, c4, hv4, _⟩ := hown4.form
    have hg4 := (cells4 ((blk_far hltq hB4).trans HC.out.blk)).2.2.2.2 0
    have hc4 := hHd.1
    rw [Nat.zero_add] at hv4
    subst hv4
    clear hHd
    go_wp2_with fail
    refine bodyPost_end (v := .tuple #[]) (by simp [results, Try.results59, go_sem]) rfl ?_
    exact ⟨rfl, set_fin HC.out HBV.out.1 n _ f HBV.out.2.1 HBV.out.2.2.1 HG.out HBV.out.2.2.2 HK.out hB4 ho4.out (by simp <;> omega) (by simp [flat]) hX4⟩)
end
end Go.Proofs.Ytcpldjaoacihlaa
