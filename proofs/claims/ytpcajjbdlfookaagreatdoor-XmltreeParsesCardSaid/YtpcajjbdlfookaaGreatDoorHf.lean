/- bytes.Replace of all instances of one or two bytes by one. -/
import Derived.Test.YtpcajjbdlfookaaGreatDoorHe
import Derived.Lib.Replace
import Derived.Test.YtpcajjbdlfookaaGreatDoorCw
import Derived.Deep.RegionLaw
import Derived.RegionTactic
import Derived.BigRegion
import Derived.Deep.QuietTactic
import Derived.Shelf.RegionOpen
import Derived.OwnWalk
import Derived.Outline
import Derived.Deep.LoopGhost
namespace Go.Proofs.YtpcajjbdlfookaaGreatDoor
open Go.RowKit
set_option linter.unusedVariables false

/-- A slice of bytes of a call's own. -/
def OwnB (B : Nat) (w : World) (v : Value) (l : List UInt8) : Prop :=
  (v = .slice none 0 0 ∧ l = []) ∨ ∃ g c, v = .slice (some ⟨g, 0, none⟩) l.length c ∧ B ≤ g ∧ l.length ≤ c ∧ c ≤ maxLen ∧ (∀ i (h : i < l.length), w.cell? ⟨g, i, none⟩ = some (.int .u8 (l[i].toNat : Int))) ∧ ∀ j, j < l.length → w.frozen? ⟨g, j, none⟩ = false
theorem OwnB.rd {B : Nat} {w : World} {v : Value} {l : List UInt8} (h : OwnB B w v l) : Rd w v l := by
  rcases h with ⟨rfl, rfl⟩ | ⟨g, c, rfl, h1, h2, h3, h4, _⟩
  · exact Rd.nil w
  · exact ⟨_, c, rfl, h2, h3, by simp, fun _ => ⟨g, 0, rfl, fun i hi => by rw [Nat.zero_add]; exact h4 i hi⟩⟩
theorem OwnB.mono {B B' : Nat} {w : World} {v : Value} {l : List UInt8} (h : OwnB B w v l) (hb : B' ≤ B) : OwnB B' w v l := by
  rcases h with h | ⟨g, c, h0, h1, h2⟩
  · exact .inl h
  · exact .inr ⟨g, c, h0, Nat.le_trans hb h1, h2⟩
theorem OwnB.of_own {w : World} {base : Nat} {e : TypeId} {v : Value} {n : Nat} {xs : List UInt8} (h : w.ownsRow base e 1 v n (bcells xs)) : OwnB base w v xs := by
  have hl := h.1
  rw [bcells_length, Nat.mul_one] at hl
  subst hl
  rcases h.2 with ⟨rfl, h0⟩ | ⟨g, cap, cur, rfl, hbg, hg, hnc, hcm, hcs, htake⟩
  · exact .inl ⟨rfl, List.eq_nil_of_length_eq_zero h0⟩
  · refine .inr ⟨g, cap, rfl, hbg, hnc, hcm, fun i hi => ?_, fun j _ => by simp [World.frozen?, hg]⟩
    have := h.cellAt i (by omega)
    rw [this]
    simp [bcells, hi]

/-- How long the text is behind it. -/
theorem repl_len (old new : List UInt8) (ho : 1 ≤ old.length) : ∀ (k : Nat) (s : List UInt8), k ≤ Lib.count s old → ((Lib.replaceK old new k s).length : Int) = s.length + k * ((new.length : Int) - old.length)
  | 0, s, _ => by simp [Lib.replaceK]
  | k + 1, s, h => by
    obtain ⟨i, hi⟩ := Lib.index_of_count (s := s) (old := old) (by omega)
    have hne : old ≠ [] := by intro e; rw [e] at ho; simp at ho
    have hc := Lib.count_hit hne hi
    have hr := Lib.index_room s old (by omega)
    have ih := repl_len old new ho k (s.drop (i + old.length)) (by omega)
    rw [Lib.replaceK_hit old new k s i hi, List.length_append, List.length_append, List.length_take]
    rw [List.length_drop] at ih
    have e : (((k + 1 : Nat) : Int)) * ((new.length : Int) - old.length) = k * ((new.length : Int) - old.length) + ((new.length : Int) - old.length) := by rw [show ((k + 1 : Nat) : Int) = (k : Int) + 1 by omega, Int.add_mul, Int.one_mul]
    rw [e]
    generalize (k : Int) * ((new.length : Int) - old.length) = D at ih ⊢
    have hm : min i s.length = i := by omega
    rw [hm]
    push_cast
    omega
theorem Buf_drewN {w0 wr : World} {h N : Nat} {acc : List UInt8} (hb : Lib.Buf w0 wr h N acc) (q : Nat) : Lib.Buf w0 (wr.drewN q) h N acc where
  below := below_drewN hb.below q
  there := fun j hj => by rw [World.cell?_drewN]; exact hb.there j hj
  free := fun j hj => by rw [World.frozen?_drewN]; exact hb.free j hj
  holds := fun j x hx => by rw [World.cell?_drewN]; exact hb.holds j x hx
  fits := hb.fits
theorem Buf_drew {w0 wr : World} {h N : Nat} {acc : List UInt8} (hb : Lib.Buf w0 wr h N acc) : Lib.Buf w0 wr.drew h N acc := Buf_drewN hb 1
theorem Buf_made {w wr : World} {e : TypeId} {N : Nat} {cs : List Value} (ho : wr.ownsRow w.heap.size e 1 (.slice (some ⟨w.heap.size, 0, none⟩) N N) N cs) (hg : w.grownBy wr none) : Lib.Buf w wr w.heap.size N [] where
  below := (Below.refl _ _).grown hg (Nat.le_refl _) (by simp)
  there := fun j hj => by
    have hl := ho.1
    have := ho.cells (g := w.heap.size) rfl j cs[j] (List.getElem?_eq_getElem (by omega))
    rw [Addr.add_lit, Nat.zero_add] at this
    rw [this]
    rfl
  free := fun j _ => by
    rcases ho.2 with ⟨h, _⟩ | ⟨g, cap, cur, hv, _, hh, _⟩
    · simp at h
    · simp only [Value.slice.injEq, Option.some.injEq, Addr.mk.injEq, and_true, true_and] at hv
      obtain ⟨rfl, _⟩ := hv
      simp [World.frozen?, hh]
  holds := fun j x hx => by simp at hx
  fits := Nat.zero_le _
theorem Buf_own {w0 wr : World} {h N : Nat} {acc : List UInt8} (hb : Lib.Buf w0 wr h N acc) (hN : acc.length = N) (hm : N ≤ maxLen) : OwnB h wr (.slice (some ⟨h, 0, none⟩) N N) acc := by
  subst hN
  exact .inr ⟨h, acc.length, rfl, Nat.le_refl _, Nat.le_refl _, hm, fun i hi => hb.holds i acc[i] (List.getElem?_eq_getElem hi), fun j hj => hb.free j hj⟩
theorem size8 : (Tryz.prog.info? 5).map (·.size) = some 1 := by kernel_rfl
theorem sizeRun8 (w : World) : (Go.sizeOf 5).run Tryz.prog w = .ok 1 w := by
  obtain ⟨i0, hi, hz0, hz1, hz2⟩ := info_parts info8
  simp [Go.sizeOf, typeInfo, hi, hz1]
theorem wp_copy_runJ {P : Program} (w : World) {o : Oper} {a : Act} {K : Act → World → Prop} {Q : Exit → Act → World → Prop} (d s : Operand) (t t' : TypeId)
    (ho : o.op = .call { callee := .builtin .copy, args := #[d, s], argTypes := #[t, t'] }) (v u : Value) (hd : a.eval d = v) (hs : a.eval s = u) {v' : Value} {w' : World}
    (hr : (Builtin.copy_ #[t, t'] o.type #[v, u]).run P w = .ok v' w') (h : K (a.put o.dst v') w') : o.wp P a w K Q := by
  unfold Oper.wp execOp
  simp only [ho, resolve, invoke, builtin, Sem.run_bind, Sem.run_pure, Result.andThen_ok, List.map_toArray, List.map_cons, List.map_nil, hd, hs, hr]
  exact h
theorem wpList_copy_runJ {P : Program} (w : World) {ops : Array Oper} {rest : List Oper} {o : Oper} {a : Act} {Q : Exit → Act → World → Prop} (hgd : o.guard = none) (d s : Operand) (t t' : TypeId)
    (ho : o.op = .call { callee := .builtin .copy, args := #[d, s], argTypes := #[t, t'] }) (v u : Value) (hd : a.eval d = v) (hs : a.eval s = u) {v' : Value} {w' : World}
    (hr : (Builtin.copy_ #[t, t'] o.type #[v, u]).run P w = .ok v' w') (h : wpList P ops Q rest (a.put o.dst v') w') : wpList P ops Q (o :: rest) a w :=
  wpList_plain hgd fun _ hK => wp_copy_runJ w d s t t' ho v u hd hs hr (hK _ _ h)
theorem step_copy_runJ {P : Program} {ops : Array Oper} {o : Oper} {a : Act} {w : World} {K : Act → World → Prop} {Q : Exit → Act → World → Prop} {E : Prop}
    (hg : o.guard = none) (d x : Operand) (dT sT : TypeId) (hop : o.op = Op.call { callee := Callee.builtin Builtin.copy, args := #[d, x], argTypes := #[dT, sT] })
    (v u : Value) (hd : a.eval d = v) (hx : a.eval x = u) {v' : Value} {w' : World} (hr : (Builtin.copy_ #[dT, sT] o.type #[v, u]).run P w = .ok v' w') (hK : K (a.put o.dst v') w') :
    if Region.wanted o (yielded ops a.tmps) = true then Oper.wp P o a w K Q else E := by
  have hw : Region.wanted o (yielded ops a.tmps) = true := by simp [Region.wanted, hg]
  rw [if_pos hw]
  unfold Oper.wp
  simp [execOp, hop, resolve, invoke, builtin, hd, hx, hr, Result.andThen]
  exact hK

set_option maxRecDepth 100000 in
theorem replace_none (w : World) (v uo un : Value) (xs old : List UInt8) (h : Rd w v xs) (ho : Rd w uo old) (hm : MX w) (hl : xs.length ≤ 8388608) (hol : old.length = 1 ∨ old.length = 2) (hc : Lib.count xs old = 0) :
    Calls Tryz.prog 136 #[v, uo, un, .int .i64 (-1)] w fun e w' => ∃ v', e = .returned v' ∧ OwnB w.heap.size w' v' xs ∧ Below w.heap.size w w' := by
  obtain ⟨i0, hi, hz0, hz1, hz2⟩ := info_parts info8
  have HC := count_c w v uo xs old h ho hm (by omega) (by omega) (by omega)
  rw [hc] at HC
  obtain ⟨p, c, rfl⟩ := rd_form h
  have HC := Lib.hid HC
  have HR := Lib.hid h
  have HL := Lib.hid hl
  clear h ho hm hl hol hc
  go_enter Tryz.func136, Tryz.ntmps136
  go_wp2_with fail
  refine HC.out.mono ?_
  rintro e w1 ⟨rfl, q, hw⟩
  have HB := Lib.hid (show Below w.heap.size w w1 from hw ▸ below_drewN (Below.refl _ _) q)
  clear hw
  go_wp2_with (at_builtin; refine wpList_append_src rfl _ _ 22 22 rfl w.heap.size 5 i0 (.int .u8 0) 1 Tryz.underlying22 hi hz0 hz1 hz2 rfl _ 0 [] rfl (World.ownsRow_nil w1 w.heap.size 5 1) _ xs.length (bcells xs) rfl ((HR.out.below HB.out).src Tryz.underlying22) (by have := HL.out; unfold maxLen; omega) (by have := HL.out; omega) HB.out.size ?_; intro v' w2 hown2 hgrow2; have HO := Lib.hid hown2; have HB2 := Lib.hid (HB.out.trans (below_own hgrow2 (World.ownsRow_nil w1 w.heap.size 5 1) HB.out.size)); clear hown2 hgrow2)
  go_ret
  have h2 := HO.out
  rw [Nat.zero_add, List.nil_append] at h2
  exact ⟨_, rfl, OwnB.of_own h2, HB2.out⟩

/-- v[k:] and v[k:j], whatever is left of the room. -/
theorem slice_from {w : World} {p : Option Addr} {n c : Nat} {xs : List UInt8} (h : Rd w (.slice p n c) xs) (k : Nat) (hk : k ≤ n) :
    ∃ p' m c', (∀ W, (Instr.slice 22 (.slice p n c) (some (.int .i64 (k : Int))) none none).run Tryz.prog W = .ok (.slice p' m c') W) ∧ Rd w (.slice p' m c') (xs.drop k) := by
  refine ⟨if c = k then p else p.map (·.add (k * 1)), n - k, c - k, fun W => ?_, h.from k hk⟩
  have ht' : Tryz.prog.underlying 22 = some (.slice (Tryz.prog.elem 22)) := by simp [Program.elem, Tryz.underlying22]
  have he : Tryz.prog.elem 22 = 5 := by simp [Program.elem, Tryz.underlying22]
  rw [run_slice_l W 22 _ _ _ ht' .i64 _ (by omega) (by omega), he, sizeRun8]
  simp only [Result.andThen, sliced, Int.toNat_natCast]
theorem slice_mid {w : World} {p : Option Addr} {n c : Nat} {xs : List UInt8} (h : Rd w (.slice p n c) xs) (k j : Nat) (hk : k ≤ j) (hj : j ≤ n) :
    ∃ p' m c', (∀ W, (Instr.slice 22 (.slice p n c) (some (.int .i64 (k : Int))) (some (.int .i64 (j : Int))) none).run Tryz.prog W = .ok (.slice p' m c') W) ∧ Rd w (.slice p' m c') ((xs.drop k).take (j - k)) := by
  have hn := h.len
  have h1 := (h.from k (by omega)).to (j - k) (by omega)
  obtain ⟨_, _, _, _, hc, _⟩ := rd_in h
  refine ⟨if c = k then p else p.map (·.add (k * 1)), j - k, c - k, fun W => ?_, h1⟩
  have ht' : Tryz.prog.underlying 22 = some (.slice (Tryz.prog.elem 22)) := by simp [Program.elem, Tryz.underlying22]
  have he : Tryz.prog.elem 22 = 5 := by simp [Program.elem, Tryz.underlying22]
  rw [run_slice_lh W 22 _ _ _ ht' .i64 .i64 _ _ (by omega) (by omega) (by omega), he, sizeRun8]
  simp only [Result.andThen, sliced, Int.toNat_natCast]
theorem slice_head (b N : Nat) (z : Int) (hz : z = N) (W : World) : (Instr.slice 22 (.slice (some ⟨b, 0, none⟩) N N) (some (.int .i64 0)) (some (.int .i64 z)) none).run Tryz.prog W = .ok (.slice (some ⟨b, 0, none⟩) N N) W := by
  have ht' : Tryz.prog.underlying 22 = some (.slice (Tryz.prog.elem 22)) := by simp [Program.elem, Tryz.underlying22]
  have he : Tryz.prog.elem 22 = 5 := by simp [Program.elem, Tryz.underlying22]
  subst hz
  rw [run_slice_lh W 22 _ _ _ ht' .i64 .i64 _ _ (by omega) (by omega) (by omega), he, sizeRun8]
  simp [Result.andThen, sliced, Addr.add]
end Go.Proofs.YtpcajjbdlfookaaGreatDoor
