/- journal: what is in the frames with which bytes begin. -/
import Derived.Test.YtfljpnfjndjhpaaJu
import Derived.Test.YtfljpnfjndjhpaaByS
import Derived.Deep.AppendSrc
namespace Go.Proofs.Ytfljpnfjndjhpaa
open Go Go.RowKit Go.Deep
set_option linter.unusedVariables false
set_option linter.unusedSimpArgs false

/-- Slices of the bytes at hand, one for each of P. -/
def CutsOf (wr : World) (v : Value) (P : List (List UInt8)) (vs : List Value) : Prop :=
  vs.length = P.length ∧ ∀ (i : Nat) (x : List UInt8), P[i]? = some x → ∃ a c, vs[i]? = some (.slice a x.length c) ∧ Rd wr (.slice a x.length c) x ∧ ∀ g, (Value.slice a x.length c).ownBlock = some g → v.ownBlock = some g
theorem CutsOf.below {w w' : World} {v : Value} {P : List (List UInt8)} {vs : List Value} (h : CutsOf w v P vs) (hb : Below w.heap.size w w') : CutsOf w' v P vs :=
  ⟨h.1, fun i x hx => by
    obtain ⟨a, c, h1, h2, h3⟩ := h.2 i x hx
    exact ⟨a, c, h1, h2.below hb, h3⟩⟩
theorem CutsOf.snoc {w : World} {v : Value} {P : List (List UInt8)} {vs : List Value} {x : List UInt8} {a : Option Addr} {c : Nat} (h : CutsOf w v P vs) (hr : Rd w (.slice a x.length c) x) (hg : ∀ g, (Value.slice a x.length c).ownBlock = some g → v.ownBlock = some g) : CutsOf w v (P ++ [x]) (vs ++ [.slice a x.length c]) := by
  obtain ⟨h1, h2⟩ := h
  refine ⟨by simp [h1], fun i y hy => ?_⟩
  rcases Nat.lt_or_ge i P.length with hi | hi
  · rw [List.getElem?_append_left hi] at hy
    obtain ⟨a', c', k1, k2⟩ := h2 i y hy
    exact ⟨a', c', by rw [List.getElem?_append_left (by omega)]; exact k1, k2⟩
  · rw [List.getElem?_append_right hi] at hy
    obtain ⟨j, hj⟩ : ∃ j, j = i - P.length := ⟨_, rfl⟩
    rw [← hj] at hy
    cases j with
    | zero =>
      simp only [List.getElem?_cons_zero, Option.some.injEq] at hy
      subst hy
      exact ⟨a, c, by rw [List.getElem?_append_right (by omega), h1, ← hj]; rfl, hr, hg⟩
    | succ j => simp at hy
theorem OwnS.baseJ {w : World} {base : Nat} {e : TypeId} {size : Nat} {v : Value} {n : Nat} {xs : List Value} (h : OwnS w base e size v n xs) : ∀ g, v.ownBlock = some g → base ≤ g := by
  intro k hk
  rcases h.2 with ⟨rfl, _⟩ | ⟨g, off, cap, cur, rfl, hb, _⟩
  · simp [Value.ownBlock] at hk
  · simp [Value.ownBlock] at hk
    omega
theorem rd_keepJ {w w' : World} {v : Value} {xs : List UInt8} (h : Rd w v xs) (hb : ∀ g, v.ownBlock = some g → g < w.heap.size → w'.heap[g]? = w.heap[g]?) : Rd w' v xs := by
  obtain ⟨p, c, rfl, h1, h2, h3, h4⟩ := h
  refine ⟨p, c, rfl, h1, h2, h3, fun hp => ?_⟩
  obtain ⟨b, o, rfl, hx⟩ := h4 hp
  refine ⟨b, o, rfl, fun i hi => ?_⟩
  have e := hb b rfl (World.block_lt_of_cell? w _ (hx i hi))
  rw [← hx i hi]
  simp only [World.cell?, e]
/-- What is gathered behind k bytes. -/
def SplI (w : World) (v : Value) (b : List UInt8) (wr : World) (P : List (List UInt8)) (vs : List Value) (va : Option Addr) (vc k : Nat) : Prop :=
  k ≤ b.length ∧ P.length * 8 ≤ k ∧ splM b = (P ++ (splM (b.drop k)).1, k + (splM (b.drop k)).2) ∧ OwnS wr w.heap.size 23 1 (.slice va P.length vc) P.length vs ∧ CutsOf wr v P vs ∧ Below w.heap.size w wr
/-- What split gives. -/
def SplE (w : World) (v : Value) (r : List (List UInt8) × Nat) (e : Ending) (w' : World) : Prop :=
  ∃ va vc vs, e = .returned (.tuple #[.slice va r.1.length vc, .int .i64 (r.2 : Nat)]) ∧ OwnS w' w.heap.size 23 1 (.slice va r.1.length vc) r.1.length vs ∧ CutsOf w' v r.1 vs ∧ Below w.heap.size w w'

set_option maxRecDepth 100000 in
set_option maxHeartbeats 4000000 in
theorem split_c (w : World) (v : Value) (b : List UInt8) (h : Rd w v b) (h0 : 0 < b.length) (hn : b.length ≤ 4294967295) : Calls Try.prog 35 #[v] w (SplE w v (splM b)) := by
  have HR := Lib.hid h
  obtain ⟨p, c, rfl, h1, h2, h3, h4⟩ := h
  obtain ⟨blk, off, rfl, hx⟩ := h4 h0
  have HBLK := Lib.hid (show blk < w.heap.size from World.block_lt_of_cell? w _ (hx 0 h0))
  clear hx h3 h4
  have HN := Lib.hid hn
  obtain ⟨i0, hi, hz0, hz1, hz2⟩ := info_parts infoB
  have HU := Lib.hid (fun (W : World) (hW : Below w.heap.size w W) (k d : Nat) (hk : k ≤ b.length) (hd : b.length - k ≤ d) (hc : d ≤ maxLen) => (show Calls Try.prog 45 #[.slice (some ⟨blk, off + k, none⟩) (b.length - k) d] W (UnfE W (.slice (some ⟨blk, off + k, none⟩) (b.length - k) d) (unfM (b.drop k))) from by
    have hl : (b.drop k).length = b.length - k := List.length_drop
    have := unframe_c W (.slice (some ⟨blk, off + k, none⟩) (b.length - k) d) (b.drop k) (by
      have := Rd.cutAt (HR.out.below hW) k (b.length - k) d (by omega) hd hc
      rwa [List.take_of_length_le (by omega)] at this) (by omega)
    exact this))
  have HU0 := Lib.hid (fun (W : World) => (show Calls Try.prog 45 #[.slice (some ⟨blk, off, none⟩) 0 0] W (UnfE W (.slice (some ⟨blk, off, none⟩) 0 0) (unfM [])) from unframe_c W _ [] ⟨_, 0, rfl, Nat.le_refl _, by unfold maxLen; omega, by simp, fun h => by simp at h⟩ (by simp)))
  go_enter Try.func35, Try.ntmps35
  go_wp2_with fail
  go_loopw [4, 5] (fun s i wr => ∃ (k : Nat) (P : List (List UInt8)) (vs : List Value) (va : Option Addr) (vc : Nat), i = .int .i64 k ∧ s = .slice va P.length vc ∧ SplI w (.slice (some ⟨blk, off, none⟩) b.length c) b wr P vs va vc k) (fun _ i _ => b.length + 1 - (intOf i).toNat)
  case atStart =>
    exact ⟨0, [], [], none, 0, rfl, rfl, Nat.zero_le _, by simp, by simp, OwnS.nil _ _ _ _, ⟨rfl, fun i x hx => by simp at hx⟩, Below.refl _ _⟩
  case round =>
    obtain ⟨k, P, vs, va, vc, rfl, rfl, hI⟩ := hrel
    have HI := Lib.hid hI
    obtain ⟨hkn, hpk, hsp, how, hcu, hbe⟩ := hI
    have hk0 : (0 : Int) ≤ (k : Int) := by omega
    have hlp : P.length + 1 ≤ 536870913 := by omega
    have hlp : P.length + 1 ≤ 536870913 := by omega
    have hlp : P.length + 1 ≤ 536870913 := by omega
    rcases Nat.lt_or_ge k c with hkc | hkc
    · clear hsp how hcu
      have hdl : (b.drop k).length = b.length - k := List.length_drop
      have HU1 := Lib.hid (HU.out wr hbe k (c - k) hkn (by omega) (by omega))
      cases hu : unfM (b.drop k) with
      | none =>
        rw [hu] at HU1
        have HUN := Lib.hid hu
        clear hbe hu
        go_wp2_with fail
        refine HU1.out.mono ?_
        rintro e w1 ⟨hb1, rfl⟩
        clear hpk
        go_wp2_with fail
        refine bodyPost_ret (v := .tuple #[.slice va P.length vc, .int .i64 (k : Nat)]) (by simp [results, Try.results35, go_sem]) rfl ?_
        obtain ⟨hkn, hpk, hsp, how, hcu, hbe⟩ := HI.out
        have hr : splM b = (P, k) := by rw [hsp, splM_none HUN.out]; simp
        rw [hr]
        exact ⟨va, vc, vs, rfl, how.keep (fun g hg => hb1.block g (how.lt g hg)), hcu.below hb1, hbe.trans (hb1.mono hbe.size)⟩
      | some x =>
        rw [hu] at HU1
        have HUN := Lib.hid hu
        clear hbe hu
        go_wp2_with fail
        refine HU1.out.mono ?_
        rintro e w1 ⟨hb1, xa, xc, rfl, hrx, hgx⟩
        have HB1 := Lib.hid hb1
        have HX := Lib.hid (And.intro hrx hgx)
        have HOW := Lib.hid (show OwnS w1 w.heap.size 23 1 (.slice va P.length vc) P.length vs from HI.out.2.2.2.1.keep (fun g hg => hb1.block g (HI.out.2.2.2.1.lt g hg)))
        have HWB := Lib.hid (show Below w.heap.size w w1 from HI.out.2.2.2.2.2.trans (hb1.mono HI.out.2.2.2.2.2.size))
        have hx8 := (unfM_len HUN.out).1
        rw [hdl] at hx8
        clear hb1 hrx hgx hpk
        go_wp2_with (at_builtin; refine wpList_append_S rfl _ _ 22 22 rfl w.heap.size 23 i0 (.slice none 0 0) 1 24 Try.underlying22 hi hz0 hz1 hz2 rfl (Nat.succ_pos _) (.slice va P.length vc) P.length vs rfl (HOW.out.keep (fun g hg => Below.heap_alloc _ _ _ (HOW.out.lt g hg))) (.slice (some ⟨w1.heap.size, 0, none⟩) 1 1) 1 [.slice xa x.length xc] rfl (src_one Try.underlying22 w1 _ _ rfl) (by unfold maxLen; omega) (by omega) (by have := HWB.out.size; simp; omega) ?_
                     intro v2 w2 hown hgrow hl
                     obtain ⟨va2, vc2, hv2, _⟩ := hown.form
                     subst hv2
                     have HOW2 := Lib.hid hown
                     have HG2 := Lib.hid (And.intro hgrow hl)
                     clear hown hgrow hl)
        go_roundw
        case rel =>
          refine ⟨k + (8 + x.length), P ++ [x], vs ++ [.slice xa x.length xc], va2, vc2, by go_num, by simp, ?_⟩
          obtain ⟨hkn, hpk, hsp, how, hcu, hbe⟩ := HI.out
          have hb2 : Below w.heap.size w w2 := (HWB.out.alloc HWB.out.size _).grown HG2.out.1 (by have := HWB.out.size; simp; omega) (fun g hg => how.baseJ g hg)
          have hb12 : ∀ g, g < w1.heap.size → (Value.slice va P.length vc).ownBlock ≠ some g → w2.heap[g]? = w1.heap[g]? := fun g hg ho => (HG2.out.1.block g (by simp; omega) (fun e => ho e.symm)).trans (Below.heap_alloc _ _ _ hg)
          refine ⟨by omega, by simp; omega, ?_, by simpa using HOW2.out, ?_, hb2⟩
          · rw [hsp, splM_some HUN.out, List.drop_drop]
            simp [Nat.add_assoc, Nat.add_comm, Nat.add_left_comm]
          · have hk1 : ∀ (n cc : Nat) (a : Option Addr) (y : List UInt8), Rd w1 (.slice a n cc) y → (∀ g, (Value.slice a n cc).ownBlock = some g → (Value.slice (some ⟨blk, off, none⟩) b.length c).ownBlock = some g) → Rd w2 (.slice a n cc) y := fun n cc a y hr hg => rd_keepJ hr (fun g hg' hl => hb12 g hl (fun e => by
              have h1 := hg g hg'
              simp only [Value.ownBlock, Option.some.injEq] at h1
              have h2 := how.baseJ g e
              have h3 := HBLK.out
              omega))
            have hcu1 := hcu.below HB1.out
            have hcu2 : CutsOf w2 (.slice (some ⟨blk, off, none⟩) b.length c) P vs := ⟨hcu1.1, fun i y hy => by
              obtain ⟨a, cc, k1, k2, k3⟩ := hcu1.2 i y hy
              exact ⟨a, cc, k1, hk1 _ _ _ _ k2 k3, k3⟩⟩
            have hgx : ∀ g, (Value.slice xa x.length xc).ownBlock = some g → (Value.slice (some ⟨blk, off, none⟩) b.length c).ownBlock = some g := fun g hg => by have := HX.out.2 g hg; simpa [Value.ownBlock] using this
            exact hcu2.snoc (hk1 _ _ _ _ HX.out.1 hgx) hgx
        case measure => simp [intOf]; omega
    · clear hsp how hcu
      have hkc' : k = c := by omega
      have hbk : b.length = c := by omega
      have hdn : b.drop k = [] := List.drop_eq_nil_of_le (by omega)
      subst hkc'
      have hbk0 : b.length - k = 0 := by omega
      have HU1 := Lib.hid (HU0.out wr)
      have hun : unfM (b.drop k) = none := by rw [hdn]; rfl
      rw [show unfM [] = none from rfl] at HU1
      have HUN := Lib.hid hun
      clear hbe hun hdn
      go_wp2_with fail
      refine HU1.out.mono ?_
      rintro e w1 ⟨hb1, rfl⟩
      clear hpk
      go_wp2_with fail
      refine bodyPost_ret (v := .tuple #[.slice va P.length vc, .int .i64 (k : Nat)]) (by simp [results, Try.results35, go_sem]) rfl ?_
      obtain ⟨hkn, hpk, hsp, how, hcu, hbe⟩ := HI.out
      have hr : splM b = (P, k) := by rw [hsp, splM_none HUN.out]; simp
      rw [hr]
      exact ⟨va, vc, vs, rfl, how.keep (fun g hg => hb1.block g (how.lt g hg)), hcu.below hb1, hbe.trans (hb1.mono hbe.size)⟩
end Go.Proofs.Ytfljpnfjndjhpaa
