/- Spoil; a step that crashes, a step that appends; any step. -/
import Derived.Test.YtcpldjaoacihlaaDo
namespace Go.Proofs.Ytcpldjaoacihlaa
open Go.RowKit
set_option linter.unusedVariables false

theorem own_chg {w w' : World} {B : Nat} {e : TypeId} {v : Value} {n : Nat} {xs : List Value} {S : List Nat} (h : w.ownsRow B e 1 v n xs) (hc : Chg S w w') (hs : ∀ g, v.ownBlock = some g → g ∉ S) : w'.ownsRow B e 1 v n xs := by
  refine ⟨h.1, ?_⟩
  rcases h.2 with hn | ⟨g, cap, cur, rfl, hb, hgg, rest⟩
  · exact .inl hn
  · exact .inr ⟨g, cap, cur, rfl, hb, (hc.block g (lt_of_block hgg) (hs g rfl)).trans hgg, rest⟩

theorem stored_int {w : World} {B g n c : Nat} {e : TypeId} {ys : List Int} (h : w.ownsRow B e 1 (.slice (some ⟨g, 0, none⟩) n c) n (ys.map (Value.int .u8))) (i : Nat) (z : Int) :
    (w.setCell ⟨g, i, none⟩ (.int .u8 z)).ownsRow B e 1 (.slice (some ⟨g, 0, none⟩) n c) n ((ys.set i z).map (Value.int .u8)) := by
  rw [List.map_set]
  exact (h.stored i _).1

set_option maxRecDepth 100000 in
set_option maxHeartbeats 1000000 in
theorem spoil_c (w : World) (rb B : Nat) (v : Value) (n : Nat) (zs : List Int) {T : TypeId} (hrow : w.heap[rb]? = some (.cells #[v] T (0, 0))) (hown : w.ownsRow B 5 1 v n (zs.map (Value.int .u8))) (hne : v.ownBlock ≠ some rb) (hn : n ≤ 140737488355328) :
    Calls Try.prog 16 #[.slice (some ⟨rb, 0, none⟩) 1 1] w fun e w' => e = .returned (.tuple #[]) ∧ Chg v.ownBlock.toList w w' := by
  have HO := Lib.hid hown
  have HR := Lib.hid hrow
  have HNE := Lib.hid hne
  have hzl : zs.length = n := by have := hown.1; simpa using this
  have HZ := Lib.hid hzl
  obtain ⟨a, c, rfl, hac⟩ : ∃ a c, v = .slice a n c ∧ (a = none → n = 0) := by
    rcases hown.2 with ⟨rfl, h0⟩ | ⟨g, cap, cur, rfl, _⟩
    · exact ⟨none, 0, by rw [h0], fun _ => h0⟩
    · exact ⟨_, _, rfl, by simp⟩
  have HAC := Lib.hid hac
  clear hown hrow hne hzl hac
  go_enter Try.func16, Try.ntmps16
  go_wp2_with fail
  go_loopw [7] (fun i wr => ∃ k : Nat, k ≤ 1 ∧ i = .int .i64 k ∧ Chg (Value.slice a n c).ownBlock.toList w wr ∧ (k = 0 → wr = w)) (fun i _ => 1 - (intOf i).toNat)
  case atStart => exact ⟨0, by omega, rfl, Chg.refl _ _, fun _ => rfl⟩
  case round =>
    obtain ⟨k, hk, rfl, hch, hw⟩ := hrel
    rcases (show k = 0 ∨ k = 1 from by omega) with rfl | rfl
    · have hw' := hw rfl
      subst hw'
      have hcell : wr.cell? ⟨rb, 0, none⟩ = some (.slice a n c) := by simp [World.cell?, HR.out]
      clear hw hk hch
      go_wp2_with fail
      obtain ⟨wo, rfl⟩ : ∃ wo : World, wo = wr := ⟨_, rfl⟩
      go_loopw [13] (fun j wi => ∃ (i : Nat) (ys : List Int), i ≤ n ∧ j = .int .i64 i ∧ ys.length = n ∧ wi.ownsRow B 5 1 (.slice a n c) n (ys.map (Value.int .u8)) ∧ Chg (Value.slice a n c).ownBlock.toList wo wi) (fun j _ => n - (intOf j).toNat)
      case atStart => exact ⟨0, zs, Nat.zero_le _, rfl, HZ.out, HO.out, Chg.refl _ _⟩
      case round =>
        obtain ⟨i, ys, hi, rfl, hyl, ho, hch⟩ := hrel
        have HO2 := Lib.hid ho
        have HC2 := Lib.hid hch
        have HY := Lib.hid hyl
        by_cases hlt : i < n
        · cases a with
          | none => have := HAC.out rfl; omega
          | some a =>
            obtain ⟨g, o, sp⟩ := a
            obtain ⟨rfl, rfl⟩ : o = 0 ∧ sp = none := by
              rcases ho.2 with ⟨hv, _⟩ | ⟨g', cap, cur, hv, _⟩
              · cases hv
              · simp only [Value.slice.injEq, Option.some.injEq, Addr.mk.injEq] at hv
                exact ⟨hv.1.2.1, hv.1.2.2⟩
            have hc := ho.cellAt i (by omega)
            have hil : i < ys.length := by omega
            obtain ⟨z, hz⟩ : ∃ z, z = ys[i] := ⟨_, rfl⟩
            rw [show (ys.map (Value.int .u8))[i]? = some (.int .u8 z) from by simp [hil, hz]] at hc
            have hf := ho.frozenAt i
            clear ho hch hyl hz hil
            go_wp2_with fail
            go_roundw
            case rel =>
              exact ⟨i + 1, ys.set i _, by omega, by go_num, List.length_set.trans HY.out, stored_int HO2.out i _, HC2.out.set' _ _ _ (.inl (by simp [Value.ownBlock]))⟩
            case measure => simp [intOf]; omega
        · clear ho hch hyl
          go_wp2_with fail
          go_roundw
          case rel => exact ⟨1, by omega, by go_num, HC2.out, fun h => by omega⟩
          case measure => simp [intOf]
    · have HCH := Lib.hid hch
      clear hch hw
      go_wp2_with fail
      refine bodyPost_end (v := .tuple #[]) (by simp [results, Try.results16, go_sem]) rfl ?_
      exact ⟨rfl, HCH.out⟩

theorem TwF.chgOut {w0 w w' : World} {p q : Option Addr} {s r : DS} {foot m bb S : List Nat} (h : TwF w0 w p q s r foot m bb) (hc : Chg S w w') (hS : ∀ i ∈ S, w0.heap.size ≤ i ∧ i ∉ foot ∧ i ∉ m ∧ i ∉ bb) : TwF w0 w' p q s r foot m bb :=
  ⟨h.d.chg hc (fun i hi hs => (hS i hs).2.1 hi), h.r.chg hc (fun i hi hs => (hS i hs).2.2.1 hi) (fun i hi hs => (hS i hs).2.2.2 hi), h.ap, h.nf, h.nm, h.bel.trans (hc.below h.bel.size fun i hi => (hS i hi).1)⟩
theorem bcells_ints (xs : List UInt8) : bcells xs = (xs.map fun b => (b.toNat : Int)).map (Value.int .u8) := by simp [bcells]

section
variable {w0 w : World} {p q : Option Addr} {s : DS}

set_option maxRecDepth 100000 in
set_option maxHeartbeats 4000000 in
theorem do_crash (x : SV) (hx : SVok w0 x) (hk : x.kind = 7) (h : Tw w0 w p q s s) (hl : s.fs.length ≤ 1000000) :
    Calls Try.prog 11 #[x.val, .pointer p, .pointer q] w fun e w' => e = .returned (.bool true) ∧ Tw w0 w' p q (x.act s) (x.act s) := by
  have HX := Lib.hid (show x.act s = s.crash x.ks from by unfold SV.act; simp [hk])
  rw [HX.out]
  obtain ⟨op, n, nm, tn, bv, kv, b, ks⟩ := x
  obtain ⟨x1, x2, x3, x4, x5, x6, x7, x8⟩ := hx
  simp only at x1 x2 x3 x4 x5 x6 x7 x8
  obtain ⟨foot, m, bb, ht⟩ := h
  have HT1 := Lib.hid (ht.below (w' := w.alloc (.cells #[.int .i64 op, .int .i64 n, .string nm, .string tn, bv, kv] 34)) ((Below.refl _ _).alloc (Nat.le_refl _) _))
  have HLT := Lib.hid (And.intro ht.d.lt ht.r.lt)
  have hl2 : s.fs.length ≤ 1000000000 := by omega
  have HL := Lib.hid (And.intro hl hl2)
  have HB1 := Lib.hid (heap_alloc_new w (.cells #[.int .i64 op, .int .i64 n, .string nm, .string tn, bv, kv] 34))
  have HK := Lib.hid (And.intro x6 (show ks.length ≤ 140737488355328 from by omega))
  unfold SV.val
  simp only
  obtain ⟨U, hU⟩ : ∃ U : Int, U = IntKind.u64.wrap op := ⟨_, rfl⟩
  have hk' : U % 9 = 7 := by rw [hU]; exact hk
  have hu0 : 0 ≤ U := by rw [hU]; simp [IntKind.wrap, IntKind.signed, IntKind.bits]; omega
  have hu1 : U ≤ 18446744073709551615 := by rw [hU]; simp [IntKind.wrap, IntKind.signed, IntKind.bits]; omega
  have hW : IntKind.u64.wrap op = U := hU.symm
  obtain ⟨bp, bc, rfl, _⟩ := x5
  obtain ⟨kp, kc, rfl, _⟩ := x6
  rw [show (icells ks).length = ks.length from by simp [icells]] at *
  clear hU hk ht hl hl2 x1 x2 x3 x4 x7 x8
  go_enter Try.func11, Try.ntmps11
  go_wp2_with fail
  refine (crash_r HT1.out.r HL.out.1 _ ks (HK.out.1.below HT1.out.bel) HK.out.2).mono ?_
  rintro e w2 ⟨rfl, ha⟩
  obtain ⟨m2, b2, hd2, hf2, hg2, hc2⟩ := ha
  obtain ⟨mm2, bb2, ht2⟩ := TwF.stepR HT1.out ⟨m2, b2, hd2, hf2, hg2, hc2⟩
  have HB2 := Lib.hid ((hc2.block w.heap.size (by simp) (fun hm => by have := HLT.out.2.1 _ hm; omega)).trans HB1.out)
  have HT2 := Lib.hid ht2
  obtain ⟨y0, y1, y2, y3, y4, y5⟩ := cells6 HB2.out
  clear hd2 hf2 hg2 hc2 ht2
  go_wp2_with fail
  refine (crash_c HT2.out.d HL.out.2 _ ks (HK.out.1.below HT2.out.bel) (fun h0 g hg hm => by have h1 := HT2.out.nf g hm; have h2 := RdV.lt HK.out.1 (by simpa [icells] using h0) g hg; omega) HK.out.2).mono ?_
  rintro e w3 ⟨rfl, ha⟩
  obtain ⟨foot3, ht3⟩ := TwF.stepD HT2.out ha
  have HT3 := Lib.hid ht3
  clear ha ht3
  go_wp2_with fail
  go_ret
  exact ⟨rfl, _, _, _, HT3.out⟩

set_option maxRecDepth 100000 in
set_option maxHeartbeats 4000000 in
theorem do_append (x : SV) (hx : SVok w0 x) (hk : x.kind = 0 ∨ x.kind = 1) (h : Tw w0 w p q s s) (hl : s.fs.length ≤ 1000000) :
    Calls Try.prog 11 #[x.val, .pointer p, .pointer q] w fun e w' => e = .returned (.bool true) ∧ Tw w0 w' p q (x.act s) (x.act s) := by
  have HX := Lib.hid (show x.act s = (s.append x.nm.data.toList x.b).2 from by unfold SV.act; rw [if_pos hk])
  rw [HX.out]
  obtain ⟨op, n, nm, tn, bv, kv, b, ks⟩ := x
  obtain ⟨x1, x2, x3, x4, x5, x6, x7, x8⟩ := hx
  simp only at x1 x2 x3 x4 x5 x6 x7 x8
  obtain ⟨foot, m, bb, ht⟩ := h
  have HT1 := Lib.hid (ht.below (w' := w.alloc (.cells #[.int .i64 op, .int .i64 n, .string nm, .string tn, bv, kv] 34)) ((Below.refl _ _).alloc (Nat.le_refl _) _))
  have HLT := Lib.hid (And.intro ht.d.lt ht.r.lt)
  have hl2 : s.fs.length ≤ 1000000000 := by omega
  have HL := Lib.hid (And.intro hl hl2)
  have HB1 := Lib.hid (heap_alloc_new w (.cells #[.int .i64 op, .int .i64 n, .string nm, .string tn, bv, kv] 34))
  have HN := Lib.hid x3
  have HB := Lib.hid (And.intro x5 (show b.length ≤ 140737488355328 from by omega))
  have HSZ := Lib.hid ht.bel.size
  unfold SV.val
  simp only
  obtain ⟨U, hU⟩ : ∃ U : Int, U = IntKind.u64.wrap op := ⟨_, rfl⟩
  have hu0 : 0 ≤ U := by rw [hU]; simp [IntKind.wrap, IntKind.signed, IntKind.bits]; omega
  have hu1 : U ≤ 18446744073709551615 := by rw [hU]; simp [IntKind.wrap, IntKind.signed, IntKind.bits]; omega
  have hW : IntKind.u64.wrap op = U := hU.symm
  obtain ⟨bp, bc, rfl, _⟩ := x5
  obtain ⟨kp, kc, rfl, _⟩ := x6
  rw [show (icells ks).length = ks.length from by simp [icells]] at *
  have hkk : U % 9 = 0 ∨ U % 9 = 1 := by rw [hU]; exact hk
  clear hU hk ht hl hl2 x1 x2 x3 x4 x7 x8
  go_enter Try.func11, Try.ntmps11
  rcases hkk with hk' | hk'
  all_goals
    go_wp2_with fail
    refine (clone_c _ _ b (HB.out.1.below HT1.out.bel) HB.out.2).mono ?_
    rintro e w2 ⟨v', rfl, ho, hb2⟩
    have hsz2 : w.heap.size < w2.heap.size := by have := hb2.size; simp at this; omega
    have HO2 := Lib.hid ho
    have HT2 := Lib.hid (HT1.out.below hb2)
    have HBB2 := Lib.hid ((hb2.block w.heap.size (by simp)).trans HB1.out)
    obtain ⟨y0, y1, y2, y3, y4, y5⟩ := cells6 HBB2.out
    have HVL := Lib.hid (show ∀ g, v'.ownBlock = some g → w.heap.size < g ∧ g < w2.heap.size from fun g hg => by have := ho.lt g hg; simp at this; omega)
    obtain ⟨a2, cp2, hv, v1, v2, v3⟩ := own_form ho
    subst hv
    clear ho hb2
    go_wp2_with fail
    refine (append_c HT2.out.d nm HN.out HL.out.2 _ b (Rd.of_own HO2.out) (fun h0 g hg hm => by have h1 := (HVL.out g hg).1; have h2 := HLT.out.1 g hm; omega) HB.out.2).mono ?_
    rintro e w3 ⟨rfl, ha⟩
    obtain ⟨f3, hd3, hf3, hc3⟩ := id ha
    obtain ⟨foot3, ht3⟩ : ∃ foot3, TwF w0 w3 p q (s.append nm.data.toList b).2 s foot3 m bb ∧ ∀ i ∈ foot3, i ∈ foot ∨ w2.heap.size ≤ i := by
      obtain ⟨_, ht⟩ := TwF.stepD HT2.out ha
      exact ⟨f3, ⟨hd3, ht.r, fun i hi => by
        rcases hf3 i hi with h1 | h1
        · exact HT2.out.ap i h1
        · have := HT2.out.r.lt
          exact ⟨fun hm => by have := this.1 i hm; omega, fun hm => by have := this.2 i hm; omega⟩, fun i hi => (hf3 i hi).elim (HT2.out.nf i) fun h1 => by have := HSZ.out; omega, ht.nm, ht.bel⟩, hf3⟩
    have HT3 := Lib.hid ht3
    have hsz3 : w2.heap.size ≤ w3.heap.size := hc3.size
    have HO3 := Lib.hid (own_chg HO2.out hc3 (fun g hg hm => by have h1 := (HVL.out g hg).1; have h2 := HLT.out.1 g hm; omega))
    have HB3 := Lib.hid ((hc3.block w.heap.size hsz2 (fun hm => by have := HLT.out.1 _ hm; omega)).trans HBB2.out)
    obtain ⟨z0, z1, z2, z3, z4, z5⟩ := cells6 HB3.out
    clear ha hd3 hf3 hc3 ht3 y0 y1 y2 y3 y4 y5
    go_wp2_with fail
    have HT4 := Lib.hid (HT3.out.1.below (w' := w3.alloc (.cells #[.slice a2 b.length cp2] 31)) ((Below.refl _ _).alloc (Nat.le_refl _) _))
    have hoo := HO3.out.alloc (.cells #[.slice a2 b.length cp2] 31)
    rw [bcells_ints] at hoo
    refine (spoil_c _ w3.heap.size (w.heap.size + 1) _ b.length _ (heap_alloc_new w3 _) (own_mono hoo (by simp)) (fun e => by have := (HVL.out _ e).2; omega) HB.out.2).mono ?_
    rintro e w4 ⟨rfl, hc4⟩
    have HT5 := Lib.hid (HT4.out.chgOut hc4 (fun i hi => by
      have hi' : (Value.slice a2 b.length cp2).ownBlock = some i := by simpa using hi
      have h1 := HVL.out i hi'
      have h2 := HSZ.out
      have h3 := HLT.out
      refine ⟨by omega, fun hm => ?_, fun hm => by have := h3.2.1 i hm; omega, fun hm => by have := h3.2.2 i hm; omega⟩
      rcases HT3.out.2 i hm with h4 | h4
      · have := h3.1 i h4; omega
      · omega))
    have hb4 : w4.heap[w.heap.size]? = some (.cells #[.int .i64 op, .int .i64 n, .string nm, .string tn, .slice bp b.length bc, .slice kp ks.length kc] 34 (0, 0)) :=
      (hc4.block w.heap.size (by simp; omega) (fun hm => by have hi' : (Value.slice a2 b.length cp2).ownBlock = some w.heap.size := by simpa using hm
                                                            have := (HVL.out _ hi').1; omega)).trans ((Below.heap_alloc _ _ _ (by omega)).trans HB3.out)
    obtain ⟨q0, q1, q2, q3, q4, q5⟩ := cells6 hb4
    clear hc4 hoo hb4 z0 z1 z2 z3 z4 z5
    go_wp2_with fail
    refine (append_r HT5.out.r HL.out.1 nm HN.out _ b (HB.out.1.below HT5.out.bel) (fun h0 g hg hm => by have h1 := HT5.out.nm g hm; have h2 := Rd.lt HB.out.1 h0 g hg; omega) HB.out.2).mono ?_
    rintro e w5 ⟨rfl, ha⟩
    obtain ⟨m5, bb5, ht5⟩ := TwF.stepR HT5.out ha
    have HT6 := Lib.hid ht5
    clear ha ht5
    go_wp2_with fail
    go_ret
    exact ⟨rfl, _, _, _, HT6.out⟩

/-- Any step. -/
theorem do_any (x : SV) (hx : SVok w0 x) (h : Tw w0 w p q s s) (hl : s.fs.length ≤ 1000000) :
    Calls Try.prog 11 #[x.val, .pointer p, .pointer q] w fun e w' => e = .returned (.bool true) ∧ Tw w0 w' p q (x.act s) (x.act s) := by
  have hin := x.kind_in
  rcases (show x.kind = 0 ∨ x.kind = 1 ∨ x.kind = 2 ∨ x.kind = 3 ∨ x.kind = 4 ∨ x.kind = 5 ∨ x.kind = 6 ∨ x.kind = 7 ∨ x.kind = 8 from by omega) with h0 | h0 | h0 | h0 | h0 | h0 | h0 | h0 | h0
  · exact do_append x hx (.inl h0) h hl
  · exact do_append x hx (.inr h0) h hl
  · exact do_sync x hx h0 h hl
  · exact do_rename x hx h0 h hl
  · exact do_trunc x hx h0 h hl
  · exact do_remove x hx h0 h hl
  · exact do_fuse x hx h0 h hl
  · exact do_crash x hx h0 h hl
  · exact do_room x hx h0 h hl
end
end Go.Proofs.Ytcpldjaoacihlaa
