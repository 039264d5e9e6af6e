/- a step on both disks. -/
import Derived.Test.YtcpldjaoacihlaaTw
import Derived.Test.YtcpldjaoacihlaaOps
import Derived.Deep.RegionHeld3
namespace Go.Proofs.Ytcpldjaoacihlaa
open Go.RowKit
set_option linter.unusedVariables false

/-- The kind of a step. -/
def SV.kind (x : SV) : Int := IntKind.u64.wrap x.op % 9
/-- What a step does. -/
def SV.act (x : SV) (s : DS) : DS :=
  if x.kind = 0 ∨ x.kind = 1 then (s.append x.nm.data.toList x.b).2
  else if x.kind = 2 then (s.sync x.nm.data.toList).2
  else if x.kind = 3 then (s.rename x.nm.data.toList x.tn.data.toList).2
  else if x.kind = 4 then (s.trunc x.nm.data.toList x.n).2
  else if x.kind = 5 then (s.remove x.nm.data.toList).2
  else if x.kind = 6 then (s.setFuse x.n).2
  else if x.kind = 7 then s.crash x.ks
  else (s.setRoom x.n).2
def SV.val (x : SV) : Value := .agg #[.int .i64 x.op, .int .i64 x.n, .string x.nm, .string x.tn, x.bv, x.kv]
theorem SV.kind_in (x : SV) : 0 ≤ x.kind ∧ x.kind < 9 := by unfold SV.kind; omega

theorem cells6 {w : World} {b : Nat} {c0 c1 c2 c3 c4 c5 : Value} {T : TypeId} (h : w.heap[b]? = some (.cells #[c0, c1, c2, c3, c4, c5] T (0, 0))) :
    w.cell? ⟨b, 0, none⟩ = some c0 ∧ w.cell? ⟨b, 1, none⟩ = some c1 ∧ w.cell? ⟨b, 2, none⟩ = some c2 ∧ w.cell? ⟨b, 3, none⟩ = some c3 ∧ w.cell? ⟨b, 4, none⟩ = some c4 ∧ w.cell? ⟨b, 5, none⟩ = some c5 := by
  refine ⟨?_, ?_, ?_, ?_, ?_, ?_⟩ <;> simp [World.cell?, h]

section
variable {w : World} {q : Option Addr} {s : DS} {m bb : List Nat}
theorem fuse_r2 (h : RDisk w q s m bb) (k : Int) (hk : -9223372036854775808 ≤ k ∧ k ≤ 9223372036854775807) :
    Calls Try.prog 38 #[.pointer q, .int .i64 k] w fun e w' => e = .returned (.int .i64 (s.setFuse k).1) ∧ RAfter w q (s.setFuse k).2 m bb w' := by
  have h' := h
  obtain ⟨qb, lv, G, rfl, hc, rfl, rfl, hq, hbb⟩ := h.parts
  refine (fuse_r hc hq (fun hm => (hbb qb hm).1 rfl) k hk).mono ?_
  rintro e w' ⟨he, h1, h2⟩
  exact ⟨he, rafter_mk h1 hc.ltq hq (.inl rfl) (fun i hi => .inl hi) hbb (h2.mono (by simp))⟩
theorem room_r2 (h : RDisk w q s m bb) (k : Int) (hk : -9223372036854775808 ≤ k ∧ k ≤ 9223372036854775807) :
    Calls Try.prog 40 #[.pointer q, .int .i64 k] w fun e w' => e = .returned (.int .i64 (s.setRoom k).1) ∧ RAfter w q (s.setRoom k).2 m bb w' := by
  have h' := h
  obtain ⟨qb, lv, G, rfl, hc, rfl, rfl, hq, hbb⟩ := h.parts
  refine (room_r hc hq (fun hm => (hbb qb hm).1 rfl) k hk).mono ?_
  rintro e w' ⟨he, h1, h2⟩
  exact ⟨he, rafter_mk h1 hc.ltq hq (.inl rfl) (fun i hi => .inl hi) hbb (h2.mono (by simp))⟩
end

section
variable {w0 w : World} {p q : Option Addr} {s : DS}

set_option maxRecDepth 100000 in
set_option maxHeartbeats 4000000 in
theorem do_sync (x : SV) (hx : SVok w0 x) (hk : x.kind = 2) (h : Tw w0 w p q s s) (hl : s.fs.length ≤ 1000000) :
    Calls Try.prog 11 #[x.val, .pointer p, .pointer q] w fun e w' => e = .returned (.bool true) ∧ Tw w0 w' p q (x.act s) (x.act s) := by
  have HX := Lib.hid (show x.act s = (s.sync x.nm.data.toList).2 from by unfold SV.act; simp [hk])
  rw [HX.out]
  obtain ⟨op, n, nm, tn, bv, kv, b, ks⟩ := x
  obtain ⟨x1, x2, x3, x4, x5, x6, x7, x8⟩ := hx
  simp only at x1 x2 x3 x4 x5 x6 x7 x8
  obtain ⟨foot, m, bb, ht⟩ := h
  have HT1 := Lib.hid (ht.below (w' := w.alloc (.cells #[.int .i64 op, .int .i64 n, .string nm, .string tn, bv, kv] 34)) ((Below.refl _ _).alloc (Nat.le_refl _) _))
  have HLT := Lib.hid (And.intro ht.d.lt ht.r.lt)
  have hl2 : s.fs.length ≤ 1000000000 := by omega
  have HL := Lib.hid (And.intro hl hl2)
  have hbx1 := heap_alloc_new w (.cells #[.int .i64 op, .int .i64 n, .string nm, .string tn, bv, kv] 34)
  have HN := Lib.hid (And.intro x2 (And.intro x3 x4))
  unfold SV.val
  simp only
  obtain ⟨U, hU⟩ : ∃ U : Int, U = IntKind.u64.wrap op := ⟨_, rfl⟩
  have hk' : U % 9 = 2 := by rw [hU]; exact hk
  have hu0 : 0 ≤ U := by rw [hU]; simp [IntKind.wrap, IntKind.signed, IntKind.bits]; omega
  have hu1 : U ≤ 18446744073709551615 := by rw [hU]; simp [IntKind.wrap, IntKind.signed, IntKind.bits]; omega
  have hW : IntKind.u64.wrap op = U := hU.symm
  have KP : ∀ w' : World, w'.heap[w.heap.size]? = some (.cells #[.int .i64 op, .int .i64 n, .string nm, .string tn, bv, kv] 34 (0, 0)) → w'.cell? ⟨w.heap.size, 1, none⟩ = some (.int .i64 n) ∧ w'.cell? ⟨w.heap.size, 2, none⟩ = some (.string nm) ∧ w'.cell? ⟨w.heap.size, 3, none⟩ = some (.string tn) :=
    fun w' hb => ⟨(cells6 hb).2.1, (cells6 hb).2.2.1, (cells6 hb).2.2.2.1⟩
  have HKP := Lib.hid KP
  have HB1 := Lib.hid hbx1
  obtain ⟨bp, bc, rfl, _⟩ := x5
  obtain ⟨kp, kc, rfl, _⟩ := x6
  clear hU hk ht hl hl2 x1 x2 x3 x4 x7 x8 KP hbx1
  go_enter Try.func11, Try.ntmps11
  go_wp2_with fail
  go_region_held3 (fun w' => w'.cell? ⟨w.heap.size, 1, none⟩ = some (.int .i64 n) ∧ w'.cell? ⟨w.heap.size, 2, none⟩ = some (.string nm) ∧ w'.cell? ⟨w.heap.size, 3, none⟩ = some (.string tn))
    (first | exact HKP.out _ HB1.out | exact HKP.out _ HB2.out | exact HKP.out _ HB3.out)
    (first
      | (go_at_call 20; refine (sync_c (TwF.below HT1.out (by first | exact Below.refl _ _ | exact (Below.refl _ _).drew | exact (Below.refl _ _).drew.drew | exact below_drewN (Below.refl _ _) _)).d nm HN.out.2.1 HL.out.2).mono ?_; rintro e w2 ⟨rfl, ha⟩; obtain ⟨f2, hd2, hf2, hc2⟩ := ha; obtain ⟨foot2, ht2⟩ := TwF.stepD (TwF.below HT1.out (by first | exact Below.refl _ _ | exact (Below.refl _ _).drew | exact (Below.refl _ _).drew.drew | exact below_drewN (Below.refl _ _) _)) ⟨f2, hd2, hf2, hc2⟩; have HB2 := Lib.hid ((hc2.block w.heap.size (by simp) (fun hm => by have := HLT.out.1 _ hm; omega)).trans HB1.out); have HT2 := Lib.hid ht2; have hsz2 : w.heap.size < w2.heap.size := by have := hc2.size; simp at this; omega
         clear hd2 hf2 hc2 ht2)
      | (go_at_call 34; refine (sync_r (TwF.below HT2.out (by first | exact Below.refl _ _ | exact (Below.refl _ _).drew | exact (Below.refl _ _).drew.drew | exact below_drewN (Below.refl _ _) _)).r HL.out.1 nm HN.out.2.1).mono ?_; rintro e w3 ⟨rfl, ha⟩; obtain ⟨m3, b3, hd3, hf3, hg3, hc3⟩ := ha; obtain ⟨mm3, bb3, ht3⟩ := TwF.stepR (TwF.below HT2.out (by first | exact Below.refl _ _ | exact (Below.refl _ _).drew | exact (Below.refl _ _).drew.drew | exact below_drewN (Below.refl _ _) _)) ⟨m3, b3, hd3, hf3, hg3, hc3⟩; have HB3 := Lib.hid ((hc3.block w.heap.size (by simpa using hsz2) (fun hm => by have := HLT.out.2.1 _ hm; omega)).trans HB2.out); have HT3 := Lib.hid ht3
         clear hd3 hf3 hg3 hc3 ht3)
      | fail "no arm")
  all_goals
    go_wp2_with fail
    go_ret
    exact ⟨rfl, _, _, _, HT3.out⟩

set_option maxRecDepth 100000 in
set_option maxHeartbeats 4000000 in
theorem do_rename (x : SV) (hx : SVok w0 x) (hk : x.kind = 3) (h : Tw w0 w p q s s) (hl : s.fs.length ≤ 1000000) :
    Calls Try.prog 11 #[x.val, .pointer p, .pointer q] w fun e w' => e = .returned (.bool true) ∧ Tw w0 w' p q (x.act s) (x.act s) := by
  have HX := Lib.hid (show x.act s = (s.rename x.nm.data.toList x.tn.data.toList).2 from by unfold SV.act; simp [hk])
  rw [HX.out]
  obtain ⟨op, n, nm, tn, bv, kv, b, ks⟩ := x
  obtain ⟨x1, x2, x3, x4, x5, x6, x7, x8⟩ := hx
  simp only at x1 x2 x3 x4 x5 x6 x7 x8
  obtain ⟨foot, m, bb, ht⟩ := h
  have HT1 := Lib.hid (ht.below (w' := w.alloc (.cells #[.int .i64 op, .int .i64 n, .string nm, .string tn, bv, kv] 34)) ((Below.refl _ _).alloc (Nat.le_refl _) _))
  have HLT := Lib.hid (And.intro ht.d.lt ht.r.lt)
  have hl2 : s.fs.length ≤ 1000000000 := by omega
  have HL := Lib.hid (And.intro hl hl2)
  have hbx1 := heap_alloc_new w (.cells #[.int .i64 op, .int .i64 n, .string nm, .string tn, bv, kv] 34)
  have HN := Lib.hid (And.intro x2 (And.intro x3 x4))
  unfold SV.val
  simp only
  obtain ⟨U, hU⟩ : ∃ U : Int, U = IntKind.u64.wrap op := ⟨_, rfl⟩
  have hk' : U % 9 = 3 := by rw [hU]; exact hk
  have hu0 : 0 ≤ U := by rw [hU]; simp [IntKind.wrap, IntKind.signed, IntKind.bits]; omega
  have hu1 : U ≤ 18446744073709551615 := by rw [hU]; simp [IntKind.wrap, IntKind.signed, IntKind.bits]; omega
  have hW : IntKind.u64.wrap op = U := hU.symm
  have KP : ∀ w' : World, w'.heap[w.heap.size]? = some (.cells #[.int .i64 op, .int .i64 n, .string nm, .string tn, bv, kv] 34 (0, 0)) → w'.cell? ⟨w.heap.size, 1, none⟩ = some (.int .i64 n) ∧ w'.cell? ⟨w.heap.size, 2, none⟩ = some (.string nm) ∧ w'.cell? ⟨w.heap.size, 3, none⟩ = some (.string tn) :=
    fun w' hb => ⟨(cells6 hb).2.1, (cells6 hb).2.2.1, (cells6 hb).2.2.2.1⟩
  have HKP := Lib.hid KP
  have HB1 := Lib.hid hbx1
  obtain ⟨bp, bc, rfl, _⟩ := x5
  obtain ⟨kp, kc, rfl, _⟩ := x6
  clear hU hk ht hl hl2 x1 x2 x3 x4 x7 x8 KP hbx1
  go_enter Try.func11, Try.ntmps11
  go_wp2_with fail
  go_region_held3 (fun w' => w'.cell? ⟨w.heap.size, 1, none⟩ = some (.int .i64 n) ∧ w'.cell? ⟨w.heap.size, 2, none⟩ = some (.string nm) ∧ w'.cell? ⟨w.heap.size, 3, none⟩ = some (.string tn))
    (first | exact HKP.out _ HB1.out | exact HKP.out _ HB2.out | exact HKP.out _ HB3.out)
    (first
      | (go_at_call 24; refine (rename_c (TwF.below HT1.out (by first | exact Below.refl _ _ | exact (Below.refl _ _).drew | exact (Below.refl _ _).drew.drew | exact below_drewN (Below.refl _ _) _)).d nm tn HN.out.2.1 HN.out.2.2 HL.out.2).mono ?_; rintro e w2 ⟨rfl, ha⟩; obtain ⟨f2, hd2, hf2, hc2⟩ := ha; obtain ⟨foot2, ht2⟩ := TwF.stepD (TwF.below HT1.out (by first | exact Below.refl _ _ | exact (Below.refl _ _).drew | exact (Below.refl _ _).drew.drew | exact below_drewN (Below.refl _ _) _)) ⟨f2, hd2, hf2, hc2⟩; have HB2 := Lib.hid ((hc2.block w.heap.size (by simp) (fun hm => by have := HLT.out.1 _ hm; omega)).trans HB1.out); have HT2 := Lib.hid ht2; have hsz2 : w.heap.size < w2.heap.size := by have := hc2.size; simp at this; omega
         clear hd2 hf2 hc2 ht2)
      | (go_at_call 35; refine (rename_r (TwF.below HT2.out (by first | exact Below.refl _ _ | exact (Below.refl _ _).drew | exact (Below.refl _ _).drew.drew | exact below_drewN (Below.refl _ _) _)).r HL.out.1 nm HN.out.2.1 tn HN.out.2.2).mono ?_; rintro e w3 ⟨rfl, ha⟩; obtain ⟨m3, b3, hd3, hf3, hg3, hc3⟩ := ha; obtain ⟨mm3, bb3, ht3⟩ := TwF.stepR (TwF.below HT2.out (by first | exact Below.refl _ _ | exact (Below.refl _ _).drew | exact (Below.refl _ _).drew.drew | exact below_drewN (Below.refl _ _) _)) ⟨m3, b3, hd3, hf3, hg3, hc3⟩; have HB3 := Lib.hid ((hc3.block w.heap.size (by simpa using hsz2) (fun hm => by have := HLT.out.2.1 _ hm; omega)).trans HB2.out); have HT3 := Lib.hid ht3
         clear hd3 hf3 hg3 hc3 ht3)
      | fail "no arm")
  all_goals
    go_wp2_with fail
    go_ret
    exact ⟨rfl, _, _, _, HT3.out⟩

set_option maxRecDepth 100000 in
set_option maxHeartbeats 4000000 in
theorem do_trunc (x : SV) (hx : SVok w0 x) (hk : x.kind = 4) (h : Tw w0 w p q s s) (hl : s.fs.length ≤ 1000000) :
    Calls Try.prog 11 #[x.val, .pointer p, .pointer q] w fun e w' => e = .returned (.bool true) ∧ Tw w0 w' p q (x.act s) (x.act s) := by
  have HX := Lib.hid (show x.act s = (s.trunc x.nm.data.toList x.n).2 from by unfold SV.act; simp [hk])
  rw [HX.out]
  obtain ⟨op, n, nm, tn, bv, kv, b, ks⟩ := x
  obtain ⟨x1, x2, x3, x4, x5, x6, x7, x8⟩ := hx
  simp only at x1 x2 x3 x4 x5 x6 x7 x8
  obtain ⟨foot, m, bb, ht⟩ := h
  have HT1 := Lib.hid (ht.below (w' := w.alloc (.cells #[.int .i64 op, .int .i64 n, .string nm, .string tn, bv, kv] 34)) ((Below.refl _ _).alloc (Nat.le_refl _) _))
  have HLT := Lib.hid (And.intro ht.d.lt ht.r.lt)
  have hl2 : s.fs.length ≤ 1000000000 := by omega
  have HL := Lib.hid (And.intro hl hl2)
  have hbx1 := heap_alloc_new w (.cells #[.int .i64 op, .int .i64 n, .string nm, .string tn, bv, kv] 34)
  have HN := Lib.hid (And.intro x2 (And.intro x3 x4))
  unfold SV.val
  simp only
  obtain ⟨U, hU⟩ : ∃ U : Int, U = IntKind.u64.wrap op := ⟨_, rfl⟩
  have hk' : U % 9 = 4 := by rw [hU]; exact hk
  have hu0 : 0 ≤ U := by rw [hU]; simp [IntKind.wrap, IntKind.signed, IntKind.bits]; omega
  have hu1 : U ≤ 18446744073709551615 := by rw [hU]; simp [IntKind.wrap, IntKind.signed, IntKind.bits]; omega
  have hW : IntKind.u64.wrap op = U := hU.symm
  have KP : ∀ w' : World, w'.heap[w.heap.size]? = some (.cells #[.int .i64 op, .int .i64 n, .string nm, .string tn, bv, kv] 34 (0, 0)) → w'.cell? ⟨w.heap.size, 1, none⟩ = some (.int .i64 n) ∧ w'.cell? ⟨w.heap.size, 2, none⟩ = some (.string nm) ∧ w'.cell? ⟨w.heap.size, 3, none⟩ = some (.string tn) :=
    fun w' hb => ⟨(cells6 hb).2.1, (cells6 hb).2.2.1, (cells6 hb).2.2.2.1⟩
  have HKP := Lib.hid KP
  have HB1 := Lib.hid hbx1
  obtain ⟨bp, bc, rfl, _⟩ := x5
  obtain ⟨kp, kc, rfl, _⟩ := x6
  clear hU hk ht hl hl2 x1 x2 x3 x4 x7 x8 KP hbx1
  go_enter Try.func11, Try.ntmps11
  go_wp2_with fail
  go_region_held3 (fun w' => w'.cell? ⟨w.heap.size, 1, none⟩ = some (.int .i64 n) ∧ w'.cell? ⟨w.heap.size, 2, none⟩ = some (.string nm) ∧ w'.cell? ⟨w.heap.size, 3, none⟩ = some (.string tn))
    (first | exact HKP.out _ HB1.out | exact HKP.out _ HB2.out | exact HKP.out _ HB3.out)
    (first
      | (go_at_call 25; refine (trunc_c (TwF.below HT1.out (by first | exact Below.refl _ _ | exact (Below.refl _ _).drew | exact (Below.refl _ _).drew.drew | exact below_drewN (Below.refl _ _) _)).d nm HN.out.2.1 HL.out.2 n).mono ?_; rintro e w2 ⟨rfl, ha⟩; obtain ⟨f2, hd2, hf2, hc2⟩ := ha; obtain ⟨foot2, ht2⟩ := TwF.stepD (TwF.below HT1.out (by first | exact Below.refl _ _ | exact (Below.refl _ _).drew | exact (Below.refl _ _).drew.drew | exact below_drewN (Below.refl _ _) _)) ⟨f2, hd2, hf2, hc2⟩; have HB2 := Lib.hid ((hc2.block w.heap.size (by simp) (fun hm => by have := HLT.out.1 _ hm; omega)).trans HB1.out); have HT2 := Lib.hid ht2; have hsz2 : w.heap.size < w2.heap.size := by have := hc2.size; simp at this; omega
         clear hd2 hf2 hc2 ht2)
      | (go_at_call 36; refine (trunc_r (TwF.below HT2.out (by first | exact Below.refl _ _ | exact (Below.refl _ _).drew | exact (Below.refl _ _).drew.drew | exact below_drewN (Below.refl _ _) _)).r HL.out.1 nm HN.out.2.1 n HN.out.1).mono ?_; rintro e w3 ⟨rfl, ha⟩; obtain ⟨m3, b3, hd3, hf3, hg3, hc3⟩ := ha; obtain ⟨mm3, bb3, ht3⟩ := TwF.stepR (TwF.below HT2.out (by first | exact Below.refl _ _ | exact (Below.refl _ _).drew | exact (Below.refl _ _).drew.drew | exact below_drewN (Below.refl _ _) _)) ⟨m3, b3, hd3, hf3, hg3, hc3⟩; have HB3 := Lib.hid ((hc3.block w.heap.size (by simpa using hsz2) (fun hm => by have := HLT.out.2.1 _ hm; omega)).trans HB2.out); have HT3 := Lib.hid ht3
         clear hd3 hf3 hg3 hc3 ht3)
      | fail "no arm")
  all_goals
    go_wp2_with fail
    go_ret
    exact ⟨rfl, _, _, _, HT3.out⟩

set_option maxRecDepth 100000 in
set_option maxHeartbeats 4000000 in
theorem do_remove (x : SV) (hx : SVok w0 x) (hk : x.kind = 5) (h : Tw w0 w p q s s) (hl : s.fs.length ≤ 1000000) :
    Calls Try.prog 11 #[x.val, .pointer p, .pointer q] w fun e w' => e = .returned (.bool true) ∧ Tw w0 w' p q (x.act s) (x.act s) := by
  have HX := Lib.hid (show x.act s = (s.remove x.nm.data.toList).2 from by unfold SV.act; simp [hk])
  rw [HX.out]
  obtain ⟨op, n, nm, tn, bv, kv, b, ks⟩ := x
  obtain ⟨x1, x2, x3, x4, x5, x6, x7, x8⟩ := hx
  simp only at x1 x2 x3 x4 x5 x6 x7 x8
  obtain ⟨foot, m, bb, ht⟩ := h
  have HT1 := Lib.hid (ht.below (w' := w.alloc (.cells #[.int .i64 op, .int .i64 n, .string nm, .string tn, bv, kv] 34)) ((Below.refl _ _).alloc (Nat.le_refl _) _))
  have HLT := Lib.hid (And.intro ht.d.lt ht.r.lt)
  have hl2 : s.fs.length ≤ 1000000000 := by omega
  have HL := Lib.hid (And.intro hl hl2)
  have hbx1 := heap_alloc_new w (.cells #[.int .i64 op, .int .i64 n, .string nm, .string tn, bv, kv] 34)
  have HN := Lib.hid (And.intro x2 (And.intro x3 x4))
  unfold SV.val
  simp only
  obtain ⟨U, hU⟩ : ∃ U : Int, U = IntKind.u64.wrap op := ⟨_, rfl⟩
  have hk' : U % 9 = 5 := by rw [hU]; exact hk
  have hu0 : 0 ≤ U := by rw [hU]; simp [IntKind.wrap, IntKind.signed, IntKind.bits]; omega
  have hu1 : U ≤ 18446744073709551615 := by rw [hU]; simp [IntKind.wrap, IntKind.signed, IntKind.bits]; omega
  have hW : IntKind.u64.wrap op = U := hU.symm
  have KP : ∀ w' : World, w'.heap[w.heap.size]? = some (.cells #[.int .i64 op, .int .i64 n, .string nm, .string tn, bv, kv] 34 (0, 0)) → w'.cell? ⟨w.heap.size, 1, none⟩ = some (.int .i64 n) ∧ w'.cell? ⟨w.heap.size, 2, none⟩ = some (.string nm) ∧ w'.cell? ⟨w.heap.size, 3, none⟩ = some (.string tn) :=
    fun w' hb => ⟨(cells6 hb).2.1, (cells6 hb).2.2.1, (cells6 hb).2.2.2.1⟩
  have HKP := Lib.hid KP
  have HB1 := Lib.hid hbx1
  obtain ⟨bp, bc, rfl, _⟩ := x5
  obtain ⟨kp, kc, rfl, _⟩ := x6
  clear hU hk ht hl hl2 x1 x2 x3 x4 x7 x8 KP hbx1
  go_enter Try.func11, Try.ntmps11
  go_wp2_with fail
  go_region_held3 (fun w' => w'.cell? ⟨w.heap.size, 1, none⟩ = some (.int .i64 n) ∧ w'.cell? ⟨w.heap.size, 2, none⟩ = some (.string nm) ∧ w'.cell? ⟨w.heap.size, 3, none⟩ = some (.string tn))
    (first | exact HKP.out _ HB1.out | exact HKP.out _ HB2.out | exact HKP.out _ HB3.out)
    (first
      | (go_at_call 26; refine (remove_c (TwF.below HT1.out (by first | exact Below.refl _ _ | exact (Below.refl _ _).drew | exact (Below.refl _ _).drew.drew | exact below_drewN (Below.refl _ _) _)).d nm HN.out.2.1).mono ?_; rintro e w2 ⟨rfl, ha⟩; obtain ⟨f2, hd2, hf2, hc2⟩ := ha; obtain ⟨foot2, ht2⟩ := TwF.stepD (TwF.below HT1.out (by first | exact Below.refl _ _ | exact (Below.refl _ _).drew | exact (Below.refl _ _).drew.drew | exact below_drewN (Below.refl _ _) _)) ⟨f2, hd2, hf2, hc2⟩; have HB2 := Lib.hid ((hc2.block w.heap.size (by simp) (fun hm => by have := HLT.out.1 _ hm; omega)).trans HB1.out); have HT2 := Lib.hid ht2; have hsz2 : w.heap.size < w2.heap.size := by have := hc2.size; simp at this; omega
         clear hd2 hf2 hc2 ht2)
      | (go_at_call 37; refine (remove_r (TwF.below HT2.out (by first | exact Below.refl _ _ | exact (Below.refl _ _).drew | exact (Below.refl _ _).drew.drew | exact below_drewN (Below.refl _ _) _)).r HL.out.1 nm HN.out.2.1).mono ?_; rintro e w3 ⟨rfl, ha⟩; obtain ⟨m3, b3, hd3, hf3, hg3, hc3⟩ := ha; obtain ⟨mm3, bb3, ht3⟩ := TwF.stepR (TwF.below HT2.out (by first | exact Below.refl _ _ | exact (Below.refl _ _).drew | exact (Below.refl _ _).drew.drew | exact below_drewN (Below.refl _ _) _)) ⟨m3, b3, hd3, hf3, hg3, hc3⟩; have HB3 := Lib.hid ((hc3.block w.heap.size (by simpa using hsz2) (fun hm => by have := HLT.out.2.1 _ hm; omega)).trans HB2.out); have HT3 := Lib.hid ht3
         clear hd3 hf3 hg3 hc3 ht3)
      | fail "no arm")
  all_goals
    go_wp2_with fail
    go_ret
    exact ⟨rfl, _, _, _, HT3.out⟩

set_option maxRecDepth 100000 in
set_option maxHeartbeats 4000000 in
theorem do_fuse (x : SV) (hx : SVok w0 x) (hk : x.kind = 6) (h : Tw w0 w p q s s) (hl : s.fs.length ≤ 1000000) :
    Calls Try.prog 11 #[x.val, .pointer p, .pointer q] w fun e w' => e = .returned (.bool true) ∧ Tw w0 w' p q (x.act s) (x.act s) := by
  have HX := Lib.hid (show x.act s = (s.setFuse x.n).2 from by unfold SV.act; simp [hk])
  rw [HX.out]
  obtain ⟨op, n, nm, tn, bv, kv, b, ks⟩ := x
  obtain ⟨x1, x2, x3, x4, x5, x6, x7, x8⟩ := hx
  simp only at x1 x2 x3 x4 x5 x6 x7 x8
  obtain ⟨foot, m, bb, ht⟩ := h
  have HT1 := Lib.hid (ht.below (w' := w.alloc (.cells #[.int .i64 op, .int .i64 n, .string nm, .string tn, bv, kv] 34)) ((Below.refl _ _).alloc (Nat.le_refl _) _))
  have HLT := Lib.hid (And.intro ht.d.lt ht.r.lt)
  have hl2 : s.fs.length ≤ 1000000000 := by omega
  have HL := Lib.hid (And.intro hl hl2)
  have hbx1 := heap_alloc_new w (.cells #[.int .i64 op, .int .i64 n, .string nm, .string tn, bv, kv] 34)
  have HN := Lib.hid (And.intro x2 (And.intro x3 x4))
  unfold SV.val
  simp only
  obtain ⟨U, hU⟩ : ∃ U : Int, U = IntKind.u64.wrap op := ⟨_, rfl⟩
  have hk' : U % 9 = 6 := by rw [hU]; exact hk
  have hu0 : 0 ≤ U := by rw [hU]; simp [IntKind.wrap, IntKind.signed, IntKind.bits]; omega
  have hu1 : U ≤ 18446744073709551615 := by rw [hU]; simp [IntKind.wrap, IntKind.signed, IntKind.bits]; omega
  have hW : IntKind.u64.wrap op = U := hU.symm
  have KP : ∀ w' : World, w'.heap[w.heap.size]? = some (.cells #[.int .i64 op, .int .i64 n, .string nm, .string tn, bv, kv] 34 (0, 0)) → w'.cell? ⟨w.heap.size, 1, none⟩ = some (.int .i64 n) ∧ w'.cell? ⟨w.heap.size, 2, none⟩ = some (.string nm) ∧ w'.cell? ⟨w.heap.size, 3, none⟩ = some (.string tn) :=
    fun w' hb => ⟨(cells6 hb).2.1, (cells6 hb).2.2.1, (cells6 hb).2.2.2.1⟩
  have HKP := Lib.hid KP
  have HB1 := Lib.hid hbx1
  obtain ⟨bp, bc, rfl, _⟩ := x5
  obtain ⟨kp, kc, rfl, _⟩ := x6
  clear hU hk ht hl hl2 x1 x2 x3 x4 x7 x8 KP hbx1
  go_enter Try.func11, Try.ntmps11
  go_wp2_with fail
  go_region_held3 (fun w' => w'.cell? ⟨w.heap.size, 1, none⟩ = some (.int .i64 n) ∧ w'.cell? ⟨w.heap.size, 2, none⟩ = some (.string nm) ∧ w'.cell? ⟨w.heap.size, 3, none⟩ = some (.string tn))
    (first | exact HKP.out _ HB1.out | exact HKP.out _ HB2.out | exact HKP.out _ HB3.out)
    (first
      | (go_at_call 27; refine (fuse_c (TwF.below HT1.out (by first | exact Below.refl _ _ | exact (Below.refl _ _).drew | exact (Below.refl _ _).drew.drew | exact below_drewN (Below.refl _ _) _)).d n HN.out.1.2).mono ?_; rintro e w2 ⟨rfl, ha⟩; obtain ⟨f2, hd2, hf2, hc2⟩ := ha; obtain ⟨foot2, ht2⟩ := TwF.stepD (TwF.below HT1.out (by first | exact Below.refl _ _ | exact (Below.refl _ _).drew | exact (Below.refl _ _).drew.drew | exact below_drewN (Below.refl _ _) _)) ⟨f2, hd2, hf2, hc2⟩; have HB2 := Lib.hid ((hc2.block w.heap.size (by simp) (fun hm => by have := HLT.out.1 _ hm; omega)).trans HB1.out); have HT2 := Lib.hid ht2; have hsz2 : w.heap.size < w2.heap.size := by have := hc2.size; simp at this; omega
         clear hd2 hf2 hc2 ht2)
      | (go_at_call 38; refine (fuse_r2 (TwF.below HT2.out (by first | exact Below.refl _ _ | exact (Below.refl _ _).drew | exact (Below.refl _ _).drew.drew | exact below_drewN (Below.refl _ _) _)).r n HN.out.1).mono ?_; rintro e w3 ⟨rfl, ha⟩; obtain ⟨m3, b3, hd3, hf3, hg3, hc3⟩ := ha; obtain ⟨mm3, bb3, ht3⟩ := TwF.stepR (TwF.below HT2.out (by first | exact Below.refl _ _ | exact (Below.refl _ _).drew | exact (Below.refl _ _).drew.drew | exact below_drewN (Below.refl _ _) _)) ⟨m3, b3, hd3, hf3, hg3, hc3⟩; have HB3 := Lib.hid ((hc3.block w.heap.size (by simpa using hsz2) (fun hm => by have := HLT.out.2.1 _ hm; omega)).trans HB2.out); have HT3 := Lib.hid ht3
         clear hd3 hf3 hg3 hc3 ht3)
      | fail "no arm")
  all_goals
    go_wp2_with fail
    go_ret
    exact ⟨rfl, _, _, _, HT3.out⟩

set_option maxRecDepth 100000 in
set_option maxHeartbeats 4000000 in
theorem do_room (x : SV) (hx : SVok w0 x) (hk : x.kind = 8) (h : Tw w0 w p q s s) (hl : s.fs.length ≤ 1000000) :
    Calls Try.prog 11 #[x.val, .pointer p, .pointer q] w fun e w' => e = .returned (.bool true) ∧ Tw w0 w' p q (x.act s) (x.act s) := by
  have HX := Lib.hid (show x.act s = (s.setRoom x.n).2 from by unfold SV.act; simp [hk])
  rw [HX.out]
  obtain ⟨op, n, nm, tn, bv, kv, b, ks⟩ := x
  obtain ⟨x1, x2, x3, x4, x5, x6, x7, x8⟩ := hx
  simp only at x1 x2 x3 x4 x5 x6 x7 x8
  obtain ⟨foot, m, bb, ht⟩ := h
  have HT1 := Lib.hid (ht.below (w' := w.alloc (.cells #[.int .i64 op, .int .i64 n, .string nm, .string tn, bv, kv] 34)) ((Below.refl _ _).alloc (Nat.le_refl _) _))
  have HLT := Lib.hid (And.intro ht.d.lt ht.r.lt)
  have hl2 : s.fs.length ≤ 1000000000 := by omega
  have HL := Lib.hid (And.intro hl hl2)
  have hbx1 := heap_alloc_new w (.cells #[.int .i64 op, .int .i64 n, .string nm, .string tn, bv, kv] 34)
  have HN := Lib.hid (And.intro x2 (And.intro x3 x4))
  unfold SV.val
  simp only
  obtain ⟨U, hU⟩ : ∃ U : Int, U = IntKind.u64.wrap op := ⟨_, rfl⟩
  have hk' : U % 9 = 8 := by rw [hU]; exact hk
  have hu0 : 0 ≤ U := by rw [hU]; simp [IntKind.wrap, IntKind.signed, IntKind.bits]; omega
  have hu1 : U ≤ 18446744073709551615 := by rw [hU]; simp [IntKind.wrap, IntKind.signed, IntKind.bits]; omega
  have hW : IntKind.u64.wrap op = U := hU.symm
  have KP : ∀ w' : World, w'.heap[w.heap.size]? = some (.cells #[.int .i64 op, .int .i64 n, .string nm, .string tn, bv, kv] 34 (0, 0)) → w'.cell? ⟨w.heap.size, 1, none⟩ = some (.int .i64 n) ∧ w'.cell? ⟨w.heap.size, 2, none⟩ = some (.string nm) ∧ w'.cell? ⟨w.heap.size, 3, none⟩ = some (.string tn) :=
    fun w' hb => ⟨(cells6 hb).2.1, (cells6 hb).2.2.1, (cells6 hb).2.2.2.1⟩
  have HKP := Lib.hid KP
  have HB1 := Lib.hid hbx1
  obtain ⟨bp, bc, rfl, _⟩ := x5
  obtain ⟨kp, kc, rfl, _⟩ := x6
  clear hU hk ht hl hl2 x1 x2 x3 x4 x7 x8 KP hbx1
  go_enter Try.func11, Try.ntmps11
  go_wp2_with fail
  go_region_held3 (fun w' => w'.cell? ⟨w.heap.size, 1, none⟩ = some (.int .i64 n) ∧ w'.cell? ⟨w.heap.size, 2, none⟩ = some (.string nm) ∧ w'.cell? ⟨w.heap.size, 3, none⟩ = some (.string tn))
    (first | exact HKP.out _ HB1.out | exact HKP.out _ HB2.out | exact HKP.out _ HB3.out)
    (first
      | (go_at_call 28; refine (room_c (TwF.below HT1.out (by first | exact Below.refl _ _ | exact (Below.refl _ _).drew | exact (Below.refl _ _).drew.drew | exact below_drewN (Below.refl _ _) _)).d n).mono ?_; rintro e w2 ⟨rfl, ha⟩; obtain ⟨f2, hd2, hf2, hc2⟩ := ha; obtain ⟨foot2, ht2⟩ := TwF.stepD (TwF.below HT1.out (by first | exact Below.refl _ _ | exact (Below.refl _ _).drew | exact (Below.refl _ _).drew.drew | exact below_drewN (Below.refl _ _) _)) ⟨f2, hd2, hf2, hc2⟩; have HB2 := Lib.hid ((hc2.block w.heap.size (by simp) (fun hm => by have := HLT.out.1 _ hm; omega)).trans HB1.out); have HT2 := Lib.hid ht2; have hsz2 : w.heap.size < w2.heap.size := by have := hc2.size; simp at this; omega
         clear hd2 hf2 hc2 ht2)
      | (go_at_call 40; refine (room_r2 (TwF.below HT2.out (by first | exact Below.refl _ _ | exact (Below.refl _ _).drew | exact (Below.refl _ _).drew.drew | exact below_drewN (Below.refl _ _) _)).r n HN.out.1).mono ?_; rintro e w3 ⟨rfl, ha⟩; obtain ⟨m3, b3, hd3, hf3, hg3, hc3⟩ := ha; obtain ⟨mm3, bb3, ht3⟩ := TwF.stepR (TwF.below HT2.out (by first | exact Below.refl _ _ | exact (Below.refl _ _).drew | exact (Below.refl _ _).drew.drew | exact below_drewN (Below.refl _ _) _)) ⟨m3, b3, hd3, hf3, hg3, hc3⟩; have HB3 := Lib.hid ((hc3.block w.heap.size (by simpa using hsz2) (fun hm => by have := HLT.out.2.1 _ hm; omega)).trans HB2.out); have HT3 := Lib.hid ht3
         clear hd3 hf3 hg3 hc3 ht3)
      | fail "no arm")
  all_goals
    go_wp2_with fail
    go_ret
    exact ⟨rfl, _, _, _, HT3.out⟩
end
end Go.Proofs.Ytcpldjaoacihlaa
