/- The reference's parser: parts. Written by tools/genrq.py. -/
import Derived.Test.YtikofngogkchfaaDoorFya
import Derived.Test.YtikofngogkchfaaDoorEr
import Derived.Test.YtikofngogkchfaaDoorEvb
import Derived.Test.YtikofngogkchfaaDoorEpb
import Derived.Test.YtikofngogkchfaaDoorCut
namespace Go.Proofs.YtikofngogkchfaaDoor
open Go.RowKit
set_option linter.unusedVariables false
set_option linter.unusedSimpArgs false

/-- How a method that hands over a tree ends. -/
def AftR (w : World) (qb wg : Nat) (q : Nd × RSt) (e : Ending) (w' : World) : Prop := ∃ v, e = .returned v ∧ TreeV w.heap.size q.1 w' v ∧ RS w' qb wg q.2 ∧ Chg [qb] w w'
def RecR (qb wg : Nat) (N : Nat) (rec : RSt → Nd × RSt) : Prop := ∀ w' s', RS w' qb wg s' → s'.ws.length < N → Calls Tryd.prog 19 #[.pointer (some ⟨qb, 0, none⟩), .int .i64 1] w' (AftR w' qb wg (rec s'))
/-- The reference's state and the world while a method runs: since the world behind its first box. -/
structure RRun (w0 : World) (qb wg : Nat) (s : RSt) (w : World) : Prop where
  rs : RS w qb wg s
  chg : Chg [qb] w0 w
theorem RS.box {w : World} {qb wg : Nat} {s : RSt} (h : RS w qb wg s) (o : Obj) : RS (w.alloc o) qb wg s := h.below (box_bel' w o)
theorem RRun.box {w0 w : World} {qb wg : Nat} {s : RSt} (h : RRun w0 qb wg s w) (o : Obj) : RRun w0 qb wg s (w.alloc o) := ⟨h.rs.box o, h.chg.alloc' o⟩
theorem RRun.next {w0 w w' : World} {qb wg : Nat} {s s' : RSt} (h : RRun w0 qb wg s w) (hp : RS w' qb wg s') (hc : Chg [qb] w w') : RRun w0 qb wg s' w' := ⟨hp, h.chg.trans hc⟩
theorem RRun.below {w0 w w' : World} {qb wg : Nat} {s : RSt} (h : RRun w0 qb wg s w) (hb : Below w.heap.size w w') : RRun w0 qb wg s w' := ⟨h.rs.below hb, h.chg.trans (Chg.of_below hb)⟩
theorem RRun.start {w : World} {qb wg : Nat} {s : RSt} (h : RS w qb wg s) (o : Obj) : RRun (w.alloc o) qb wg s (w.alloc o) := ⟨h.box o, Chg.refl _ _⟩
theorem RRun.first {w w' : World} {qb wg : Nat} {s : RSt} {o : Obj} (h : RRun (w.alloc o) qb wg s w') (hp : qb < w.heap.size) : w'.heap[w.heap.size]? = some o := by
  rw [h.chg.block w.heap.size (by simp) (by simp; omega)]
  exact heap_alloc_new w o
theorem RRun.whole {w w' : World} {qb wg : Nat} {s : RSt} {o : Obj} (h : RRun (w.alloc o) qb wg s w') : Chg [qb] w w' := (Chg.alloc [qb] w o).trans h.chg
theorem RS.far {s0 : RSt} {v w w' : World} {qb wg b : Nat} {s : RSt} (h : RS w qb wg s) (hp : RS v qb wg s0) (hv : v.heap.size ≤ b) (hq : Chg [b] w w') : RS w' qb wg s := by
  have hpl := hp.lt
  have hl := h.lt
  have far := fun g (hg : g < v.heap.size) (hw : g < w.heap.size) => hq.block g hw (by simp; omega)
  obtain ⟨off, cap, h1, h2, h3, h4⟩ := h.lies
  exact ⟨h.ok, h.len, ⟨off, cap, (far _ hpl.2 hl.2).trans h1, h2, h3, h4.keep (far _ hpl.1 hl.1)⟩, h.ne, by have := hq.size; omega⟩
/-- The first box is written at the end, cell for cell. -/
theorem RRun.put' {s0 : RSt} {w w' w'' : World} {qb wg : Nat} {s : RSt} {o : Obj} (h : RRun (w.alloc o) qb wg s w') (hp : RS w qb wg s0) (hq : Chg [w.heap.size] w' w'') : RS w'' qb wg s ∧ Chg [qb] w w'' :=
  ⟨h.rs.far hp (Nat.le_refl _) hq, h.whole.then hq (fun i hi => .inr (by simp at hi; omega))⟩
/-- A later box is written. -/
theorem RRun.poke {s0 : RSt} {v w0 w1 w' : World} {qb wg b : Nat} {s : RSt} (h : RRun w0 qb wg s w1) (hp : RS v qb wg s0) (hv : v.heap.size ≤ w0.heap.size) (hb : w0.heap.size ≤ b) (hq : Chg [b] w1 w') : RRun w0 qb wg s w' :=
  ⟨h.rs.far hp (by omega) hq, h.chg.then hq (fun i hi => .inr (by simp at hi; omega))⟩
theorem RRun.step {w0 w : World} {qb wg : Nat} {bad : Bool} {x : Wd} {r : List Wd} (h : RRun w0 qb wg ⟨bad, x :: r⟩ w) (ho : Oks r) {off cap : Nat} (hc : w.cell? ⟨qb, 0, none⟩ = some (.slice (some ⟨wg, off, none⟩) (r.length + 1) cap)) :
    RRun w0 qb wg ⟨bad, r⟩ (w.setCell ⟨qb, 0, none⟩ (.slice (some ⟨wg, off + 3, none⟩) r.length (cap - 1))) :=
  ⟨(h.rs.step ho hc).1, h.chg.trans (h.rs.step ho hc).2⟩

theorem RRun.first1 {w w' : World} {qb wg : Nat} {s : RSt} {o : Obj} {A : Addr} {u : Value} (h : RRun ((w.setCell A u).alloc o) qb wg s w') (hp : qb < w.heap.size) : w'.heap[w.heap.size]? = some o := by
  have := h.first (by rw [World.size_setCell]; exact hp)
  rwa [World.size_setCell] at this
theorem RRun.put1 {s0 : RSt} {w w' w'' : World} {qb wg : Nat} {s : RSt} {o : Obj} {u : Value} (h : RRun ((w.setCell ⟨qb, 0, none⟩ u).alloc o) qb wg s w') (hp : RS w qb wg s0) (hq : Chg [w.heap.size] w' w'') : RS w'' qb wg s ∧ Chg [qb] w w'' :=
  ⟨h.rs.far hp (Nat.le_refl _) hq, (((Chg.refl [qb] w).set' _ _ _ (.inl (by simp))).trans h.whole).then hq (fun i hi => .inr (by simp at hi; omega))⟩

theorem rvint_c (w : World) (x : Int) : Calls Tryd.prog 66 #[.int .i64 x] w fun e w' => e = .returned (.agg #[.int .i64 1, .int .i64 x, .bool false, .string ⟨#[]⟩]) ∧ Below w.heap.size w w' := by
  go_enter Tryd.func66, Tryd.ntmps66
  go_wp2_with fail
  refine bodyPost_ret (v := .agg #[.int .i64 1, .int .i64 x, .bool false, .string ⟨#[]⟩]) (by simp [results, Tryd.results66, go_sem]) rfl ?_
  exact ⟨rfl, box_bel' _ _⟩
theorem rvbool_c (w : World) (x : Bool) : Calls Tryd.prog 68 #[.bool x] w fun e w' => e = .returned (.agg #[.int .i64 2, .int .i64 0, .bool x, .string ⟨#[]⟩]) ∧ Below w.heap.size w w' := by
  go_enter Tryd.func68, Tryd.ntmps68
  go_wp2_with fail
  refine bodyPost_ret (v := .agg #[.int .i64 2, .int .i64 0, .bool x, .string ⟨#[]⟩]) (by simp [results, Tryd.results68, go_sem]) rfl ?_
  exact ⟨rfl, box_bel' _ _⟩
theorem rvtext_c (w : World) (x : ByteArray) : Calls Tryd.prog 67 #[.string x] w fun e w' => e = .returned (.agg #[.int .i64 3, .int .i64 0, .bool false, .string x]) ∧ Below w.heap.size w w' := by
  go_enter Tryd.func67, Tryd.ntmps67
  go_wp2_with fail
  refine bodyPost_ret (v := .agg #[.int .i64 3, .int .i64 0, .bool false, .string x]) (by simp [results, Tryd.results67, go_sem]) rfl ?_
  exact ⟨rfl, box_bel' _ _⟩

theorem mk_true : MarkOk (⟨#[116, 114, 117, 101]⟩ : ByteArray).data.toList := ⟨_, _, rfl, .inl rfl⟩
theorem mk_false : MarkOk (⟨#[102, 97, 108, 115, 101]⟩ : ByteArray).data.toList := ⟨_, _, rfl, .inl rfl⟩
theorem mk_open : MarkOk (⟨#[40]⟩ : ByteArray).data.toList := ⟨_, _, rfl, .inr rfl⟩
theorem mk_count : MarkOk (⟨#[99, 111, 117, 110, 116]⟩ : ByteArray).data.toList := ⟨_, _, rfl, .inl rfl⟩
theorem mk_number : MarkOk (⟨#[110, 117, 109, 98, 101, 114]⟩ : ByteArray).data.toList := ⟨_, _, rfl, .inl rfl⟩
theorem mk_close : MarkOk (⟨#[41]⟩ : ByteArray).data.toList := ⟨_, _, rfl, .inr rfl⟩
theorem mk_comma : MarkOk (⟨#[44]⟩ : ByteArray).data.toList := ⟨_, _, rfl, .inr rfl⟩

set_option maxRecDepth 100000 in
set_option maxHeartbeats 800000 in
theorem rpart_int {w : World} {qb wg : Nat} {s : RSt} (rec : RSt → Nd × RSt) (hrec : RecR qb wg s.ws.length rec) (h : RS w qb wg s)
    (hk : (nextW s.ws).k = 2) :
    Calls Tryd.prog 47 #[.pointer (some ⟨qb, 0, none⟩)] w (AftR w qb wg (rPart rec s)) := by
  obtain ⟨x, r, off, cap, hr, hx, c1, c2, h1, h2, hz, n1, n2, n3⟩ := h.first
  have hlt0 : (0 : Int) < (r.length : Int) + 1 := by omega
  have hpl := h.lt.2
  have hwl := h.lt.1
  have hnx : nextW s.ws = x := by rw [hr]; rfl
  obtain ⟨k, hkk⟩ : ∃ k, k = x.k := ⟨_, rfl⟩
  rw [← hkk] at n1
  obtain ⟨X, hX⟩ : ∃ X : ByteArray, X = ⟨x.t.toArray⟩ := ⟨_, rfl⟩
  rw [← hX] at n2
  have HX := Lib.hid hX
  have HP := Lib.hid h
  have HS0 := Lib.hid (fun o o2 => (RRun.start h o).box o2)
  rw [hnx] at hk
  have HM := Lib.hid (show rPart rec s = (tLit 1 x.n false [], s.tl) from by unfold rPart; rw [hnx, if_pos hk])
  have hok := hx.resolve_left (fun q => by rw [q.1] at hk; simp [noW] at hk)
  have HTL := Lib.hid (show s.tl = ⟨s.bad, r⟩ from by unfold RSt.tl; rw [hr]; rfl)
  have hs2 : RS w qb wg ⟨s.bad, x :: r⟩ := by rw [← hr]; exact h
  have HSR := Lib.hid (fun o o2 => (RRun.start (hs2.step hok.2 c1).1 o).box o2)
  have hp := hok.2.ne
  have hlt : 1 < cap := by omega
  have hlt' : 1 ≠ cap := by omega
  have hsl : (1 : Int) ≤ (r.length : Int) + 1 := by omega
  rw [← hkk] at hk
  have tk : (k == 2) = true := by rw [hk]; rfl
  clear h hr hx hnx hkk hok hrec hk h2 hX hs2
  go_enter Tryd.func47, Tryd.ntmps47
  go_wp2_with (go_at_call 66; refine (rvint_c _ _).mono ?_; rintro e wv ⟨rfl, hb⟩; have HF := Lib.hid ((HSR.out _ _).below hb); clear hb; obtain ⟨z0, z1, z2, z3, z4, z5, z6, z7, zz⟩ := cellsN (HF.out.first1 HP.out.lt.2))
  refine bodyPost_ret (results_cell_row Tryd.results47 _ _ w.heap.size 26 _ (0, 0) _ rfl (putN_at (HF.out.first1 HP.out.lt.2) _ _ _ _ _ _ _ _) Tryd.underlying26 rfl infoN8) rfl ?_
  rw [HM.out, HTL.out]
  exact ⟨_, rfl, ⟨.slice none 0 0, rfl, rfl⟩, HF.out.put1 HP.out (putN_chg _ _ _ _ _ _ _ _ _ _)⟩

set_option maxRecDepth 100000 in
set_option maxHeartbeats 800000 in
theorem rpart_text {w : World} {qb wg : Nat} {s : RSt} (rec : RSt → Nd × RSt) (hrec : RecR qb wg s.ws.length rec) (h : RS w qb wg s)
    (hk : (nextW s.ws).k = 3) :
    Calls Tryd.prog 47 #[.pointer (some ⟨qb, 0, none⟩)] w (AftR w qb wg (rPart rec s)) := by
  obtain ⟨x, r, off, cap, hr, hx, c1, c2, h1, h2, hz, n1, n2, n3⟩ := h.first
  have hlt0 : (0 : Int) < (r.length : Int) + 1 := by omega
  have hpl := h.lt.2
  have hwl := h.lt.1
  have hnx : nextW s.ws = x := by rw [hr]; rfl
  obtain ⟨k, hkk⟩ : ∃ k, k = x.k := ⟨_, rfl⟩
  rw [← hkk] at n1
  obtain ⟨X, hX⟩ : ∃ X : ByteArray, X = ⟨x.t.toArray⟩ := ⟨_, rfl⟩
  rw [← hX] at n2
  have HX := Lib.hid hX
  have HP := Lib.hid h
  have HS0 := Lib.hid (fun o o2 => (RRun.start h o).box o2)
  rw [hnx] at hk
  have HM := Lib.hid (show rPart rec s = (tLit 3 0 false x.t, s.tl) from by unfold rPart; rw [hnx, if_neg (by rw [hk]; decide), if_pos hk])
  have hok := hx.resolve_left (fun q => by rw [q.1] at hk; simp [noW] at hk)
  have HTL := Lib.hid (show s.tl = ⟨s.bad, r⟩ from by unfold RSt.tl; rw [hr]; rfl)
  have hs2 : RS w qb wg ⟨s.bad, x :: r⟩ := by rw [← hr]; exact h
  have HSR := Lib.hid (fun o o2 => (RRun.start (hs2.step hok.2 c1).1 o).box o2)
  have hp := hok.2.ne
  have hlt : 1 < cap := by omega
  have hlt' : 1 ≠ cap := by omega
  have hsl : (1 : Int) ≤ (r.length : Int) + 1 := by omega
  rw [← hkk] at hk
  have tk0 : (k == 2) = false := by rw [hk]; rfl
  have tk : (k == 3) = true := by rw [hk]; rfl
  clear h hr hx hnx hkk hok hrec hk h2 hX hs2
  go_enter Tryd.func47, Tryd.ntmps47
  go_wp2_with (go_at_call 67; refine (rvtext_c _ _).mono ?_; rintro e wv ⟨rfl, hb⟩; have HF := Lib.hid ((HSR.out _ _).below hb); clear hb; obtain ⟨z0, z1, z2, z3, z4, z5, z6, z7, zz⟩ := cellsN (HF.out.first1 HP.out.lt.2))
  refine bodyPost_ret (results_cell_row Tryd.results47 _ _ w.heap.size 26 _ (0, 0) _ rfl (putN_at (HF.out.first1 HP.out.lt.2) _ _ _ _ _ _ _ _) Tryd.underlying26 rfl infoN8) rfl ?_
  rw [HM.out, HTL.out]
  exact ⟨_, rfl, ⟨.slice none 0 0, by rw [HX.out]; rfl, rfl⟩, HF.out.put1 HP.out (putN_chg _ _ _ _ _ _ _ _ _ _)⟩

set_option maxRecDepth 100000 in
set_option maxHeartbeats 800000 in
theorem rpart_true {w : World} {qb wg : Nat} {s : RSt} (rec : RSt → Nd × RSt) (hrec : RecR qb wg s.ws.length rec) (h : RS w qb wg s)
    (hk2 : (nextW s.ws).k ≠ 2) (hk3 : (nextW s.ws).k ≠ 3) (b0 : isB [116, 114, 117, 101] (nextW s.ws) = true) :
    Calls Tryd.prog 47 #[.pointer (some ⟨qb, 0, none⟩)] w (AftR w qb wg (rPart rec s)) := by
  obtain ⟨x, r, off, cap, hr, hx, c1, c2, h1, h2, hz, n1, n2, n3⟩ := h.first
  have hlt0 : (0 : Int) < (r.length : Int) + 1 := by omega
  have hpl := h.lt.2
  have hwl := h.lt.1
  have hnx : nextW s.ws = x := by rw [hr]; rfl
  obtain ⟨k, hkk⟩ : ∃ k, k = x.k := ⟨_, rfl⟩
  rw [← hkk] at n1
  obtain ⟨X, hX⟩ : ∃ X : ByteArray, X = ⟨x.t.toArray⟩ := ⟨_, rfl⟩
  rw [← hX] at n2
  have HX := Lib.hid hX
  have HP := Lib.hid h
  have HS0 := Lib.hid (fun o o2 => (RRun.start h o).box o2)
  have tk0 : (k == 2) = false := by rw [hkk, ← hnx]; simpa using hk2
  have tk : (k == 3) = false := by rw [hkk, ← hnx]; simpa using hk3
  have HM := Lib.hid (show rPart rec s = (tLit 2 0 true [], s.tl) from by unfold rPart; rw [if_neg hk2, if_neg hk3, if_pos b0])
  have t0 := fun (w' : World) (h : RS w' qb wg s) => rtake_c h ⟨#[116, 114, 117, 101]⟩ mk_true
  rw [show isB (⟨#[116, 114, 117, 101]⟩ : ByteArray).data.toList (nextW s.ws) = true from b0] at t0
  simp only [Bool.false_eq_true, if_true, if_false] at t0
  have T0 := Lib.hid t0
  have HLT := Lib.hid (show s.tl.ws.length < s.ws.length from (tail_lft (by simp) b0).1)
  clear h hr hx hnx hkk hk2 hk3 h2 hX b0 t0 hrec
  go_enter Tryd.func47, Tryd.ntmps47
  go_wp2_with (first
    | (go_at_call 68; refine (rvbool_c _ _).mono ?_; rintro e wv ⟨rfl, hb⟩; have HF := Lib.hid (HS1.out.below hb); clear hb; obtain ⟨z0, z1, z2, z3, z4, z5, z6, z7, zz⟩ := cellsN (HF.out.first HP.out.lt.2))
    | (go_at_call 29; with_reducible refine (T0.out _ (HS0.out _ _).rs).mono ?_; rintro e w1 ⟨rfl, hs, hc⟩; have HS1 := Lib.hid ((HS0.out _ _).next hs hc); clear hs hc HS0))
  refine bodyPost_ret (results_cell_row Tryd.results47 _ _ w.heap.size 26 _ (0, 0) _ rfl (putN_at (HF.out.first HP.out.lt.2) _ _ _ _ _ _ _ _) Tryd.underlying26 rfl infoN8) rfl ?_
  rw [HM.out]
  exact ⟨_, rfl, ⟨.slice none 0 0, rfl, rfl⟩, HF.out.put' HP.out (putN_chg _ _ _ _ _ _ _ _ _ _)⟩

set_option maxRecDepth 100000 in
set_option maxHeartbeats 800000 in
theorem rpart_false {w : World} {qb wg : Nat} {s : RSt} (rec : RSt → Nd × RSt) (hrec : RecR qb wg s.ws.length rec) (h : RS w qb wg s)
    (hk2 : (nextW s.ws).k ≠ 2) (hk3 : (nextW s.ws).k ≠ 3) (b0 : isB [116, 114, 117, 101] (nextW s.ws) = false) (b1 : isB [102, 97, 108, 115, 101] (nextW s.ws) = true) :
    Calls Tryd.prog 47 #[.pointer (some ⟨qb, 0, none⟩)] w (AftR w qb wg (rPart rec s)) := by
  obtain ⟨x, r, off, cap, hr, hx, c1, c2, h1, h2, hz, n1, n2, n3⟩ := h.first
  have hlt0 : (0 : Int) < (r.length : Int) + 1 := by omega
  have hpl := h.lt.2
  have hwl := h.lt.1
  have hnx : nextW s.ws = x := by rw [hr]; rfl
  obtain ⟨k, hkk⟩ : ∃ k, k = x.k := ⟨_, rfl⟩
  rw [← hkk] at n1
  obtain ⟨X, hX⟩ : ∃ X : ByteArray, X = ⟨x.t.toArray⟩ := ⟨_, rfl⟩
  rw [← hX] at n2
  have HX := Lib.hid hX
  have HP := Lib.hid h
  have HS0 := Lib.hid (fun o o2 => (RRun.start h o).box o2)
  have tk0 : (k == 2) = false := by rw [hkk, ← hnx]; simpa using hk2
  have tk : (k == 3) = false := by rw [hkk, ← hnx]; simpa using hk3
  have HM := Lib.hid (show rPart rec s = (tLit 2 0 false [], s.tl) from by unfold rPart; rw [if_neg hk2, if_neg hk3, if_neg (by rw [b0]; simp), if_pos b1])
  have t0 := fun (w' : World) (h : RS w' qb wg s) => rtake_c h ⟨#[116, 114, 117, 101]⟩ mk_true
  rw [show isB (⟨#[116, 114, 117, 101]⟩ : ByteArray).data.toList (nextW s.ws) = false from b0] at t0
  simp only [Bool.false_eq_true, if_true, if_false] at t0
  have T0 := Lib.hid t0
  have t1 := fun (w' : World) (h : RS w' qb wg s) => rtake_c h ⟨#[102, 97, 108, 115, 101]⟩ mk_false
  rw [show isB (⟨#[102, 97, 108, 115, 101]⟩ : ByteArray).data.toList (nextW s.ws) = true from b1] at t1
  simp only [Bool.false_eq_true, if_true, if_false] at t1
  have T1 := Lib.hid t1
  have HLT := Lib.hid (show s.tl.ws.length < s.ws.length from (tail_lft (by simp) b1).1)
  clear h hr hx hnx hkk hk2 hk3 h2 hX b0 t0 b1 t1 hrec
  go_enter Tryd.func47, Tryd.ntmps47
  go_wp2_with (first
    | (go_at_call 68; refine (rvbool_c _ _).mono ?_; rintro e wv ⟨rfl, hb⟩; have HF := Lib.hid (HS2.out.below hb); clear hb; obtain ⟨z0, z1, z2, z3, z4, z5, z6, z7, zz⟩ := cellsN (HF.out.first HP.out.lt.2))
    | (go_at_call 29; with_reducible refine (T1.out _ HS1.out.rs).mono ?_; rintro e w2 ⟨rfl, hs, hc⟩; have HS2 := Lib.hid (HS1.out.next hs hc); clear hs hc HS1)
    | (go_at_call 29; with_reducible refine (T0.out _ (HS0.out _ _).rs).mono ?_; rintro e w1 ⟨rfl, hs, hc⟩; have HS1 := Lib.hid ((HS0.out _ _).next hs hc); clear hs hc HS0))
  refine bodyPost_ret (results_cell_row Tryd.results47 _ _ w.heap.size 26 _ (0, 0) _ rfl (putN_at (HF.out.first HP.out.lt.2) _ _ _ _ _ _ _ _) Tryd.underlying26 rfl infoN8) rfl ?_
  rw [HM.out]
  exact ⟨_, rfl, ⟨.slice none 0 0, rfl, rfl⟩, HF.out.put' HP.out (putN_chg _ _ _ _ _ _ _ _ _ _)⟩

set_option maxRecDepth 100000 in
set_option maxHeartbeats 800000 in
theorem rpart_paren {w : World} {qb wg : Nat} {s : RSt} (rec : RSt → Nd × RSt) (hrec : RecR qb wg s.ws.length rec) (h : RS w qb wg s)
    (hk2 : (nextW s.ws).k ≠ 2) (hk3 : (nextW s.ws).k ≠ 3) (b0 : isB [116, 114, 117, 101] (nextW s.ws) = false) (b1 : isB [102, 97, 108, 115, 101] (nextW s.ws) = false) (b2 : isB [40] (nextW s.ws) = true) :
    Calls Tryd.prog 47 #[.pointer (some ⟨qb, 0, none⟩)] w (AftR w qb wg (rPart rec s)) := by
  obtain ⟨x, r, off, cap, hr, hx, c1, c2, h1, h2, hz, n1, n2, n3⟩ := h.first
  have hlt0 : (0 : Int) < (r.length : Int) + 1 := by omega
  have hpl := h.lt.2
  have hwl := h.lt.1
  have hnx : nextW s.ws = x := by rw [hr]; rfl
  obtain ⟨k, hkk⟩ : ∃ k, k = x.k := ⟨_, rfl⟩
  rw [← hkk] at n1
  obtain ⟨X, hX⟩ : ∃ X : ByteArray, X = ⟨x.t.toArray⟩ := ⟨_, rfl⟩
  rw [← hX] at n2
  have HX := Lib.hid hX
  have HP := Lib.hid h
  have HS0 := Lib.hid (fun o o2 => (RRun.start h o).box o2)
  have tk0 : (k == 2) = false := by rw [hkk, ← hnx]; simpa using hk2
  have tk : (k == 3) = false := by rw [hkk, ← hnx]; simpa using hk3
  have HM := Lib.hid (show rPart rec s = ((rec s.tl).1, rNeed [41] (rec s.tl).2) from by unfold rPart; rw [if_neg hk2, if_neg hk3, if_neg (by rw [b0]; simp), if_neg (by rw [b1]; simp), if_pos b2])
  have t0 := fun (w' : World) (h : RS w' qb wg s) => rtake_c h ⟨#[116, 114, 117, 101]⟩ mk_true
  rw [show isB (⟨#[116, 114, 117, 101]⟩ : ByteArray).data.toList (nextW s.ws) = false from b0] at t0
  simp only [Bool.false_eq_true, if_true, if_false] at t0
  have T0 := Lib.hid t0
  have t1 := fun (w' : World) (h : RS w' qb wg s) => rtake_c h ⟨#[102, 97, 108, 115, 101]⟩ mk_false
  rw [show isB (⟨#[102, 97, 108, 115, 101]⟩ : ByteArray).data.toList (nextW s.ws) = false from b1] at t1
  simp only [Bool.false_eq_true, if_true, if_false] at t1
  have T1 := Lib.hid t1
  have t2 := fun (w' : World) (h : RS w' qb wg s) => rtake_c h ⟨#[40]⟩ mk_open
  rw [show isB (⟨#[40]⟩ : ByteArray).data.toList (nextW s.ws) = true from b2] at t2
  simp only [Bool.false_eq_true, if_true, if_false] at t2
  have T2 := Lib.hid t2
  have HLT := Lib.hid (show s.tl.ws.length < s.ws.length from (tail_lft (by simp) b2).1)
  have HREC := Lib.hid hrec
  clear h hr hx hnx hkk hk2 hk3 h2 hX b0 t0 b1 t1 b2 t2 hrec
  go_enter Tryd.func47, Tryd.ntmps47
  go_wp2_with (first
    | (go_at_call 69; refine (rneed_c (HS4.out.box _).rs ⟨#[41]⟩ mk_close).mono ?_; rintro e w5 ⟨rfl, hs, hc⟩; have HF := Lib.hid ((HS4.out.box _).next hs hc); have HKC := Lib.hid (fun (a : Nat) (ha : qb < a) => fun (h : KidsAt w4 (fun g => a ≤ g) (rec s.tl).1 (.slice p m m)) => ((h.below (box_bel' w4 _)).far hc ha)); obtain ⟨n0, n1, n2, n3, n4, n5, n6, n7, nz⟩ := cellsN (Chg.box hc HS4.out.rs.lt.2); obtain ⟨z0, z1, z2, z3, z4, z5, z6, z7, zz⟩ := cellsN (HF.out.first HP.out.lt.2); clear hs hc nz)
    | (go_at_call 19; refine (HREC.out _ _ HS3.out.rs HLT.out).mono ?_; rintro e w4 ⟨v, rfl, hv, hs, hc⟩; obtain ⟨op, vk, vi, vb, vt, t, i, p, m, rfl, hvv, hk⟩ := TreeV.parts hv; have HK := Lib.hid (And.intro hvv hk); have HS4 := Lib.hid (HS3.out.next hs hc); have HSZ := Lib.hid HS3.out.chg.size; clear hs hc hvv hk hv HS3)
    | (go_at_call 29; with_reducible refine (T2.out _ HS2.out.rs).mono ?_; rintro e w3 ⟨rfl, hs, hc⟩; have HS3 := Lib.hid (HS2.out.next hs hc); clear hs hc HS2)
    | (go_at_call 29; with_reducible refine (T1.out _ HS1.out.rs).mono ?_; rintro e w2 ⟨rfl, hs, hc⟩; have HS2 := Lib.hid (HS1.out.next hs hc); clear hs hc HS1)
    | (go_at_call 29; with_reducible refine (T0.out _ (HS0.out _ _).rs).mono ?_; rintro e w1 ⟨rfl, hs, hc⟩; have HS1 := Lib.hid ((HS0.out _ _).next hs hc); clear hs hc HS0))
  refine bodyPost_ret (results_cell_row Tryd.results47 _ _ w.heap.size 26 _ (0, 0) _ rfl (putN_at (HF.out.first HP.out.lt.2) _ _ _ _ _ _ _ _) Tryd.underlying26 rfl infoN8) rfl ?_
  rw [HM.out]
  have hsz := HSZ.out
  simp only [World.size_alloc] at hsz
  have hpl' := HP.out.lt.2
  exact ⟨_, rfl, ⟨_, HK.out.1.symm, ((HKC.out _ (by omega) HK.out.2).far (putN_chg _ _ _ _ _ _ _ _ _ _) (by omega)).up (by omega)⟩, HF.out.put' HP.out (putN_chg _ _ _ _ _ _ _ _ _ _)⟩

set_option maxRecDepth 100000 in
set_option maxHeartbeats 800000 in
theorem rpart_count {w : World} {qb wg : Nat} {s : RSt} (rec : RSt → Nd × RSt) (hrec : RecR qb wg s.ws.length rec) (h : RS w qb wg s)
    (hk2 : (nextW s.ws).k ≠ 2) (hk3 : (nextW s.ws).k ≠ 3) (b0 : isB [116, 114, 117, 101] (nextW s.ws) = false) (b1 : isB [102, 97, 108, 115, 101] (nextW s.ws) = false) (b2 : isB [40] (nextW s.ws) = false) (b3 : isB [99, 111, 117, 110, 116] (nextW s.ws) = true) :
    Calls Tryd.prog 47 #[.pointer (some ⟨qb, 0, none⟩)] w (AftR w qb wg (rPart rec s)) := by
  obtain ⟨x, r, off, cap, hr, hx, c1, c2, h1, h2, hz, n1, n2, n3⟩ := h.first
  have hlt0 : (0 : Int) < (r.length : Int) + 1 := by omega
  have hpl := h.lt.2
  have hwl := h.lt.1
  have hnx : nextW s.ws = x := by rw [hr]; rfl
  obtain ⟨k, hkk⟩ : ∃ k, k = x.k := ⟨_, rfl⟩
  rw [← hkk] at n1
  obtain ⟨X, hX⟩ : ∃ X : ByteArray, X = ⟨x.t.toArray⟩ := ⟨_, rfl⟩
  rw [← hX] at n2
  have HX := Lib.hid hX
  have HP := Lib.hid h
  have HS0 := Lib.hid (fun o o2 => (RRun.start h o).box o2)
  have tk0 : (k == 2) = false := by rw [hkk, ← hnx]; simpa using hk2
  have tk : (k == 3) = false := by rw [hkk, ← hnx]; simpa using hk3
  have HM := Lib.hid (show rPart rec s = rCount s.tl from by unfold rPart; rw [if_neg hk2, if_neg hk3, if_neg (by rw [b0]; simp), if_neg (by rw [b1]; simp), if_neg (by rw [b2]; simp), if_pos b3])
  have t0 := fun (w' : World) (h : RS w' qb wg s) => rtake_c h ⟨#[116, 114, 117, 101]⟩ mk_true
  rw [show isB (⟨#[116, 114, 117, 101]⟩ : ByteArray).data.toList (nextW s.ws) = false from b0] at t0
  simp only [Bool.false_eq_true, if_true, if_false] at t0
  have T0 := Lib.hid t0
  have t1 := fun (w' : World) (h : RS w' qb wg s) => rtake_c h ⟨#[102, 97, 108, 115, 101]⟩ mk_false
  rw [show isB (⟨#[102, 97, 108, 115, 101]⟩ : ByteArray).data.toList (nextW s.ws) = false from b1] at t1
  simp only [Bool.false_eq_true, if_true, if_false] at t1
  have T1 := Lib.hid t1
  have t2 := fun (w' : World) (h : RS w' qb wg s) => rtake_c h ⟨#[40]⟩ mk_open
  rw [show isB (⟨#[40]⟩ : ByteArray).data.toList (nextW s.ws) = false from b2] at t2
  simp only [Bool.false_eq_true, if_true, if_false] at t2
  have T2 := Lib.hid t2
  have t3 := fun (w' : World) (h : RS w' qb wg s) => rtake_c h ⟨#[99, 111, 117, 110, 116]⟩ mk_count
  rw [show isB (⟨#[99, 111, 117, 110, 116]⟩ : ByteArray).data.toList (nextW s.ws) = true from b3] at t3
  simp only [Bool.false_eq_true, if_true, if_false] at t3
  have T3 := Lib.hid t3
  have HLT := Lib.hid (show s.tl.ws.length < s.ws.length from (tail_lft (by simp) b3).1)
  clear h hr hx hnx hkk hk2 hk3 h2 hX b0 t0 b1 t1 b2 t2 b3 t3 hrec
  obtain ⟨S, hS⟩ : ∃ S : ByteArray, S = ⟨(rPath (rNeed [40] s.tl)).1.toArray⟩ := ⟨_, rfl⟩
  have HPA := Lib.hid (fun (w' : World) (h : RS w' qb wg (rNeed [40] s.tl)) => rpath_c h)
  rw [← hS] at HPA
  have HSS := Lib.hid hS
  clear hS
  go_enter Tryd.func47, Tryd.ntmps47
  go_wp2_with (first
    | (go_at_call 69; refine (rneed_c (HS6.out.box _).rs ⟨#[41]⟩ mk_close).mono ?_; rintro e w7 ⟨rfl, hs, hc⟩; have HF := Lib.hid ((HS6.out.box _).next hs hc); obtain ⟨n0, n1, n2, n3, n4, n5, n6, n7, nz⟩ := cellsN (Chg.box hc HS6.out.rs.lt.2); obtain ⟨z0, z1, z2, z3, z4, z5, z6, z7, zz⟩ := cellsN (HF.out.first HP.out.lt.2); clear hs hc nz)
    | (go_at_call 70; with_reducible refine (HPA.out _ HS5.out.rs).mono ?_; rintro e w6 ⟨rfl, hs, hc⟩; have HS6 := Lib.hid (HS5.out.next hs hc); clear hs hc HS5)
    | (go_at_call 69; refine (rneed_c HS4.out.rs ⟨#[40]⟩ mk_open).mono ?_; rintro e w5 ⟨rfl, hs, hc⟩; have HS5 := Lib.hid (HS4.out.next hs hc); clear hs hc HS4)
    | (go_at_call 29; with_reducible refine (T3.out _ HS3.out.rs).mono ?_; rintro e w4 ⟨rfl, hs, hc⟩; have HS4 := Lib.hid (HS3.out.next hs hc); clear hs hc HS3)
    | (go_at_call 29; with_reducible refine (T2.out _ HS2.out.rs).mono ?_; rintro e w3 ⟨rfl, hs, hc⟩; have HS3 := Lib.hid (HS2.out.next hs hc); clear hs hc HS2)
    | (go_at_call 29; with_reducible refine (T1.out _ HS1.out.rs).mono ?_; rintro e w2 ⟨rfl, hs, hc⟩; have HS2 := Lib.hid (HS1.out.next hs hc); clear hs hc HS1)
    | (go_at_call 29; with_reducible refine (T0.out _ (HS0.out _ _).rs).mono ?_; rintro e w1 ⟨rfl, hs, hc⟩; have HS1 := Lib.hid ((HS0.out _ _).next hs hc); clear hs hc HS0))
  refine bodyPost_ret (results_cell_row Tryd.results47 _ _ w.heap.size 26 _ (0, 0) _ rfl (putN_at (HF.out.first HP.out.lt.2) _ _ _ _ _ _ _ _) Tryd.underlying26 rfl infoN8) rfl ?_
  rw [HM.out]
  exact ⟨_, rfl, ⟨.slice none 0 0, by rw [HSS.out]; rfl, rfl⟩, HF.out.put' HP.out (putN_chg _ _ _ _ _ _ _ _ _ _)⟩

set_option maxRecDepth 100000 in
set_option maxHeartbeats 800000 in
theorem rpart_path {w : World} {qb wg : Nat} {s : RSt} (rec : RSt → Nd × RSt) (hrec : RecR qb wg s.ws.length rec) (h : RS w qb wg s)
    (hk2 : (nextW s.ws).k ≠ 2) (hk3 : (nextW s.ws).k ≠ 3) (b0 : isB [116, 114, 117, 101] (nextW s.ws) = false) (b1 : isB [102, 97, 108, 115, 101] (nextW s.ws) = false) (b2 : isB [40] (nextW s.ws) = false) (b3 : isB [99, 111, 117, 110, 116] (nextW s.ws) = false) (b4 : isB [110, 117, 109, 98, 101, 114] (nextW s.ws) = false) :
    Calls Tryd.prog 47 #[.pointer (some ⟨qb, 0, none⟩)] w (AftR w qb wg (rPart rec s)) := by
  obtain ⟨x, r, off, cap, hr, hx, c1, c2, h1, h2, hz, n1, n2, n3⟩ := h.first
  have hlt0 : (0 : Int) < (r.length : Int) + 1 := by omega
  have hpl := h.lt.2
  have hwl := h.lt.1
  have hnx : nextW s.ws = x := by rw [hr]; rfl
  obtain ⟨k, hkk⟩ : ∃ k, k = x.k := ⟨_, rfl⟩
  rw [← hkk] at n1
  obtain ⟨X, hX⟩ : ∃ X : ByteArray, X = ⟨x.t.toArray⟩ := ⟨_, rfl⟩
  rw [← hX] at n2
  have HX := Lib.hid hX
  have HP := Lib.hid h
  have HS0 := Lib.hid (fun o o2 => (RRun.start h o).box o2)
  have tk0 : (k == 2) = false := by rw [hkk, ← hnx]; simpa using hk2
  have tk : (k == 3) = false := by rw [hkk, ← hnx]; simpa using hk3
  have HM := Lib.hid (show rPart rec s = (.leaf 2 0 0 false [] (rPath s).1 0, (rPath s).2) from by unfold rPart; rw [if_neg hk2, if_neg hk3, if_neg (by rw [b0]; simp), if_neg (by rw [b1]; simp), if_neg (by rw [b2]; simp), if_neg (by rw [b3]; simp), if_neg (by rw [b4]; simp)])
  have t0 := fun (w' : World) (h : RS w' qb wg s) => rtake_c h ⟨#[116, 114, 117, 101]⟩ mk_true
  rw [show isB (⟨#[116, 114, 117, 101]⟩ : ByteArray).data.toList (nextW s.ws) = false from b0] at t0
  simp only [Bool.false_eq_true, if_true, if_false] at t0
  have T0 := Lib.hid t0
  have t1 := fun (w' : World) (h : RS w' qb wg s) => rtake_c h ⟨#[102, 97, 108, 115, 101]⟩ mk_false
  rw [show isB (⟨#[102, 97, 108, 115, 101]⟩ : ByteArray).data.toList (nextW s.ws) = false from b1] at t1
  simp only [Bool.false_eq_true, if_true, if_false] at t1
  have T1 := Lib.hid t1
  have t2 := fun (w' : World) (h : RS w' qb wg s) => rtake_c h ⟨#[40]⟩ mk_open
  rw [show isB (⟨#[40]⟩ : ByteArray).data.toList (nextW s.ws) = false from b2] at t2
  simp only [Bool.false_eq_true, if_true, if_false] at t2
  have T2 := Lib.hid t2
  have t3 := fun (w' : World) (h : RS w' qb wg s) => rtake_c h ⟨#[99, 111, 117, 110, 116]⟩ mk_count
  rw [show isB (⟨#[99, 111, 117, 110, 116]⟩ : ByteArray).data.toList (nextW s.ws) = false from b3] at t3
  simp only [Bool.false_eq_true, if_true, if_false] at t3
  have T3 := Lib.hid t3
  have t4 := fun (w' : World) (h : RS w' qb wg s) => rtake_c h ⟨#[110, 117, 109, 98, 101, 114]⟩ mk_number
  rw [show isB (⟨#[110, 117, 109, 98, 101, 114]⟩ : ByteArray).data.toList (nextW s.ws) = false from b4] at t4
  simp only [Bool.false_eq_true, if_true, if_false] at t4
  have T4 := Lib.hid t4
  clear h hr hx hnx hkk hk2 hk3 h2 hX b0 t0 b1 t1 b2 t2 b3 t3 b4 t4 hrec
  obtain ⟨S, hS⟩ : ∃ S : ByteArray, S = ⟨(rPath s).1.toArray⟩ := ⟨_, rfl⟩
  have HPA := Lib.hid (fun (w' : World) (h : RS w' qb wg s) => rpath_c h)
  rw [← hS] at HPA
  have HSS := Lib.hid hS
  clear hS
  go_enter Tryd.func47, Tryd.ntmps47
  go_wp2_with (first
    | (go_at_call 70; with_reducible refine (HPA.out _ HS5.out.rs).mono ?_; rintro e w6 ⟨rfl, hs, hc⟩; have HF := Lib.hid (HS5.out.next hs hc); obtain ⟨z0, z1, z2, z3, z4, z5, z6, z7, zz⟩ := cellsN (HF.out.first HP.out.lt.2); clear hs hc HS5)
    | (go_at_call 29; with_reducible refine (T4.out _ HS4.out.rs).mono ?_; rintro e w5 ⟨rfl, hs, hc⟩; have HS5 := Lib.hid (HS4.out.next hs hc); clear hs hc HS4)
    | (go_at_call 29; with_reducible refine (T3.out _ HS3.out.rs).mono ?_; rintro e w4 ⟨rfl, hs, hc⟩; have HS4 := Lib.hid (HS3.out.next hs hc); clear hs hc HS3)
    | (go_at_call 29; with_reducible refine (T2.out _ HS2.out.rs).mono ?_; rintro e w3 ⟨rfl, hs, hc⟩; have HS3 := Lib.hid (HS2.out.next hs hc); clear hs hc HS2)
    | (go_at_call 29; with_reducible refine (T1.out _ HS1.out.rs).mono ?_; rintro e w2 ⟨rfl, hs, hc⟩; have HS2 := Lib.hid (HS1.out.next hs hc); clear hs hc HS1)
    | (go_at_call 29; with_reducible refine (T0.out _ (HS0.out _ _).rs).mono ?_; rintro e w1 ⟨rfl, hs, hc⟩; have HS1 := Lib.hid ((HS0.out _ _).next hs hc); clear hs hc HS0))
  refine bodyPost_ret (results_cell_row Tryd.results47 _ _ w.heap.size 26 _ (0, 0) _ rfl (putN_at (HF.out.first HP.out.lt.2) _ _ _ _ _ _ _ _) Tryd.underlying26 rfl infoN8) rfl ?_
  rw [HM.out]
  exact ⟨_, rfl, ⟨.slice none 0 0, by rw [HSS.out]; rfl, rfl⟩, HF.out.put' HP.out (putN_chg _ _ _ _ _ _ _ _ _ _)⟩

end Go.Proofs.YtikofngogkchfaaDoor

/- The reference's parser: number(..), and any part. Written by tools/genrn.py. -/
namespace Go.Proofs.YtikofngogkchfaaDoor
open Go.RowKit
set_option linter.unusedVariables false
set_option linter.unusedSimpArgs false

/-- Whether the words are bad is written. -/
theorem RS.mark {w : World} {qb wg : Nat} {s : RSt} (h : RS w qb wg s) (b : Bool) :
    RS (w.setCell ⟨qb, 1, none⟩ (.bool b)) qb wg ⟨b, s.ws⟩ ∧ Chg [qb] w (w.setCell ⟨qb, 1, none⟩ (.bool b)) := by
  obtain ⟨off, cap, h1, h2, h3, h4⟩ := h.lies
  refine ⟨⟨h.ok, h.len, ⟨off, cap, ?_, h2, h3, h4.keep (Below.heap_setCell _ _ _ _ h.ne)⟩, h.ne, by rw [World.size_setCell]; exact h.lt⟩, (Chg.refl _ _).set' _ _ _ (.inl (by simp))⟩
  rw [block_set _ _ _ _ _ _ _ h1]
  rfl
theorem RS.bad {w : World} {qb wg : Nat} {s : RSt} (h : RS w qb wg s) : w.cell? ⟨qb, 1, none⟩ = some (.bool s.bad) ∧ (∀ o, w.frozen? ⟨qb, o, none⟩ = false) := by
  obtain ⟨off, cap, h1, _⟩ := h.lies
  exact ⟨(cells2 h1).2.1, (cells2 h1).2.2⟩

set_option maxRecDepth 100000 in
set_option maxHeartbeats 800000 in
theorem rpart_number_t_t {w : World} {qb wg : Nat} {s : RSt} (rec : RSt → Nd × RSt) (hrec : RecR qb wg s.ws.length rec) (h : RS w qb wg s)
    (hk2 : (nextW s.ws).k ≠ 2) (hk3 : (nextW s.ws).k ≠ 3) (b0 : isB [116, 114, 117, 101] (nextW s.ws) = false) (b1 : isB [102, 97, 108, 115, 101] (nextW s.ws) = false) (b2 : isB [40] (nextW s.ws) = false) (b3 : isB [99, 111, 117, 110, 116] (nextW s.ws) = false) (b4 : isB [110, 117, 109, 98, 101, 114] (nextW s.ws) = true) (hb4 : (rName (rNeed [44] (rName (rNeed [40] s.tl)).2)).2.bad = true) (hz4 : decide (stF (rName (rNeed [44] (rName (rNeed [40] s.tl)).2)).1 = 0) = true) :
    Calls Tryd.prog 47 #[.pointer (some ⟨qb, 0, none⟩)] w (AftR w qb wg (rPart rec s)) := by
  obtain ⟨x, r, off, cap, hr, hx, c1, c2, h1, h2, hz, n1, n2, n3⟩ := h.first
  have hlt0 : (0 : Int) < (r.length : Int) + 1 := by omega
  have hpl := h.lt.2
  have hwl := h.lt.1
  have hnx : nextW s.ws = x := by rw [hr]; rfl
  obtain ⟨k, hkk⟩ : ∃ k, k = x.k := ⟨_, rfl⟩
  rw [← hkk] at n1
  obtain ⟨X, hX⟩ : ∃ X : ByteArray, X = ⟨x.t.toArray⟩ := ⟨_, rfl⟩
  rw [← hX] at n2
  have HX := Lib.hid hX
  have HP := Lib.hid h
  have HS0 := Lib.hid (fun o o2 => (RRun.start h o).box o2)
  have tk0 : (k == 2) = false := by rw [hkk, ← hnx]; simpa using hk2
  have tk : (k == 3) = false := by rw [hkk, ← hnx]; simpa using hk3
  have HM := Lib.hid (show rPart rec s = rNumber s.tl from by unfold rPart; rw [if_neg hk2, if_neg hk3, if_neg (by rw [b0]; simp), if_neg (by rw [b1]; simp), if_neg (by rw [b2]; simp), if_neg (by rw [b3]; simp), if_pos b4])
  have t0 := fun (w' : World) (h : RS w' qb wg s) => rtake_c h ⟨#[116, 114, 117, 101]⟩ mk_true
  rw [show isB (⟨#[116, 114, 117, 101]⟩ : ByteArray).data.toList (nextW s.ws) = false from b0] at t0
  simp only [Bool.false_eq_true, if_true, if_false] at t0
  have T0 := Lib.hid t0
  have t1 := fun (w' : World) (h : RS w' qb wg s) => rtake_c h ⟨#[102, 97, 108, 115, 101]⟩ mk_false
  rw [show isB (⟨#[102, 97, 108, 115, 101]⟩ : ByteArray).data.toList (nextW s.ws) = false from b1] at t1
  simp only [Bool.false_eq_true, if_true, if_false] at t1
  have T1 := Lib.hid t1
  have t2 := fun (w' : World) (h : RS w' qb wg s) => rtake_c h ⟨#[40]⟩ mk_open
  rw [show isB (⟨#[40]⟩ : ByteArray).data.toList (nextW s.ws) = false from b2] at t2
  simp only [Bool.false_eq_true, if_true, if_false] at t2
  have T2 := Lib.hid t2
  have t3 := fun (w' : World) (h : RS w' qb wg s) => rtake_c h ⟨#[99, 111, 117, 110, 116]⟩ mk_count
  rw [show isB (⟨#[99, 111, 117, 110, 116]⟩ : ByteArray).data.toList (nextW s.ws) = false from b3] at t3
  simp only [Bool.false_eq_true, if_true, if_false] at t3
  have T3 := Lib.hid t3
  have t4 := fun (w' : World) (h : RS w' qb wg s) => rtake_c h ⟨#[110, 117, 109, 98, 101, 114]⟩ mk_number
  rw [show isB (⟨#[110, 117, 109, 98, 101, 114]⟩ : ByteArray).data.toList (nextW s.ws) = true from b4] at t4
  simp only [Bool.false_eq_true, if_true, if_false] at t4
  have T4 := Lib.hid t4
  have HLT := Lib.hid (show s.tl.ws.length < s.ws.length from (tail_lft (by simp) b4).1)
  clear h hr hx hnx hkk hk2 hk3 h2 hX b0 t0 b1 t1 b2 t2 b3 t3 b4 t4 hrec
  obtain ⟨S, hS⟩ : ∃ S : ByteArray, S = ⟨(rName (rNeed [40] s.tl)).1.toArray⟩ := ⟨_, rfl⟩
  have HNA := Lib.hid (fun (w' : World) (h : RS w' qb wg (rNeed [40] s.tl)) => rname_c h)
  rw [← hS] at HNA
  have HSS := Lib.hid hS
  obtain ⟨s3, hs3⟩ : ∃ s3, rNeed [44] (rName (rNeed [40] s.tl)).2 = s3 := ⟨_, rfl⟩
  rw [hs3] at hb4 hz4
  have HS3E := Lib.hid hs3
  obtain ⟨S4, hS4⟩ : ∃ S : ByteArray, S = ⟨(rName s3).1.toArray⟩ := ⟨_, rfl⟩
  have HNB := Lib.hid (fun (w' : World) (h : RS w' qb wg s3) => rname_c h)
  rw [← hS4] at HNB
  obtain ⟨stn, hst⟩ : ∃ m, stF (rName s3).1 = m := ⟨_, rfl⟩
  have HSTA := fun w' => rstate_c w' S4
  rw [show S4.data.toList = (rName s3).1 from by rw [hS4], hz4, hst] at HSTA
  have HSTA' := Lib.hid HSTA
  have HB4 := Lib.hid hb4
  have HNM := Lib.hid (show rState s3 = (stn, ⟨true, (rName s3).2.ws⟩) from by unfold rState; rw [hb4, hz4, hst]; rfl)
  clear hS hs3 hS4 hst HSTA hb4 hz4
  go_enter Tryd.func47, Tryd.ntmps47
  go_wp2_with (first
    | (go_at_call 69; refine (rneed_c (HSM.out).rs ⟨#[41]⟩ mk_close).mono ?_; rintro e w11 ⟨rfl, hs, hc⟩; have HS11 := Lib.hid (HSM.out.next hs hc); have HN11 := Lib.hid ((hc.block w7.heap.size (by rw [World.size_setCell]; exact HLT7.out) (by simp; exact HNE7.out)).trans ((Below.heap_setCell _ _ _ _ HNE7.out).trans HN10.out)); obtain ⟨n0, n1, n2, n3, n4, n5, n6, n7, nz⟩ := cellsN HN11.out; have HF := Lib.hid (HS11.out.poke (w' := w11.setCell ⟨w7.heap.size, 6, none⟩ (.int .i64 (stn : Nat))) (b := w7.heap.size) HP.out (by simp) HSZ7.out ((Chg.refl [w7.heap.size] w11).set' _ _ _ (.inl (by simp)))); obtain ⟨z0, z1, z2, z3, z4, z5, z6, z7, zz⟩ := cellsN (HF.out.first HP.out.lt.2); clear hs hc)
    | (go_at_call 10; refine (HSTA'.out _).mono ?_; rintro e w10 ⟨rfl, hb⟩; have HS10 := Lib.hid (HS9.out.below hb); have HN10 := Lib.hid ((hb.block w7.heap.size (Array.getElem?_eq_some_iff.1 HN9.out).1).trans HN9.out); obtain ⟨q1, qz⟩ := HS10.out.rs.bad; rw [HB4.out] at q1; have HSM := Lib.hid (HS10.out.next (HS10.out.rs.mark true).1 (HS10.out.rs.mark true).2); have HLT7 := Lib.hid (Array.getElem?_eq_some_iff.1 HN10.out).1; have HNE7 := Lib.hid (show w7.heap.size ≠ qb from by have := HS7.out.rs.lt.2; omega); clear hb)
    | (go_at_call 71; with_reducible refine (HNB.out _ HS8.out.rs).mono ?_; rintro e w9 ⟨rfl, hs, hc⟩; have HS9 := Lib.hid (HS8.out.next hs hc); have HN9 := Lib.hid ((hc.block w7.heap.size (Array.getElem?_eq_some_iff.1 HN8.out).1 (by have := HS7.out.rs.lt.2; simp; omega)).trans HN8.out); clear hs hc)
    | (go_at_call 69; refine (rneed_c (HS7.out.box _).rs ⟨#[44]⟩ mk_comma).mono ?_; rw [show rNeed (⟨#[44]⟩ : ByteArray).data.toList (rName (rNeed [40] s.tl)).2 = s3 from HS3E.out]; rintro e w8 ⟨rfl, hs, hc⟩; have HS8 := Lib.hid ((HS7.out.box _).next hs hc); have HN8 := Lib.hid (Chg.box hc HS7.out.rs.lt.2); clear hs hc)
    | (go_at_call 71; with_reducible refine (HNA.out _ HS6.out.rs).mono ?_; rintro e w7 ⟨rfl, hs, hc⟩; have HS7 := Lib.hid (HS6.out.next hs hc); have HSZ7 := Lib.hid HS7.out.chg.size; clear hs hc HS6)
    | (go_at_call 69; refine (rneed_c HS5.out.rs ⟨#[40]⟩ mk_open).mono ?_; rintro e w6 ⟨rfl, hs, hc⟩; have HS6 := Lib.hid (HS5.out.next hs hc); clear hs hc HS5)
    | (go_at_call 29; with_reducible refine (T4.out _ HS4.out.rs).mono ?_; rintro e w5 ⟨rfl, hs, hc⟩; have HS5 := Lib.hid (HS4.out.next hs hc); clear hs hc HS4)
    | (go_at_call 29; with_reducible refine (T3.out _ HS3.out.rs).mono ?_; rintro e w4 ⟨rfl, hs, hc⟩; have HS4 := Lib.hid (HS3.out.next hs hc); clear hs hc HS3)
    | (go_at_call 29; with_reducible refine (T2.out _ HS2.out.rs).mono ?_; rintro e w3 ⟨rfl, hs, hc⟩; have HS3 := Lib.hid (HS2.out.next hs hc); clear hs hc HS2)
    | (go_at_call 29; with_reducible refine (T1.out _ HS1.out.rs).mono ?_; rintro e w2 ⟨rfl, hs, hc⟩; have HS2 := Lib.hid (HS1.out.next hs hc); clear hs hc HS1)
    | (go_at_call 29; with_reducible refine (T0.out _ (HS0.out _ _).rs).mono ?_; rintro e w1 ⟨rfl, hs, hc⟩; have HS1 := Lib.hid ((HS0.out _ _).next hs hc); clear hs hc HS0))
  refine bodyPost_ret (results_cell_row Tryd.results47 _ _ w.heap.size 26 _ (0, 0) _ rfl (putN_at (HF.out.first HP.out.lt.2) _ _ _ _ _ _ _ _) Tryd.underlying26 rfl infoN8) rfl ?_
  have HMM : rNumber s.tl = (.leaf 4 0 0 false [] (rName (rNeed [40] s.tl)).1 stn, rNeed [41] ⟨true, (rName s3).2.ws⟩) := by unfold rNumber; rw [HS3E.out, HNM.out]
  rw [HM.out, HMM]
  exact ⟨_, rfl, ⟨.slice none 0 0, by rw [HSS.out]; rfl, rfl⟩, HF.out.put' HP.out (putN_chg _ _ _ _ _ _ _ _ _ _)⟩

set_option maxRecDepth 100000 in
set_option maxHeartbeats 800000 in
theorem rpart_number_t_f {w : World} {qb wg : Nat} {s : RSt} (rec : RSt → Nd × RSt) (hrec : RecR qb wg s.ws.length rec) (h : RS w qb wg s)
    (hk2 : (nextW s.ws).k ≠ 2) (hk3 : (nextW s.ws).k ≠ 3) (b0 : isB [116, 114, 117, 101] (nextW s.ws) = false) (b1 : isB [102, 97, 108, 115, 101] (nextW s.ws) = false) (b2 : isB [40] (nextW s.ws) = false) (b3 : isB [99, 111, 117, 110, 116] (nextW s.ws) = false) (b4 : isB [110, 117, 109, 98, 101, 114] (nextW s.ws) = true) (hb4 : (rName (rNeed [44] (rName (rNeed [40] s.tl)).2)).2.bad = true) (hz4 : decide (stF (rName (rNeed [44] (rName (rNeed [40] s.tl)).2)).1 = 0) = false) :
    Calls Tryd.prog 47 #[.pointer (some ⟨qb, 0, none⟩)] w (AftR w qb wg (rPart rec s)) := by
  obtain ⟨x, r, off, cap, hr, hx, c1, c2, h1, h2, hz, n1, n2, n3⟩ := h.first
  have hlt0 : (0 : Int) < (r.length : Int) + 1 := by omega
  have hpl := h.lt.2
  have hwl := h.lt.1
  have hnx : nextW s.ws = x := by rw [hr]; rfl
  obtain ⟨k, hkk⟩ : ∃ k, k = x.k := ⟨_, rfl⟩
  rw [← hkk] at n1
  obtain ⟨X, hX⟩ : ∃ X : ByteArray, X = ⟨x.t.toArray⟩ := ⟨_, rfl⟩
  rw [← hX] at n2
  have HX := Lib.hid hX
  have HP := Lib.hid h
  have HS0 := Lib.hid (fun o o2 => (RRun.start h o).box o2)
  have tk0 : (k == 2) = false := by rw [hkk, ← hnx]; simpa using hk2
  have tk : (k == 3) = false := by rw [hkk, ← hnx]; simpa using hk3
  have HM := Lib.hid (show rPart rec s = rNumber s.tl from by unfold rPart; rw [if_neg hk2, if_neg hk3, if_neg (by rw [b0]; simp), if_neg (by rw [b1]; simp), if_neg (by rw [b2]; simp), if_neg (by rw [b3]; simp), if_pos b4])
  have t0 := fun (w' : World) (h : RS w' qb wg s) => rtake_c h ⟨#[116, 114, 117, 101]⟩ mk_true
  rw [show isB (⟨#[116, 114, 117, 101]⟩ : ByteArray).data.toList (nextW s.ws) = false from b0] at t0
  simp only [Bool.false_eq_true, if_true, if_false] at t0
  have T0 := Lib.hid t0
  have t1 := fun (w' : World) (h : RS w' qb wg s) => rtake_c h ⟨#[102, 97, 108, 115, 101]⟩ mk_false
  rw [show isB (⟨#[102, 97, 108, 115, 101]⟩ : ByteArray).data.toList (nextW s.ws) = false from b1] at t1
  simp only [Bool.false_eq_true, if_true, if_false] at t1
  have T1 := Lib.hid t1
  have t2 := fun (w' : World) (h : RS w' qb wg s) => rtake_c h ⟨#[40]⟩ mk_open
  rw [show isB (⟨#[40]⟩ : ByteArray).data.toList (nextW s.ws) = false from b2] at t2
  simp only [Bool.false_eq_true, if_true, if_false] at t2
  have T2 := Lib.hid t2
  have t3 := fun (w' : World) (h : RS w' qb wg s) => rtake_c h ⟨#[99, 111, 117, 110, 116]⟩ mk_count
  rw [show isB (⟨#[99, 111, 117, 110, 116]⟩ : ByteArray).data.toList (nextW s.ws) = false from b3] at t3
  simp only [Bool.false_eq_true, if_true, if_false] at t3
  have T3 := Lib.hid t3
  have t4 := fun (w' : World) (h : RS w' qb wg s) => rtake_c h ⟨#[110, 117, 109, 98, 101, 114]⟩ mk_number
  rw [show isB (⟨#[110, 117, 109, 98, 101, 114]⟩ : ByteArray).data.toList (nextW s.ws) = true from b4] at t4
  simp only [Bool.false_eq_true, if_true, if_false] at t4
  have T4 := Lib.hid t4
  have HLT := Lib.hid (show s.tl.ws.length < s.ws.length from (tail_lft (by simp) b4).1)
  clear h hr hx hnx hkk hk2 hk3 h2 hX b0 t0 b1 t1 b2 t2 b3 t3 b4 t4 hrec
  obtain ⟨S, hS⟩ : ∃ S : ByteArray, S = ⟨(rName (rNeed [40] s.tl)).1.toArray⟩ := ⟨_, rfl⟩
  have HNA := Lib.hid (fun (w' : World) (h : RS w' qb wg (rNeed [40] s.tl)) => rname_c h)
  rw [← hS] at HNA
  have HSS := Lib.hid hS
  obtain ⟨s3, hs3⟩ : ∃ s3, rNeed [44] (rName (rNeed [40] s.tl)).2 = s3 := ⟨_, rfl⟩
  rw [hs3] at hb4 hz4
  have HS3E := Lib.hid hs3
  obtain ⟨S4, hS4⟩ : ∃ S : ByteArray, S = ⟨(rName s3).1.toArray⟩ := ⟨_, rfl⟩
  have HNB := Lib.hid (fun (w' : World) (h : RS w' qb wg s3) => rname_c h)
  rw [← hS4] at HNB
  obtain ⟨stn, hst⟩ : ∃ m, stF (rName s3).1 = m := ⟨_, rfl⟩
  have HSTA := fun w' => rstate_c w' S4
  rw [show S4.data.toList = (rName s3).1 from by rw [hS4], hz4, hst] at HSTA
  have HSTA' := Lib.hid HSTA
  have HB4 := Lib.hid hb4
  have HNM := Lib.hid (show rState s3 = (stn, ⟨true, (rName s3).2.ws⟩) from by unfold rState; rw [hb4, hz4, hst]; rfl)
  clear hS hs3 hS4 hst HSTA hb4 hz4
  go_enter Tryd.func47, Tryd.ntmps47
  go_wp2_with (first
    | (go_at_call 69; refine (rneed_c (HSM.out).rs ⟨#[41]⟩ mk_close).mono ?_; rintro e w11 ⟨rfl, hs, hc⟩; have HS11 := Lib.hid (HSM.out.next hs hc); have HN11 := Lib.hid ((hc.block w7.heap.size (by rw [World.size_setCell]; exact HLT7.out) (by simp; exact HNE7.out)).trans ((Below.heap_setCell _ _ _ _ HNE7.out).trans HN10.out)); obtain ⟨n0, n1, n2, n3, n4, n5, n6, n7, nz⟩ := cellsN HN11.out; have HF := Lib.hid (HS11.out.poke (w' := w11.setCell ⟨w7.heap.size, 6, none⟩ (.int .i64 (stn : Nat))) (b := w7.heap.size) HP.out (by simp) HSZ7.out ((Chg.refl [w7.heap.size] w11).set' _ _ _ (.inl (by simp)))); obtain ⟨z0, z1, z2, z3, z4, z5, z6, z7, zz⟩ := cellsN (HF.out.first HP.out.lt.2); clear hs hc)
    | (go_at_call 10; refine (HSTA'.out _).mono ?_; rintro e w10 ⟨rfl, hb⟩; have HS10 := Lib.hid (HS9.out.below hb); have HN10 := Lib.hid ((hb.block w7.heap.size (Array.getElem?_eq_some_iff.1 HN9.out).1).trans HN9.out); obtain ⟨q1, qz⟩ := HS10.out.rs.bad; rw [HB4.out] at q1; have HSM := Lib.hid (HS10.out.next (HS10.out.rs.mark true).1 (HS10.out.rs.mark true).2); have HLT7 := Lib.hid (Array.getElem?_eq_some_iff.1 HN10.out).1; have HNE7 := Lib.hid (show w7.heap.size ≠ qb from by have := HS7.out.rs.lt.2; omega); clear hb)
    | (go_at_call 71; with_reducible refine (HNB.out _ HS8.out.rs).mono ?_; rintro e w9 ⟨rfl, hs, hc⟩; have HS9 := Lib.hid (HS8.out.next hs hc); have HN9 := Lib.hid ((hc.block w7.heap.size (Array.getElem?_eq_some_iff.1 HN8.out).1 (by have := HS7.out.rs.lt.2; simp; omega)).trans HN8.out); clear hs hc)
    | (go_at_call 69; refine (rneed_c (HS7.out.box _).rs ⟨#[44]⟩ mk_comma).mono ?_; rw [show rNeed (⟨#[44]⟩ : ByteArray).data.toList (rName (rNeed [40] s.tl)).2 = s3 from HS3E.out]; rintro e w8 ⟨rfl, hs, hc⟩; have HS8 := Lib.hid ((HS7.out.box _).next hs hc); have HN8 := Lib.hid (Chg.box hc HS7.out.rs.lt.2); clear hs hc)
    | (go_at_call 71; with_reducible refine (HNA.out _ HS6.out.rs).mono ?_; rintro e w7 ⟨rfl, hs, hc⟩; have HS7 := Lib.hid (HS6.out.next hs hc); have HSZ7 := Lib.hid HS7.out.chg.size; clear hs hc HS6)
    | (go_at_call 69; refine (rneed_c HS5.out.rs ⟨#[40]⟩ mk_open).mono ?_; rintro e w6 ⟨rfl, hs, hc⟩; have HS6 := Lib.hid (HS5.out.next hs hc); clear hs hc HS5)
    | (go_at_call 29; with_reducible refine (T4.out _ HS4.out.rs).mono ?_; rintro e w5 ⟨rfl, hs, hc⟩; have HS5 := Lib.hid (HS4.out.next hs hc); clear hs hc HS4)
    | (go_at_call 29; with_reducible refine (T3.out _ HS3.out.rs).mono ?_; rintro e w4 ⟨rfl, hs, hc⟩; have HS4 := Lib.hid (HS3.out.next hs hc); clear hs hc HS3)
    | (go_at_call 29; with_reducible refine (T2.out _ HS2.out.rs).mono ?_; rintro e w3 ⟨rfl, hs, hc⟩; have HS3 := Lib.hid (HS2.out.next hs hc); clear hs hc HS2)
    | (go_at_call 29; with_reducible refine (T1.out _ HS1.out.rs).mono ?_; rintro e w2 ⟨rfl, hs, hc⟩; have HS2 := Lib.hid (HS1.out.next hs hc); clear hs hc HS1)
    | (go_at_call 29; with_reducible refine (T0.out _ (HS0.out _ _).rs).mono ?_; rintro e w1 ⟨rfl, hs, hc⟩; have HS1 := Lib.hid ((HS0.out _ _).next hs hc); clear hs hc HS0))
  refine bodyPost_ret (results_cell_row Tryd.results47 _ _ w.heap.size 26 _ (0, 0) _ rfl (putN_at (HF.out.first HP.out.lt.2) _ _ _ _ _ _ _ _) Tryd.underlying26 rfl infoN8) rfl ?_
  have HMM : rNumber s.tl = (.leaf 4 0 0 false [] (rName (rNeed [40] s.tl)).1 stn, rNeed [41] ⟨true, (rName s3).2.ws⟩) := by unfold rNumber; rw [HS3E.out, HNM.out]
  rw [HM.out, HMM]
  exact ⟨_, rfl, ⟨.slice none 0 0, by rw [HSS.out]; rfl, rfl⟩, HF.out.put' HP.out (putN_chg _ _ _ _ _ _ _ _ _ _)⟩

set_option maxRecDepth 100000 in
set_option maxHeartbeats 800000 in
theorem rpart_number_f_t {w : World} {qb wg : Nat} {s : RSt} (rec : RSt → Nd × RSt) (hrec : RecR qb wg s.ws.length rec) (h : RS w qb wg s)
    (hk2 : (nextW s.ws).k ≠ 2) (hk3 : (nextW s.ws).k ≠ 3) (b0 : isB [116, 114, 117, 101] (nextW s.ws) = false) (b1 : isB [102, 97, 108, 115, 101] (nextW s.ws) = false) (b2 : isB [40] (nextW s.ws) = false) (b3 : isB [99, 111, 117, 110, 116] (nextW s.ws) = false) (b4 : isB [110, 117, 109, 98, 101, 114] (nextW s.ws) = true) (hb4 : (rName (rNeed [44] (rName (rNeed [40] s.tl)).2)).2.bad = false) (hz4 : decide (stF (rName (rNeed [44] (rName (rNeed [40] s.tl)).2)).1 = 0) = true) :
    Calls Tryd.prog 47 #[.pointer (some ⟨qb, 0, none⟩)] w (AftR w qb wg (rPart rec s)) := by
  obtain ⟨x, r, off, cap, hr, hx, c1, c2, h1, h2, hz, n1, n2, n3⟩ := h.first
  have hlt0 : (0 : Int) < (r.length : Int) + 1 := by omega
  have hpl := h.lt.2
  have hwl := h.lt.1
  have hnx : nextW s.ws = x := by rw [hr]; rfl
  obtain ⟨k, hkk⟩ : ∃ k, k = x.k := ⟨_, rfl⟩
  rw [← hkk] at n1
  obtain ⟨X, hX⟩ : ∃ X : ByteArray, X = ⟨x.t.toArray⟩ := ⟨_, rfl⟩
  rw [← hX] at n2
  have HX := Lib.hid hX
  have HP := Lib.hid h
  have HS0 := Lib.hid (fun o o2 => (RRun.start h o).box o2)
  have tk0 : (k == 2) = false := by rw [hkk, ← hnx]; simpa using hk2
  have tk : (k == 3) = false := by rw [hkk, ← hnx]; simpa using hk3
  have HM := Lib.hid (show rPart rec s = rNumber s.tl from by unfold rPart; rw [if_neg hk2, if_neg hk3, if_neg (by rw [b0]; simp), if_neg (by rw [b1]; simp), if_neg (by rw [b2]; simp), if_neg (by rw [b3]; simp), if_pos b4])
  have t0 := fun (w' : World) (h : RS w' qb wg s) => rtake_c h ⟨#[116, 114, 117, 101]⟩ mk_true
  rw [show isB (⟨#[116, 114, 117, 101]⟩ : ByteArray).data.toList (nextW s.ws) = false from b0] at t0
  simp only [Bool.false_eq_true, if_true, if_false] at t0
  have T0 := Lib.hid t0
  have t1 := fun (w' : World) (h : RS w' qb wg s) => rtake_c h ⟨#[102, 97, 108, 115, 101]⟩ mk_false
  rw [show isB (⟨#[102, 97, 108, 115, 101]⟩ : ByteArray).data.toList (nextW s.ws) = false from b1] at t1
  simp only [Bool.false_eq_true, if_true, if_false] at t1
  have T1 := Lib.hid t1
  have t2 := fun (w' : World) (h : RS w' qb wg s) => rtake_c h ⟨#[40]⟩ mk_open
  rw [show isB (⟨#[40]⟩ : ByteArray).data.toList (nextW s.ws) = false from b2] at t2
  simp only [Bool.false_eq_true, if_true, if_false] at t2
  have T2 := Lib.hid t2
  have t3 := fun (w' : World) (h : RS w' qb wg s) => rtake_c h ⟨#[99, 111, 117, 110, 116]⟩ mk_count
  rw [show isB (⟨#[99, 111, 117, 110, 116]⟩ : ByteArray).data.toList (nextW s.ws) = false from b3] at t3
  simp only [Bool.false_eq_true, if_true, if_false] at t3
  have T3 := Lib.hid t3
  have t4 := fun (w' : World) (h : RS w' qb wg s) => rtake_c h ⟨#[110, 117, 109, 98, 101, 114]⟩ mk_number
  rw [show isB (⟨#[110, 117, 109, 98, 101, 114]⟩ : ByteArray).data.toList (nextW s.ws) = true from b4] at t4
  simp only [Bool.false_eq_true, if_true, if_false] at t4
  have T4 := Lib.hid t4
  have HLT := Lib.hid (show s.tl.ws.length < s.ws.length from (tail_lft (by simp) b4).1)
  clear h hr hx hnx hkk hk2 hk3 h2 hX b0 t0 b1 t1 b2 t2 b3 t3 b4 t4 hrec
  obtain ⟨S, hS⟩ : ∃ S : ByteArray, S = ⟨(rName (rNeed [40] s.tl)).1.toArray⟩ := ⟨_, rfl⟩
  have HNA := Lib.hid (fun (w' : World) (h : RS w' qb wg (rNeed [40] s.tl)) => rname_c h)
  rw [← hS] at HNA
  have HSS := Lib.hid hS
  obtain ⟨s3, hs3⟩ : ∃ s3, rNeed [44] (rName (rNeed [40] s.tl)).2 = s3 := ⟨_, rfl⟩
  rw [hs3] at hb4 hz4
  have HS3E := Lib.hid hs3
  obtain ⟨S4, hS4⟩ : ∃ S : ByteArray, S = ⟨(rName s3).1.toArray⟩ := ⟨_, rfl⟩
  have HNB := Lib.hid (fun (w' : World) (h : RS w' qb wg s3) => rname_c h)
  rw [← hS4] at HNB
  obtain ⟨stn, hst⟩ : ∃ m, stF (rName s3).1 = m := ⟨_, rfl⟩
  have HSTA := fun w' => rstate_c w' S4
  rw [show S4.data.toList = (rName s3).1 from by rw [hS4], hz4, hst] at HSTA
  have HSTA' := Lib.hid HSTA
  have HB4 := Lib.hid hb4
  have HNM := Lib.hid (show rState s3 = (stn, ⟨true, (rName s3).2.ws⟩) from by unfold rState; rw [hb4, hz4, hst]; rfl)
  clear hS hs3 hS4 hst HSTA hb4 hz4
  go_enter Tryd.func47, Tryd.ntmps47
  go_wp2_with (first
    | (go_at_call 69; refine (rneed_c (HSM.out).rs ⟨#[41]⟩ mk_close).mono ?_; rintro e w11 ⟨rfl, hs, hc⟩; have HS11 := Lib.hid (HSM.out.next hs hc); have HN11 := Lib.hid ((hc.block w7.heap.size (by rw [World.size_setCell]; exact HLT7.out) (by simp; exact HNE7.out)).trans ((Below.heap_setCell _ _ _ _ HNE7.out).trans HN10.out)); obtain ⟨n0, n1, n2, n3, n4, n5, n6, n7, nz⟩ := cellsN HN11.out; have HF := Lib.hid (HS11.out.poke (w' := w11.setCell ⟨w7.heap.size, 6, none⟩ (.int .i64 (stn : Nat))) (b := w7.heap.size) HP.out (by simp) HSZ7.out ((Chg.refl [w7.heap.size] w11).set' _ _ _ (.inl (by simp)))); obtain ⟨z0, z1, z2, z3, z4, z5, z6, z7, zz⟩ := cellsN (HF.out.first HP.out.lt.2); clear hs hc)
    | (go_at_call 10; refine (HSTA'.out _).mono ?_; rintro e w10 ⟨rfl, hb⟩; have HS10 := Lib.hid (HS9.out.below hb); have HN10 := Lib.hid ((hb.block w7.heap.size (Array.getElem?_eq_some_iff.1 HN9.out).1).trans HN9.out); obtain ⟨q1, qz⟩ := HS10.out.rs.bad; rw [HB4.out] at q1; have HSM := Lib.hid (HS10.out.next (HS10.out.rs.mark true).1 (HS10.out.rs.mark true).2); have HLT7 := Lib.hid (Array.getElem?_eq_some_iff.1 HN10.out).1; have HNE7 := Lib.hid (show w7.heap.size ≠ qb from by have := HS7.out.rs.lt.2; omega); clear hb)
    | (go_at_call 71; with_reducible refine (HNB.out _ HS8.out.rs).mono ?_; rintro e w9 ⟨rfl, hs, hc⟩; have HS9 := Lib.hid (HS8.out.next hs hc); have HN9 := Lib.hid ((hc.block w7.heap.size (Array.getElem?_eq_some_iff.1 HN8.out).1 (by have := HS7.out.rs.lt.2; simp; omega)).trans HN8.out); clear hs hc)
    | (go_at_call 69; refine (rneed_c (HS7.out.box _).rs ⟨#[44]⟩ mk_comma).mono ?_; rw [show rNeed (⟨#[44]⟩ : ByteArray).data.toList (rName (rNeed [40] s.tl)).2 = s3 from HS3E.out]; rintro e w8 ⟨rfl, hs, hc⟩; have HS8 := Lib.hid ((HS7.out.box _).next hs hc); have HN8 := Lib.hid (Chg.box hc HS7.out.rs.lt.2); clear hs hc)
    | (go_at_call 71; with_reducible refine (HNA.out _ HS6.out.rs).mono ?_; rintro e w7 ⟨rfl, hs, hc⟩; have HS7 := Lib.hid (HS6.out.next hs hc); have HSZ7 := Lib.hid HS7.out.chg.size; clear hs hc HS6)
    | (go_at_call 69; refine (rneed_c HS5.out.rs ⟨#[40]⟩ mk_open).mono ?_; rintro e w6 ⟨rfl, hs, hc⟩; have HS6 := Lib.hid (HS5.out.next hs hc); clear hs hc HS5)
    | (go_at_call 29; with_reducible refine (T4.out _ HS4.out.rs).mono ?_; rintro e w5 ⟨rfl, hs, hc⟩; have HS5 := Lib.hid (HS4.out.next hs hc); clear hs hc HS4)
    | (go_at_call 29; with_reducible refine (T3.out _ HS3.out.rs).mono ?_; rintro e w4 ⟨rfl, hs, hc⟩; have HS4 := Lib.hid (HS3.out.next hs hc); clear hs hc HS3)
    | (go_at_call 29; with_reducible refine (T2.out _ HS2.out.rs).mono ?_; rintro e w3 ⟨rfl, hs, hc⟩; have HS3 := Lib.hid (HS2.out.next hs hc); clear hs hc HS2)
    | (go_at_call 29; with_reducible refine (T1.out _ HS1.out.rs).mono ?_; rintro e w2 ⟨rfl, hs, hc⟩; have HS2 := Lib.hid (HS1.out.next hs hc); clear hs hc HS1)
    | (go_at_call 29; with_reducible refine (T0.out _ (HS0.out _ _).rs).mono ?_; rintro e w1 ⟨rfl, hs, hc⟩; have HS1 := Lib.hid ((HS0.out _ _).next hs hc); clear hs hc HS0))
  refine bodyPost_ret (results_cell_row Tryd.results47 _ _ w.heap.size 26 _ (0, 0) _ rfl (putN_at (HF.out.first HP.out.lt.2) _ _ _ _ _ _ _ _) Tryd.underlying26 rfl infoN8) rfl ?_
  have HMM : rNumber s.tl = (.leaf 4 0 0 false [] (rName (rNeed [40] s.tl)).1 stn, rNeed [41] ⟨true, (rName s3).2.ws⟩) := by unfold rNumber; rw [HS3E.out, HNM.out]
  rw [HM.out, HMM]
  exact ⟨_, rfl, ⟨.slice none 0 0, by rw [HSS.out]; rfl, rfl⟩, HF.out.put' HP.out (putN_chg _ _ _ _ _ _ _ _ _ _)⟩

set_option maxRecDepth 100000 in
set_option maxHeartbeats 800000 in
theorem rpart_number_f_f {w : World} {qb wg : Nat} {s : RSt} (rec : RSt → Nd × RSt) (hrec : RecR qb wg s.ws.length rec) (h : RS w qb wg s)
    (hk2 : (nextW s.ws).k ≠ 2) (hk3 : (nextW s.ws).k ≠ 3) (b0 : isB [116, 114, 117, 101] (nextW s.ws) = false) (b1 : isB [102, 97, 108, 115, 101] (nextW s.ws) = false) (b2 : isB [40] (nextW s.ws) = false) (b3 : isB [99, 111, 117, 110, 116] (nextW s.ws) = false) (b4 : isB [110, 117, 109, 98, 101, 114] (nextW s.ws) = true) (hb4 : (rName (rNeed [44] (rName (rNeed [40] s.tl)).2)).2.bad = false) (hz4 : decide (stF (rName (rNeed [44] (rName (rNeed [40] s.tl)).2)).1 = 0) = false) :
    Calls Tryd.prog 47 #[.pointer (some ⟨qb, 0, none⟩)] w (AftR w qb wg (rPart rec s)) := by
  obtain ⟨x, r, off, cap, hr, hx, c1, c2, h1, h2, hz, n1, n2, n3⟩ := h.first
  have hlt0 : (0 : Int) < (r.length : Int) + 1 := by omega
  have hpl := h.lt.2
  have hwl := h.lt.1
  have hnx : nextW s.ws = x := by rw [hr]; rfl
  obtain ⟨k, hkk⟩ : ∃ k, k = x.k := ⟨_, rfl⟩
  rw [← hkk] at n1
  obtain ⟨X, hX⟩ : ∃ X : ByteArray, X = ⟨x.t.toArray⟩ := ⟨_, rfl⟩
  rw [← hX] at n2
  have HX := Lib.hid hX
  have HP := Lib.hid h
  have HS0 := Lib.hid (fun o o2 => (RRun.start h o).box o2)
  have tk0 : (k == 2) = false := by rw [hkk, ← hnx]; simpa using hk2
  have tk : (k == 3) = false := by rw [hkk, ← hnx]; simpa using hk3
  have HM := Lib.hid (show rPart rec s = rNumber s.tl from by unfold rPart; rw [if_neg hk2, if_neg hk3, if_neg (by rw [b0]; simp), if_neg (by rw [b1]; simp), if_neg (by rw [b2]; simp), if_neg (by rw [b3]; simp), if_pos b4])
  have t0 := fun (w' : World) (h : RS w' qb wg s) => rtake_c h ⟨#[116, 114, 117, 101]⟩ mk_true
  rw [show isB (⟨#[116, 114, 117, 101]⟩ : ByteArray).data.toList (nextW s.ws) = false from b0] at t0
  simp only [Bool.false_eq_true, if_true, if_false] at t0
  have T0 := Lib.hid t0
  have t1 := fun (w' : World) (h : RS w' qb wg s) => rtake_c h ⟨#[102, 97, 108, 115, 101]⟩ mk_false
  rw [show isB (⟨#[102, 97, 108, 115, 101]⟩ : ByteArray).data.toList (nextW s.ws) = false from b1] at t1
  simp only [Bool.false_eq_true, if_true, if_false] at t1
  have T1 := Lib.hid t1
  have t2 := fun (w' : World) (h : RS w' qb wg s) => rtake_c h ⟨#[40]⟩ mk_open
  rw [show isB (⟨#[40]⟩ : ByteArray).data.toList (nextW s.ws) = false from b2] at t2
  simp only [Bool.false_eq_true, if_true, if_false] at t2
  have T2 := Lib.hid t2
  have t3 := fun (w' : World) (h : RS w' qb wg s) => rtake_c h ⟨#[99, 111, 117, 110, 116]⟩ mk_count
  rw [show isB (⟨#[99, 111, 117, 110, 116]⟩ : ByteArray).data.toList (nextW s.ws) = false from b3] at t3
  simp only [Bool.false_eq_true, if_true, if_false] at t3
  have T3 := Lib.hid t3
  have t4 := fun (w' : World) (h : RS w' qb wg s) => rtake_c h ⟨#[110, 117, 109, 98, 101, 114]⟩ mk_number
  rw [show isB (⟨#[110, 117, 109, 98, 101, 114]⟩ : ByteArray).data.toList (nextW s.ws) = true from b4] at t4
  simp only [Bool.false_eq_true, if_true, if_false] at t4
  have T4 := Lib.hid t4
  have HLT := Lib.hid (show s.tl.ws.length < s.ws.length from (tail_lft (by simp) b4).1)
  clear h hr hx hnx hkk hk2 hk3 h2 hX b0 t0 b1 t1 b2 t2 b3 t3 b4 t4 hrec
  obtain ⟨S, hS⟩ : ∃ S : ByteArray, S = ⟨(rName (rNeed [40] s.tl)).1.toArray⟩ := ⟨_, rfl⟩
  have HNA := Lib.hid (fun (w' : World) (h : RS w' qb wg (rNeed [40] s.tl)) => rname_c h)
  rw [← hS] at HNA
  have HSS := Lib.hid hS
  obtain ⟨s3, hs3⟩ : ∃ s3, rNeed [44] (rName (rNeed [40] s.tl)).2 = s3 := ⟨_, rfl⟩
  rw [hs3] at hb4 hz4
  have HS3E := Lib.hid hs3
  obtain ⟨S4, hS4⟩ : ∃ S : ByteArray, S = ⟨(rName s3).1.toArray⟩ := ⟨_, rfl⟩
  have HNB := Lib.hid (fun (w' : World) (h : RS w' qb wg s3) => rname_c h)
  rw [← hS4] at HNB
  obtain ⟨stn, hst⟩ : ∃ m, stF (rName s3).1 = m := ⟨_, rfl⟩
  have HSTA := fun w' => rstate_c w' S4
  rw [show S4.data.toList = (rName s3).1 from by rw [hS4], hz4, hst] at HSTA
  have HSTA' := Lib.hid HSTA
  have HB4 := Lib.hid hb4
  have HNM := Lib.hid (show rState s3 = (stn, ⟨false, (rName s3).2.ws⟩) from by unfold rState; rw [hb4, hz4, hst]; rfl)
  clear hS hs3 hS4 hst HSTA hb4 hz4
  go_enter Tryd.func47, Tryd.ntmps47
  go_wp2_with (first
    | (go_at_call 69; refine (rneed_c (HSM.out).rs ⟨#[41]⟩ mk_close).mono ?_; rintro e w11 ⟨rfl, hs, hc⟩; have HS11 := Lib.hid (HSM.out.next hs hc); have HN11 := Lib.hid ((hc.block w7.heap.size (by rw [World.size_setCell]; exact HLT7.out) (by simp; exact HNE7.out)).trans ((Below.heap_setCell _ _ _ _ HNE7.out).trans HN10.out)); obtain ⟨n0, n1, n2, n3, n4, n5, n6, n7, nz⟩ := cellsN HN11.out; have HF := Lib.hid (HS11.out.poke (w' := w11.setCell ⟨w7.heap.size, 6, none⟩ (.int .i64 (stn : Nat))) (b := w7.heap.size) HP.out (by simp) HSZ7.out ((Chg.refl [w7.heap.size] w11).set' _ _ _ (.inl (by simp)))); obtain ⟨z0, z1, z2, z3, z4, z5, z6, z7, zz⟩ := cellsN (HF.out.first HP.out.lt.2); clear hs hc)
    | (go_at_call 10; refine (HSTA'.out _).mono ?_; rintro e w10 ⟨rfl, hb⟩; have HS10 := Lib.hid (HS9.out.below hb); have HN10 := Lib.hid ((hb.block w7.heap.size (Array.getElem?_eq_some_iff.1 HN9.out).1).trans HN9.out); obtain ⟨q1, qz⟩ := HS10.out.rs.bad; rw [HB4.out] at q1; have HSM := Lib.hid (HS10.out.next (HS10.out.rs.mark false).1 (HS10.out.rs.mark false).2); have HLT7 := Lib.hid (Array.getElem?_eq_some_iff.1 HN10.out).1; have HNE7 := Lib.hid (show w7.heap.size ≠ qb from by have := HS7.out.rs.lt.2; omega); clear hb)
    | (go_at_call 71; with_reducible refine (HNB.out _ HS8.out.rs).mono ?_; rintro e w9 ⟨rfl, hs, hc⟩; have HS9 := Lib.hid (HS8.out.next hs hc); have HN9 := Lib.hid ((hc.block w7.heap.size (Array.getElem?_eq_some_iff.1 HN8.out).1 (by have := HS7.out.rs.lt.2; simp; omega)).trans HN8.out); clear hs hc)
    | (go_at_call 69; refine (rneed_c (HS7.out.box _).rs ⟨#[44]⟩ mk_comma).mono ?_; rw [show rNeed (⟨#[44]⟩ : ByteArray).data.toList (rName (rNeed [40] s.tl)).2 = s3 from HS3E.out]; rintro e w8 ⟨rfl, hs, hc⟩; have HS8 := Lib.hid ((HS7.out.box _).next hs hc); have HN8 := Lib.hid (Chg.box hc HS7.out.rs.lt.2); clear hs hc)
    | (go_at_call 71; with_reducible refine (HNA.out _ HS6.out.rs).mono ?_; rintro e w7 ⟨rfl, hs, hc⟩; have HS7 := Lib.hid (HS6.out.next hs hc); have HSZ7 := Lib.hid HS7.out.chg.size; clear hs hc HS6)
    | (go_at_call 69; refine (rneed_c HS5.out.rs ⟨#[40]⟩ mk_open).mono ?_; rintro e w6 ⟨rfl, hs, hc⟩; have HS6 := Lib.hid (HS5.out.next hs hc); clear hs hc HS5)
    | (go_at_call 29; with_reducible refine (T4.out _ HS4.out.rs).mono ?_; rintro e w5 ⟨rfl, hs, hc⟩; have HS5 := Lib.hid (HS4.out.next hs hc); clear hs hc HS4)
    | (go_at_call 29; with_reducible refine (T3.out _ HS3.out.rs).mono ?_; rintro e w4 ⟨rfl, hs, hc⟩; have HS4 := Lib.hid (HS3.out.next hs hc); clear hs hc HS3)
    | (go_at_call 29; with_reducible refine (T2.out _ HS2.out.rs).mono ?_; rintro e w3 ⟨rfl, hs, hc⟩; have HS3 := Lib.hid (HS2.out.next hs hc); clear hs hc HS2)
    | (go_at_call 29; with_reducible refine (T1.out _ HS1.out.rs).mono ?_; rintro e w2 ⟨rfl, hs, hc⟩; have HS2 := Lib.hid (HS1.out.next hs hc); clear hs hc HS1)
    | (go_at_call 29; with_reducible refine (T0.out _ (HS0.out _ _).rs).mono ?_; rintro e w1 ⟨rfl, hs, hc⟩; have HS1 := Lib.hid ((HS0.out _ _).next hs hc); clear hs hc HS0))
  refine bodyPost_ret (results_cell_row Tryd.results47 _ _ w.heap.size 26 _ (0, 0) _ rfl (putN_at (HF.out.first HP.out.lt.2) _ _ _ _ _ _ _ _) Tryd.underlying26 rfl infoN8) rfl ?_
  have HMM : rNumber s.tl = (.leaf 4 0 0 false [] (rName (rNeed [40] s.tl)).1 stn, rNeed [41] ⟨false, (rName s3).2.ws⟩) := by unfold rNumber; rw [HS3E.out, HNM.out]
  rw [HM.out, HMM]
  exact ⟨_, rfl, ⟨.slice none 0 0, by rw [HSS.out]; rfl, rfl⟩, HF.out.put' HP.out (putN_chg _ _ _ _ _ _ _ _ _ _)⟩

theorem rpart_c {w : World} {qb wg : Nat} {s : RSt} (rec : RSt → Nd × RSt) (hrec : RecR qb wg s.ws.length rec) (h : RS w qb wg s) :
    Calls Tryd.prog 47 #[.pointer (some ⟨qb, 0, none⟩)] w (AftR w qb wg (rPart rec s)) := by
  by_cases k2 : (nextW s.ws).k = 2
  · exact rpart_int rec hrec h k2
  by_cases k3 : (nextW s.ws).k = 3
  · exact rpart_text rec hrec h k3
  by_cases b0 : isB [116, 114, 117, 101] (nextW s.ws) = true
  · exact rpart_true rec hrec h k2 k3 b0
  rw [Bool.not_eq_true] at b0
  by_cases b1 : isB [102, 97, 108, 115, 101] (nextW s.ws) = true
  · exact rpart_false rec hrec h k2 k3 b0 b1
  rw [Bool.not_eq_true] at b1
  by_cases b2 : isB [40] (nextW s.ws) = true
  · exact rpart_paren rec hrec h k2 k3 b0 b1 b2
  rw [Bool.not_eq_true] at b2
  by_cases b3 : isB [99, 111, 117, 110, 116] (nextW s.ws) = true
  · exact rpart_count rec hrec h k2 k3 b0 b1 b2 b3
  rw [Bool.not_eq_true] at b3
  by_cases b4 : isB [110, 117, 109, 98, 101, 114] (nextW s.ws) = true
  · cases hb4 : (rName (rNeed [44] (rName (rNeed [40] s.tl)).2)).2.bad <;> cases hz4 : decide (stF (rName (rNeed [44] (rName (rNeed [40] s.tl)).2)).1 = 0)
    · exact rpart_number_f_f rec hrec h k2 k3 b0 b1 b2 b3 b4 hb4 hz4
    · exact rpart_number_f_t rec hrec h k2 k3 b0 b1 b2 b3 b4 hb4 hz4
    · exact rpart_number_t_f rec hrec h k2 k3 b0 b1 b2 b3 b4 hb4 hz4
    · exact rpart_number_t_t rec hrec h k2 k3 b0 b1 b2 b3 b4 hb4 hz4
  rw [Bool.not_eq_true] at b4
  exact rpart_path rec hrec h k2 k3 b0 b1 b2 b3 b4
end Go.Proofs.YtikofngogkchfaaDoor

/- The reference's parser: factors. -/
namespace Go.Proofs.YtikofngogkchfaaDoor
open Go.RowKit
set_option linter.unusedVariables false
set_option linter.unusedSimpArgs false

theorem mk_minus : MarkOk (⟨#[45]⟩ : ByteArray).data.toList := ⟨45, [], rfl, .inr rfl⟩
theorem RecR.mono {qb wg N M : Nat} {rec : RSt → Nd × RSt} (h : RecR qb wg N rec) (hm : M ≤ N) : RecR qb wg M rec := fun w' s' hs hl => h w' s' hs (by omega)


set_option maxRecDepth 100000 in
set_option maxHeartbeats 1000000 in
theorem factor_part {w : World} {qb wg : Nat} {s : RSt} (rec : RSt → Nd × RSt) (hrec : RecR qb wg s.ws.length rec) (h : RS w qb wg s) (hb : s.bad = true ∨ isB [45] (nextW s.ws) = false) :
    Calls Tryd.prog 30 #[.pointer (some ⟨qb, 0, none⟩)] w (AftR w qb wg (rPart rec s)) := by
  have HL := Lib.hid (fun (w' : World) (h : RS w' qb wg s) => rpart_c rec hrec h)
  have HP := Lib.hid h
  have hpl := h.lt.2
  have HS0 := Lib.hid (fun o => RRun.start h o)
  obtain ⟨q1, qz⟩ := h.bad
  obtain ⟨b, hbb⟩ : ∃ b, s.bad = b := ⟨_, rfl⟩
  rw [hbb] at q1
  cases b
  · have t0 := fun (w' : World) (h : RS w' qb wg s) => rtake_c h ⟨#[45]⟩ mk_minus
    rw [show isB (⟨#[45]⟩ : ByteArray).data.toList (nextW s.ws) = false from hb.resolve_left (by rw [hbb]; simp)] at t0
    simp only [Bool.false_eq_true, if_false] at t0
    have T0 := Lib.hid t0
    clear h hrec hb hbb t0
    go_enter Tryd.func30, Tryd.ntmps30
    go_wp2_with (first
      | (go_at_call 47; (with_reducible refine (HL.out _ HS1.out.rs).mono ?_); rintro e wf ⟨v, rfl, hv, hs, hc⟩; obtain ⟨op, vk, vi, vb, vt, t, i, p, m, rfl, hvv, hk⟩ := TreeV.parts hv; have HK := Lib.hid (And.intro hvv hk); have HF := Lib.hid (HS1.out.next hs hc); have HSZ := Lib.hid HS1.out.chg.size; obtain ⟨z0, z1, z2, z3, z4, z5, z6, z7, zz⟩ := cellsN (HF.out.first HP.out.lt.2); clear hs hc hvv hk hv)
      | (go_at_call 29; with_reducible refine (T0.out _ (HS0.out _).rs).mono ?_; rintro e w1 ⟨rfl, hs, hc⟩; have HS1 := Lib.hid ((HS0.out _).next hs hc); clear hs hc))
    refine bodyPost_ret (results_cell_row Tryd.results30 _ _ w.heap.size 26 _ (0, 0) _ rfl (putN_at (HF.out.first HP.out.lt.2) _ _ _ _ _ _ _ _) Tryd.underlying26 rfl infoN8) rfl ?_
    have hsz := HSZ.out
    simp only [World.size_alloc] at hsz
    exact ⟨_, rfl, ⟨_, HK.out.1.symm, (HK.out.2.far (putN_chg _ _ _ _ _ _ _ _ _ _) (by omega)).up (by omega)⟩, HF.out.put' HP.out (putN_chg _ _ _ _ _ _ _ _ _ _)⟩
  · clear h hrec hb hbb
    go_enter Tryd.func30, Tryd.ntmps30
    go_wp2_with (go_at_call 47; (with_reducible refine (HL.out _ (HS0.out _).rs).mono ?_); rintro e wf ⟨v, rfl, hv, hs, hc⟩; obtain ⟨op, vk, vi, vb, vt, t, i, p, m, rfl, hvv, hk⟩ := TreeV.parts hv; have HK := Lib.hid (And.intro hvv hk); have HF := Lib.hid ((HS0.out _).next hs hc); obtain ⟨z0, z1, z2, z3, z4, z5, z6, z7, zz⟩ := cellsN (HF.out.first HP.out.lt.2); clear hs hc hvv hk hv)
    refine bodyPost_ret (results_cell_row Tryd.results30 _ _ w.heap.size 26 _ (0, 0) _ rfl (putN_at (HF.out.first HP.out.lt.2) _ _ _ _ _ _ _ _) Tryd.underlying26 rfl infoN8) rfl ?_
    exact ⟨_, rfl, ⟨_, HK.out.1.symm, (HK.out.2.far (putN_chg _ _ _ _ _ _ _ _ _ _) (by simp)).up (by simp)⟩, HF.out.put' HP.out (putN_chg _ _ _ _ _ _ _ _ _ _)⟩

set_option maxRecDepth 100000 in
set_option maxHeartbeats 1000000 in
theorem factor_neg {w : World} {qb wg : Nat} {s : RSt} {q : Nd × RSt} (hrec : ∀ w', RS w' qb wg s.tl → Calls Tryd.prog 30 #[.pointer (some ⟨qb, 0, none⟩)] w' (AftR w' qb wg q)) (h : RS w qb wg s) (hbb : s.bad = false) (hi : isB [45] (nextW s.ws) = true) :
    Calls Tryd.prog 30 #[.pointer (some ⟨qb, 0, none⟩)] w (AftR w qb wg (.un 6 q.1, q.2)) := by
  have HP := Lib.hid h
  have HR := Lib.hid hrec
  have hpl := h.lt.2
  have HS0 := Lib.hid (fun o => RRun.start h o)
  obtain ⟨q1, qz⟩ := h.bad
  rw [hbb] at q1
  have t0 := fun (w' : World) (h : RS w' qb wg s) => rtake_c h ⟨#[45]⟩ mk_minus
  rw [show isB (⟨#[45]⟩ : ByteArray).data.toList (nextW s.ws) = true from hi] at t0
  simp only [if_true] at t0
  have T0 := Lib.hid t0
  clear h hrec hbb t0 hi
  obtain ⟨n, s'⟩ := q
  dsimp only at HR ⊢
  go_enter Tryd.func30, Tryd.ntmps30
  go_wp2_with (first
    | (go_at_call 30; (with_reducible refine (HR.out _ HS1.out.rs).mono ?_); rintro e w2 ⟨v, rfl, hv, hs, hc⟩; obtain ⟨op, vk, vi, vb, vt, t, i, p, m, rfl, hcc, hk⟩ := TreeV.open hv; have HK := Lib.hid (And.intro hcc hk); have HF := Lib.hid (HS1.out.next hs hc); obtain ⟨z0, z1, z2, z3, z4, z5, z6, z7, zz⟩ := cellsN (HF.out.first HP.out.lt.2); have hlt1 := (Array.getElem?_eq_some_iff.1 (HF.out.first HP.out.lt.2)).1; clear hs hc hcc hk hv)
    | (go_at_call 29; with_reducible refine (T0.out _ (HS0.out _).rs).mono ?_; rintro e w1 ⟨rfl, hs, hc⟩; have HS1 := Lib.hid ((HS0.out _).next hs hc); clear hs hc))
  refine bodyPost_ret (results_cell_row Tryd.results30 _ _ w.heap.size 26 _ (0, 0) _ rfl (box_low (HF.out.first HP.out.lt.2) _ _ _ _ _ _ _ _ _) Tryd.underlying26 rfl infoN8) rfl ?_
  have hq := HF.out.put' HP.out (putN_chg w2 w.heap.size (.int .i64 6) (.int .i64 0) (.int .i64 0) (.bool false) (.string ⟨#[]⟩) (.string ⟨#[]⟩) (.int .i64 0) (.slice (some ⟨w2.heap.size, 0, none⟩) 1 1))
  have hsz := HS1.out.chg.size
  have hsz2 := HF.out.chg.size
  simp only [World.size_alloc] at hsz hsz2
  refine ⟨_, rfl, ⟨_, rfl, w2.heap.size, .slice p m m, rfl, (by omega), ?_, ?_⟩, hq.1.box _, hq.2.alloc' _⟩
  · rw [HK.out.1]
    exact kids_top rfl
  · refine ((HK.out.2.far (putN_chg w2 w.heap.size _ _ _ _ _ _ _ _) ?_).below (box_bel' _ _)).up ?_
    · omega
    · omega

theorem rfactor_c {qb wg N : Nat} (rec : RSt → Nd × RSt) (hrec : RecR qb wg N rec) : ∀ (f : Nat) (w : World) (s : RSt), RS w qb wg s → s.ws.length < f → s.ws.length ≤ N →
    Calls Tryd.prog 30 #[.pointer (some ⟨qb, 0, none⟩)] w (AftR w qb wg (rFactor rec f s)) := by
  intro f
  induction f with
  | zero => intro w s h hl; omega
  | succ f ih =>
    intro w s h hl hN
    rw [rFactor]
    by_cases hc : s.bad = false ∧ isB [45] (nextW s.ws) = true
    · rw [if_pos hc]
      have hlt : s.tl.ws.length < s.ws.length := (tail_lft (by simp) hc.2).1
      exact factor_neg (fun w' h' => ih w' s.tl h' (by omega) (by omega)) h hc.1 hc.2
    · rw [if_neg hc]
      refine factor_part rec (hrec.mono hN) h ?_
      by_cases hb : s.bad = true
      · exact .inl hb
      · rw [Bool.not_eq_true] at hb
        exact .inr (by rw [← Bool.not_eq_true]; exact fun hi => hc ⟨hb, hi⟩)
end Go.Proofs.YtikofngogkchfaaDoor

/- The reference's parser: the levels, but for the loop. Written by tools/gengl.py. -/
namespace Go.Proofs.YtikofngogkchfaaDoor
open Go.RowKit
set_option linter.unusedVariables false
set_option linter.unusedSimpArgs false

theorem mk_not : MarkOk (⟨#[110, 111, 116]⟩ : ByteArray).data.toList := ⟨_, _, rfl, .inl rfl⟩
def RecL (qb wg f : Nat) : Prop := ∀ (own : Nat) (w' : World) (s' : RSt), 1 ≤ own → own ≤ 7 → 9 * s'.ws.length + 8 ≤ f + own → RS w' qb wg s' → Calls Tryd.prog 19 #[.pointer (some ⟨qb, 0, none⟩), .int .i64 (own : Nat)] w' (AftR w' qb wg (rLoose f own s'))

set_option maxRecDepth 100000 in
set_option maxHeartbeats 1000000 in
theorem loose_bad {w : World} {qb wg own : Nat} {s : RSt} (h : RS w qb wg s) (hbb : s.bad = true) :
    Calls Tryd.prog 19 #[.pointer (some ⟨qb, 0, none⟩), .int .i64 (own : Nat)] w (AftR w qb wg (zeroNd, s)) := by
  have HP := Lib.hid h
  have hpl := h.lt.2
  obtain ⟨q1, qz⟩ := h.bad
  rw [hbb] at q1
  clear h hbb
  go_enter Tryd.func19, Tryd.ntmps19
  go_wp2_with fail
  refine bodyPost_ret (v := .agg #[.int .i64 0, .int .i64 0, .int .i64 0, .bool false, .string ⟨#[]⟩, .string ⟨#[]⟩, .int .i64 0, .slice none 0 0]) (by simp [results, Tryd.results19, go_sem]) rfl ?_
  exact ⟨_, rfl, ⟨.slice none 0 0, rfl, rfl⟩, HP.out.box _, (Chg.refl [qb] w).alloc' _⟩

set_option maxRecDepth 100000 in
set_option maxHeartbeats 1000000 in
theorem loose_not {w : World} {qb wg : Nat} {s : RSt} {q : Nd × RSt} (hrec : ∀ w', RS w' qb wg s.tl → Calls Tryd.prog 19 #[.pointer (some ⟨qb, 0, none⟩), .int .i64 3] w' (AftR w' qb wg q)) (h : RS w qb wg s) (hbb : s.bad = false) (hi : isB [110, 111, 116] (nextW s.ws) = true) :
    Calls Tryd.prog 19 #[.pointer (some ⟨qb, 0, none⟩), .int .i64 3] w (AftR w qb wg (.un 5 q.1, q.2)) := by
  have HP := Lib.hid h
  have HR := Lib.hid hrec
  have hpl := h.lt.2
  have HS0 := Lib.hid (fun o => RRun.start h o)
  obtain ⟨q1, qz⟩ := h.bad
  rw [hbb] at q1
  have t0 := fun (w' : World) (h : RS w' qb wg s) => rtake_c h ⟨#[110, 111, 116]⟩ mk_not
  rw [show isB (⟨#[110, 111, 116]⟩ : ByteArray).data.toList (nextW s.ws) = true from hi] at t0
  simp only [Bool.false_eq_true, if_true, if_false] at t0
  have T0 := Lib.hid t0
  clear h hrec hbb t0 hi
  obtain ⟨n, s'⟩ := q
  dsimp only at HR ⊢
  go_enter Tryd.func19, Tryd.ntmps19
  go_wp2_with (first
    | (go_at_call 19; (with_reducible refine (HR.out _ HS1.out.rs).mono ?_); rintro e w2 ⟨v, rfl, hv, hs, hc⟩; obtain ⟨op, vk, vi, vb, vt, t, i, p, m, rfl, hcc, hk⟩ := TreeV.open hv; have HK := Lib.hid (And.intro hcc hk); have HF := Lib.hid (HS1.out.next hs hc); obtain ⟨z0, z1, z2, z3, z4, z5, z6, z7, zz⟩ := cellsN (HF.out.first HP.out.lt.2); have hlt1 := (Array.getElem?_eq_some_iff.1 (HF.out.first HP.out.lt.2)).1; clear hs hc hcc hk hv)
    | (go_at_call 29; with_reducible refine (T0.out _ (HS0.out _).rs).mono ?_; rintro e w1 ⟨rfl, hs, hc⟩; have HS1 := Lib.hid ((HS0.out _).next hs hc); clear hs hc))
  refine bodyPost_ret (results_cell_row Tryd.results19 _ _ w.heap.size 26 _ (0, 0) _ rfl (box_low (HF.out.first HP.out.lt.2) _ _ _ _ _ _ _ _ _) Tryd.underlying26 rfl infoN8) rfl ?_
  have hq := HF.out.put' HP.out (putN_chg w2 w.heap.size (.int .i64 5) (.int .i64 0) (.int .i64 0) (.bool false) (.string ⟨#[]⟩) (.string ⟨#[]⟩) (.int .i64 0) (.slice (some ⟨w2.heap.size, 0, none⟩) 1 1))
  have hsz := HS1.out.chg.size
  have hsz2 := HF.out.chg.size
  simp only [World.size_alloc] at hsz hsz2
  refine ⟨_, rfl, ⟨_, rfl, w2.heap.size, .slice p m m, rfl, (by omega), ?_, ?_⟩, hq.1.box _, hq.2.alloc' _⟩
  · rw [HK.out.1]
    exact kids_top rfl
  · refine ((HK.out.2.far (putN_chg w2 w.heap.size _ _ _ _ _ _ _ _) ?_).below (box_bel' _ _)).up ?_
    · omega
    · omega

set_option maxRecDepth 100000 in
set_option maxHeartbeats 1000000 in
theorem loose_four {w : World} {qb wg : Nat} {s : RSt} {q : Nd × RSt} (hrec : ∀ w', RS w' qb wg s → Calls Tryd.prog 19 #[.pointer (some ⟨qb, 0, none⟩), .int .i64 4] w' (AftR w' qb wg q)) (h : RS w qb wg s) (hbb : s.bad = false) (hi : isB [110, 111, 116] (nextW s.ws) = false) :
    Calls Tryd.prog 19 #[.pointer (some ⟨qb, 0, none⟩), .int .i64 3] w (AftR w qb wg q) := by
  have HP := Lib.hid h
  have HR := Lib.hid hrec
  have hpl := h.lt.2
  have HS0 := Lib.hid (fun o => RRun.start h o)
  obtain ⟨q1, qz⟩ := h.bad
  rw [hbb] at q1
  have t0 := fun (w' : World) (h : RS w' qb wg s) => rtake_c h ⟨#[110, 111, 116]⟩ mk_not
  rw [show isB (⟨#[110, 111, 116]⟩ : ByteArray).data.toList (nextW s.ws) = false from hi] at t0
  simp only [Bool.false_eq_true, if_true, if_false] at t0
  have T0 := Lib.hid t0
  clear h hrec hbb t0 hi
  go_enter Tryd.func19, Tryd.ntmps19
  go_wp2_with (first
    | (go_at_call 19; (with_reducible refine (HR.out _ HS1.out.rs).mono ?_); rintro e w2 ⟨v, rfl, hv, hs, hc⟩; obtain ⟨op, vk, vi, vb, vt, t, i, p, m, rfl, hvv, hk⟩ := TreeV.parts hv; have HK := Lib.hid (And.intro hvv hk); have HF := Lib.hid (HS1.out.next hs hc); have HSZ := Lib.hid HS1.out.chg.size; obtain ⟨z0, z1, z2, z3, z4, z5, z6, z7, zz⟩ := cellsN (HF.out.first HP.out.lt.2); clear hs hc hvv hk hv)
    | (go_at_call 29; with_reducible refine (T0.out _ (HS0.out _).rs).mono ?_; rintro e w1 ⟨rfl, hs, hc⟩; have HS1 := Lib.hid ((HS0.out _).next hs hc); clear hs hc))
  refine bodyPost_ret (results_cell_row Tryd.results19 _ _ w.heap.size 26 _ (0, 0) _ rfl (putN_at (HF.out.first HP.out.lt.2) _ _ _ _ _ _ _ _) Tryd.underlying26 rfl infoN8) rfl ?_
  have hsz := HSZ.out
  simp only [World.size_alloc] at hsz
  exact ⟨_, rfl, ⟨_, HK.out.1.symm, (HK.out.2.far (putN_chg _ _ _ _ _ _ _ _ _ _) (by omega)).up (by omega)⟩, HF.out.put' HP.out (putN_chg _ _ _ _ _ _ _ _ _ _)⟩

set_option maxRecDepth 100000 in
set_option maxHeartbeats 1000000 in
theorem loose_seven {w : World} {qb wg : Nat} {s : RSt} {q : Nd × RSt} (hrec : ∀ w', RS w' qb wg s → Calls Tryd.prog 30 #[.pointer (some ⟨qb, 0, none⟩)] w' (AftR w' qb wg q)) (h : RS w qb wg s) (hbb : s.bad = false) :
    Calls Tryd.prog 19 #[.pointer (some ⟨qb, 0, none⟩), .int .i64 7] w (AftR w qb wg q) := by
  have HP := Lib.hid h
  have HR := Lib.hid hrec
  have hpl := h.lt.2
  have HS0 := Lib.hid (fun o => RRun.start h o)
  obtain ⟨q1, qz⟩ := h.bad
  rw [hbb] at q1
  clear h hrec hbb
  go_enter Tryd.func19, Tryd.ntmps19
  go_wp2_with (go_at_call 30; (with_reducible refine (HR.out _ (HS0.out _).rs).mono ?_); rintro e w2 ⟨v, rfl, hv, hs, hc⟩; obtain ⟨op, vk, vi, vb, vt, t, i, p, m, rfl, hvv, hk⟩ := TreeV.parts hv; have HK := Lib.hid (And.intro hvv hk); have HF := Lib.hid ((HS0.out _).next hs hc); have HSZ := Lib.hid (HS0.out (.cells #[] 0)).chg.size; obtain ⟨z0, z1, z2, z3, z4, z5, z6, z7, zz⟩ := cellsN (HF.out.first HP.out.lt.2); clear hs hc hvv hk hv)
  refine bodyPost_ret (results_cell_row Tryd.results19 _ _ w.heap.size 26 _ (0, 0) _ rfl (putN_at (HF.out.first HP.out.lt.2) _ _ _ _ _ _ _ _) Tryd.underlying26 rfl infoN8) rfl ?_
  exact ⟨_, rfl, ⟨_, HK.out.1.symm, (HK.out.2.far (putN_chg _ _ _ _ _ _ _ _ _ _) (by simp)).up (by simp)⟩, HF.out.put' HP.out (putN_chg _ _ _ _ _ _ _ _ _ _)⟩

end Go.Proofs.YtikofngogkchfaaDoor

/- The reference's parser: the loop of a level. Written by tools/genlu.py. -/
namespace Go.Proofs.YtikofngogkchfaaDoor
open Go.RowKit
set_option linter.unusedVariables false
set_option linter.unusedSimpArgs false

def LoopR (w : World) (qb wg bn : Nat) (rec : RSt → Nd × RSt) (own N : Nat) (R : Nd × RSt) (v : Value) (wr : World) : Prop :=
  ∃ (n : Nd) (s : RSt) (g : Nat) (op vk vi : Int) (vb : Bool) (vt t : ByteArray) (i : Int) (p : Option Addr) (m : Nat),
    v = .int .i64 (opF (own - 1) 2 (nextW s.ws) : Nat) ∧
    wr.heap[bn]? = some (.cells #[.int .i64 op, .int .i64 vk, .int .i64 vi, .bool vb, .string vt, .string t, .int .i64 i, .slice p m m] 26 (0, 0)) ∧
    n.cells (.slice p m m) = [.int .i64 op, .int .i64 vk, .int .i64 vi, .bool vb, .string vt, .string t, .int .i64 i, .slice p m m] ∧
    KidsAt wr (fun g => w.heap.size < g ∧ g ≠ bn) n (.slice p m m) ∧ RRun (w.alloc (.cells nodeZ 26)) qb wg s wr ∧ rLoop rec own g n s = R ∧ s.ws.length < g ∧ s.ws.length ≤ N
theorem rLoop_end {rec : RSt → Nd × RSt} {own g : Nat} {n : Nd} {s : RSt} (h : opF (own - 1) 2 (nextW s.ws) = 0 ∨ s.bad = true) : rLoop rec own g n s = (n, s) := by
  cases g with
  | zero => rfl
  | succ g =>
    rw [rLoop, if_neg]
    rintro ⟨h1, h2⟩
    rcases h with h | h
    · exact h1 h
    · rw [h2] at h; cases h
theorem rLoop_last {rec : RSt → Nd × RSt} {g : Nat} {n : Nd} {s : RSt} (hg : s.ws.length < g) (h : opF 3 2 (nextW s.ws) ≠ 0) (hb : s.bad = false) : rLoop rec 4 g n s = (.bin (opF 3 2 (nextW s.ws)) n (rec s.tl).1, (rec s.tl).2) := by
  obtain ⟨g, rfl⟩ : ∃ k, g = k + 1 := ⟨g - 1, by omega⟩
  rw [rLoop, if_pos ⟨h, hb⟩, if_pos rfl]
theorem rLoop_next {rec : RSt → Nd × RSt} {own g : Nat} {n : Nd} {s : RSt} (h : opF (own - 1) 2 (nextW s.ws) ≠ 0) (hb : s.bad = false) (h4 : own ≠ 4) : rLoop rec own (g + 1) n s = rLoop rec own g (.bin (opF (own - 1) 2 (nextW s.ws)) n (rec s.tl).1) (rec s.tl).2 := by
  rw [rLoop, if_pos ⟨h, hb⟩, if_neg h4]
theorem wrap_own {own : Nat} (h : own < 7) : RowKit.wrap64 ((own : Int) + 1) = (own : Int) + 1 := by unfold RowKit.wrap64; omega
theorem wrap_own' {own : Nat} (h : own < 7) : IntKind.i64.wrap ((own : Int) + 1) = (own : Int) + 1 := wrap_lv h

theorem bdN {B : Nat} {a w : World} (h : Below B a w) (n : Nat) : Below B a (w.drewN n) := ⟨h.os, h.tape, h.output, h.size, h.block⟩
/-- One box. -/
def OneB (w : World) (b : Nat) (o : Obj) : Prop := w.heap[b]? = some o
theorem OneB.drew {w : World} {b : Nat} {o : Obj} (h : OneB w b o) : OneB w.drew b o := h
theorem OneB.below {w w' : World} {b : Nat} {o : Obj} (h : OneB w b o) (hb : Below w.heap.size w w') : OneB w' b o := (hb.block _ (Array.getElem?_eq_some_iff.1 h).1).trans h
theorem OneB.drewN {w : World} {b : Nat} {o : Obj} (h : OneB w b o) (k : Nat) : OneB (w.drewN k) b o := h.below (bdN (Below.refl _ _) _)
theorem OneB.alloc {w : World} {b : Nat} {o : Obj} (h : OneB w b o) (x : Obj) : OneB (w.alloc x) b o := h.below (box_bel' _ _)
theorem RRun.drew {w0 w : World} {qb wg : Nat} {s : RSt} (h : RRun w0 qb wg s w) : RRun w0 qb wg s w.drew := h.below (below_drew1 w)
theorem RRun.drewN {w0 w : World} {qb wg : Nat} {s : RSt} (h : RRun w0 qb wg s w) (k : Nat) : RRun w0 qb wg s (w.drewN k) := h.below (bdN (Below.refl _ _) _)
theorem one_cells {W : World} {b : Nat} {c0 c1 c2 c3 c4 c5 c6 c7 : Value} {T' : TypeId} (h : OneB W b (.cells #[c0, c1, c2, c3, c4, c5, c6, c7] T' (0, 0))) :
    W.cell? ⟨b, 0, none⟩ = some c0 ∧ W.cell? ⟨b, 1, none⟩ = some c1 ∧ W.cell? ⟨b, 2, none⟩ = some c2 ∧ W.cell? ⟨b, 3, none⟩ = some c3 ∧ W.cell? ⟨b, 4, none⟩ = some c4 ∧ W.cell? ⟨b, 5, none⟩ = some c5 ∧ W.cell? ⟨b, 6, none⟩ = some c6 ∧ W.cell? ⟨b, 7, none⟩ = some c7 := by
  obtain ⟨h0, h1, h2, h3, h4, h5, h6, h7, _⟩ := cellsN h
  exact ⟨h0, h1, h2, h3, h4, h5, h6, h7⟩

set_option maxRecDepth 100000 in
set_option maxHeartbeats 2000000 in
theorem loose_loop {w : World} {qb wg f own : Nat} {s : RSt} (hrec : RecL qb wg f) (h : RS w qb wg s) (hbb : s.bad = false) (h1 : 1 ≤ own) (h7 : own < 7) (h3 : own ≠ 3) (hf : 9 * s.ws.length + 8 ≤ f + 1 + own) :
    Calls Tryd.prog 19 #[.pointer (some ⟨qb, 0, none⟩), .int .i64 (own : Nat)] w (AftR w qb wg (rLoop (rLoose f (own + 1)) own ((rLoose f (own + 1) s).2.ws.length + 1) (rLoose f (own + 1) s).1 (rLoose f (own + 1) s).2)) := by
  have HT := Lib.hid (fun (w' : World) (h : RS w' qb wg s) => hrec (own + 1) w' s (by omega) (by omega) (by omega) h)
  have HR := Lib.hid (fun (w' : World) (s' : RSt) (hl : s'.ws.length < s.ws.length) (h : RS w' qb wg s') => hrec (own + 1) w' s' (by omega) (by omega) (by omega) h)
  have HP := Lib.hid h
  have hpl := h.lt.2
  have HS0 := Lib.hid (fun o => RRun.start h o)
  obtain ⟨q1, qz⟩ := h.bad
  rw [hbb] at q1
  have t3 : ((own : Int) == 3) = false := by simp; omega
  have t7 : ((own : Int) == 7) = false := by simp; omega
  have hle := rLoose_le f (own + 1) s
  obtain ⟨Q, hQ⟩ : ∃ Q, rLoose f (own + 1) s = Q := ⟨_, rfl⟩
  rw [hQ] at HT hle ⊢
  obtain ⟨n, s1⟩ := Q
  dsimp only at HT hle ⊢
  have HLEN := Lib.hid hle
  obtain ⟨R, hR⟩ : ∃ R, R = rLoop (rLoose f (own + 1)) own (s1.ws.length + 1) n s1 := ⟨_, rfl⟩
  have HRR := Lib.hid hR
  rw [← hR]
  have HOPC := Lib.hid (fun (w' : World) (s' : RSt) (h : RS w' qb wg s') => roperator_c h own h1 (by omega))
  have hwr := wrap_own h7
  have hwr' := wrap_own' h7
  clear h hrec hle hR hQ hbb hf
  go_enter Tryd.func19, Tryd.ntmps19
  go_wp2_with (first
    | (go_at_call 31; refine (HOPC.out _ _ (HS2.out.box _).rs).mono ?_; rintro e w3 ⟨rfl, hb⟩; have HB3 := Lib.hid hb; clear hb)
    | (go_at_call 19; refine (HT.out _ (HS0.out _).rs).mono ?_; rintro e w2 ⟨v, rfl, hv, hs, hc⟩; obtain ⟨op, vk, vi, vb, vt, t, i, p, m, rfl, hcc, hk⟩ := TreeV.open hv; have HK := Lib.hid (And.intro hcc hk); have HS2 := Lib.hid ((HS0.out _).next hs hc); clear hs hc hcc hk hv))
  have HI0 := Lib.hid (show LoopR w qb wg w2.heap.size (rLoose f (own + 1)) own s1.ws.length R (.int .i64 (opF (own - 1) 2 (nextW s1.ws) : Nat)) w3 from
    ⟨n, s1, s1.ws.length + 1, op, vk, vi, vb, vt, t, i, p, m, rfl, (HB3.out.block w2.heap.size (by simp)).trans (heap_alloc_new _ _), HK.out.1, ((HK.out.2.mono (fun g hg hlt => by simp at hg; omega)).below (box_bel' _ _)).below HB3.out, (HS2.out.box _).below HB3.out, HRR.out.symm, by omega, Nat.le_refl _⟩)
  have HBN := Lib.hid (show w.heap.size < w2.heap.size from by have := HS2.out.chg.size; simp at this; omega)
  clear HT HS0 HK HS2 HRR HB3
  go_loopw [6] (fun v wr => LoopR w qb wg w2.heap.size (rLoose f (own + 1)) own s1.ws.length R v wr) (fun _ wr => lenAt wr qb)
  case atStart => exact HI0.out
  case round =>
    obtain ⟨n', s', g, op', vk', vi', vb', vt', t', i', p', m', rfl, hbn, hcells, hkids, hrun, hloop, hg, hN⟩ := hrel
    have HRUN := Lib.hid hrun
    have HBNB := Lib.hid hbn
    have HKK := Lib.hid (And.intro hcells hkids)
    have hbl : w2.heap.size < wr.heap.size := (Array.getElem?_eq_some_iff.1 hbn).1
    have HBL := Lib.hid hbl
    have HNE := Lib.hid (show w2.heap.size ≠ qb from by have := HP.out.lt.2; have := HBN.out; omega)
    have HKP := Lib.hid (show ∀ g, (w.heap.size < g ∧ g ≠ w2.heap.size) → g ∉ [qb] from fun g hg => by have := HP.out.lt.2; simp; omega)
    obtain ⟨r1, rz⟩ := hrun.rs.bad
    obtain ⟨b, hb⟩ : ∃ b, s'.bad = b := ⟨_, rfl⟩
    rw [hb] at r1
    obtain ⟨o, ho⟩ : ∃ o, o = opF (own - 1) 2 (nextW s'.ws) := ⟨_, rfl⟩
    rw [← ho]
    by_cases hend : o = 0 ∨ b = true
    · have HRES := Lib.hid (show (n', s') = R from by rw [← hloop, rLoop_end]; rw [← ho, hb]; exact hend)
      obtain ⟨b0, b1, b2, b3, b4, b5, b6, b7, bz⟩ := cellsN hbn
      obtain ⟨z0, z1, z2, z3, z4, z5, z6, z7, zz⟩ := cellsN (hrun.first HP.out.lt.2)
      have hl1 := (Array.getElem?_eq_some_iff.1 (hrun.first HP.out.lt.2)).1
      have hgt : decide ((0 : Int) < (o : Nat)) = false ∨ b = true := by
        rcases hend with h | h
        · left; subst h; rfl
        · exact .inr h
      clear hrun hbn hcells hkids hloop hg hN hb bz ho hend
      by_cases hg0 : decide ((0 : Int) < (o : Nat)) = false
      · clear hgt
        have hgN : decide (0 < o) = false := by simpa using hg0
        have hgM : ¬ 0 < o := by simpa using hg0
        go_wp2_with fail
        refine bodyPost_ret (results_cell_row Tryd.results19 _ _ w.heap.size 26 _ (0, 0) _ rfl (putN_at (HRUN.out.first HP.out.lt.2) _ _ _ _ _ _ _ _) Tryd.underlying26 rfl infoN8) rfl ?_
        rw [← HRES.out]
        exact ⟨_, rfl, ⟨.slice p' m' m', by unfold Nd.val; rw [HKK.out.1], (HKK.out.2.chg (putN_chg wr w.heap.size _ _ _ _ _ _ _ _) (fun g hg => by simp; omega)).mono fun g hg _ => by omega⟩, HRUN.out.put' HP.out (putN_chg _ _ _ _ _ _ _ _ _ _)⟩
      · obtain rfl : b = true := hgt.resolve_left hg0
        rw [Bool.not_eq_false] at hg0
        have hgN : decide (0 < o) = true := by simpa using hg0
        have hgM : 0 < o := by simpa using hg0
        clear hgt
        go_wp2_with fail
        refine bodyPost_ret (results_cell_row Tryd.results19 _ _ w.heap.size 26 _ (0, 0) _ rfl (putN_at (HRUN.out.first HP.out.lt.2) _ _ _ _ _ _ _ _) Tryd.underlying26 rfl infoN8) rfl ?_
        rw [← HRES.out]
        exact ⟨_, rfl, ⟨.slice p' m' m', by unfold Nd.val; rw [HKK.out.1], (HKK.out.2.chg (putN_chg wr w.heap.size _ _ _ _ _ _ _ _) (fun g hg => by simp; omega)).mono fun g hg _ => by omega⟩, HRUN.out.put' HP.out (putN_chg _ _ _ _ _ _ _ _ _ _)⟩
    · have ho0 : o ≠ 0 := fun h => hend (.inl h)
      obtain rfl : b = false := by cases b; · rfl
                                   · exact absurd (.inr rfl) hend
      have hgt : decide ((0 : Int) < (o : Nat)) = true := decide_eq_true (by omega)
      have hgN : decide (0 < o) = true := decide_eq_true (by omega)
      have hgM : 0 < o := by omega
      have hop : opF (own - 1) 2 (nextW s'.ws) ≠ 0 := by rw [← ho]; exact ho0
      have hlft := op_lft hop
      obtain ⟨x, r, off, cap, hr, hx, c1, c2, k1, k2, hz, _, _, _⟩ := hrun.rs.first
      have htl : s'.ws.tail = r := by rw [hr]; rfl
      rw [htl] at hlft
      have hok := hlft.2 hrun.rs.ok
      have hrun2 : RRun (w.alloc (.cells nodeZ 26)) qb wg ⟨false, x :: r⟩ wr := by rw [← hr, ← hb]; exact hrun
      have HFS := Lib.hid (hrun2.step hok c1)
      have HST := Lib.hid (show s'.tl = ⟨false, r⟩ from by unfold RSt.tl; rw [hr, hb]; rfl)
      have hp := hok.ne
      have hlt : 1 < cap := by omega
      have hlt' : 1 ≠ cap := by omega
      have hsl : (1 : Int) ≤ (r.length : Int) + 1 := by omega
      have hlr : r.length < s'.ws.length := hlft.1
      have HT2 := Lib.hid (fun (w' : World) (h : RS w' qb wg ⟨false, r⟩) => HR.out w' ⟨false, r⟩ (by have := HLEN.out; show r.length < _; omega) h)
      obtain ⟨Q2, hQ2⟩ : ∃ Q, rLoose f (own + 1) ⟨false, r⟩ = Q := ⟨_, rfl⟩
      rw [hQ2] at HT2
      have hml := rLoose_le f (own + 1) ⟨false, r⟩
      rw [hQ2] at hml
      obtain ⟨m2, s2⟩ := Q2
      dsimp only at HT2 hml
      obtain ⟨g, rfl⟩ : ∃ k, g = k + 1 := ⟨g - 1, by omega⟩
      have HLAST := Lib.hid (fun (h4 : own = 4) => show ((.bin (o : Nat) n' m2, s2) : Nd × RSt) = R from by
        rw [← hloop]; subst h4
        rw [rLoop_last hg hop hb, HST.out, hQ2, ← ho])
      have HNEXT := Lib.hid (fun (h4 : own ≠ 4) => show rLoop (rLoose f (own + 1)) own g (.bin (o : Nat) n' m2) s2 = R from by
        rw [← hloop, rLoop_next hop hb h4, HST.out, hQ2, ← ho])
      have HLN := Lib.hid (And.intro (show s2.ws.length < g by omega) (show s2.ws.length < s'.ws.length ∧ s'.ws.length ≤ s1.ws.length from ⟨by omega, hN⟩))
      have HMS := Lib.hid hrun.rs.lenAt
      have HNQ := Lib.hid (fun (u : Value) => (Below.heap_setCell wr ⟨qb, 0, none⟩ u w2.heap.size HNE.out).trans hbn)
      have HKQ3 := Lib.hid (fun (u : Value) => hkids.chg ((Chg.refl [qb] wr).set' qb 0 u (.inl (by simp))) HKP.out)
      clear hrun hbn hcells hkids hloop hg hN hb ho hend hop hlft hx htl hok hrun2 hlr hml hQ2 hbl k2 ho0 hr
      go_wp2_with fail
      obtain ⟨w3, hw3⟩ : ∃ X, X = wr.setCell ⟨qb, 0, none⟩ (.slice (some ⟨wg, off + 3, none⟩) r.length (cap - 1)) := ⟨_, rfl⟩
      rw [← hw3]
      have hf3 := HFS.out
      have hq3 := HNQ.out (.slice (some ⟨wg, off + 3, none⟩) r.length (cap - 1))
      have hk3 := HKQ3.out (.slice (some ⟨wg, off + 3, none⟩) r.length (cap - 1))
      rw [← hw3] at hf3 hq3 hk3
      have HF := Lib.hid hf3
      have HQ3 := Lib.hid (show OneB w3 w2.heap.size (.cells #[.int .i64 op', .int .i64 vk', .int .i64 vi', .bool vb', .string vt', .string t', .int .i64 i', .slice p' m' m'] 26 (0, 0)) from hq3)
      have HK3 := Lib.hid hk3
      have HBL3 := Lib.hid (show w2.heap.size < w3.heap.size from (Array.getElem?_eq_some_iff.1 hq3).1)
      have hl2 := HBL3.out
      have HKQ := Lib.hid (fun (W : World) (hW : OneB W w2.heap.size (.cells #[.int .i64 op', .int .i64 vk', .int .i64 vi', .bool vb', .string vt', .string t', .int .i64 i', .slice p' m' m'] 26 (0, 0))) => one_cells hW)
      clear hf3 hq3 hk3 hw3 HFS HNQ HKQ3 r1 rz c1 c2 hz hp hlt hlt' hsl k1 hgt hgN hgM q1 qz
      refine wp_region_cut (S := (fun w' => w'.cell? ⟨w2.heap.size, 0, none⟩ = some (.int .i64 op') ∧ w'.cell? ⟨w2.heap.size, 1, none⟩ = some (.int .i64 vk') ∧ w'.cell? ⟨w2.heap.size, 2, none⟩ = some (.int .i64 vi') ∧ w'.cell? ⟨w2.heap.size, 3, none⟩ = some (.bool vb') ∧ w'.cell? ⟨w2.heap.size, 4, none⟩ = some (.string vt') ∧ w'.cell? ⟨w2.heap.size, 5, none⟩ = some (.string t') ∧ w'.cell? ⟨w2.heap.size, 6, none⟩ = some (.int .i64 i') ∧ w'.cell? ⟨w2.heap.size, 7, none⟩ = some (.slice p' m' m'))) 8 (by kernel_rfl) (by kernel_rfl) ?_ (fun hHeld => ?_)
      · (try dsimp only)
        (first
              | with_reducible exact HKQ.out _ HQ3.out
              | with_reducible exact HKQ.out _ HQ3.out.drew
              | with_reducible exact HKQ.out _ (HQ3.out.drewN _)
              | with_reducible exact HKQ.out _ (HQ3.out.drewN _).drew
              | with_reducible exact HKQ.out _ HQ4.out
              | with_reducible exact HKQ.out _ HQ4.out.drew
              | with_reducible exact HKQ.out _ (HQ4.out.drewN _)
              | with_reducible exact HKQ.out _ (HQ4.out.alloc _)
              | with_reducible exact HKQ.out _ (HQ4.out.alloc _).drew
              | with_reducible exact HKQ.out _ (HQ4.out.drew.alloc _)
              | with_reducible exact HKQ.out _ ((HQ4.out.drewN _).alloc _))
      simp only [List.take_succ_cons, List.take_zero]
      (try dsimp only at hHeld)
      all_goals (repeat (first
             | (refine wpAnyH_take (i := 0) (v := ?_) rfl (by decide +kernel) (by decide +kernel) (by decide +kernel) (fun _ _ _ h => h) (Or.inl ⟨by rfl, ?_⟩) (by assumption) ?_; rotate_left 1; (focus (intro w hSw; (try dsimp only at hSw); (try simp only [List.getElem_toArray, List.getElem_cons_zero]); first | (go_simp; done) | (go_simp; with_reducible rfl))); (try simp only [Act.put, List.getElem_toArray, List.getElem_cons_zero, List.setIfInBounds_toArray, List.set_cons_zero, List.set_cons_succ]))
             | (refine wpAnyH_take (i := 1) (v := ?_) rfl (by decide +kernel) (by decide +kernel) (by decide +kernel) (fun _ _ _ h => h) (Or.inl ⟨by rfl, ?_⟩) (by assumption) ?_; rotate_left 1; (focus (intro w hSw; (try dsimp only at hSw); (try simp only [List.getElem_toArray, List.getElem_cons_succ, List.getElem_cons_zero]); first | (go_simp; done) | (go_simp; with_reducible rfl))); (try simp only [Act.put, List.getElem_toArray, List.getElem_cons_succ, List.getElem_cons_zero, List.setIfInBounds_toArray, List.set_cons_zero, List.set_cons_succ]))
             | (refine wpAnyH_take (i := 2) (v := ?_) rfl (by decide +kernel) (by decide +kernel) (by decide +kernel) (fun _ _ _ h => h) (Or.inl ⟨by rfl, ?_⟩) (by assumption) ?_; rotate_left 1; (focus (intro w hSw; (try dsimp only at hSw); (try simp only [List.getElem_toArray, List.getElem_cons_succ, List.getElem_cons_zero]); first | (go_simp; done) | (go_simp; with_reducible rfl))); (try simp only [Act.put, List.getElem_toArray, List.getElem_cons_succ, List.getElem_cons_zero, List.setIfInBounds_toArray, List.set_cons_zero, List.set_cons_succ]))
             | (refine wpAnyH_take (i := 3) (v := ?_) rfl (by decide +kernel) (by decide +kernel) (by decide +kernel) (fun _ _ _ h => h) (Or.inl ⟨by rfl, ?_⟩) (by assumption) ?_; rotate_left 1; (focus (intro w hSw; (try dsimp only at hSw); (try simp only [List.getElem_toArray, List.getElem_cons_succ, List.getElem_cons_zero]); first | (go_simp; done) | (go_simp; with_reducible rfl))); (try simp only [Act.put, List.getElem_toArray, List.getElem_cons_succ, List.getElem_cons_zero, List.setIfInBounds_toArray, List.set_cons_zero, List.set_cons_succ]))
             | (refine wpAnyH_take (i := 4) (v := ?_) rfl (by decide +kernel) (by decide +kernel) (by decide +kernel) (fun _ _ _ h => h) (Or.inl ⟨by rfl, ?_⟩) (by assumption) ?_; rotate_left 1; (focus (intro w hSw; (try dsimp only at hSw); (try simp only [List.getElem_toArray, List.getElem_cons_succ, List.getElem_cons_zero]); first | (go_simp; done) | (go_simp; with_reducible rfl))); (try simp only [Act.put, List.getElem_toArray, List.getElem_cons_succ, List.getElem_cons_zero, List.setIfInBounds_toArray, List.set_cons_zero, List.set_cons_succ]))
             | (refine wpAnyH_take (i := 7) (v := ?_) rfl (by decide +kernel) (by decide +kernel) (by decide +kernel) (fun _ _ _ h => h) (Or.inl ⟨by rfl, ?_⟩) (by assumption) ?_; rotate_left 1; (focus (intro w hSw; (try dsimp only at hSw); (try simp only [List.getElem_toArray, List.getElem_cons_succ, List.getElem_cons_zero]); first | (go_simp; done) | (go_simp; with_reducible rfl))); (try simp only [Act.put, List.getElem_toArray, List.getElem_cons_succ, List.getElem_cons_zero, List.setIfInBounds_toArray, List.set_cons_zero, List.set_cons_succ]))
             | fail "nothing to take"))
      iterate 2 (all_goals (
        (first
          | (refine wpAnyH_ready (rs := [5]) (by decide +kernel) (by simp) ?_; refine (AllReadyH.cons rfl (fun Kx hKx => ?_) AllReadyH.nil))
          | (refine wpAnyH_ready (rs := [6]) (by decide +kernel) (by simp) ?_; refine (AllReadyH.cons rfl (fun Kx hKx => ?_) AllReadyH.nil)))
        all_goals (
          first
            | ((try simp only [List.getElem_toArray, List.getElem_cons_succ, List.getElem_cons_zero]); go_simp; go_at_call 19; refine (HT2.out _ (by first | with_reducible exact HF.out.rs | with_reducible exact HF.out.drew.rs | with_reducible exact (HF.out.drewN _).rs | with_reducible exact (HF.out.drewN _).drew.rs)).mono ?_; rintro e w4 ⟨v, rfl, hv, hs, hc0⟩; have hc : Chg [qb] w3 w4 := (by first | with_reducible exact hc0 | with_reducible exact ((Chg.refl [qb] _).drew').trans hc0 | with_reducible exact (Chg.of_below (bdN (Below.refl _ _) _)).trans hc0 | with_reducible exact (Chg.of_below (bdN (Below.refl _ _) _).drew).trans hc0); obtain ⟨op2, vk2, vi2, vb2, vt2, t2, i2, p2, q2, rfl, hcc, hk⟩ := TreeV.open hv; have HK4 := Lib.hid (And.intro hcc (show KidsAt w4 (fun g => w3.heap.size ≤ g) m2 (.slice p2 q2 q2) from hk.mono (fun g hg _ => by first | exact hg | (simp at hg; omega)))); have HF4 := Lib.hid (HF.out.next hs hc); have HKN := Lib.hid (HK3.out.chg hc HKP.out); have HQ4 := Lib.hid (show OneB w4 w2.heap.size (.cells #[.int .i64 op', .int .i64 vk', .int .i64 vi', .bool vb', .string vt', .string t', .int .i64 i', .slice p' m' m'] 26 (0, 0)) from (hc.block w2.heap.size HBL3.out (by simp; exact HNE.out)).trans HQ3.out); have HS4 := Lib.hid hc.size; obtain ⟨d0, d1, d2, d3, d4, d5, d6, d7, dz⟩ := cellsN HQ4.out; have hl4 : w2.heap.size < w4.heap.size := (Array.getElem?_eq_some_iff.1 HQ4.out).1; clear hs hc hc0 hcc hk hv; (try dsimp only))
            | ((try simp only [List.getElem_toArray, List.getElem_cons_succ, List.getElem_cons_zero]); go_simp)
          refine hKx.out _ _ ?_ (fun hHeld => ?_)
          · (try dsimp only)
            (first
                  | with_reducible exact HKQ.out _ HQ3.out
                  | with_reducible exact HKQ.out _ HQ3.out.drew
                  | with_reducible exact HKQ.out _ (HQ3.out.drewN _)
                  | with_reducible exact HKQ.out _ (HQ3.out.drewN _).drew
                  | with_reducible exact HKQ.out _ HQ4.out
                  | with_reducible exact HKQ.out _ HQ4.out.drew
                  | with_reducible exact HKQ.out _ (HQ4.out.drewN _)
                  | with_reducible exact HKQ.out _ (HQ4.out.alloc _)
                  | with_reducible exact HKQ.out _ (HQ4.out.alloc _).drew
                  | with_reducible exact HKQ.out _ (HQ4.out.drew.alloc _)
                  | with_reducible exact HKQ.out _ ((HQ4.out.drewN _).alloc _))
          (try dsimp only at hHeld)
          clear hKx Kx
          (try simp only [Act.put, List.getElem_toArray, List.getElem_cons_succ, List.getElem_cons_zero, List.setIfInBounds_toArray, List.set_cons_zero, List.set_cons_succ])
          repeat (first
             | (refine wpAnyH_take (i := 0) (v := ?_) rfl (by decide +kernel) (by decide +kernel) (by decide +kernel) (fun _ _ _ h => h) (Or.inl ⟨by rfl, ?_⟩) (by assumption) ?_; rotate_left 1; (focus (intro w hSw; (try dsimp only at hSw); (try simp only [List.getElem_toArray, List.getElem_cons_zero]); first | (go_simp; done) | (go_simp; with_reducible rfl))); (try simp only [Act.put, List.getElem_toArray, List.getElem_cons_zero, List.setIfInBounds_toArray, List.set_cons_zero, List.set_cons_succ]))
             | (refine wpAnyH_take (i := 1) (v := ?_) rfl (by decide +kernel) (by decide +kernel) (by decide +kernel) (fun _ _ _ h => h) (Or.inl ⟨by rfl, ?_⟩) (by assumption) ?_; rotate_left 1; (focus (intro w hSw; (try dsimp only at hSw); (try simp only [List.getElem_toArray, List.getElem_cons_succ, List.getElem_cons_zero]); first | (go_simp; done) | (go_simp; with_reducible rfl))); (try simp only [Act.put, List.getElem_toArray, List.getElem_cons_succ, List.getElem_cons_zero, List.setIfInBounds_toArray, List.set_cons_zero, List.set_cons_succ]))
             | (refine wpAnyH_take (i := 2) (v := ?_) rfl (by decide +kernel) (by decide +kernel) (by decide +kernel) (fun _ _ _ h => h) (Or.inl ⟨by rfl, ?_⟩) (by assumption) ?_; rotate_left 1; (focus (intro w hSw; (try dsimp only at hSw); (try simp only [List.getElem_toArray, List.getElem_cons_succ, List.getElem_cons_zero]); first | (go_simp; done) | (go_simp; with_reducible rfl))); (try simp only [Act.put, List.getElem_toArray, List.getElem_cons_succ, List.getElem_cons_zero, List.setIfInBounds_toArray, List.set_cons_zero, List.set_cons_succ]))
             | (refine wpAnyH_take (i := 3) (v := ?_) rfl (by decide +kernel) (by decide +kernel) (by decide +kernel) (fun _ _ _ h => h) (Or.inl ⟨by rfl, ?_⟩) (by assumption) ?_; rotate_left 1; (focus (intro w hSw; (try dsimp only at hSw); (try simp only [List.getElem_toArray, List.getElem_cons_succ, List.getElem_cons_zero]); first | (go_simp; done) | (go_simp; with_reducible rfl))); (try simp only [Act.put, List.getElem_toArray, List.getElem_cons_succ, List.getElem_cons_zero, List.setIfInBounds_toArray, List.set_cons_zero, List.set_cons_succ]))
             | (refine wpAnyH_take (i := 4) (v := ?_) rfl (by decide +kernel) (by decide +kernel) (by decide +kernel) (fun _ _ _ h => h) (Or.inl ⟨by rfl, ?_⟩) (by assumption) ?_; rotate_left 1; (focus (intro w hSw; (try dsimp only at hSw); (try simp only [List.getElem_toArray, List.getElem_cons_succ, List.getElem_cons_zero]); first | (go_simp; done) | (go_simp; with_reducible rfl))); (try simp only [Act.put, List.getElem_toArray, List.getElem_cons_succ, List.getElem_cons_zero, List.setIfInBounds_toArray, List.set_cons_zero, List.set_cons_succ]))
             | (refine wpAnyH_take (i := 7) (v := ?_) rfl (by decide +kernel) (by decide +kernel) (by decide +kernel) (fun _ _ _ h => h) (Or.inl ⟨by rfl, ?_⟩) (by assumption) ?_; rotate_left 1; (focus (intro w hSw; (try dsimp only at hSw); (try simp only [List.getElem_toArray, List.getElem_cons_succ, List.getElem_cons_zero]); first | (go_simp; done) | (go_simp; with_reducible rfl))); (try simp only [Act.put, List.getElem_toArray, List.getElem_cons_succ, List.getElem_cons_zero, List.setIfInBounds_toArray, List.set_cons_zero, List.set_cons_succ]))
             | fail "nothing to take"))))
      all_goals refine wpAnyH_done (by decide +kernel) ?_ _
      all_goals simp only [cutPost, List.drop_succ_cons, List.drop_zero]
      rename_i hHa hHb
      clear hHeld hHa hHb HKQ HQ3 HT2 HR d0 d1 d2 d3 d4 d5 d6 d7 dz
      refine wpList_store_row rfl 26 _ _ rfl w2.heap.size #[.int .i64 (o : Nat), .int .i64 0, .int .i64 0, .bool false, .string ⟨#[]⟩, .string ⟨#[]⟩, .int .i64 0, .slice (some ⟨w4.heap.size, 0, none⟩) 2 2] rfl rfl 26 _ (HQ4.out.alloc _) infoN8 rfl (by simp [Value.oneCell']) ?_
      have hsz4 : w.heap.size < w4.heap.size := by have := HF4.out.chg.size; simp at this; omega
      have hb5 := setRow_at (w4.alloc (.cells #[.int .i64 op', .int .i64 vk', .int .i64 vi', .bool vb', .string vt', .string t', .int .i64 i', .slice p' m' m', .int .i64 op2, .int .i64 vk2, .int .i64 vi2, .bool vb2, .string vt2, .string t2, .int .i64 i2, .slice p2 q2 q2] 26)) w2.heap.size #[.int .i64 (o : Nat), .int .i64 0, .int .i64 0, .bool false, .string ⟨#[]⟩, .string ⟨#[]⟩, .int .i64 0, .slice (some ⟨w4.heap.size, 0, none⟩) 2 2] _ _ _ (HQ4.out.alloc _)
      have hr5 : ((w4.alloc (.cells #[.int .i64 op', .int .i64 vk', .int .i64 vi', .bool vb', .string vt', .string t', .int .i64 i', .slice p' m' m', .int .i64 op2, .int .i64 vk2, .int .i64 vi2, .bool vb2, .string vt2, .string t2, .int .i64 i2, .slice p2 q2 q2] 26)).setRow w2.heap.size #[.int .i64 (o : Nat), .int .i64 0, .int .i64 0, .bool false, .string ⟨#[]⟩, .string ⟨#[]⟩, .int .i64 0, .slice (some ⟨w4.heap.size, 0, none⟩) 2 2]).heap[w.heap.size]? = some (.cells nodeZ 26 (0, 0)) := by
        rw [setRow_far _ _ _ _ (by have := HBN.out; omega), Below.heap_alloc _ _ _ hsz4]
        exact HF4.out.first HP.out.lt.2
      have hk5 : ((w4.alloc (.cells #[.int .i64 op', .int .i64 vk', .int .i64 vi', .bool vb', .string vt', .string t', .int .i64 i', .slice p' m' m', .int .i64 op2, .int .i64 vk2, .int .i64 vi2, .bool vb2, .string vt2, .string t2, .int .i64 i2, .slice p2 q2 q2] 26)).setRow w2.heap.size #[.int .i64 (o : Nat), .int .i64 0, .int .i64 0, .bool false, .string ⟨#[]⟩, .string ⟨#[]⟩, .int .i64 0, .slice (some ⟨w4.heap.size, 0, none⟩) 2 2]).heap[w4.heap.size]? = some (.cells #[.int .i64 op', .int .i64 vk', .int .i64 vi', .bool vb', .string vt', .string t', .int .i64 i', .slice p' m' m', .int .i64 op2, .int .i64 vk2, .int .i64 vi2, .bool vb2, .string vt2, .string t2, .int .i64 i2, .slice p2 q2 q2] 26 (0, 0)) := by
        rw [setRow_far _ _ _ _ (by omega)]
        exact heap_alloc_new _ _
      have hc5 : Chg [w2.heap.size] (w4.alloc (.cells #[.int .i64 op', .int .i64 vk', .int .i64 vi', .bool vb', .string vt', .string t', .int .i64 i', .slice p' m' m', .int .i64 op2, .int .i64 vk2, .int .i64 vi2, .bool vb2, .string vt2, .string t2, .int .i64 i2, .slice p2 q2 q2] 26)) ((w4.alloc (.cells #[.int .i64 op', .int .i64 vk', .int .i64 vi', .bool vb', .string vt', .string t', .int .i64 i', .slice p' m' m', .int .i64 op2, .int .i64 vk2, .int .i64 vi2, .bool vb2, .string vt2, .string t2, .int .i64 i2, .slice p2 q2 q2] 26)).setRow w2.heap.size #[.int .i64 (o : Nat), .int .i64 0, .int .i64 0, .bool false, .string ⟨#[]⟩, .string ⟨#[]⟩, .int .i64 0, .slice (some ⟨w4.heap.size, 0, none⟩) 2 2]) := (Chg.refl _ _).setRow' _ _ (.inl (by simp))
      have hn5 := (HKN.out.below (box_bel' w4 (.cells #[.int .i64 op', .int .i64 vk', .int .i64 vi', .bool vb', .string vt', .string t', .int .i64 i', .slice p' m' m', .int .i64 op2, .int .i64 vk2, .int .i64 vi2, .bool vb2, .string vt2, .string t2, .int .i64 i2, .slice p2 q2 q2] 26))).chg hc5 (fun g hg => by simp; omega)
      have hm5 := ((HK4.out.2.mono (ok' := fun g => w.heap.size < g ∧ g ≠ w2.heap.size) (fun g hg _ => by have := HBN.out; have := hl2; omega)).below (box_bel' w4 (.cells #[.int .i64 op', .int .i64 vk', .int .i64 vi', .bool vb', .string vt', .string t', .int .i64 i', .slice p' m' m', .int .i64 op2, .int .i64 vk2, .int .i64 vi2, .bool vb2, .string vt2, .string t2, .int .i64 i2, .slice p2 q2 q2] 26))).chg hc5 (fun g hg => by simp; omega)
      have hrun5 := (HF4.out.box (.cells #[.int .i64 op', .int .i64 vk', .int .i64 vi', .bool vb', .string vt', .string t', .int .i64 i', .slice p' m' m', .int .i64 op2, .int .i64 vk2, .int .i64 vi2, .bool vb2, .string vt2, .string t2, .int .i64 i2, .slice p2 q2 q2] 26)).poke (b := w2.heap.size) HP.out (by simp) (by have := HBN.out; simp; omega) hc5
      have hkk : KidsAt ((w4.alloc (.cells #[.int .i64 op', .int .i64 vk', .int .i64 vi', .bool vb', .string vt', .string t', .int .i64 i', .slice p' m' m', .int .i64 op2, .int .i64 vk2, .int .i64 vi2, .bool vb2, .string vt2, .string t2, .int .i64 i2, .slice p2 q2 q2] 26)).setRow w2.heap.size #[.int .i64 (o : Nat), .int .i64 0, .int .i64 0, .bool false, .string ⟨#[]⟩, .string ⟨#[]⟩, .int .i64 0, .slice (some ⟨w4.heap.size, 0, none⟩) 2 2]) (fun g => w.heap.size < g ∧ g ≠ w2.heap.size) (.bin (o : Nat) n' m2) (.slice (some ⟨w4.heap.size, 0, none⟩) 2 2) :=
        ⟨w4.heap.size, _, _, rfl, ⟨by omega, by omega⟩, by rw [HKK.out.1, HK4.out.1]; exact hk5, hn5, hm5⟩
      obtain ⟨W5v, hW5⟩ : ∃ X, X = (w4.alloc (.cells #[.int .i64 op', .int .i64 vk', .int .i64 vi', .bool vb', .string vt', .string t', .int .i64 i', .slice p' m' m', .int .i64 op2, .int .i64 vk2, .int .i64 vi2, .bool vb2, .string vt2, .string t2, .int .i64 i2, .slice p2 q2 q2] 26)).setRow w2.heap.size #[.int .i64 (o : Nat), .int .i64 0, .int .i64 0, .bool false, .string ⟨#[]⟩, .string ⟨#[]⟩, .int .i64 0, .slice (some ⟨w4.heap.size, 0, none⟩) 2 2] := ⟨_, rfl⟩
      rw [← hW5] at hb5 hr5 hrun5 hkk ⊢
      have HB5 := Lib.hid hb5
      have HR5 := Lib.hid hr5
      have HRUN5 := Lib.hid hrun5
      have HKK5 := Lib.hid hkk
      clear hb5 hr5 hrun5 hkk hk5 hc5 hn5 hm5 hW5
      by_cases h4 : own = 4
      · have t4 : ((own : Int) == 4) = true := by simp [h4]
        have HL4 := Lib.hid (HLAST.out h4)
        obtain ⟨d0, d1, d2, d3, d4, d5, d6, d7, dz⟩ := cellsN HB5.out
        obtain ⟨z0, z1, z2, z3, z4, z5, z6, z7, zz⟩ := cellsN HR5.out
        clear h4 HLAST HNEXT dz
        go_wp2_with fail
        refine bodyPost_ret (results_cell_row Tryd.results19 _ _ w.heap.size 26 _ (0, 0) _ rfl (putN_at HR5.out _ _ _ _ _ _ _ _) Tryd.underlying26 rfl infoN8) rfl ?_
        rw [← HL4.out]
        exact ⟨_, rfl, ⟨_, rfl, (HKK5.out.chg (putN_chg W5v w.heap.size _ _ _ _ _ _ _ _) (fun g hg => by simp; omega)).mono fun g hg _ => by omega⟩, HRUN5.out.put' HP.out (putN_chg _ _ _ _ _ _ _ _ _ _)⟩
      · have t4 : ((own : Int) == 4) = false := by simp; omega
        have HL4 := Lib.hid (HNEXT.out h4)
        clear h4 HLAST HNEXT
        go_wp2_with (go_at_call 31; refine (HOPC.out _ _ HRUN5.out.rs).mono ?_; rintro e w6 ⟨rfl, hb⟩; have HB6 := Lib.hid hb; clear hb)
        go_roundw
        case rel => exact ⟨.bin (o : Nat) n' m2, s2, g, (o : Nat), 0, 0, false, ⟨#[]⟩, ⟨#[]⟩, 0, some ⟨w4.heap.size, 0, none⟩, 2, rfl, (HB6.out.block w2.heap.size (Array.getElem?_eq_some_iff.1 HB5.out).1).trans HB5.out, rfl, HKK5.out.below HB6.out, HRUN5.out.below HB6.out, HL4.out, HLN.out.1, by have := HLN.out.2; omega⟩
        case measure => rw [(HRUN5.out.below HB6.out).rs.lenAt, HMS.out]; have := HLN.out.2; omega
end Go.Proofs.YtikofngogkchfaaDoor
