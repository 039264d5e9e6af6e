/- The program's parser: leaves. Written by tools/genleaf.py. -/
import Derived.Test.YtikofngogkchfaaDoorEy
namespace Go.Proofs.YtikofngogkchfaaDoor
open Go.RowKit
set_option linter.unusedVariables false

def zeroN : Nd := .leaf 0 0 0 false [] [] 0
def RecC (pb wg : Nat) (N : Nat) (rec : List Wd → Option (Nd × List Wd)) : Prop := ∀ w' ws', PS w' pb wg ws' → ws'.length < N → Calls Tryd.prog 25 #[.pointer (some ⟨pb, 0, none⟩), .int .i64 0] w' (Aft w' pb wg (TreeV w'.heap.size) (rec ws'))
theorem Nd.val_form (n : Nd) (s : Value) : ∃ op vk vi vb vt t i, n.cells s = [.int .i64 op, .int .i64 vk, .int .i64 vi, .bool vb, .string vt, .string t, .int .i64 i, s] ∧ n.val s = .agg #[.int .i64 op, .int .i64 vk, .int .i64 vi, .bool vb, .string vt, .string t, .int .i64 i, s] := by
  cases n <;> exact ⟨_, _, _, _, _, _, _, rfl, rfl⟩
/-- A tree that a callee made, opened. -/
theorem TreeV.parts {base : Nat} {n : Nd} {w : World} {v : Value} (h : TreeV base n w v) : ∃ op vk vi vb vt t i p m, v = .agg #[.int .i64 op, .int .i64 vk, .int .i64 vi, .bool vb, .string vt, .string t, .int .i64 i, .slice p m m] ∧ n.val (.slice p m m) = .agg #[.int .i64 op, .int .i64 vk, .int .i64 vi, .bool vb, .string vt, .string t, .int .i64 i, .slice p m m] ∧ KidsAt w (fun g => base ≤ g) n (.slice p m m) := by
  obtain ⟨s, rfl, hk⟩ := h
  obtain ⟨p, m, rfl, _⟩ := Nd.kids_form hk
  obtain ⟨op, vk, vi, vb, vt, t, i, _, hv⟩ := n.val_form (.slice p m m)
  exact ⟨op, vk, vi, vb, vt, t, i, p, m, hv, hv, hk⟩
theorem KidsAt.up {w : World} {a b : Nat} {n : Nd} {s : Value} (h : KidsAt w (fun g => a ≤ g) n s) (hab : b ≤ a) : KidsAt w (fun g => b ≤ g) n s := h.mono fun g hg _ => Nat.le_trans hab hg
theorem KidsAt.far {w w' : World} {a b : Nat} {n : Nd} {s : Value} (h : KidsAt w (fun g => a ≤ g) n s) (hc : Chg [b] w w') (hab : b < a) : KidsAt w' (fun g => a ≤ g) n s := h.chg hc fun g hg => by simp; omega

set_option maxRecDepth 100000 in
set_option maxHeartbeats 2000000 in
theorem leaf_int {w : World} {pb wg : Nat} {x : Wd} {r : List Wd} (rec : List Wd → Option (Nd × List Wd)) (hrec : RecC pb wg (r.length + 1) rec) (h : PS w pb wg (x :: r))
    (hk : x.k = 2) :
    Calls Tryd.prog 39 #[.pointer (some ⟨pb, 0, none⟩)] w (Aft w pb wg (TreeV w.heap.size) (pLeaf rec (x :: r))) := by
  obtain ⟨y, q, off, cap, e, _, c1, h1, h2, hz, n1, n2, n3⟩ := h.first
  simp only [List.cons.injEq] at e
  obtain ⟨rfl, rfl⟩ := e
  have hlt0 : (0 : Int) < (r.length : Int) + 1 := by omega
  have hpl := h.lt.2
  have hwl := h.lt.1
  rw [show pLeaf rec (x :: r) = some (tLit 1 x.n false [], r) from by rw [pLeaf, if_pos hk]]
  obtain ⟨k, hkk⟩ : ∃ k, k = x.k := ⟨_, rfl⟩
  rw [← hkk] at n1
  have tk : (k == 2) = true := by rw [hkk, hk]; rfl
  have hne : x ≠ noW := by rintro rfl; simp [noW] at hk
  have HS0 := Lib.hid (fun o o2 => (Run.start h o).box o2)
  have HP := Lib.hid h
  have HREC := Lib.hid hrec
  have HNE := Lib.hid hne
  obtain ⟨X, hX⟩ : ∃ X : ByteArray, X = ⟨x.t.toArray⟩ := ⟨_, rfl⟩
  rw [← hX] at n2
  have HX := Lib.hid hX
  clear h h1 h2 hkk hrec hk hne hX
  go_enter Tryd.func39, Tryd.ntmps39
  go_wp2_with (first
    | (go_at_call 53; refine (eliteral_c HSV.out.ps HNE.out 1 x.n false ⟨#[]⟩).mono ?_; rintro e wf ⟨v, rfl, hv, hs, hc⟩; obtain ⟨op, vk, vi, vb, vt, t, i, p, m, rfl, hvv, hk⟩ := TreeV.parts hv; have HK := Lib.hid (And.intro hvv hk); have HF := Lib.hid ((HSV.out).next hs hc); have HSZ := Lib.hid (HSV.out).chg.size; obtain ⟨z0, z1, z2, z3, z4, z5, z6, z7, zz⟩ := cellsN (HF.out.first HP.out.lt.2); clear hs hc hvv hk hv)
    | (go_at_call 54; refine (vint_c _ _).mono ?_; rintro e wv ⟨rfl, hb⟩; have HSV := Lib.hid ((HS0.out _ _).below hb); clear hb))
  refine bodyPost_ret (results_cell_row Tryd.results39 _ _ w.heap.size 26 _ (0, 0) _ rfl (putN_at (HF.out.first HP.out.lt.2) _ _ _ _ _ _ _ _) Tryd.underlying26 rfl infoN8) rfl ?_
  have hsz := HSZ.out
  simp only [World.size_alloc] at hsz
  exact ⟨_, rfl, ⟨_, HK.out.1.symm, (HK.out.2.far (putN_chg _ _ _ _ _ _ _ _ _ _) (by omega)).up (by omega)⟩, HF.out.put' HP.out (putN_chg _ _ _ _ _ _ _ _ _ _)⟩

set_option maxRecDepth 100000 in
set_option maxHeartbeats 2000000 in
theorem leaf_text {w : World} {pb wg : Nat} {x : Wd} {r : List Wd} (rec : List Wd → Option (Nd × List Wd)) (hrec : RecC pb wg (r.length + 1) rec) (h : PS w pb wg (x :: r))
    (hk : x.k = 3) :
    Calls Tryd.prog 39 #[.pointer (some ⟨pb, 0, none⟩)] w (Aft w pb wg (TreeV w.heap.size) (pLeaf rec (x :: r))) := by
  obtain ⟨y, q, off, cap, e, _, c1, h1, h2, hz, n1, n2, n3⟩ := h.first
  simp only [List.cons.injEq] at e
  obtain ⟨rfl, rfl⟩ := e
  have hlt0 : (0 : Int) < (r.length : Int) + 1 := by omega
  have hpl := h.lt.2
  have hwl := h.lt.1
  rw [show pLeaf rec (x :: r) = some (tLit 3 0 false x.t, r) from by rw [pLeaf, if_neg (by rw [hk]; decide), if_pos hk]]
  obtain ⟨k, hkk⟩ : ∃ k, k = x.k := ⟨_, rfl⟩
  rw [← hkk] at n1
  have tk0 : (k == 2) = false := by rw [hkk, hk]; rfl
  have tk : (k == 3) = true := by rw [hkk, hk]; rfl
  have hne : x ≠ noW := by rintro rfl; simp [noW] at hk
  have HS0 := Lib.hid (fun o o2 => (Run.start h o).box o2)
  have HP := Lib.hid h
  have HREC := Lib.hid hrec
  have HNE := Lib.hid hne
  obtain ⟨X, hX⟩ : ∃ X : ByteArray, X = ⟨x.t.toArray⟩ := ⟨_, rfl⟩
  rw [← hX] at n2
  have HX := Lib.hid hX
  have HXT := Lib.hid (show X.data.toList = x.t from by rw [hX])
  clear h h1 h2 hkk hrec hk hne hX
  go_enter Tryd.func39, Tryd.ntmps39
  go_wp2_with (first
    | (go_at_call 53; refine (eliteral_c HSV.out.ps HNE.out 3 0 false X).mono ?_; rw [HXT.out]; rintro e wf ⟨v, rfl, hv, hs, hc⟩; obtain ⟨op, vk, vi, vb, vt, t, i, p, m, rfl, hvv, hk⟩ := TreeV.parts hv; have HK := Lib.hid (And.intro hvv hk); have HF := Lib.hid ((HSV.out).next hs hc); have HSZ := Lib.hid (HSV.out).chg.size; obtain ⟨z0, z1, z2, z3, z4, z5, z6, z7, zz⟩ := cellsN (HF.out.first HP.out.lt.2); clear hs hc hvv hk hv)
    | (go_at_call 55; refine (vtext_c _ _).mono ?_; rintro e wv ⟨rfl, hb⟩; have HSV := Lib.hid ((HS0.out _ _).below hb); clear hb))
  refine bodyPost_ret (results_cell_row Tryd.results39 _ _ w.heap.size 26 _ (0, 0) _ rfl (putN_at (HF.out.first HP.out.lt.2) _ _ _ _ _ _ _ _) Tryd.underlying26 rfl infoN8) rfl ?_
  have hsz := HSZ.out
  simp only [World.size_alloc] at hsz
  exact ⟨_, rfl, ⟨_, HK.out.1.symm, (HK.out.2.far (putN_chg _ _ _ _ _ _ _ _ _ _) (by omega)).up (by omega)⟩, HF.out.put' HP.out (putN_chg _ _ _ _ _ _ _ _ _ _)⟩

set_option maxRecDepth 100000 in
set_option maxHeartbeats 2000000 in
theorem leaf_true {w : World} {pb wg : Nat} {x : Wd} {r : List Wd} (rec : List Wd → Option (Nd × List Wd)) (hrec : RecC pb wg (r.length + 1) rec) (h : PS w pb wg (x :: r))
    (hk2 : x.k ≠ 2) (hk3 : x.k ≠ 3) (b0 : isB [116, 114, 117, 101] x = true) :
    Calls Tryd.prog 39 #[.pointer (some ⟨pb, 0, none⟩)] w (Aft w pb wg (TreeV w.heap.size) (pLeaf rec (x :: r))) := by
  obtain ⟨y, q, off, cap, e, _, c1, h1, h2, hz, n1, n2, n3⟩ := h.first
  simp only [List.cons.injEq] at e
  obtain ⟨rfl, rfl⟩ := e
  have hlt0 : (0 : Int) < (r.length : Int) + 1 := by omega
  have hpl := h.lt.2
  have hwl := h.lt.1
  rw [show pLeaf rec (x :: r) = some (tLit 2 0 true [], r) from by rw [pLeaf, if_neg hk2, if_neg hk3, if_pos b0]]
  obtain ⟨k, hkk⟩ : ∃ k, k = x.k := ⟨_, rfl⟩
  rw [← hkk] at n1
  have tk0 : (k == 2) = false := by rw [hkk]; simpa using hk2
  have tk : (k == 3) = false := by rw [hkk]; simpa using hk3
  have HS0 := Lib.hid (fun o o2 => (Run.start h o).box o2)
  have HP := Lib.hid h
  have HREC := Lib.hid hrec
  have B0 := Lib.hid b0
  clear h h1 h2 hkk hrec hk2 hk3 b0
  go_enter Tryd.func39, Tryd.ntmps39
  go_wp2_with (first
    | (go_at_call 53; refine (eliteral_c HSV.out.ps (isB_ne B0.out (by simp)) 2 0 true ⟨#[]⟩).mono ?_; rintro e wf ⟨v, rfl, hv, hs, hc⟩; obtain ⟨op, vk, vi, vb, vt, t, i, p, m, rfl, hvv, hk⟩ := TreeV.parts hv; have HK := Lib.hid (And.intro hvv hk); have HF := Lib.hid ((HSV.out).next hs hc); have HSZ := Lib.hid (HSV.out).chg.size; obtain ⟨z0, z1, z2, z3, z4, z5, z6, z7, zz⟩ := cellsN (HF.out.first HP.out.lt.2); clear hs hc hvv hk hv)
    | (go_at_call 57; refine (vbool_c _ _).mono ?_; rintro e wv ⟨rfl, hb⟩; have HSV := Lib.hid ((HS1.out).below hb); clear hb)
    | (go_at_call 56; refine (is_b (HS0.out _ _).ps ⟨#[116, 114, 117, 101]⟩ true B0.out).mono ?_; rintro e w1 ⟨rfl, hb⟩; have HS1 := Lib.hid ((HS0.out _ _).below hb); clear hb HS0))
  refine bodyPost_ret (results_cell_row Tryd.results39 _ _ w.heap.size 26 _ (0, 0) _ rfl (putN_at (HF.out.first HP.out.lt.2) _ _ _ _ _ _ _ _) Tryd.underlying26 rfl infoN8) rfl ?_
  have hsz := HSZ.out
  simp only [World.size_alloc] at hsz
  exact ⟨_, rfl, ⟨_, HK.out.1.symm, (HK.out.2.far (putN_chg _ _ _ _ _ _ _ _ _ _) (by omega)).up (by omega)⟩, HF.out.put' HP.out (putN_chg _ _ _ _ _ _ _ _ _ _)⟩

set_option maxRecDepth 100000 in
set_option maxHeartbeats 2000000 in
theorem leaf_false {w : World} {pb wg : Nat} {x : Wd} {r : List Wd} (rec : List Wd → Option (Nd × List Wd)) (hrec : RecC pb wg (r.length + 1) rec) (h : PS w pb wg (x :: r))
    (hk2 : x.k ≠ 2) (hk3 : x.k ≠ 3) (b0 : isB [116, 114, 117, 101] x = false) (b1 : isB [102, 97, 108, 115, 101] x = true) :
    Calls Tryd.prog 39 #[.pointer (some ⟨pb, 0, none⟩)] w (Aft w pb wg (TreeV w.heap.size) (pLeaf rec (x :: r))) := by
  obtain ⟨y, q, off, cap, e, _, c1, h1, h2, hz, n1, n2, n3⟩ := h.first
  simp only [List.cons.injEq] at e
  obtain ⟨rfl, rfl⟩ := e
  have hlt0 : (0 : Int) < (r.length : Int) + 1 := by omega
  have hpl := h.lt.2
  have hwl := h.lt.1
  rw [show pLeaf rec (x :: r) = some (tLit 2 0 false [], r) from by rw [pLeaf, if_neg hk2, if_neg hk3, if_neg (by rw [b0]; simp), if_pos b1]]
  obtain ⟨k, hkk⟩ : ∃ k, k = x.k := ⟨_, rfl⟩
  rw [← hkk] at n1
  have tk0 : (k == 2) = false := by rw [hkk]; simpa using hk2
  have tk : (k == 3) = false := by rw [hkk]; simpa using hk3
  have HS0 := Lib.hid (fun o o2 => (Run.start h o).box o2)
  have HP := Lib.hid h
  have HREC := Lib.hid hrec
  have B0 := Lib.hid b0
  have B1 := Lib.hid b1
  clear h h1 h2 hkk hrec hk2 hk3 b0 b1
  go_enter Tryd.func39, Tryd.ntmps39
  go_wp2_with (first
    | (go_at_call 53; refine (eliteral_c HSV.out.ps (isB_ne B1.out (by simp)) 2 0 false ⟨#[]⟩).mono ?_; rintro e wf ⟨v, rfl, hv, hs, hc⟩; obtain ⟨op, vk, vi, vb, vt, t, i, p, m, rfl, hvv, hk⟩ := TreeV.parts hv; have HK := Lib.hid (And.intro hvv hk); have HF := Lib.hid ((HSV.out).next hs hc); have HSZ := Lib.hid (HSV.out).chg.size; obtain ⟨z0, z1, z2, z3, z4, z5, z6, z7, zz⟩ := cellsN (HF.out.first HP.out.lt.2); clear hs hc hvv hk hv)
    | (go_at_call 57; refine (vbool_c _ _).mono ?_; rintro e wv ⟨rfl, hb⟩; have HSV := Lib.hid ((HS2.out).below hb); clear hb)
    | (go_at_call 56; refine (is_b (HS1.out).ps ⟨#[102, 97, 108, 115, 101]⟩ true B1.out).mono ?_; rintro e w2 ⟨rfl, hb⟩; have HS2 := Lib.hid ((HS1.out).below hb); clear hb HS1)
    | (go_at_call 56; refine (is_b (HS0.out _ _).ps ⟨#[116, 114, 117, 101]⟩ false B0.out).mono ?_; rintro e w1 ⟨rfl, hb⟩; have HS1 := Lib.hid ((HS0.out _ _).below hb); clear hb HS0))
  refine bodyPost_ret (results_cell_row Tryd.results39 _ _ w.heap.size 26 _ (0, 0) _ rfl (putN_at (HF.out.first HP.out.lt.2) _ _ _ _ _ _ _ _) Tryd.underlying26 rfl infoN8) rfl ?_
  have hsz := HSZ.out
  simp only [World.size_alloc] at hsz
  exact ⟨_, rfl, ⟨_, HK.out.1.symm, (HK.out.2.far (putN_chg _ _ _ _ _ _ _ _ _ _) (by omega)).up (by omega)⟩, HF.out.put' HP.out (putN_chg _ _ _ _ _ _ _ _ _ _)⟩

set_option maxRecDepth 100000 in
set_option maxHeartbeats 2000000 in
theorem leaf_count_none {n : Nd} {r2 : List Wd} {w : World} {pb wg : Nat} {x : Wd} {r : List Wd} (rec : List Wd → Option (Nd × List Wd)) (hrec : RecC pb wg (r.length + 1) rec) (h : PS w pb wg (x :: r))
    (hk2 : x.k ≠ 2) (hk3 : x.k ≠ 3) (b0 : isB [116, 114, 117, 101] x = false) (b1 : isB [102, 97, 108, 115, 101] x = false) (b2 : isB [40] x = false) (b3 : isB [99, 111, 117, 110, 116] x = true) (hm : pCount r = none) :
    Calls Tryd.prog 39 #[.pointer (some ⟨pb, 0, none⟩)] w (Aft w pb wg (TreeV w.heap.size) (pLeaf rec (x :: r))) := by
  obtain ⟨y, q, off, cap, e, _, c1, h1, h2, hz, n1, n2, n3⟩ := h.first
  simp only [List.cons.injEq] at e
  obtain ⟨rfl, rfl⟩ := e
  have hlt0 : (0 : Int) < (r.length : Int) + 1 := by omega
  have hpl := h.lt.2
  have hwl := h.lt.1
  rw [show pLeaf rec (x :: r) = pCount r from by rw [pLeaf, if_neg hk2, if_neg hk3, if_neg (by rw [b0]; simp), if_neg (by rw [b1]; simp), if_neg (by rw [b2]; simp), if_pos b3]]
  obtain ⟨k, hkk⟩ : ∃ k, k = x.k := ⟨_, rfl⟩
  rw [← hkk] at n1
  have tk0 : (k == 2) = false := by rw [hkk]; simpa using hk2
  have tk : (k == 3) = false := by rw [hkk]; simpa using hk3
  have HS0 := Lib.hid (fun o o2 => (Run.start h o).box o2)
  have HP := Lib.hid h
  have HREC := Lib.hid hrec
  rw [hm]
  have HM := Lib.hid hm
  have B0 := Lib.hid b0
  have B1 := Lib.hid b1
  have B2 := Lib.hid b2
  have B3 := Lib.hid b3
  clear h h1 h2 hkk hrec hk2 hk3 hm b0 b1 b2 b3
  go_enter Tryd.func39, Tryd.ntmps39
  go_wp2_with (first
    | (go_at_call 60; refine (ecount_c HS4.out.ps).mono ?_; rw [HM.out]; rintro e wf ⟨rfl, hc⟩; have HC := Lib.hid (HS4.out.whole.trans hc); clear hc)
    | (go_at_call 58; refine (take_yes (HS3.out).ps ⟨#[99, 111, 117, 110, 116]⟩ (by simp) B3.out).mono ?_; rintro e w4 ⟨rfl, hs, hc⟩; have HS4 := Lib.hid (Run.next (ws' := r) (HS3.out) hs hc); clear hs hc HS3)
    | (go_at_call 58; refine (take_no (HS2.out).ps ⟨#[40]⟩ B2.out).mono ?_; rintro e w3 ⟨rfl, hs, hc⟩; have HS3 := Lib.hid ((HS2.out).next hs hc); clear hs hc HS2)
    | (go_at_call 56; refine (is_b (HS1.out).ps ⟨#[102, 97, 108, 115, 101]⟩ false B1.out).mono ?_; rintro e w2 ⟨rfl, hb⟩; have HS2 := Lib.hid ((HS1.out).below hb); clear hb HS1)
    | (go_at_call 56; refine (is_b (HS0.out _ _).ps ⟨#[116, 114, 117, 101]⟩ false B0.out).mono ?_; rintro e w1 ⟨rfl, hb⟩; have HS1 := Lib.hid ((HS0.out _ _).below hb); clear hb HS0))
  exact ⟨rfl, rfl, HC.out⟩

set_option maxRecDepth 100000 in
set_option maxHeartbeats 2000000 in
theorem leaf_count_some {n : Nd} {r2 : List Wd} {w : World} {pb wg : Nat} {x : Wd} {r : List Wd} (rec : List Wd → Option (Nd × List Wd)) (hrec : RecC pb wg (r.length + 1) rec) (h : PS w pb wg (x :: r))
    (hk2 : x.k ≠ 2) (hk3 : x.k ≠ 3) (b0 : isB [116, 114, 117, 101] x = false) (b1 : isB [102, 97, 108, 115, 101] x = false) (b2 : isB [40] x = false) (b3 : isB [99, 111, 117, 110, 116] x = true) (hm : pCount r = some (n, r2)) :
    Calls Tryd.prog 39 #[.pointer (some ⟨pb, 0, none⟩)] w (Aft w pb wg (TreeV w.heap.size) (pLeaf rec (x :: r))) := by
  obtain ⟨y, q, off, cap, e, _, c1, h1, h2, hz, n1, n2, n3⟩ := h.first
  simp only [List.cons.injEq] at e
  obtain ⟨rfl, rfl⟩ := e
  have hlt0 : (0 : Int) < (r.length : Int) + 1 := by omega
  have hpl := h.lt.2
  have hwl := h.lt.1
  rw [show pLeaf rec (x :: r) = pCount r from by rw [pLeaf, if_neg hk2, if_neg hk3, if_neg (by rw [b0]; simp), if_neg (by rw [b1]; simp), if_neg (by rw [b2]; simp), if_pos b3]]
  obtain ⟨k, hkk⟩ : ∃ k, k = x.k := ⟨_, rfl⟩
  rw [← hkk] at n1
  have tk0 : (k == 2) = false := by rw [hkk]; simpa using hk2
  have tk : (k == 3) = false := by rw [hkk]; simpa using hk3
  have HS0 := Lib.hid (fun o o2 => (Run.start h o).box o2)
  have HP := Lib.hid h
  have HREC := Lib.hid hrec
  rw [hm]
  have HM := Lib.hid hm
  have B0 := Lib.hid b0
  have B1 := Lib.hid b1
  have B2 := Lib.hid b2
  have B3 := Lib.hid b3
  clear h h1 h2 hkk hrec hk2 hk3 hm b0 b1 b2 b3
  go_enter Tryd.func39, Tryd.ntmps39
  go_wp2_with (first
    | (go_at_call 60; refine (ecount_c HS4.out.ps).mono ?_; rw [HM.out]; rintro e wf ⟨v, rfl, hv, hs, hc⟩; obtain ⟨op, vk, vi, vb, vt, t, i, p, m, rfl, hvv, hk⟩ := TreeV.parts hv; have HK := Lib.hid (And.intro hvv hk); have HF := Lib.hid ((HS4.out).next hs hc); have HSZ := Lib.hid (HS4.out).chg.size; obtain ⟨z0, z1, z2, z3, z4, z5, z6, z7, zz⟩ := cellsN (HF.out.first HP.out.lt.2); clear hs hc hvv hk hv)
    | (go_at_call 58; refine (take_yes (HS3.out).ps ⟨#[99, 111, 117, 110, 116]⟩ (by simp) B3.out).mono ?_; rintro e w4 ⟨rfl, hs, hc⟩; have HS4 := Lib.hid (Run.next (ws' := r) (HS3.out) hs hc); clear hs hc HS3)
    | (go_at_call 58; refine (take_no (HS2.out).ps ⟨#[40]⟩ B2.out).mono ?_; rintro e w3 ⟨rfl, hs, hc⟩; have HS3 := Lib.hid ((HS2.out).next hs hc); clear hs hc HS2)
    | (go_at_call 56; refine (is_b (HS1.out).ps ⟨#[102, 97, 108, 115, 101]⟩ false B1.out).mono ?_; rintro e w2 ⟨rfl, hb⟩; have HS2 := Lib.hid ((HS1.out).below hb); clear hb HS1)
    | (go_at_call 56; refine (is_b (HS0.out _ _).ps ⟨#[116, 114, 117, 101]⟩ false B0.out).mono ?_; rintro e w1 ⟨rfl, hb⟩; have HS1 := Lib.hid ((HS0.out _ _).below hb); clear hb HS0))
  refine bodyPost_ret (results_cell_row Tryd.results39 _ _ w.heap.size 26 _ (0, 0) _ rfl (putN_at (HF.out.first HP.out.lt.2) _ _ _ _ _ _ _ _) Tryd.underlying26 rfl infoN8) rfl ?_
  have hsz := HSZ.out
  simp only [World.size_alloc] at hsz
  exact ⟨_, rfl, ⟨_, HK.out.1.symm, (HK.out.2.far (putN_chg _ _ _ _ _ _ _ _ _ _) (by omega)).up (by omega)⟩, HF.out.put' HP.out (putN_chg _ _ _ _ _ _ _ _ _ _)⟩

set_option maxRecDepth 100000 in
set_option maxHeartbeats 2000000 in
theorem leaf_number_none {n : Nd} {r2 : List Wd} {w : World} {pb wg : Nat} {x : Wd} {r : List Wd} (rec : List Wd → Option (Nd × List Wd)) (hrec : RecC pb wg (r.length + 1) rec) (h : PS w pb wg (x :: r))
    (hk2 : x.k ≠ 2) (hk3 : x.k ≠ 3) (b0 : isB [116, 114, 117, 101] x = false) (b1 : isB [102, 97, 108, 115, 101] x = false) (b2 : isB [40] x = false) (b3 : isB [99, 111, 117, 110, 116] x = false) (b4 : isB [110, 117, 109, 98, 101, 114] x = true) (hm : pNumber r = none) :
    Calls Tryd.prog 39 #[.pointer (some ⟨pb, 0, none⟩)] w (Aft w pb wg (TreeV w.heap.size) (pLeaf rec (x :: r))) := by
  obtain ⟨y, q, off, cap, e, _, c1, h1, h2, hz, n1, n2, n3⟩ := h.first
  simp only [List.cons.injEq] at e
  obtain ⟨rfl, rfl⟩ := e
  have hlt0 : (0 : Int) < (r.length : Int) + 1 := by omega
  have hpl := h.lt.2
  have hwl := h.lt.1
  rw [show pLeaf rec (x :: r) = pNumber r from by rw [pLeaf, if_neg hk2, if_neg hk3, if_neg (by rw [b0]; simp), if_neg (by rw [b1]; simp), if_neg (by rw [b2]; simp), if_neg (by rw [b3]; simp), if_pos b4]]
  obtain ⟨k, hkk⟩ : ∃ k, k = x.k := ⟨_, rfl⟩
  rw [← hkk] at n1
  have tk0 : (k == 2) = false := by rw [hkk]; simpa using hk2
  have tk : (k == 3) = false := by rw [hkk]; simpa using hk3
  have HS0 := Lib.hid (fun o o2 => (Run.start h o).box o2)
  have HP := Lib.hid h
  have HREC := Lib.hid hrec
  rw [hm]
  have HM := Lib.hid hm
  have B0 := Lib.hid b0
  have B1 := Lib.hid b1
  have B2 := Lib.hid b2
  have B3 := Lib.hid b3
  have B4 := Lib.hid b4
  clear h h1 h2 hkk hrec hk2 hk3 hm b0 b1 b2 b3 b4
  go_enter Tryd.func39, Tryd.ntmps39
  go_wp2_with (first
    | (go_at_call 61; refine (enumber_c HS5.out.ps).mono ?_; rw [HM.out]; rintro e wf ⟨rfl, hc⟩; have HC := Lib.hid (HS5.out.whole.trans hc); clear hc)
    | (go_at_call 58; refine (take_yes (HS4.out).ps ⟨#[110, 117, 109, 98, 101, 114]⟩ (by simp) B4.out).mono ?_; rintro e w5 ⟨rfl, hs, hc⟩; have HS5 := Lib.hid (Run.next (ws' := r) (HS4.out) hs hc); clear hs hc HS4)
    | (go_at_call 58; refine (take_no (HS3.out).ps ⟨#[99, 111, 117, 110, 116]⟩ B3.out).mono ?_; rintro e w4 ⟨rfl, hs, hc⟩; have HS4 := Lib.hid ((HS3.out).next hs hc); clear hs hc HS3)
    | (go_at_call 58; refine (take_no (HS2.out).ps ⟨#[40]⟩ B2.out).mono ?_; rintro e w3 ⟨rfl, hs, hc⟩; have HS3 := Lib.hid ((HS2.out).next hs hc); clear hs hc HS2)
    | (go_at_call 56; refine (is_b (HS1.out).ps ⟨#[102, 97, 108, 115, 101]⟩ false B1.out).mono ?_; rintro e w2 ⟨rfl, hb⟩; have HS2 := Lib.hid ((HS1.out).below hb); clear hb HS1)
    | (go_at_call 56; refine (is_b (HS0.out _ _).ps ⟨#[116, 114, 117, 101]⟩ false B0.out).mono ?_; rintro e w1 ⟨rfl, hb⟩; have HS1 := Lib.hid ((HS0.out _ _).below hb); clear hb HS0))
  exact ⟨rfl, rfl, HC.out⟩

set_option maxRecDepth 100000 in
set_option maxHeartbeats 2000000 in
theorem leaf_number_some {n : Nd} {r2 : List Wd} {w : World} {pb wg : Nat} {x : Wd} {r : List Wd} (rec : List Wd → Option (Nd × List Wd)) (hrec : RecC pb wg (r.length + 1) rec) (h : PS w pb wg (x :: r))
    (hk2 : x.k ≠ 2) (hk3 : x.k ≠ 3) (b0 : isB [116, 114, 117, 101] x = false) (b1 : isB [102, 97, 108, 115, 101] x = false) (b2 : isB [40] x = false) (b3 : isB [99, 111, 117, 110, 116] x = false) (b4 : isB [110, 117, 109, 98, 101, 114] x = true) (hm : pNumber r = some (n, r2)) :
    Calls Tryd.prog 39 #[.pointer (some ⟨pb, 0, none⟩)] w (Aft w pb wg (TreeV w.heap.size) (pLeaf rec (x :: r))) := by
  obtain ⟨y, q, off, cap, e, _, c1, h1, h2, hz, n1, n2, n3⟩ := h.first
  simp only [List.cons.injEq] at e
  obtain ⟨rfl, rfl⟩ := e
  have hlt0 : (0 : Int) < (r.length : Int) + 1 := by omega
  have hpl := h.lt.2
  have hwl := h.lt.1
  rw [show pLeaf rec (x :: r) = pNumber r from by rw [pLeaf, if_neg hk2, if_neg hk3, if_neg (by rw [b0]; simp), if_neg (by rw [b1]; simp), if_neg (by rw [b2]; simp), if_neg (by rw [b3]; simp), if_pos b4]]
  obtain ⟨k, hkk⟩ : ∃ k, k = x.k := ⟨_, rfl⟩
  rw [← hkk] at n1
  have tk0 : (k == 2) = false := by rw [hkk]; simpa using hk2
  have tk : (k == 3) = false := by rw [hkk]; simpa using hk3
  have HS0 := Lib.hid (fun o o2 => (Run.start h o).box o2)
  have HP := Lib.hid h
  have HREC := Lib.hid hrec
  rw [hm]
  have HM := Lib.hid hm
  have B0 := Lib.hid b0
  have B1 := Lib.hid b1
  have B2 := Lib.hid b2
  have B3 := Lib.hid b3
  have B4 := Lib.hid b4
  clear h h1 h2 hkk hrec hk2 hk3 hm b0 b1 b2 b3 b4
  go_enter Tryd.func39, Tryd.ntmps39
  go_wp2_with (first
    | (go_at_call 61; refine (enumber_c HS5.out.ps).mono ?_; rw [HM.out]; rintro e wf ⟨v, rfl, hv, hs, hc⟩; obtain ⟨op, vk, vi, vb, vt, t, i, p, m, rfl, hvv, hk⟩ := TreeV.parts hv; have HK := Lib.hid (And.intro hvv hk); have HF := Lib.hid ((HS5.out).next hs hc); have HSZ := Lib.hid (HS5.out).chg.size; obtain ⟨z0, z1, z2, z3, z4, z5, z6, z7, zz⟩ := cellsN (HF.out.first HP.out.lt.2); clear hs hc hvv hk hv)
    | (go_at_call 58; refine (take_yes (HS4.out).ps ⟨#[110, 117, 109, 98, 101, 114]⟩ (by simp) B4.out).mono ?_; rintro e w5 ⟨rfl, hs, hc⟩; have HS5 := Lib.hid (Run.next (ws' := r) (HS4.out) hs hc); clear hs hc HS4)
    | (go_at_call 58; refine (take_no (HS3.out).ps ⟨#[99, 111, 117, 110, 116]⟩ B3.out).mono ?_; rintro e w4 ⟨rfl, hs, hc⟩; have HS4 := Lib.hid ((HS3.out).next hs hc); clear hs hc HS3)
    | (go_at_call 58; refine (take_no (HS2.out).ps ⟨#[40]⟩ B2.out).mono ?_; rintro e w3 ⟨rfl, hs, hc⟩; have HS3 := Lib.hid ((HS2.out).next hs hc); clear hs hc HS2)
    | (go_at_call 56; refine (is_b (HS1.out).ps ⟨#[102, 97, 108, 115, 101]⟩ false B1.out).mono ?_; rintro e w2 ⟨rfl, hb⟩; have HS2 := Lib.hid ((HS1.out).below hb); clear hb HS1)
    | (go_at_call 56; refine (is_b (HS0.out _ _).ps ⟨#[116, 114, 117, 101]⟩ false B0.out).mono ?_; rintro e w1 ⟨rfl, hb⟩; have HS1 := Lib.hid ((HS0.out _ _).below hb); clear hb HS0))
  refine bodyPost_ret (results_cell_row Tryd.results39 _ _ w.heap.size 26 _ (0, 0) _ rfl (putN_at (HF.out.first HP.out.lt.2) _ _ _ _ _ _ _ _) Tryd.underlying26 rfl infoN8) rfl ?_
  have hsz := HSZ.out
  simp only [World.size_alloc] at hsz
  exact ⟨_, rfl, ⟨_, HK.out.1.symm, (HK.out.2.far (putN_chg _ _ _ _ _ _ _ _ _ _) (by omega)).up (by omega)⟩, HF.out.put' HP.out (putN_chg _ _ _ _ _ _ _ _ _ _)⟩

set_option maxRecDepth 100000 in
set_option maxHeartbeats 2000000 in
theorem leaf_path_none {t : List UInt8} {r2 : List Wd} {w : World} {pb wg : Nat} {x : Wd} {r : List Wd} (rec : List Wd → Option (Nd × List Wd)) (hrec : RecC pb wg (r.length + 1) rec) (h : PS w pb wg (x :: r))
    (hk2 : x.k ≠ 2) (hk3 : x.k ≠ 3) (b0 : isB [116, 114, 117, 101] x = false) (b1 : isB [102, 97, 108, 115, 101] x = false) (b2 : isB [40] x = false) (b3 : isB [99, 111, 117, 110, 116] x = false) (b4 : isB [110, 117, 109, 98, 101, 114] x = false) (hm : pPath (x :: r) = none) :
    Calls Tryd.prog 39 #[.pointer (some ⟨pb, 0, none⟩)] w (Aft w pb wg (TreeV w.heap.size) (pLeaf rec (x :: r))) := by
  obtain ⟨y, q, off, cap, e, _, c1, h1, h2, hz, n1, n2, n3⟩ := h.first
  simp only [List.cons.injEq] at e
  obtain ⟨rfl, rfl⟩ := e
  have hlt0 : (0 : Int) < (r.length : Int) + 1 := by omega
  have hpl := h.lt.2
  have hwl := h.lt.1
  rw [show pLeaf rec (x :: r) = (match pPath (x :: r) with | none => none | some (t, r2) => some (.leaf 2 0 0 false [] t 0, r2)) from by rw [pLeaf, if_neg hk2, if_neg hk3, if_neg (by rw [b0]; simp), if_neg (by rw [b1]; simp), if_neg (by rw [b2]; simp), if_neg (by rw [b3]; simp), if_neg (by rw [b4]; simp)]; rfl]
  obtain ⟨k, hkk⟩ : ∃ k, k = x.k := ⟨_, rfl⟩
  rw [← hkk] at n1
  have tk0 : (k == 2) = false := by rw [hkk]; simpa using hk2
  have tk : (k == 3) = false := by rw [hkk]; simpa using hk3
  have HS0 := Lib.hid (fun o o2 => (Run.start h o).box o2)
  have HP := Lib.hid h
  have HREC := Lib.hid hrec
  rw [hm]
  have HM := Lib.hid hm
  have B0 := Lib.hid b0
  have B1 := Lib.hid b1
  have B2 := Lib.hid b2
  have B3 := Lib.hid b3
  have B4 := Lib.hid b4
  clear h h1 h2 hkk hrec hk2 hk3 hm b0 b1 b2 b3 b4
  go_enter Tryd.func39, Tryd.ntmps39
  go_wp2_with (first
    | (go_at_call 62; refine (path_c HS5.out.ps).mono ?_; rw [HM.out]; rintro e wf ⟨rfl, hc⟩; have HC := Lib.hid (HS5.out.whole.trans hc); clear hc)
    | (go_at_call 58; refine (take_no (HS4.out).ps ⟨#[110, 117, 109, 98, 101, 114]⟩ B4.out).mono ?_; rintro e w5 ⟨rfl, hs, hc⟩; have HS5 := Lib.hid ((HS4.out).next hs hc); clear hs hc HS4)
    | (go_at_call 58; refine (take_no (HS3.out).ps ⟨#[99, 111, 117, 110, 116]⟩ B3.out).mono ?_; rintro e w4 ⟨rfl, hs, hc⟩; have HS4 := Lib.hid ((HS3.out).next hs hc); clear hs hc HS3)
    | (go_at_call 58; refine (take_no (HS2.out).ps ⟨#[40]⟩ B2.out).mono ?_; rintro e w3 ⟨rfl, hs, hc⟩; have HS3 := Lib.hid ((HS2.out).next hs hc); clear hs hc HS2)
    | (go_at_call 56; refine (is_b (HS1.out).ps ⟨#[102, 97, 108, 115, 101]⟩ false B1.out).mono ?_; rintro e w2 ⟨rfl, hb⟩; have HS2 := Lib.hid ((HS1.out).below hb); clear hb HS1)
    | (go_at_call 56; refine (is_b (HS0.out _ _).ps ⟨#[116, 114, 117, 101]⟩ false B0.out).mono ?_; rintro e w1 ⟨rfl, hb⟩; have HS1 := Lib.hid ((HS0.out _ _).below hb); clear hb HS0))
  exact ⟨rfl, rfl, HC.out⟩

set_option maxRecDepth 100000 in
set_option maxHeartbeats 2000000 in
theorem leaf_path_some {t : List UInt8} {r2 : List Wd} {w : World} {pb wg : Nat} {x : Wd} {r : List Wd} (rec : List Wd → Option (Nd × List Wd)) (hrec : RecC pb wg (r.length + 1) rec) (h : PS w pb wg (x :: r))
    (hk2 : x.k ≠ 2) (hk3 : x.k ≠ 3) (b0 : isB [116, 114, 117, 101] x = false) (b1 : isB [102, 97, 108, 115, 101] x = false) (b2 : isB [40] x = false) (b3 : isB [99, 111, 117, 110, 116] x = false) (b4 : isB [110, 117, 109, 98, 101, 114] x = false) (hm : pPath (x :: r) = some (t, r2)) :
    Calls Tryd.prog 39 #[.pointer (some ⟨pb, 0, none⟩)] w (Aft w pb wg (TreeV w.heap.size) (pLeaf rec (x :: r))) := by
  obtain ⟨y, q, off, cap, e, _, c1, h1, h2, hz, n1, n2, n3⟩ := h.first
  simp only [List.cons.injEq] at e
  obtain ⟨rfl, rfl⟩ := e
  have hlt0 : (0 : Int) < (r.length : Int) + 1 := by omega
  have hpl := h.lt.2
  have hwl := h.lt.1
  rw [show pLeaf rec (x :: r) = (match pPath (x :: r) with | none => none | some (t, r2) => some (.leaf 2 0 0 false [] t 0, r2)) from by rw [pLeaf, if_neg hk2, if_neg hk3, if_neg (by rw [b0]; simp), if_neg (by rw [b1]; simp), if_neg (by rw [b2]; simp), if_neg (by rw [b3]; simp), if_neg (by rw [b4]; simp)]; rfl]
  obtain ⟨k, hkk⟩ : ∃ k, k = x.k := ⟨_, rfl⟩
  rw [← hkk] at n1
  have tk0 : (k == 2) = false := by rw [hkk]; simpa using hk2
  have tk : (k == 3) = false := by rw [hkk]; simpa using hk3
  have HS0 := Lib.hid (fun o o2 => (Run.start h o).box o2)
  have HP := Lib.hid h
  have HREC := Lib.hid hrec
  rw [hm]
  have HM := Lib.hid hm
  have B0 := Lib.hid b0
  have B1 := Lib.hid b1
  have B2 := Lib.hid b2
  have B3 := Lib.hid b3
  have B4 := Lib.hid b4
  clear h h1 h2 hkk hrec hk2 hk3 hm b0 b1 b2 b3 b4
  go_enter Tryd.func39, Tryd.ntmps39
  go_wp2_with (first
    | (go_at_call 62; refine (path_c HS5.out.ps).mono ?_; rw [HM.out]; rintro e wf ⟨v, rfl, rfl, hs, hc⟩; have HF := Lib.hid (HS5.out.next hs hc); obtain ⟨z0, z1, z2, z3, z4, z5, z6, z7, zz⟩ := cellsN (HF.out.first HP.out.lt.2); clear hs hc)
    | (go_at_call 58; refine (take_no (HS4.out).ps ⟨#[110, 117, 109, 98, 101, 114]⟩ B4.out).mono ?_; rintro e w5 ⟨rfl, hs, hc⟩; have HS5 := Lib.hid ((HS4.out).next hs hc); clear hs hc HS4)
    | (go_at_call 58; refine (take_no (HS3.out).ps ⟨#[99, 111, 117, 110, 116]⟩ B3.out).mono ?_; rintro e w4 ⟨rfl, hs, hc⟩; have HS4 := Lib.hid ((HS3.out).next hs hc); clear hs hc HS3)
    | (go_at_call 58; refine (take_no (HS2.out).ps ⟨#[40]⟩ B2.out).mono ?_; rintro e w3 ⟨rfl, hs, hc⟩; have HS3 := Lib.hid ((HS2.out).next hs hc); clear hs hc HS2)
    | (go_at_call 56; refine (is_b (HS1.out).ps ⟨#[102, 97, 108, 115, 101]⟩ false B1.out).mono ?_; rintro e w2 ⟨rfl, hb⟩; have HS2 := Lib.hid ((HS1.out).below hb); clear hb HS1)
    | (go_at_call 56; refine (is_b (HS0.out _ _).ps ⟨#[116, 114, 117, 101]⟩ false B0.out).mono ?_; rintro e w1 ⟨rfl, hb⟩; have HS1 := Lib.hid ((HS0.out _ _).below hb); clear hb HS0))
  refine bodyPost_ret (results_cell_row Tryd.results39 _ _ w.heap.size 26 _ (0, 0) _ rfl (putN_at (HF.out.first HP.out.lt.2) _ _ _ _ _ _ _ _) Tryd.underlying26 rfl infoN8) rfl ?_
  exact ⟨_, rfl, ⟨.slice none 0 0, rfl, rfl⟩, HF.out.put' HP.out (putN_chg _ _ _ _ _ _ _ _ _ _)⟩

set_option maxRecDepth 100000 in
set_option maxHeartbeats 2000000 in
theorem leaf_paren_no1 {n : Nd} {r2 r3 : List Wd} {w : World} {pb wg : Nat} {x : Wd} {r : List Wd} (rec : List Wd → Option (Nd × List Wd)) (hrec : RecC pb wg (r.length + 1) rec) (h : PS w pb wg (x :: r))
    (hk2 : x.k ≠ 2) (hk3 : x.k ≠ 3) (b0 : isB [116, 114, 117, 101] x = false) (b1 : isB [102, 97, 108, 115, 101] x = false) (b2 : isB [40] x = true) (hx1 : rec r = none) :
    Calls Tryd.prog 39 #[.pointer (some ⟨pb, 0, none⟩)] w (Aft w pb wg (TreeV w.heap.size) (pLeaf rec (x :: r))) := by
  obtain ⟨y, q, off, cap, e, _, c1, h1, h2, hz, n1, n2, n3⟩ := h.first
  simp only [List.cons.injEq] at e
  obtain ⟨rfl, rfl⟩ := e
  have hlt0 : (0 : Int) < (r.length : Int) + 1 := by omega
  have hpl := h.lt.2
  have hwl := h.lt.1
  rw [show pLeaf rec (x :: r) = pParen rec r from by rw [pLeaf, if_neg hk2, if_neg hk3, if_neg (by rw [b0]; simp), if_neg (by rw [b1]; simp), if_pos b2]]
  obtain ⟨k, hkk⟩ : ∃ k, k = x.k := ⟨_, rfl⟩
  rw [← hkk] at n1
  have tk0 : (k == 2) = false := by rw [hkk]; simpa using hk2
  have tk : (k == 3) = false := by rw [hkk]; simpa using hk3
  have HS0 := Lib.hid (fun o o2 => (Run.start h o).box o2)
  have HP := Lib.hid h
  have HREC := Lib.hid hrec
  rw [show pParen rec r = none from by unfold pParen; rw [hx1]]
  have HX1 := Lib.hid hx1
  have B0 := Lib.hid b0
  have B1 := Lib.hid b1
  have B2 := Lib.hid b2
  clear h h1 h2 hkk hrec hk2 hk3 hx1 b0 b1 b2
  go_enter Tryd.func39, Tryd.ntmps39
  go_wp2_with (first
    | (go_at_call 25; refine (HREC.out _ _ HS3.out.ps (Nat.lt_succ_self _)).mono ?_; rw [HX1.out]; rintro e w4 ⟨rfl, hc⟩; have HC := Lib.hid (HS3.out.whole.trans hc); clear hc)
    | (go_at_call 58; refine (take_yes (HS2.out).ps ⟨#[40]⟩ (by simp) B2.out).mono ?_; rintro e w3 ⟨rfl, hs, hc⟩; have HS3 := Lib.hid (Run.next (ws' := r) (HS2.out) hs hc); clear hs hc HS2)
    | (go_at_call 56; refine (is_b (HS1.out).ps ⟨#[102, 97, 108, 115, 101]⟩ false B1.out).mono ?_; rintro e w2 ⟨rfl, hb⟩; have HS2 := Lib.hid ((HS1.out).below hb); clear hb HS1)
    | (go_at_call 56; refine (is_b (HS0.out _ _).ps ⟨#[116, 114, 117, 101]⟩ false B0.out).mono ?_; rintro e w1 ⟨rfl, hb⟩; have HS1 := Lib.hid ((HS0.out _ _).below hb); clear hb HS0))
  exact ⟨rfl, rfl, HC.out⟩

set_option maxRecDepth 100000 in
set_option maxHeartbeats 2000000 in
theorem leaf_paren_no2 {n : Nd} {r2 r3 : List Wd} {w : World} {pb wg : Nat} {x : Wd} {r : List Wd} (rec : List Wd → Option (Nd × List Wd)) (hrec : RecC pb wg (r.length + 1) rec) (h : PS w pb wg (x :: r))
    (hk2 : x.k ≠ 2) (hk3 : x.k ≠ 3) (b0 : isB [116, 114, 117, 101] x = false) (b1 : isB [102, 97, 108, 115, 101] x = false) (b2 : isB [40] x = true) (hx1 : rec r = some (n, r2)) (hx2 : pNeed [41] r2 = none) :
    Calls Tryd.prog 39 #[.pointer (some ⟨pb, 0, none⟩)] w (Aft w pb wg (TreeV w.heap.size) (pLeaf rec (x :: r))) := by
  obtain ⟨y, q, off, cap, e, _, c1, h1, h2, hz, n1, n2, n3⟩ := h.first
  simp only [List.cons.injEq] at e
  obtain ⟨rfl, rfl⟩ := e
  have hlt0 : (0 : Int) < (r.length : Int) + 1 := by omega
  have hpl := h.lt.2
  have hwl := h.lt.1
  rw [show pLeaf rec (x :: r) = pParen rec r from by rw [pLeaf, if_neg hk2, if_neg hk3, if_neg (by rw [b0]; simp), if_neg (by rw [b1]; simp), if_pos b2]]
  obtain ⟨k, hkk⟩ : ∃ k, k = x.k := ⟨_, rfl⟩
  rw [← hkk] at n1
  have tk0 : (k == 2) = false := by rw [hkk]; simpa using hk2
  have tk : (k == 3) = false := by rw [hkk]; simpa using hk3
  have HS0 := Lib.hid (fun o o2 => (Run.start h o).box o2)
  have HP := Lib.hid h
  have HREC := Lib.hid hrec
  rw [show pParen rec r = none from by unfold pParen; rw [hx1]; simp only; rw [hx2]]
  have HX1 := Lib.hid hx1
  have HX2 := Lib.hid hx2
  have B0 := Lib.hid b0
  have B1 := Lib.hid b1
  have B2 := Lib.hid b2
  clear h h1 h2 hkk hrec hk2 hk3 hx1 hx2 b0 b1 b2
  go_enter Tryd.func39, Tryd.ntmps39
  go_wp2_with (first
    | (go_at_call 59; refine (need_c (HS4.out.box _).ps ⟨#[41]⟩ (by simp)).mono ?_; rw [show pNeed (⟨#[41]⟩ : ByteArray).data.toList r2 = none from HX2.out]; rintro e w5 ⟨rfl, hc⟩; have HC := Lib.hid ((HS4.out.box _).whole.trans hc); clear hc)
    | (go_at_call 25; refine (HREC.out _ _ HS3.out.ps (Nat.lt_succ_self _)).mono ?_; rw [HX1.out]; rintro e w4 ⟨v, rfl, hv, hs, hc⟩; obtain ⟨op, vk, vi, vb, vt, t, i, p, m, rfl, hvv, hk⟩ := TreeV.parts hv; have HK := Lib.hid (And.intro hvv hk); have HS4 := Lib.hid (HS3.out.next hs hc); have HSZ := Lib.hid HS3.out.chg.size; clear hs hc hvv hk hv HS3)
    | (go_at_call 58; refine (take_yes (HS2.out).ps ⟨#[40]⟩ (by simp) B2.out).mono ?_; rintro e w3 ⟨rfl, hs, hc⟩; have HS3 := Lib.hid (Run.next (ws' := r) (HS2.out) hs hc); clear hs hc HS2)
    | (go_at_call 56; refine (is_b (HS1.out).ps ⟨#[102, 97, 108, 115, 101]⟩ false B1.out).mono ?_; rintro e w2 ⟨rfl, hb⟩; have HS2 := Lib.hid ((HS1.out).below hb); clear hb HS1)
    | (go_at_call 56; refine (is_b (HS0.out _ _).ps ⟨#[116, 114, 117, 101]⟩ false B0.out).mono ?_; rintro e w1 ⟨rfl, hb⟩; have HS1 := Lib.hid ((HS0.out _ _).below hb); clear hb HS0))
  exact ⟨rfl, rfl, HC.out⟩

set_option maxRecDepth 100000 in
set_option maxHeartbeats 2000000 in
theorem leaf_paren_ok {n : Nd} {r2 r3 : List Wd} {w : World} {pb wg : Nat} {x : Wd} {r : List Wd} (rec : List Wd → Option (Nd × List Wd)) (hrec : RecC pb wg (r.length + 1) rec) (h : PS w pb wg (x :: r))
    (hk2 : x.k ≠ 2) (hk3 : x.k ≠ 3) (b0 : isB [116, 114, 117, 101] x = false) (b1 : isB [102, 97, 108, 115, 101] x = false) (b2 : isB [40] x = true) (hx1 : rec r = some (n, r2)) (hx2 : pNeed [41] r2 = some r3) :
    Calls Tryd.prog 39 #[.pointer (some ⟨pb, 0, none⟩)] w (Aft w pb wg (TreeV w.heap.size) (pLeaf rec (x :: r))) := by
  obtain ⟨y, q, off, cap, e, _, c1, h1, h2, hz, n1, n2, n3⟩ := h.first
  simp only [List.cons.injEq] at e
  obtain ⟨rfl, rfl⟩ := e
  have hlt0 : (0 : Int) < (r.length : Int) + 1 := by omega
  have hpl := h.lt.2
  have hwl := h.lt.1
  rw [show pLeaf rec (x :: r) = pParen rec r from by rw [pLeaf, if_neg hk2, if_neg hk3, if_neg (by rw [b0]; simp), if_neg (by rw [b1]; simp), if_pos b2]]
  obtain ⟨k, hkk⟩ : ∃ k, k = x.k := ⟨_, rfl⟩
  rw [← hkk] at n1
  have tk0 : (k == 2) = false := by rw [hkk]; simpa using hk2
  have tk : (k == 3) = false := by rw [hkk]; simpa using hk3
  have HS0 := Lib.hid (fun o o2 => (Run.start h o).box o2)
  have HP := Lib.hid h
  have HREC := Lib.hid hrec
  rw [show pParen rec r = some (n, r3) from by unfold pParen; rw [hx1]; simp only; rw [hx2]]
  have HX1 := Lib.hid hx1
  have HX2 := Lib.hid hx2
  have B0 := Lib.hid b0
  have B1 := Lib.hid b1
  have B2 := Lib.hid b2
  clear h h1 h2 hkk hrec hk2 hk3 hx1 hx2 b0 b1 b2
  go_enter Tryd.func39, Tryd.ntmps39
  go_wp2_with (first
    | (go_at_call 59; refine (need_c (HS4.out.box _).ps ⟨#[41]⟩ (by simp)).mono ?_; rw [show pNeed (⟨#[41]⟩ : ByteArray).data.toList r2 = some r3 from HX2.out]; rintro e w5 ⟨v, rfl, rfl, hs, hc⟩; have HF := Lib.hid ((HS4.out.box _).next hs hc); have HKC := Lib.hid (fun (a : Nat) (ha : pb < a) => fun (h : KidsAt w4 (fun g => a ≤ g) n (.slice p m m)) => ((h.below (box_bel' w4 _)).far hc ha)); obtain ⟨n0, n1, n2, n3, n4, n5, n6, n7, nz⟩ := cellsN (Chg.box hc HS4.out.ps.lt.2); obtain ⟨z0, z1, z2, z3, z4, z5, z6, z7, zz⟩ := cellsN (HF.out.first HP.out.lt.2); clear hs hc nz)
    | (go_at_call 25; refine (HREC.out _ _ HS3.out.ps (Nat.lt_succ_self _)).mono ?_; rw [HX1.out]; rintro e w4 ⟨v, rfl, hv, hs, hc⟩; obtain ⟨op, vk, vi, vb, vt, t, i, p, m, rfl, hvv, hk⟩ := TreeV.parts hv; have HK := Lib.hid (And.intro hvv hk); have HS4 := Lib.hid (HS3.out.next hs hc); have HSZ := Lib.hid HS3.out.chg.size; clear hs hc hvv hk hv HS3)
    | (go_at_call 58; refine (take_yes (HS2.out).ps ⟨#[40]⟩ (by simp) B2.out).mono ?_; rintro e w3 ⟨rfl, hs, hc⟩; have HS3 := Lib.hid (Run.next (ws' := r) (HS2.out) hs hc); clear hs hc HS2)
    | (go_at_call 56; refine (is_b (HS1.out).ps ⟨#[102, 97, 108, 115, 101]⟩ false B1.out).mono ?_; rintro e w2 ⟨rfl, hb⟩; have HS2 := Lib.hid ((HS1.out).below hb); clear hb HS1)
    | (go_at_call 56; refine (is_b (HS0.out _ _).ps ⟨#[116, 114, 117, 101]⟩ false B0.out).mono ?_; rintro e w1 ⟨rfl, hb⟩; have HS1 := Lib.hid ((HS0.out _ _).below hb); clear hb HS0))
  refine bodyPost_ret (results_cell_row Tryd.results39 _ _ w.heap.size 26 _ (0, 0) _ rfl (putN_at (HF.out.first HP.out.lt.2) _ _ _ _ _ _ _ _) Tryd.underlying26 rfl infoN8) rfl ?_
  have hsz := HSZ.out
  simp only [World.size_alloc] at hsz
  have hpl' := HP.out.lt.2
  exact ⟨_, rfl, ⟨_, HK.out.1.symm, ((HKC.out _ (by omega) HK.out.2).far (putN_chg _ _ _ _ _ _ _ _ _ _) (by omega)).up (by omega)⟩, HF.out.put' HP.out (putN_chg _ _ _ _ _ _ _ _ _ _)⟩

theorem leaf_c {w : World} {pb wg : Nat} {ws : List Wd} (rec : List Wd → Option (Nd × List Wd)) (hrec : RecC pb wg ws.length rec) (h : PS w pb wg ws) :
    Calls Tryd.prog 39 #[.pointer (some ⟨pb, 0, none⟩)] w (Aft w pb wg (TreeV w.heap.size) (pLeaf rec ws)) := by
  obtain ⟨x, r, rfl, _⟩ := h.ok.cons
  by_cases k2 : x.k = 2
  · exact leaf_int rec hrec h k2
  by_cases k3 : x.k = 3
  · exact leaf_text rec hrec h k3
  by_cases b0 : isB [116, 114, 117, 101] x = true
  · exact leaf_true rec hrec h k2 k3 b0
  rw [Bool.not_eq_true] at b0
  by_cases b1 : isB [102, 97, 108, 115, 101] x = true
  · exact leaf_false rec hrec h k2 k3 b0 b1
  rw [Bool.not_eq_true] at b1
  by_cases b2 : isB [40] x = true
  · cases hx1 : rec r with
    | none => exact leaf_paren_no1 (n := zeroN) (r2 := []) (r3 := []) rec hrec h k2 k3 b0 b1 b2 hx1
    | some q =>
      obtain ⟨n, r2⟩ := q
      cases hx2 : pNeed [41] r2 with
      | none => exact leaf_paren_no2 (r3 := []) rec hrec h k2 k3 b0 b1 b2 hx1 hx2
      | some r3 => exact leaf_paren_ok rec hrec h k2 k3 b0 b1 b2 hx1 hx2
  rw [Bool.not_eq_true] at b2
  by_cases b3 : isB [99, 111, 117, 110, 116] x = true
  · cases hm : pCount r with
    | none => exact leaf_count_none (n := zeroN) (r2 := []) rec hrec h k2 k3 b0 b1 b2 b3 hm
    | some q =>
      obtain ⟨n, r2⟩ := q
      exact leaf_count_some rec hrec h k2 k3 b0 b1 b2 b3 hm
  rw [Bool.not_eq_true] at b3
  by_cases b4 : isB [110, 117, 109, 98, 101, 114] x = true
  · cases hm : pNumber r with
    | none => exact leaf_number_none (n := zeroN) (r2 := []) rec hrec h k2 k3 b0 b1 b2 b3 b4 hm
    | some q =>
      obtain ⟨n, r2⟩ := q
      exact leaf_number_some rec hrec h k2 k3 b0 b1 b2 b3 b4 hm
  rw [Bool.not_eq_true] at b4
  cases hm : pPath (x :: r) with
  | none => exact leaf_path_none (t := []) (r2 := []) rec hrec h k2 k3 b0 b1 b2 b3 b4 hm
  | some q =>
    obtain ⟨t, r2⟩ := q
    exact leaf_path_some rec hrec h k2 k3 b0 b1 b2 b3 b4 hm
end Go.Proofs.YtikofngogkchfaaDoor
