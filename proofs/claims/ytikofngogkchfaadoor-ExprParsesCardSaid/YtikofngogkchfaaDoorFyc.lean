/- Proved: for every string s, the law ExprParses returns true: the program's tree of s, or its error, is the reference's, and an expression is read. Conditions: the decoder's two tables of unicode/utf8, and the program's tables of operators and of states' names, hold what Go's text lays (the card ties them). Ahead of it: the reference's Depth, its parser's levels, its Parse. -/
import Derived.Test.YtikofngogkchfaaDoorEh
import Derived.Test.YtikofngogkchfaaDoorFyb
import Derived.Test.YtikofngogkchfaaDoorEpb
import Derived.Test.YtikofngogkchfaaDoorEvb
import Derived.Test.YtikofngogkchfaaDoorFd
import Derived.ShutString
import Derived.ChangeOld
namespace Go.Proofs.YtikofngogkchfaaDoor
open Go.RowKit
set_option linter.unusedVariables false

set_option maxRecDepth 100000 in
set_option maxHeartbeats 1000000 in
theorem rdepth_c : ∀ (n : Nd) (w : World) (base : Nat → Prop) (s : Value), KidsAt w base n s → n.depth ≤ 4611686018427387904 →
    Calls Tryd.prog 20 #[n.val s] w fun e w' => e = .returned (.int .i64 (n.depth : Nat)) ∧ Below w.heap.size w w' := by
  intro n
  induction n with
  | leaf op vk vi vb vt t i =>
    intro w base s h hd
    obtain rfl : s = .slice none 0 0 := h
    have HD := Lib.hid (show (Nd.leaf op vk vi vb vt t i).depth = 1 from rfl)
    have hv : (Nd.leaf op vk vi vb vt t i).val (.slice none 0 0) = .agg #[.int .i64 op, .int .i64 vk, .int .i64 vi, .bool vb, .string ⟨vt.toArray⟩, .string ⟨t.toArray⟩, .int .i64 i, .slice none 0 0] := rfl
    rw [hv]
    generalize (⟨vt.toArray⟩ : ByteArray) = VT
    generalize (⟨t.toArray⟩ : ByteArray) = T
    have HB := Lib.hid (fun o => box_bel' w o)
    clear hv hd
    go_enter Tryd.func20, Tryd.ntmps20
    go_wp2_with fail
    refine wp_loop_rounds 1 ?_
    rw [rounds_succ]
    go_wp2_with fail
    go_ret
    exact ⟨by rw [HD.out]; rfl, HB.out _⟩
  | un op a ih =>
    intro w base s h hd
    obtain ⟨g, sa, rfl, hg, hb, ha⟩ := h
    have hdd : (Nd.un op a).depth = a.depth + 1 := rfl
    obtain ⟨pa, ma, rfl, _⟩ := Nd.kids_form ha
    obtain ⟨op1, vk1, vi1, vb1, vt1, t1, i1, hv1, k0, k1, k2, k3, k4, k5, k6, k7⟩ := kid_cells (pre := []) (post := []) (a := a) (sa := .slice pa ma ma) (by simpa using hb)
    simp only [List.length_nil, Nat.zero_add] at k0 k1 k2 k3 k4 k5 k6 k7
    have hI := fun (w' : World) (hb : Below w.heap.size w w') => ih w' base _ (ha.below hb) (by omega)
    rw [hv1] at hI
    have HI := Lib.hid hI
    have lt1 := (Array.getElem?_eq_some_iff.1 hb).1
    have HB := Lib.hid (fun o => box_bel' w o)
    have HB2 := Lib.hid (fun o o2 => (box_bel' w o).alloc (box_bel' w o).size o2)
    have HD := Lib.hid hdd
    have hp := depth_pos a
    obtain ⟨d, hdv⟩ : ∃ d, d = a.depth := ⟨_, rfl⟩
    rw [← hdv] at HI HD hp
    have hmx : max (0 : Int) (d : Int) = d := by omega
    have hv : (Nd.un op a).val (.slice (some ⟨g, 0, none⟩) 1 1) = .agg #[.int .i64 op, .int .i64 0, .int .i64 0, .bool false, .string ⟨#[]⟩, .string ⟨#[]⟩, .int .i64 0, .slice (some ⟨g, 0, none⟩) 1 1] := rfl
    rw [hv]
    clear hv hI hdd ih hv1 hb ha hdv hg
    go_enter Tryd.func20, Tryd.ntmps20
    go_wp2_with fail
    refine wp_loop_rounds 2 ?_
    rw [rounds_succ]
    go_wp2_with (go_at_call 20; refine (HI.out _ (HB2.out _ _)).mono ?_; rintro e w1 ⟨rfl, hb⟩; have HC := Lib.hid ((HB2.out _ _).trans (hb.mono (HB2.out _ _).size)); clear hb)
    rw [rounds_succ]
    go_wp2_with fail
    go_ret
    exact ⟨by rw [HD.out]; simp; rw [w64_id _ (by omega) (by have := HD.out; omega)], HC.out⟩
  | bin op a b iha ihb =>
    intro w base s h hd
    obtain ⟨g, sa, sb, rfl, hg, hb, ha, hbb⟩ := h
    have hdd : (Nd.bin op a b).depth = max a.depth b.depth + 1 := rfl
    obtain ⟨pa, ma, rfl, _⟩ := Nd.kids_form ha
    obtain ⟨pb, mb, rfl, _⟩ := Nd.kids_form hbb
    obtain ⟨op1, vk1, vi1, vb1, vt1, t1, i1, hv1, k0, k1, k2, k3, k4, k5, k6, k7⟩ := kid_cells (pre := []) (post := b.cells _) (a := a) (sa := .slice pa ma ma) (by simpa using hb)
    obtain ⟨op2, vk2, vi2, vb2, vt2, t2, i2, hv2, m0, m1, m2, m3, m4, m5, m6, m7⟩ := kid_cells (pre := a.cells (.slice pa ma ma)) (post := []) (a := b) (sa := .slice pb mb mb) (by simpa using hb)
    simp only [List.length_nil, Nat.zero_add] at k0 k1 k2 k3 k4 k5 k6 k7
    rw [Nd.cells_len] at m0 m1 m2 m3 m4 m5 m6 m7
    have hIa := fun (w' : World) (hb : Below w.heap.size w w') => iha w' base _ (ha.below hb) (by omega)
    have hIb := fun (w' : World) (hb : Below w.heap.size w w') => ihb w' base _ (hbb.below hb) (by omega)
    have lt1 := (Array.getElem?_eq_some_iff.1 hb).1
    have HLT := Lib.hid lt1
    have HM := Lib.hid (And.intro m0 (And.intro m1 (And.intro m2 (And.intro m3 (And.intro m4 (And.intro m5 (And.intro m6 m7)))))))
    have HB2 := Lib.hid (fun o o2 => (box_bel' w o).alloc (box_bel' w o).size o2)
    rw [hv1] at hIa
    rw [hv2] at hIb
    have HIa := Lib.hid hIa
    have HIb := Lib.hid hIb
    have HD := Lib.hid hdd
    have hp := depth_pos a
    have hp2 := depth_pos b
    obtain ⟨da, hda⟩ : ∃ d, d = a.depth := ⟨_, rfl⟩
    obtain ⟨db, hdb⟩ : ∃ d, d = b.depth := ⟨_, rfl⟩
    rw [← hda] at HIa HD hp
    rw [← hdb] at HIb HD hp2
    have hmx : max (0 : Int) (da : Int) = da := by omega
    have hmx2 : max (da : Int) (db : Int) = ((max da db : Nat) : Int) := by omega
    have hv : (Nd.bin op a b).val (.slice (some ⟨g, 0, none⟩) 2 2) = .agg #[.int .i64 op, .int .i64 0, .int .i64 0, .bool false, .string ⟨#[]⟩, .string ⟨#[]⟩, .int .i64 0, .slice (some ⟨g, 0, none⟩) 2 2] := rfl
    rw [hv]
    clear hv hIa hIb hdd iha ihb hv1 hv2 hb ha hbb hda hdb hg m0 m1 m2 m3 m4 m5 m6 m7
    go_enter Tryd.func20, Tryd.ntmps20
    go_wp2_with fail
    refine wp_loop_rounds 3 ?_
    rw [rounds_succ]
    go_wp2_with (go_at_call 20; refine (HIa.out _ (HB2.out _ _)).mono ?_; rintro e w1 ⟨rfl, hb⟩; have HC := Lib.hid ((HB2.out _ _).trans (hb.mono (HB2.out _ _).size)); clear hb)
    rw [rounds_succ]
    have kk : ∀ (j : Nat) (u : Value), w.cell? ⟨g, j, none⟩ = some u → w1.cell? ⟨g, j, none⟩ = some u := fun j u h2 => by rw [HC.out.cell (p := ⟨g, j, none⟩) HLT.out]; exact h2
    have M0 := kk _ _ HM.out.1
    have M1 := kk _ _ HM.out.2.1
    have M2 := kk _ _ HM.out.2.2.1
    have M3 := kk _ _ HM.out.2.2.2.1
    have M4 := kk _ _ HM.out.2.2.2.2.1
    have M5 := kk _ _ HM.out.2.2.2.2.2.1
    have M6 := kk _ _ HM.out.2.2.2.2.2.2.1
    have M7 := kk _ _ HM.out.2.2.2.2.2.2.2
    clear kk k0 k1 k2 k3 k4 k5 k6 k7
    go_wp2_with (go_at_call 20; refine (HIb.out _ (HC.out.alloc HC.out.size _)).mono ?_; rintro e w2 ⟨rfl, hb⟩; have HC2 := Lib.hid ((HC.out.alloc HC.out.size _).trans (hb.mono (HC.out.alloc HC.out.size _).size)); clear hb)
    rw [rounds_succ]
    go_wp2_with fail
    go_ret
    exact ⟨by rw [HD.out]; simp; rw [w64_id _ (by omega) (by have := HD.out; omega)], HC2.out⟩
end Go.Proofs.YtikofngogkchfaaDoor

/- The reference's parser: every level; the words that it is given. -/
namespace Go.Proofs.YtikofngogkchfaaDoor
open Go.RowKit
set_option linter.unusedVariables false

theorem loose_c (qb wg : Nat) : ∀ f, RecL qb wg f := by
  intro f
  induction f with
  | zero => intro own w s h1 h7 hf; omega
  | succ f ih =>
    intro own w s h1 h7 hf h
    rw [rLoose]
    by_cases hb : s.bad = true
    · rw [if_pos hb]
      exact loose_bad h hb
    · rw [if_neg hb]
      rw [Bool.not_eq_true] at hb
      by_cases h3 : own = 3
      · subst h3
        rw [if_pos rfl]
        by_cases hi : isB [110, 111, 116] (nextW s.ws) = true
        · rw [if_pos hi]
          have hlt : s.tl.ws.length < s.ws.length := (tail_lft (by simp) hi).1
          exact loose_not (fun w' h' => ih 3 w' s.tl (by omega) (by omega) (by omega) h') h hb hi
        · rw [if_neg hi]
          rw [Bool.not_eq_true] at hi
          exact loose_four (fun w' h' => ih 4 w' s (by omega) (by omega) (by omega) h') h hb hi
      · rw [if_neg h3]
        by_cases h7' : own = 7
        · subst h7'
          rw [if_pos rfl]
          refine loose_seven (fun w' h' => rfactor_c (rLoose f 1) (N := s.ws.length) (fun w2 s2 hs2 hl2 => ih 1 w2 s2 (by omega) (by omega) (by omega) hs2) _ w' s h' (by omega) (Nat.le_refl _)) h hb
        · rw [if_neg h7']
          exact loose_loop ih h hb h1 (by omega) h3 (by omega)

/-- The parser that Parse makes. -/
theorem rs_of_words {w1 : World} {v : Value} {ws : List Wd} {base : Nat} (ho : OwnS w1 base 49 3 v ws.length (wcells ws)) (hok : Oks ws) (hl : ws.length ≤ 401) : ∃ g, v.ownBlock = some g ∧ RS (w1.alloc (.cells #[v, .bool false] 46)) w1.heap.size g ⟨false, ws⟩ := by
  have hne := hok.ne
  rcases ho.2 with ⟨rfl, h0⟩ | ⟨g, off, cap, cur, rfl, h1, h2, h3, h4, h5⟩
  · omega
  · have hg := ho.lt g rfl
    refine ⟨g, rfl, hok, hl, ⟨off, cap, heap_alloc_new _ _, h3, h4, fun j u hu => ?_⟩, by omega, by simp; omega⟩
    have := ho.cell rfl j u hu
    rw [(box_bel' w1 _).cell (p := ⟨g, off + j, none⟩) hg]
    exact this
end Go.Proofs.YtikofngogkchfaaDoor

/- The reference's Parse. Written by tools/genpw.py. -/
namespace Go.Proofs.YtikofngogkchfaaDoor
open Go.RowKit
set_option linter.unusedVariables false
set_option linter.unusedSimpArgs false

theorem results_rparse (tm : Array Value) (V : World) (b1 : Nat) (c0 c1 c2 c3 c4 c5 c6 c7 c : Value) (h2 : tm.getD 2 undef = .pointer (some ⟨b1, 0, none⟩)) (h3 : tm.getD 3 undef = c) (hb1 : V.heap[b1]? = some (.cells #[c0, c1, c2, c3, c4, c5, c6, c7] 26 (0, 0))) :
    (results Tryd.f6 tm).run Tryd.prog V = .ok (.tuple #[.agg #[c0, c1, c2, c3, c4, c5, c6, c7], c]) V := by
  obtain ⟨e0, e1, e2, e3, e4, e5, e6, e7, _⟩ := cellsN hb1
  have h2' : tm[2]?.getD undef = .pointer (some ⟨b1, 0, none⟩) := by simpa using h2
  have h3' : tm[3]?.getD undef = c := by simpa using h3
  simp [results, Tryd.results6, go_sem, h2', h3', e0, e1, e2, e3, e4, e5, e6, e7]
/-- The box of the result, while Parse runs. -/
structure Nb (w w1 : World) : Prop where
  bel : Below w.heap.size w w1
  nd : w1.heap[w.heap.size]? = some (.cells nodeZ 26 (0, 0))
theorem Nb.start {w w1 : World} (h : Below (w.alloc (.cells nodeZ 26)).heap.size (w.alloc (.cells nodeZ 26)) w1) : Nb w w1 :=
  ⟨(box_bel' w _).trans (h.mono (by simp)), (h.block w.heap.size (by simp)).trans (heap_alloc_new w _)⟩
theorem Nb.lt {w w1 : World} (h : Nb w w1) : w.heap.size < w1.heap.size := (Array.getElem?_eq_some_iff.1 h.nd).1
theorem Nb.below {w w1 w2 : World} (h : Nb w w1) (hb : Below w1.heap.size w1 w2) : Nb w w2 := ⟨h.bel.trans (hb.mono h.bel.size), (hb.block _ h.lt).trans h.nd⟩
theorem Nb.alloc {w w1 : World} (h : Nb w w1) (o : Obj) : Nb w (w1.alloc o) := h.below (box_bel' _ _)
theorem Nb.over {w w1 w2 : World} {o : Obj} {pb : Nat} (h : Nb w w1) (hc : Chg [pb] (w1.alloc o) w2) (hp : pb = w1.heap.size) : Nb w w2 := by
  have hlt := h.lt
  have h1 := hc.block w.heap.size (by simp; omega) (by simp; omega)
  rw [Below.heap_alloc _ _ _ hlt] at h1
  exact ⟨((h.alloc o).bel).trans (hc.below (by simp; omega) (by simp; omega)), h1.trans h.nd⟩
theorem Nb.put {w w1 : World} (h : Nb w w1) (c0 c1 c2 c3 c4 c5 c6 c7 : Value) : Below w.heap.size w (putN w1 w.heap.size c0 c1 c2 c3 c4 c5 c6 c7) ∧ (putN w1 w.heap.size c0 c1 c2 c3 c4 c5 c6 c7).heap[w.heap.size]? = some (.cells #[c0, c1, c2, c3, c4, c5, c6, c7] 26 (0, 0)) :=
  ⟨h.bel.trans ((putN_chg w1 w.heap.size c0 c1 c2 c3 c4 c5 c6 c7).below h.bel.size (by simp)), putN_at h.nd _ _ _ _ _ _ _ _⟩

set_option maxRecDepth 100000 in
set_option maxHeartbeats 1000000 in
theorem rparse_bad (w : World) (s : ByteArray) (hs : s.size ≤ 140737488351232) {ws : List Wd} {n : Nat} {c : Int} (hR : wordsOf s.data.toList = (ws, n, c)) (hc : c ≠ 0) : Calls Tryd.prog 6 #[.string s] w (ParseAft w (none, c)) := by
  have HW := Lib.hid (fun (w' : World) => rwords_c w' s hs)
  rw [hR] at HW
  have tc : (c != 0) = true := by simpa using hc
  clear hR hc hs
  go_enter Tryd.func6, Tryd.ntmps6
  go_wp2_with fail
  refine (HW.out _).mono ?_
  rintro e w1 ⟨v1, rfl, ho1, hb1⟩
  have HB := Lib.hid (Nb.start hb1)
  obtain ⟨z0, z1, z2, z3, z4, z5, z6, z7, zz⟩ := cellsN HB.out.nd
  obtain ⟨a1, c1, rfl, _⟩ := ho1.form
  clear ho1 hb1
  go_wp2_with fail
  refine bodyPost_ret (results_rparse _ _ w.heap.size _ _ _ _ _ _ _ _ (.int .i64 c) rfl rfl (HB.out.put _ _ _ _ _ _ _ _).2) rfl ?_
  exact ⟨_, rfl, ⟨.slice none 0 0, rfl, rfl⟩, (HB.out.put _ _ _ _ _ _ _ _).1⟩

set_option maxRecDepth 100000 in
set_option maxHeartbeats 1000000 in
theorem rparse_x (w : World) (s : ByteArray) (hs : s.size ≤ 140737488351232) {ws : List Wd} {n : Nat} (hR : wordsOf s.data.toList = (ws, n, 0)) {q : Nd × RSt} (hq : rLoose (9 * ws.length + 9) 1 ⟨false, ws⟩ = q) (hb : q.2.bad = true) : Calls Tryd.prog 6 #[.string s] w (ParseAft w (none, 21)) := by
  have HW := Lib.hid (fun (w' : World) => rwords_c w' s hs)
  rw [hR] at HW
  have hv := wordsOf_v s.data.toList (by rw [hR])
  rw [hR] at hv
  have HV := Lib.hid hv
  obtain ⟨n', s'⟩ := q
  dsimp only at hb
  clear hR hs hv
  go_enter Tryd.func6, Tryd.ntmps6
  go_wp2_with fail
  refine (HW.out _).mono ?_
  rintro e w1 ⟨v1, rfl, ho1, hb1⟩
  have HB := Lib.hid (Nb.start hb1)
  dsimp only at ho1
  obtain ⟨g, hgo, hps⟩ := rs_of_words ho1 HV.out.1 HV.out.2
  have HL := Lib.hid (loose_c w1.heap.size g (9 * ws.length + 9) 1 _ _ (by omega) (by omega) (by show 9 * ws.length + 8 ≤ _; omega) hps)
  rw [hq] at HL
  obtain ⟨a1, c1, rfl, _⟩ := ho1.form
  clear ho1 hb1 hgo hps hq
  go_wp2_with fail
  refine (HL.out).mono ?_
  rintro e w2 ⟨v, rfl, hv, hs, hc⟩
  obtain ⟨op, vk, vi, vb, vt, t, i, p, m, rfl, hvv, hk⟩ := TreeV.parts hv
  have HB2 := Lib.hid (HB.out.over hc rfl)
  have HLW := Lib.hid (show w.heap.size < w1.heap.size from HB.out.lt)
  have HLX := Lib.hid (show w1.heap.size < w2.heap.size from hs.lt.2)
  have HK := Lib.hid (And.intro hvv hk)
  obtain ⟨p1, pz⟩ := hs.bad
  rw [hb] at p1
  have hpl := hs.lt.2
  have HBA := Lib.hid (fun o => HB2.out.alloc o)
  have hlt0 := HB2.out.lt
  obtain ⟨z0, z1, z2, z3, z4, z5, z6, z7, zz⟩ := cellsN HB2.out.nd
  clear hvv hk hv hs hc hb
  go_wp2_with fail
  refine bodyPost_ret (results_rparse _ _ w.heap.size _ _ _ _ _ _ _ _ (.int .i64 21) rfl rfl (box_low HB2.out.nd _ _ _ _ _ _ _ _ _)) rfl ?_
  exact ⟨_, rfl, ⟨.slice none 0 0, rfl, rfl⟩, (HB2.out.put _ _ _ _ _ _ _ _).1.alloc (HB2.out.put _ _ _ _ _ _ _ _).1.size _⟩

set_option maxRecDepth 100000 in
set_option maxHeartbeats 1000000 in
theorem rparse_k (w : World) (s : ByteArray) (hs : s.size ≤ 140737488351232) {ws : List Wd} {n : Nat} (hR : wordsOf s.data.toList = (ws, n, 0)) {q : Nd × RSt} (hq : rLoose (9 * ws.length + 9) 1 ⟨false, ws⟩ = q) (hb : q.2.bad = false) (hk0 : (nextW q.2.ws).k ≠ 0) : Calls Tryd.prog 6 #[.string s] w (ParseAft w (none, 21)) := by
  have HW := Lib.hid (fun (w' : World) => rwords_c w' s hs)
  rw [hR] at HW
  have hv := wordsOf_v s.data.toList (by rw [hR])
  rw [hR] at hv
  have HV := Lib.hid hv
  obtain ⟨n', s'⟩ := q
  dsimp only at hb hk0
  clear hR hs hv
  go_enter Tryd.func6, Tryd.ntmps6
  go_wp2_with fail
  refine (HW.out _).mono ?_
  rintro e w1 ⟨v1, rfl, ho1, hb1⟩
  have HB := Lib.hid (Nb.start hb1)
  dsimp only at ho1
  obtain ⟨g, hgo, hps⟩ := rs_of_words ho1 HV.out.1 HV.out.2
  have HL := Lib.hid (loose_c w1.heap.size g (9 * ws.length + 9) 1 _ _ (by omega) (by omega) (by show 9 * ws.length + 8 ≤ _; omega) hps)
  rw [hq] at HL
  obtain ⟨a1, c1, rfl, _⟩ := ho1.form
  clear ho1 hb1 hgo hps hq
  go_wp2_with fail
  refine (HL.out).mono ?_
  rintro e w2 ⟨v, rfl, hv, hs, hc⟩
  obtain ⟨op, vk, vi, vb, vt, t, i, p, m, rfl, hvv, hk⟩ := TreeV.parts hv
  have HB2 := Lib.hid (HB.out.over hc rfl)
  have HLW := Lib.hid (show w.heap.size < w1.heap.size from HB.out.lt)
  have HLX := Lib.hid (show w1.heap.size < w2.heap.size from hs.lt.2)
  have HK := Lib.hid (And.intro hvv hk)
  obtain ⟨p1, pz⟩ := hs.bad
  rw [hb] at p1
  have hpl := hs.lt.2
  obtain ⟨x, r, off, cap, hr, hx, k1, k2, k3, k4, kz, n1, n2, n3⟩ := hs.first
  have hkk : (nextW s'.ws).k = x.k := by rw [hr]; rfl
  rw [hkk] at hk0
  obtain ⟨xk, hxk⟩ : ∃ k, k = x.k := ⟨_, rfl⟩
  rw [← hxk] at n1 hk0
  have hlr : (0 : Int) < (r.length : Int) + 1 := by omega
  have hwl := hs.lt.1
  have tk : (xk != 0) = true := by simpa using hk0
  have HBA := Lib.hid (fun o => HB2.out.alloc o)
  have hlt0 := HB2.out.lt
  obtain ⟨z0, z1, z2, z3, z4, z5, z6, z7, zz⟩ := cellsN HB2.out.nd
  clear hvv hk hv hs hc hb hk0 hr hx hkk hxk k4
  go_wp2_with fail
  refine bodyPost_ret (results_rparse _ _ w.heap.size _ _ _ _ _ _ _ _ (.int .i64 21) rfl rfl (box_low HB2.out.nd _ _ _ _ _ _ _ _ _)) rfl ?_
  exact ⟨_, rfl, ⟨.slice none 0 0, rfl, rfl⟩, (HB2.out.put _ _ _ _ _ _ _ _).1.alloc (HB2.out.put _ _ _ _ _ _ _ _).1.size _⟩

set_option maxRecDepth 100000 in
set_option maxHeartbeats 1000000 in
theorem rparse_deep (w : World) (s : ByteArray) (hs : s.size ≤ 140737488351232) {ws : List Wd} {n : Nat} (hR : wordsOf s.data.toList = (ws, n, 0)) {q : Nd × RSt} (hq : rLoose (9 * ws.length + 9) 1 ⟨false, ws⟩ = q) (hb : q.2.bad = false) (hk0 : (nextW q.2.ws).k = 0) (hdp : q.1.depth ≤ 4611686018427387904) (hd : 24 < q.1.depth) : Calls Tryd.prog 6 #[.string s] w (ParseAft w (none, 4)) := by
  have HW := Lib.hid (fun (w' : World) => rwords_c w' s hs)
  rw [hR] at HW
  have hv := wordsOf_v s.data.toList (by rw [hR])
  rw [hR] at hv
  have HV := Lib.hid hv
  obtain ⟨n', s'⟩ := q
  dsimp only at hb hk0 hdp hd
  clear hR hs hv
  go_enter Tryd.func6, Tryd.ntmps6
  go_wp2_with fail
  refine (HW.out _).mono ?_
  rintro e w1 ⟨v1, rfl, ho1, hb1⟩
  have HB := Lib.hid (Nb.start hb1)
  dsimp only at ho1
  obtain ⟨g, hgo, hps⟩ := rs_of_words ho1 HV.out.1 HV.out.2
  have HL := Lib.hid (loose_c w1.heap.size g (9 * ws.length + 9) 1 _ _ (by omega) (by omega) (by show 9 * ws.length + 8 ≤ _; omega) hps)
  rw [hq] at HL
  obtain ⟨a1, c1, rfl, _⟩ := ho1.form
  clear ho1 hb1 hgo hps hq
  go_wp2_with fail
  refine (HL.out).mono ?_
  rintro e w2 ⟨v, rfl, hv, hs, hc⟩
  obtain ⟨op, vk, vi, vb, vt, t, i, p, m, rfl, hvv, hk⟩ := TreeV.parts hv
  have HB2 := Lib.hid (HB.out.over hc rfl)
  have HLW := Lib.hid (show w.heap.size < w1.heap.size from HB.out.lt)
  have HLX := Lib.hid (show w1.heap.size < w2.heap.size from hs.lt.2)
  have HK := Lib.hid (And.intro hvv hk)
  obtain ⟨p1, pz⟩ := hs.bad
  rw [hb] at p1
  have hpl := hs.lt.2
  obtain ⟨x, r, off, cap, hr, hx, k1, k2, k3, k4, kz, n1, n2, n3⟩ := hs.first
  have hkk : (nextW s'.ws).k = x.k := by rw [hr]; rfl
  rw [hkk] at hk0
  obtain ⟨xk, hxk⟩ : ∃ k, k = x.k := ⟨_, rfl⟩
  rw [← hxk] at n1 hk0
  have hlr : (0 : Int) < (r.length : Int) + 1 := by omega
  have hwl := hs.lt.1
  have tk : (xk != 0) = false := by simpa using hk0
  obtain ⟨D, hD⟩ : ∃ D, D = n'.depth := ⟨_, rfl⟩
  have HD := fun (w' : World) (h : Below w2.heap.size w2 w') => rdepth_c n' w' _ (.slice p m m) (hk.below h) hdp
  rw [hvv, ← hD] at HD
  have HD' := Lib.hid HD
  rw [← hD] at hd
  have HBA := Lib.hid (fun o => HB2.out.alloc o)
  have hlt0 := HB2.out.lt
  clear HD hD hdp hvv hk hv hs hc hb hk0 hr hx hkk hxk k4
  have hd1 : decide ((24 : Int) < (D : Nat)) = true := decide_eq_true (by omega)
  have hd2 : decide (24 < D) = true := decide_eq_true hd
  go_wp2_with (go_at_call 20; refine (HD'.out _ (box_bel' _ _)).mono ?_; rintro e w3 ⟨rfl, hb3⟩; have HB3 := Lib.hid ((HB2.out.alloc _).below hb3); have hlt3 := HB3.out.lt; have HN3 := Lib.hid ((hb3.block w2.heap.size (by simp)).trans (heap_alloc_new w2 _)); have hlt4 := (Array.getElem?_eq_some_iff.1 HN3.out).1; obtain ⟨z0, z1, z2, z3, z4, z5, z6, z7, zz⟩ := cellsN HB3.out.nd; obtain ⟨b0, b1, b2, b3, b4, b5, b6, b7, bz⟩ := cellsN HN3.out; have HC3 := Lib.hid hb3; clear hb3 bz)
  refine bodyPost_ret (results_rparse _ _ w.heap.size _ _ _ _ _ _ _ _ (.int .i64 4) rfl rfl (HB3.out.put _ _ _ _ _ _ _ _).2) rfl ?_
  exact ⟨_, rfl, ⟨.slice none 0 0, rfl, rfl⟩, (HB3.out.put _ _ _ _ _ _ _ _).1⟩

set_option maxRecDepth 100000 in
set_option maxHeartbeats 1000000 in
theorem rparse_ok (w : World) (s : ByteArray) (hs : s.size ≤ 140737488351232) {ws : List Wd} {n : Nat} (hR : wordsOf s.data.toList = (ws, n, 0)) {q : Nd × RSt} (hq : rLoose (9 * ws.length + 9) 1 ⟨false, ws⟩ = q) (hb : q.2.bad = false) (hk0 : (nextW q.2.ws).k = 0) (hdp : q.1.depth ≤ 4611686018427387904) (hd : ¬ 24 < q.1.depth) : Calls Tryd.prog 6 #[.string s] w (ParseAft w (some q.1, 0)) := by
  have HW := Lib.hid (fun (w' : World) => rwords_c w' s hs)
  rw [hR] at HW
  have hv := wordsOf_v s.data.toList (by rw [hR])
  rw [hR] at hv
  have HV := Lib.hid hv
  obtain ⟨n', s'⟩ := q
  dsimp only at hb hk0 hdp hd
  clear hR hs hv
  go_enter Tryd.func6, Tryd.ntmps6
  go_wp2_with fail
  refine (HW.out _).mono ?_
  rintro e w1 ⟨v1, rfl, ho1, hb1⟩
  have HB := Lib.hid (Nb.start hb1)
  dsimp only at ho1
  obtain ⟨g, hgo, hps⟩ := rs_of_words ho1 HV.out.1 HV.out.2
  have HL := Lib.hid (loose_c w1.heap.size g (9 * ws.length + 9) 1 _ _ (by omega) (by omega) (by show 9 * ws.length + 8 ≤ _; omega) hps)
  rw [hq] at HL
  obtain ⟨a1, c1, rfl, _⟩ := ho1.form
  clear ho1 hb1 hgo hps hq
  go_wp2_with fail
  refine (HL.out).mono ?_
  rintro e w2 ⟨v, rfl, hv, hs, hc⟩
  obtain ⟨op, vk, vi, vb, vt, t, i, p, m, rfl, hvv, hk⟩ := TreeV.parts hv
  have HB2 := Lib.hid (HB.out.over hc rfl)
  have HLW := Lib.hid (show w.heap.size < w1.heap.size from HB.out.lt)
  have HLX := Lib.hid (show w1.heap.size < w2.heap.size from hs.lt.2)
  have HK := Lib.hid (And.intro hvv hk)
  obtain ⟨p1, pz⟩ := hs.bad
  rw [hb] at p1
  have hpl := hs.lt.2
  obtain ⟨x, r, off, cap, hr, hx, k1, k2, k3, k4, kz, n1, n2, n3⟩ := hs.first
  have hkk : (nextW s'.ws).k = x.k := by rw [hr]; rfl
  rw [hkk] at hk0
  obtain ⟨xk, hxk⟩ : ∃ k, k = x.k := ⟨_, rfl⟩
  rw [← hxk] at n1 hk0
  have hlr : (0 : Int) < (r.length : Int) + 1 := by omega
  have hwl := hs.lt.1
  have tk : (xk != 0) = false := by simpa using hk0
  obtain ⟨D, hD⟩ : ∃ D, D = n'.depth := ⟨_, rfl⟩
  have HD := fun (w' : World) (h : Below w2.heap.size w2 w') => rdepth_c n' w' _ (.slice p m m) (hk.below h) hdp
  rw [hvv, ← hD] at HD
  have HD' := Lib.hid HD
  rw [← hD] at hd
  have HBA := Lib.hid (fun o => HB2.out.alloc o)
  have hlt0 := HB2.out.lt
  clear HD hD hdp hvv hk hv hs hc hb hk0 hr hx hkk hxk k4
  have hd1 : decide ((24 : Int) < (D : Nat)) = false := decide_eq_false (by omega)
  have hd2 : decide (24 < D) = false := decide_eq_false hd
  go_wp2_with (go_at_call 20; refine (HD'.out _ (box_bel' _ _)).mono ?_; rintro e w3 ⟨rfl, hb3⟩; have HB3 := Lib.hid ((HB2.out.alloc _).below hb3); have hlt3 := HB3.out.lt; have HN3 := Lib.hid ((hb3.block w2.heap.size (by simp)).trans (heap_alloc_new w2 _)); have hlt4 := (Array.getElem?_eq_some_iff.1 HN3.out).1; obtain ⟨z0, z1, z2, z3, z4, z5, z6, z7, zz⟩ := cellsN HB3.out.nd; obtain ⟨b0, b1, b2, b3, b4, b5, b6, b7, bz⟩ := cellsN HN3.out; have HC3 := Lib.hid hb3; clear hb3 bz)
  refine bodyPost_ret (results_rparse _ _ w.heap.size _ _ _ _ _ _ _ _ (.int .i64 0) rfl rfl (HB3.out.put _ _ _ _ _ _ _ _).2) rfl ?_
  have hlw := HLW.out
  refine ⟨_, rfl, ⟨.slice p m m, HK.out.1.symm, ?_⟩, (HB3.out.put _ _ _ _ _ _ _ _).1⟩
  refine (((HK.out.2.below (box_bel' w2 _)).below HC3.out).far (putN_chg w3 w.heap.size _ _ _ _ _ _ _ _) ?_).up ?_
  · simp; omega
  · simp; omega

theorem rparse_c (w : World) (s : ByteArray) (hs : s.size ≤ 140737488351232) : Calls Tryd.prog 6 #[.string s] w (ParseAft w (parseT s.data.toList)) := by
  obtain ⟨⟨ws, n, c⟩, hR⟩ : ∃ R, R = wordsOf s.data.toList := ⟨_, rfl⟩
  unfold parseT
  rw [← hR]
  by_cases hc : c ≠ 0
  · rw [if_pos hc]
    exact rparse_bad w s hs hR.symm hc
  · have h0 : c = 0 := by simpa using hc
    subst h0
    rw [if_neg (by simp)]
    have hv := wordsOf_v s.data.toList (by rw [← hR])
    rw [← hR] at hv
    dsimp only at hv ⊢
    have hsim : Sim (tree (9 * ws.length + 9) 0 ws) (rLoose (9 * ws.length + 9) 1 ⟨false, ws⟩) := loose_sim ws.length ws (Nat.le_refl _) hv.1 6 0 (9 * ws.length + 9) (9 * ws.length + 9) (by omega) (by omega) (by omega)
    unfold parseW
    rcases hsim with ⟨h1, h2⟩ | ⟨h1, h2⟩
    · have hdep := tree_dep _ _ _ _ _ h2
      have hl := hv.2
      rw [h2]
      dsimp only
      by_cases hk : (nextW (rLoose (9 * ws.length + 9) 1 ⟨false, ws⟩).2.ws).k ≠ 0
      · rw [if_pos hk]
        exact rparse_k w s hs hR.symm rfl h1 hk
      · rw [if_neg hk]
        have hk' : (nextW (rLoose (9 * ws.length + 9) 1 ⟨false, ws⟩).2.ws).k = 0 := by simpa using hk
        by_cases hd : 24 < (rLoose (9 * ws.length + 9) 1 ⟨false, ws⟩).1.depth
        · rw [if_pos hd]
          exact rparse_deep w s hs hR.symm rfl h1 hk' (by omega) hd
        · rw [if_neg hd]
          exact rparse_ok w s hs hR.symm rfl h1 hk' (by omega) hd
    · rw [h2]
      exact rparse_x w s hs hR.symm rfl h1
end Go.Proofs.YtikofngogkchfaaDoor

/- Proved: for every string s, the law ExprParses returns true: the program's tree of s, or its error, is the reference's, and an expression is read. Conditions: the decoder's two tables of unicode/utf8, and the program's tables of operators and of states' names, hold what Go's text lays (the card ties them). -/
namespace Go.Proofs.YtikofngogkchfaaDoor.exprParses
open Go.ChangeShapes Go.WideShapes Go.ChangeAt Go.RowKit
open Go.ChangeMaps (open_string shut_string)
set_option linter.unusedVariables false

theorem tabs_of {W : World} (h : laidMetH Tryd.prog Rows.exprParsesRow.laid W) : Tabs W ∧ ETabs W := by
  have h' := h
  rw [MakeChecks.laidMetH_plain _ _ _ (by kernel_rfl)] at h'
  exact ⟨tabs_mem h' (by simp [Rows.exprParsesRow]) (by simp [Rows.exprParsesRow]), etabs_of h (fun W => MakeChecks.laidMetH_plain _ _ _ (by kernel_rfl)) (by simp [Rows.exprParsesRow]) (by simp [Rows.exprParsesRow])⟩
noncomputable def laidWorld (os : Os) : World := laidWorld4 os

set_option maxRecDepth 100000 in
set_option maxHeartbeats 1000000 in
theorem walk (s : ByteArray) (w : World) (hTT : Tabs w ∧ ETabs w) (s1 : s.size ≤ 140737488351232) :
    Calls Tryd.prog 3 #[.string s] w fun e w' => e = .returned (.bool true) ∧ Below w.heap.size w w' := by
  have HTT := Lib.hid hTT
  have HP := Lib.hid (fun w' (hb : Below w.heap.size w w') => parse_all w' (hTT.1.below hb) (hTT.2.below hb) s s1)
  have HQ := Lib.hid (fun w' => rparse_c w' s s1)
  have HAW := Lib.hid (fun w' (hb : Below w.heap.size w w') => eawake_c w' (hTT.1.below hb) (hTT.2.below hb))
  generalize parseT s.data.toList = R at *
  obtain ⟨T, c⟩ := R
  unfold ParseAft at HP HQ
  dsimp only at HP HQ
  generalize T.getD zeroN = N at *
  have tc : ((c : Int) == (c : Int)) = true := by simp
  clear hTT s1 HTT
  go_enter Tryd.func3, Tryd.ntmps3
  go_wp2_with fail
  refine (HP.out _ (by first | exact Below.refl _ _ | exact box_bel' _ _ | exact (box_bel' _ _).alloc (box_bel' _ _).size _)).mono ?_
  rintro e w1 ⟨v1, rfl, hv1, hb1⟩
  obtain ⟨op, vk, vi, vb, vt, t, i, p, m, rfl, hvv, hk⟩ := TreeV.parts hv1
  have HK1 := Lib.hid (And.intro hvv hk)
  have HB1 := Lib.hid hb1
  clear hv1 hb1 hvv hk
  go_wp2_with fail
  refine (HQ.out _).mono ?_
  rintro e w2 ⟨v2, rfl, hv2, hb2⟩
  obtain ⟨op2, vk2, vi2, vb2, vt2, t2, i2, p2, m2, rfl, hvv2, hk2⟩ := TreeV.parts hv2
  have HK2 := Lib.hid (And.intro hvv2 hk2)
  have HN1 := Lib.hid ((hb2.block w1.heap.size (by simp)).trans (heap_alloc_new w1 _))
  have HB2 := Lib.hid ((HB1.out.alloc HB1.out.size _).trans (hb2.mono (HB1.out.alloc HB1.out.size _).size))
  have HKK := Lib.hid ((HK1.out.2.below (box_bel' w1 _)).below hb2)
  have hlt1 := (Array.getElem?_eq_some_iff.1 HN1.out).1
  obtain ⟨b0, b1, b2, b3, b4, b5, b6, b7, bz⟩ := cellsN HN1.out
  clear hv2 hb2 hvv2 hk2
  have HSM := Lib.hid (fun (w' : World) (h1 : Below w2.heap.size w2 w') => (nsame_c N w' _ _ _ _ (HKK.out.below h1) (HK2.out.2.below h1)))
  rw [HK1.out.1, HK2.out.1] at HSM
  go_wp2_with (first
    | (go_at_call 8; refine (HAW.out _ HB3.out).mono ?_; rintro e w4 ⟨rfl, hb4⟩; have HB4 := Lib.hid (HB3.out.trans (hb4.mono HB3.out.size)); clear hb4)
    | (go_at_call 7; refine (HSM.out _ (box_bel' _ _)).mono ?_; rintro e w3 ⟨rfl, hb3⟩; have HB3 := Lib.hid ((HB2.out.alloc HB2.out.size _).trans (hb3.mono (HB2.out.alloc HB2.out.size _).size)); clear hb3))
  go_ret
  exact ⟨rfl, HB4.out⟩

-- FRAME
theorem own : ownKnob Tryd.prog.godebug = none := by kernel_rfl
theorem laidOut : laidOutB Tryd.prog = true := by kernel_rfl

theorem laid_met (os : Os) : laidMet Tryd.prog Rows.exprParsesRow.laid ((laidWorld os).forCall (fun _ _ => 0) ⟨#[], #[.string ByteArray.empty], []⟩).memory :=
  laidMet_of_run' 8 (by kernel_rfl) (by kernel_rfl)
theorem reads (os : Os) {H : Type} (enc : TypeId × Value → H) : ∃ places, DataW.whole enc Tryd.prog ((laidWorld os).forCall (fun _ _ => 0) ⟨#[], #[.string ByteArray.empty], []⟩).memory Tryd.f3.params.toList Rows.exprParsesSpec.vars false (#[.string ByteArray.empty] : Array Value).toList 8 = some ([.lit (.string [])], [], places) :=
  ⟨[], by kernel_rfl⟩

set_option maxRecDepth 100000 in
theorem lifted (os : Os) (started : os.Started) (H : Type) (enc : TypeId × Value → H) (F : Stop.Interp) :
    ReturnsInHanded {} Tryd.checked os 3 .any ((OpenSpec.ofChange Rows.exprParsesSpec).preRow enc Tryd.prog Tryd.f3 Rows.exprParsesRow.domain false Rows.exprParsesRow.laid) (((OpenSpec.ofChange Rows.exprParsesSpec).at F).post enc Tryd.prog Tryd.f3 false true false false) := by
  obtain ⟨places, hx⟩ := reads os enc
  refine returnsInHanded_of_row (C := Tryd.checked) (s := OpenSpec.ofChange Rows.exprParsesSpec) own started (by kernel_rfl) Tryd.func3
    (witness_row_at (enc := enc) (C := Tryd.checked) false (laidWorld os) #[.string ByteArray.empty] rfl (by kernel_rfl) (by kernel_rfl) (by kernel_rfl)
      (OpenSpec.preRow_of_cond 8 hx (by kernel_rfl) (fun k hk => by cases hk) (by kernel_rfl) (laid_met os))) ?_
  intro W base args ds gs before hval0 hW hcnd hcond hsz0 hL _ _
  have hT := tabs_of hL
  have hsz : (DataW.weightsEach Tryd.prog (Tryd.f3.params.toList ++ Rows.exprParsesSpec.plain.varTypes Tryd.prog) (ds ++ gs)).all (· ≤ reachBytes) = true := hsz0
  have hval : ∀ (j : Nat) t v, Tryd.f3.params[j]? = some t → args[j]? = some v → Value.okWide Tryd.prog W .any base t v := hval0
  have hW' := hW
  obtain ⟨p, q, hA0, hV, rfl, hfz, hnd⟩ := hW
  have hA : DataW.TrodAll enc Tryd.prog W 0 (fun _ => true) true Tryd.f3.params.toList args.toList ds p := hA0
  rw [Tryd.params3] at hA hval hsz
  obtain ⟨v0, vs0, d0, ds0, p0, q0, hargs, rfl, rfl, h0, r0⟩ := trodAll_cons hA
  obtain ⟨rfl, rfl, rfl⟩ := trodAll_nil r0
  obtain rfl : args = #[v0] := by cases args; simp_all
  obtain ⟨rfl, rfl⟩ := trodVars_none hV
  obtain ⟨a0, rfl, rfl, rfl, w0⟩ := open_string Tryd.underlying9 (hval 0 9 v0 rfl rfl) h0
  have s0 : a0.size ≤ 140737488351232 := by have := sized_string hsz (j := 0) (t := 9) rfl rfl; simpa [reachBytes] using this
  clear hA0 hval0
  refine (walk a0 W hT s0).mono fun e W' ⟨he, bel⟩ => ?_
  subst he
  exact ⟨_, rfl, _, _, _, [], _, [], hW', trodAll_mk1 (shut_bool Tryd.underlying4 _), (trodAll_cons_mk (shut_string Tryd.underlying9 w0) trodAll_mk0), rfl, bel.frame _, fun h => by cases h⟩

theorem said : Rows.ExprParsesSaid :=
  OpenClaim.holds_of_cond 3 Tryd.f3 rfl rfl rfl rfl rfl rfl rfl ⟨rfl, rfl, rfl, rfl, rfl⟩ rfl rfl rfl rfl rfl (by kernel_rfl) Tryd.func3 (by kernel_rfl)
    (of_decide_eq_true (by kernel_rfl)) (by unfold Func.isWrapper; first | (rw [if_pos (by decide +kernel)]; kernel_rfl) | (rw [if_neg (by decide +kernel)]; exact ⟨rfl, rfl⟩))
    (fun os started H enc _ F => by rw [OpenClaim.pre_eq_preRow]; exact lifted os started H enc F)

theorem plain (f : FuncId) (fn : Func) (hf : Tryd.pinned.checked.prog.funcNamed "dossier/dossierlaw09.ExprParses" = some f) (hfn : Tryd.pinned.checked.prog.funcs[f]? = some fn) :
    true = Tryd.pinned.checked.prog.looks [] ∧ ∀ (j : Nat) t, fn.params[j]? = some t → Tryd.pinned.checked.prog.wantsStandIn t = false := by
  obtain rfl : f = 3 := Option.some.inj ((show Tryd.prog.funcNamed "dossier/dossierlaw09.ExprParses" = some 3 by kernel_rfl).symm.trans hf) |>.symm
  obtain rfl : fn = Tryd.f3 := (Option.some.inj (Tryd.func3.symm.trans hfn)).symm
  refine ⟨by kernel_rfl, fun j t ht => ?_⟩
  rw [Tryd.params3] at ht
  have hm := Array.mem_of_getElem? ht
  simp only [Array.mem_def, List.mem_cons, List.not_mem_nil, or_false] at hm
  rcases hm with rfl
  · exact (show Tryd.prog.wantsStandIn 9 = false by kernel_rfl)

/-- The statement: the card. -/
theorem proved : Rows.ExprParsesCardSaid :=
  Claim7.holds_tied_plain_at .later [] _ _ _ _ said (fun _ h => by cases h) (by kernel_rfl) (fun _ h => by cases h) exprParses_row_tie rfl ⟨rfl, rfl⟩ (by kernel_rfl) rfl plain (by kernel_rfl)
end Go.Proofs.YtikofngogkchfaaDoor.exprParses
