/- The program's parser: trees. -/
import Derived.Test.YtikofngogkchfaaDoorEr
import Derived.Test.YtikofngogkchfaaDoorEo
import Derived.Deep.RegionHeld3
namespace Go.Proofs.YtikofngogkchfaaDoor
open Go.RowKit
set_option linter.unusedVariables false

def RecT (pb wg f : Nat) : Prop := ∀ lv w' ws', lv ≤ 7 → 9 * ws'.length + 8 < f + lv → PS w' pb wg ws' → Calls Tryd.prog 25 #[.pointer (some ⟨pb, 0, none⟩), .int .i64 (lv : Nat)] w' (Aft w' pb wg (TreeV w'.heap.size) (tree f lv ws'))
/-- A tree that a callee made, opened, its cells too. -/
theorem TreeV.open {base : Nat} {n : Nd} {w : World} {v : Value} (h : TreeV base n w v) : ∃ op vk vi vb vt t i p m, v = .agg #[.int .i64 op, .int .i64 vk, .int .i64 vi, .bool vb, .string vt, .string t, .int .i64 i, .slice p m m] ∧ n.cells (.slice p m m) = [.int .i64 op, .int .i64 vk, .int .i64 vi, .bool vb, .string vt, .string t, .int .i64 i, .slice p m m] ∧ KidsAt w (fun g => base ≤ g) n (.slice p m m) := by
  obtain ⟨s, rfl, hk⟩ := h
  obtain ⟨p, m, rfl, _⟩ := Nd.kids_form hk
  obtain ⟨op, vk, vi, vb, vt, t, i, hc, hv⟩ := n.val_form (.slice p m m)
  exact ⟨op, vk, vi, vb, vt, t, i, p, m, hv, hc, hk⟩
theorem op_no {w : World} {pb wg : Nat} {ws : List Wd} (h : PS w pb wg ws) (lv k : Nat) (h7 : lv ≤ 7) (h2 : k ≤ 2) (hop : opF lv k (nextW ws) = 0) : Calls Tryd.prog 40 #[.pointer (some ⟨pb, 0, none⟩), .int .i64 (lv : Nat), .int .i64 (k : Nat)] w fun e w' =>
    (∃ m, e = .returned (.tuple #[.agg #[.string m, .int .i64 0, .int .i64 0, .int .i64 0], .bool false])) ∧ PS w' pb wg ws ∧ Chg [pb] w w' :=
  (operator_c h lv k h7 h2).mono fun e w' ⟨m, b, h1, h2, h3, h4⟩ => by
    rw [hop] at h1 h2
    obtain rfl : b = false := by rw [h2]; rfl
    exact ⟨⟨m, h1⟩, h3, h4⟩
theorem op_yes {w : World} {pb wg : Nat} {ws : List Wd} (h : PS w pb wg ws) (lv k : Nat) (h7 : lv ≤ 7) (h2 : k ≤ 2) (o : Nat) (ho : o = opF lv k (nextW ws)) (hop : o ≠ 0) : Calls Tryd.prog 40 #[.pointer (some ⟨pb, 0, none⟩), .int .i64 (lv : Nat), .int .i64 (k : Nat)] w fun e w' =>
    (∃ m, e = .returned (.tuple #[.agg #[.string m, .int .i64 (o : Nat), .int .i64 (lv : Nat), .int .i64 (k : Nat)], .bool true])) ∧ PS w' pb wg ws.tail ∧ Chg [pb] w w' :=
  (operator_c h lv k h7 h2).mono fun e w' ⟨m, b, h1, h2, h3, h4⟩ => by
    rw [← ho] at h1 h2
    obtain rfl : b = true := by rw [h2]; simp [hop]
    exact ⟨⟨m, h1⟩, h3, h4⟩

set_option maxRecDepth 100000 in
set_option maxHeartbeats 2000000 in
theorem tree_leaf {w : World} {pb wg f : Nat} {ws : List Wd} (hrec : RecT pb wg f) (h : PS w pb wg ws) (hf : 9 * ws.length + 8 < f + 1 + 7) :
    Calls Tryd.prog 25 #[.pointer (some ⟨pb, 0, none⟩), .int .i64 7] w (Aft w pb wg (TreeV w.heap.size) (pLeaf (tree f 0) ws)) := by
  have HL := Lib.hid (fun (w' : World) (h : PS w' pb wg ws) => leaf_c (tree f 0) (fun w2 ws2 hp hlt => hrec 0 w2 ws2 (by omega) (by omega) hp) h)
  have HP := Lib.hid h
  have HS0 := Lib.hid (fun o => Run.start h o)
  cases hm : pLeaf (tree f 0) ws with
  | none =>
    have HM := Lib.hid hm
    clear h hm hrec
    go_enter Tryd.func25, Tryd.ntmps25
    go_wp2_with (go_at_call 39; refine (HL.out _ (HS0.out _).ps).mono ?_; rw [HM.out]; rintro e wf ⟨rfl, hc⟩; have HC := Lib.hid ((HS0.out _).whole.trans hc); clear hc)
    exact ⟨rfl, rfl, HC.out⟩
  | some q =>
    obtain ⟨n, r⟩ := q
    have HM := Lib.hid hm
    clear h hm hrec
    go_enter Tryd.func25, Tryd.ntmps25
    go_wp2_with (go_at_call 39; refine (HL.out _ (HS0.out _).ps).mono ?_; rw [HM.out]; rintro e wf ⟨v, rfl, hv, hs, hc⟩; obtain ⟨op, vk, vi, vb, vt, t, i, p, m, rfl, hvv, hk⟩ := TreeV.parts hv; have HK := Lib.hid (And.intro hvv hk); have HF := Lib.hid ((HS0.out _).next hs hc); obtain ⟨z0, z1, z2, z3, z4, z5, z6, z7, zz⟩ := cellsN (HF.out.first HP.out.lt.2); clear hs hc hvv hk hv)
    refine bodyPost_ret (results_cell_row Tryd.results25 _ _ w.heap.size 26 _ (0, 0) _ rfl (putN_at (HF.out.first HP.out.lt.2) _ _ _ _ _ _ _ _) Tryd.underlying26 rfl infoN8) rfl ?_
    exact ⟨_, rfl, ⟨_, HK.out.1.symm, (HK.out.2.far (putN_chg _ _ _ _ _ _ _ _ _ _) (by simp)).up (by simp)⟩, HF.out.put' HP.out (putN_chg _ _ _ _ _ _ _ _ _ _)⟩

theorem below_drew1 (w : World) : Below w.heap.size w w.drew := (Below.refl _ _).drew
theorem Run.drew {w0 w : World} {pb wg : Nat} {ws : List Wd} (h : Run w0 pb wg ws w) : Run w0 pb wg ws w.drew := h.below (below_drew1 w)
/-- A box on top, and the words behind it. -/
theorem Run.top {w0 w1 w2 : World} {pb wg : Nat} {ws : List Wd} {o : Obj} (hc : Chg [pb] (w1.alloc o) w2) (h : Run w0 pb wg ws w1) : w2.heap[w1.heap.size]? = some o := Chg.box hc h.ps.lt.2

theorem keepC {w w' : World} {b g j : Nat} {v : Value} (h : w.cell? ⟨g, j, none⟩ = some v) (hg : g ≠ b) (hc : Chg [b] w w') : w'.cell? ⟨g, j, none⟩ = some v := by
  rw [World.cell?_of_block (w := w) (hc.block g (World.block_lt_of_cell? w _ h) (by simpa using hg))]
  exact h
theorem keepP {w : World} {b g j : Nat} {v : Value} (h : w.cell? ⟨g, j, none⟩ = some v) (hg : g ≠ b) (c0 c1 c2 c3 c4 c5 c6 c7 : Value) : (putN w b c0 c1 c2 c3 c4 c5 c6 c7).cell? ⟨g, j, none⟩ = some v := keepC h hg (putN_chg w b c0 c1 c2 c3 c4 c5 c6 c7)
theorem keepD {w : World} {a : Addr} {v : Value} (h : w.cell? a = some v) : w.drew.cell? a = some v := h
theorem keepA {w : World} {g j : Nat} {v : Value} (h : w.cell? ⟨g, j, none⟩ = some v) (o : Obj) : (w.alloc o).cell? ⟨g, j, none⟩ = some v := by
  rw [(box_bel' w o).cell (p := ⟨g, j, none⟩) (World.block_lt_of_cell? w _ h)]
  exact h
theorem putN_size (w : World) (b : Nat) (c0 c1 c2 c3 c4 c5 c6 c7 : Value) : (putN w b c0 c1 c2 c3 c4 c5 c6 c7).heap.size = w.heap.size := by simp [World.size_setCell]
/-- Behind the store of a node into a box, its kids' block on top. -/
theorem kids_top {w : World} {b : Nat} {c0 c1 c2 c3 c4 c5 c6 c7 : Value} {cs : Array Value} {T : TypeId} {N : Nat} (hN : N = w.heap.size) : ((putN w b c0 c1 c2 c3 c4 c5 c6 c7).alloc (.cells cs T)).heap[N]? = some (.cells cs T (0, 0)) := by
  have := heap_alloc_new (putN w b c0 c1 c2 c3 c4 c5 c6 c7) (.cells cs T)
  rw [putN_size] at this
  rw [hN]
  exact this
theorem box_low {w : World} {b : Nat} {z0 z1 z2 z3 z4 z5 z6 z7 : Value} {T : TypeId} (h : w.heap[b]? = some (.cells #[z0, z1, z2, z3, z4, z5, z6, z7] T (0, 0))) (c0 c1 c2 c3 c4 c5 c6 c7 : Value) (o : Obj) :
    ((putN w b c0 c1 c2 c3 c4 c5 c6 c7).alloc o).heap[b]? = some (.cells #[c0, c1, c2, c3, c4, c5, c6, c7] T (0, 0)) := by
  rw [Below.heap_alloc _ _ _ (by rw [putN_size]; exact (Array.getElem?_eq_some_iff.1 h).1)]
  exact putN_at h c0 c1 c2 c3 c4 c5 c6 c7
set_option maxRecDepth 100000 in
set_option maxHeartbeats 400000 in
theorem tree_un {w : World} {pb wg f lv o : Nat} {ws : List Wd} (hlv : lv < 7) (hrec : RecT pb wg f) (h : PS w pb wg ws) (hf : 9 * ws.length + 8 < f + 1 + lv) (ho : o = opF lv 1 (nextW ws)) (h0 : o ≠ 0) {n : Nd} {r : List Wd} (hm : tree f lv ws.tail = some (n, r)) :
    Calls Tryd.prog 25 #[.pointer (some ⟨pb, 0, none⟩), .int .i64 (lv : Nat)] w (Aft w pb wg (TreeV w.heap.size) (some (.un o n, r))) := by
  have hlen : ws.tail.length < ws.length := (op_lft (by rw [← ho]; exact h0)).1
  have HO := Lib.hid (fun (w' : World) (h : PS w' pb wg ws) => op_yes h lv 1 (by omega) (by omega) o ho h0)
  have HT := Lib.hid (fun (w' : World) (h : PS w' pb wg ws.tail) => hrec lv w' ws.tail (by omega) (by omega) h)
  have HM := Lib.hid hm
  have HP := Lib.hid h
  have HS0 := Lib.hid (fun o => Run.start h o)
  have tl : ((lv : Int) == 7) = false := by simp; omega
  clear h hm hrec ho h0 hlen
  go_enter Tryd.func25, Tryd.ntmps25
  go_wp2_with (go_at_call 40; refine (HO.out _ (HS0.out _).ps).mono ?_; rintro e w1 ⟨⟨mk, rfl⟩, hs, hc⟩; have HS1 := Lib.hid ((HS0.out _).next hs hc); clear hs hc)
  have HNE := Lib.hid (show w1.heap.size ≠ w.heap.size from by have := HS1.out.chg.size; simp at this; omega)
  have HK1 := Lib.hid (cellsO (heap_alloc_new w1 (.cells #[.string mk, .int .i64 (o : Nat), .int .i64 (lv : Nat), .int .i64 1] 64))).2.1
  go_region_held3 (fun w' => w'.cell? ⟨w1.heap.size, 1, none⟩ = some (.int .i64 (o : Nat)))
    (first
      | with_reducible exact HK1.out
      | with_reducible exact keepD HK1.out
      | with_reducible exact keepD (keepD HK1.out)
      | with_reducible exact HK2.out
      | with_reducible exact keepD HK2.out
      | with_reducible exact keepD (keepD HK2.out)
      | with_reducible exact keepA HK2.out _
      | with_reducible exact keepD (keepA HK2.out _)
      | with_reducible exact keepA (keepP HK2.out HNE.out _ _ _ _ _ _ _ _) _)
    (first
      | (go_at_call 25; refine (HT.out _ ?_).mono ?_
         · first | with_reducible exact (HS1.out.box _).ps | with_reducible exact (HS1.out.box _).drew.ps | with_reducible exact (HS1.out.box _).drew.drew.ps
         rw [show tree f lv ws.tail = some (n, r) from HM.out]
         rintro e w2 ⟨v, rfl, hv, hs, hc0⟩
         have hc : Chg [pb] (w1.alloc (.cells #[.string mk, .int .i64 (o : Nat), .int .i64 (lv : Nat), .int .i64 1] 64)) w2 := by first | with_reducible exact hc0 | with_reducible exact ((Chg.refl [pb] _).drew').trans hc0 | with_reducible exact ((Chg.refl [pb] _).drew').drew'.trans hc0
         obtain ⟨op, vk, vi, vb, vt, t, i, p, m, rfl, hcc, hk⟩ := TreeV.open hv
         have HK := Lib.hid (And.intro hcc hk)
         have HF := Lib.hid ((HS1.out.box _).next hs hc)
         have HK2 := Lib.hid (cellsO (Run.top hc HS1.out)).2.1
         obtain ⟨z0, z1, z2, z3, z4, z5, z6, z7, zz⟩ := cellsN (HF.out.first HP.out.lt.2)
         have hlt1 := (Array.getElem?_eq_some_iff.1 (HF.out.first HP.out.lt.2)).1
         clear hs hc hc0 hcc hk hv)
      | fail "no arm")
  all_goals
    go_wp2_with fail
    refine bodyPost_ret (results_cell_row Tryd.results25 _ _ w.heap.size 26 _ (0, 0) _ rfl (box_low (HF.out.first HP.out.lt.2) _ _ _ _ _ _ _ _ _) Tryd.underlying26 rfl infoN8) rfl ?_
    have hq := HF.out.put' HP.out (putN_chg w2 w.heap.size (.int .i64 (o : Nat)) (.int .i64 0) (.int .i64 0) (.bool false) (.string ⟨#[]⟩) (.string ⟨#[]⟩) (.int .i64 0) (.slice (some ⟨w2.heap.size, 0, none⟩) 1 1))
    have hsz := HS1.out.chg.size
    have hsz2 := HF.out.chg.size
    simp only [World.size_alloc] at hsz hsz2
    refine ⟨_, rfl, ⟨_, rfl, w2.heap.size, .slice p m m, rfl, (by omega), ?_, ?_⟩, hq.1.alloc _, hq.2.alloc' _⟩
    · rw [HK.out.1]
      exact kids_top rfl
    · refine ((HK.out.2.far (putN_chg w2 w.heap.size _ _ _ _ _ _ _ _) ?_).below (box_bel' _ _)).up ?_
      · simp; omega
      · simp; omega
end Go.Proofs.YtikofngogkchfaaDoor
