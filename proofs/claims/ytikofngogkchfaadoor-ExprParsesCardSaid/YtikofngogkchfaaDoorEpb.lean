/- The program's parser: operators. -/
import Derived.Test.YtikofngogkchfaaDoorEx
import Derived.Test.YtikofngogkchfaaDoorEr
import Derived.Deep.RegionHeld3
import Derived.Deep.RegionWith
import Derived.RegionDies
import Derived.Test.YtikofngogkchfaaDoorCut
import Derived.Recover
import Derived.Defers
namespace Go.Proofs.YtikofngogkchfaaDoor
open Go.RowKit
set_option linter.unusedVariables false

theorem infoOps : (Tryd.prog.info? 78).map (·.size) = some 60 := by kernel_rfl
theorem opA_size : opA.size = 60 := rfl
abbrev zeroO : Obj := .cells #[.string ⟨#[]⟩, .int .i64 0, .int .i64 0, .int .i64 0] 64
theorem opsAt {w : World} (h : ETabs w) (o : Obj) : ∃ t fr, (w.alloc o).heap[1]? = some (.cells opA t fr) := by
  obtain ⟨t, fr, e⟩ := h.ops
  exact ⟨t, fr, by rw [Below.heap_alloc _ _ _ h.lt.1]; exact e⟩
def opRow (j : Nat) : List UInt8 × Nat × Nat × Nat := opL.getD j ([], 0, 0, 0)
set_option maxRecDepth 100000 in
theorem op_index (w : World) : ∀ j, j < 15 → (Instr.index 78 (.agg opA) (.int .i64 (j : Nat))).run Tryd.prog w = .ok (.agg #[.string ⟨(opRow j).1.toArray⟩, .int .i64 (opRow j).2.1, .int .i64 (opRow j).2.2.1, .int .i64 (opRow j).2.2.2]) w := by
  intro j hj
  rcases (by omega : j = 0 ∨ j = 1 ∨ j = 2 ∨ j = 3 ∨ j = 4 ∨ j = 5 ∨ j = 6 ∨ j = 7 ∨ j = 8 ∨ j = 9 ∨ j = 10 ∨ j = 11 ∨ j = 12 ∨ j = 13 ∨ j = 14) with rfl | rfl | rfl | rfl | rfl | rfl | rfl | rfl | rfl | rfl | rfl | rfl | rfl | rfl | rfl <;> kernel_rfl
/-- No operator of the first. -/
def NoHit (lv k : Nat) (x : Wd) (j : Nat) : Prop := ∀ i, i < j → opHit lv k x (opRow i) = false
theorem NoHit.next {lv k : Nat} {x : Wd} {j : Nat} (h : NoHit lv k x j) (hj : opHit lv k x (opRow j) = false) : NoHit lv k x (j + 1) := fun i hi => by
  by_cases e : i = j
  · rw [e]; exact hj
  · exact h i (by omega)
theorem opL_split (j : Nat) (hj : j < 15) : opL = opL.take j ++ opRow j :: opL.drop (j + 1) := by
  have h : j < opL.length := hj
  have e : opRow j = opL[j] := by unfold opRow; rw [List.getD_eq_getElem?_getD, List.getElem?_eq_getElem h]; rfl
  rw [e, ← List.drop_eq_getElem_cons h, List.take_append_drop]
theorem NoHit.take {lv k : Nat} {x : Wd} {j : Nat} (h : NoHit lv k x j) (hj : j ≤ 15) : (opL.take j).find? (opHit lv k x) = none := by
  rw [List.find?_eq_none]
  intro o ho
  obtain ⟨i, hi, e⟩ := List.getElem_of_mem ho
  rw [List.length_take] at hi
  have h2 : i < opL.length := by omega
  have : o = opRow i := by
    rw [← e, List.getElem_take]
    unfold opRow
    rw [List.getD_eq_getElem?_getD, List.getElem?_eq_getElem h2]
    rfl
  rw [this, h i (by omega)]
  simp
theorem NoHit.all {lv k : Nat} {x : Wd} (h : NoHit lv k x 15) : opF lv k x = 0 := by
  have := h.take (Nat.le_refl _)
  rw [List.take_of_length_le (by decide)] at this
  unfold opF
  rw [this]
theorem NoHit.hit {lv k : Nat} {x : Wd} {j : Nat} (h : NoHit lv k x j) (hj : j < 15) (hh : opHit lv k x (opRow j) = true) : opF lv k x = (opRow j).2.1 := by
  have h1 := h.take (Nat.le_of_lt hj)
  have : opL.find? (opHit lv k x) = some (opRow j) := by
    rw [opL_split j hj, List.find?_append, h1, Option.none_or, List.find?_cons, hh]
  unfold opF
  rw [this]
theorem cellsO {w : World} {b : Nat} {c0 c1 c2 c3 : Value} {T : TypeId} (h : w.heap[b]? = some (.cells #[c0, c1, c2, c3] T (0, 0))) :
    w.cell? ⟨b, 0, none⟩ = some c0 ∧ w.cell? ⟨b, 1, none⟩ = some c1 ∧ w.cell? ⟨b, 2, none⟩ = some c2 ∧ w.cell? ⟨b, 3, none⟩ = some c3 ∧ (∀ o, w.frozen? ⟨b, o, none⟩ = false) := by
  refine ⟨?_, ?_, ?_, ?_, fun o => ?_⟩ <;> simp [World.cell?, World.frozen?, h]
abbrev putO (w : World) (b : Nat) (c0 c1 c2 c3 : Value) : World := ((((w.setCell ⟨b, 0, none⟩ c0).setCell ⟨b, 1, none⟩ c1).setCell ⟨b, 2, none⟩ c2).setCell ⟨b, 3, none⟩ c3)
theorem putO_at {w : World} {b : Nat} {z0 z1 z2 z3 : Value} {T : TypeId} (h : w.heap[b]? = some (.cells #[z0, z1, z2, z3] T (0, 0))) (c0 c1 c2 c3 : Value) : (putO w b c0 c1 c2 c3).heap[b]? = some (.cells #[c0, c1, c2, c3] T (0, 0)) := by
  unfold putO
  simp [World.setCell, Array.getElem?_modify, h]
theorem putO_chg (w : World) (b : Nat) (c0 c1 c2 c3 : Value) : Chg [b] w (putO w b c0 c1 c2 c3) :=
  ((((Chg.refl [b] w).set' _ _ _ (.inl (by simp))).set' _ _ _ (.inl (by simp))).set' _ _ _ (.inl (by simp))).set' _ _ _ (.inl (by simp))
/-- How it ends. -/
def OpAft (w : World) (pb wg lv k : Nat) (ws : List Wd) (e : Ending) (w' : World) : Prop :=
  ∃ m b, e = .returned (.tuple #[.agg #[.string m, .int .i64 (opF lv k (nextW ws) : Nat), .int .i64 (if b = true then (lv : Int) else 0), .int .i64 (if b = true then (k : Int) else 0)], .bool b]) ∧ (b = decide (opF lv k (nextW ws) ≠ 0)) ∧ PS w' pb wg (if b = true then ws.tail else ws) ∧ Chg [pb] w w'
theorem results_op (fr : Act) (V : World) (b : Nat) (c0 c1 c2 c3 : Value) (q : Bool) (h6 : fr.tmps.getD 6 undef = .pointer (some ⟨b, 0, none⟩)) (h7 : fr.tmps.getD 7 undef = .bool q) (h : V.heap[b]? = some (.cells #[c0, c1, c2, c3] 64 (0, 0))) :
    (results Tryd.f40 fr.tmps).run Tryd.prog V = .ok (.tuple #[.agg #[c0, c1, c2, c3], .bool q]) V := by
  obtain ⟨e0, e1, e2, e3, _⟩ := cellsO h
  have h6' : fr.tmps[6]?.getD undef = .pointer (some ⟨b, 0, none⟩) := by simpa using h6
  have h7' : fr.tmps[7]?.getD undef = .bool q := by simpa using h7
  simp [results, Tryd.results40, go_sem, h6', h7', e0, e1, e2, e3]

set_option maxRecDepth 100000 in
set_option maxHeartbeats 2000000 in
theorem operator_c {w : World} {pb wg : Nat} {ws : List Wd} (h : PS w pb wg ws) (lv k : Nat) (hlk : lv ≤ 7) (hk2 : k ≤ 2) : Calls Tryd.prog 40 #[.pointer (some ⟨pb, 0, none⟩), .int .i64 (lv : Nat), .int .i64 (k : Nat)] w (OpAft w pb wg lv k ws) := by
  obtain ⟨t, fr, ho⟩ := opsAt h.tab zeroO
  have HO := Lib.hid ho
  have HIX := op_index
  obtain ⟨A, hA⟩ : ∃ A, A = opA := ⟨_, rfl⟩
  rw [← hA] at HO HIX
  have hsz : (Tryd.prog.info? 78).map (·.size) = some A.size := by rw [hA]; exact infoOps
  have HSZ := Lib.hid hsz
  have HIX' := Lib.hid HIX
  have HP := Lib.hid h
  have HS0 := Lib.hid (Run.start h zeroO)
  clear hA ho hsz HIX h
  go_enter Tryd.func40, Tryd.ntmps40
  go_wp2_with (refine wpList_load_row rfl 78 _ rfl 1 rfl _ _ _ _ HO.out Tryd.underlying78 rfl HSZ.out ?_)
  go_loopw [11] (fun i wr => ∃ j : Nat, j ≤ 15 ∧ i = .int .i64 (j : Nat) ∧ NoHit lv k (nextW ws) j ∧ Run (w.alloc zeroO) pb wg ws wr) (fun i _ => 15 - (intOf i).toNat)
  case atStart => exact ⟨0, by omega, rfl, fun i hi => by omega, HS0.out⟩
  case round =>
    obtain ⟨j, hj, rfl, hn, hrun⟩ := hrel
    have HN := Lib.hid hn
    have HR := Lib.hid hrun
    clear hn hrun
    by_cases hlt : j < 15
    · have hix := fun w => HIX'.out w j hlt
      obtain ⟨⟨M, op, l, kk⟩, hrow⟩ : ∃ r, r = opRow j := ⟨_, rfl⟩
      rw [← hrow] at hix
      simp only at hix
      have hh : opHit lv k (nextW ws) (opRow j) = ((decide (l = lv) && decide (kk = k)) && isB M (nextW ws)) := by rw [← hrow]; rfl
      have hmne : M ≠ [] := by
        have : ∀ j, j < 15 → (opRow j).1 ≠ [] := by decide
        have := this j hlt
        rwa [← hrow] at this
      have hop : (opRow j).2.1 = op := by rw [← hrow]
      have HMNE := Lib.hid hmne
      obtain ⟨X, hX⟩ : ∃ X : ByteArray, X = ⟨M.toArray⟩ := ⟨_, rfl⟩
      have HX := Lib.hid (show X.data.toList = M from by rw [hX])
      rw [← hX] at hix
      by_cases hl : l = lv
      · by_cases hkk : kk = k
        · have tl : ((l : Int) == (lv : Int)) = true := by simp [hl]
          have tk : ((kk : Int) == (k : Int)) = true := by simp [hkk]
          rw [decide_eq_true hl, decide_eq_true hkk] at hh
          simp only [Bool.true_and] at hh
          by_cases hb : isB M (nextW ws) = true
          · rw [hb] at hh
            have HE := Lib.hid (show opF lv k (nextW ws) = op from by rw [HN.out.hit hlt hh, hop])
            have HB := Lib.hid (show isB X.data.toList (nextW ws) = true from by rw [HX.out]; exact hb)
            have HLK := Lib.hid (And.intro hl hkk)
            have HON := Lib.hid (show op ≠ 0 from by
              have : ∀ j, j < 15 → (opRow j).2.1 ≠ 0 := by decide
              have := this j hlt
              rwa [hop] at this)
            clear hh hb hX hrow hop hl hkk hmne
            go_wp2_with (go_at_call 58; refine (take_yes (HR.out.box _).ps X (by rw [HX.out]; exact HMNE.out) HB.out).mono ?_; rintro e w2 ⟨rfl, hs, hc⟩; have HF := Lib.hid ((HR.out.box _).next hs hc); obtain ⟨n0, n1, n2, n3, nz⟩ := cellsO (Chg.box hc HR.out.ps.lt.2); obtain ⟨z0, z1, z2, z3, zz⟩ := cellsO (HF.out.first HP.out.lt.2); clear hs hc nz)
            refine bodyPost_ret (results_op _ _ w.heap.size _ _ _ _ true rfl rfl (putO_at (HF.out.first HP.out.lt.2) _ _ _ _)) rfl ?_
            exact ⟨X, true, by rw [HE.out, ← HLK.out.1, ← HLK.out.2]; rfl, by rw [HE.out]; simp [HON.out], HF.out.put' HP.out (putO_chg _ _ _ _ _ _)⟩
          · rw [Bool.not_eq_true] at hb
            rw [hb] at hh
            have HE := Lib.hid (HN.out.next hh)
            have HB := Lib.hid (show isB X.data.toList (nextW ws) = false from by rw [HX.out]; exact hb)
            clear hh hb hX hrow hop hl hkk hmne
            go_wp2_with (go_at_call 58; refine (take_no (HR.out.box _).ps X HB.out).mono ?_; rintro e w2 ⟨rfl, hs, hc⟩; have HF := Lib.hid ((HR.out.box _).next hs hc); clear hs hc)
            go_roundw
            case rel => exact ⟨j + 1, by omega, by go_num, HE.out, HF.out⟩
            case measure => simp [intOf]; omega
        · have tl : ((l : Int) == (lv : Int)) = true := by simp [hl]
          have tk : ((kk : Int) == (k : Int)) = false := by simp; omega
          have HE := Lib.hid (HN.out.next (j := j) (by rw [hh, decide_eq_false hkk]; simp))
          clear hh hX hrow hop hl hkk hmne
          go_wp2_with fail
          go_roundw
          case rel => exact ⟨j + 1, by omega, by go_num, HE.out, HR.out.box _⟩
          case measure => simp [intOf]; omega
      · have tl : ((l : Int) == (lv : Int)) = false := by simp; omega
        have HE := Lib.hid (HN.out.next (j := j) (by rw [hh, decide_eq_false hl]; simp))
        clear hh hX hrow hop hl hmne
        go_wp2_with fail
        go_roundw
        case rel => exact ⟨j + 1, by omega, by go_num, HE.out, HR.out.box _⟩
        case measure => simp [intOf]; omega
    · obtain rfl : j = 15 := by omega
      have HE := Lib.hid HN.out.all
      obtain ⟨z0, z1, z2, z3, zz⟩ := cellsO (HR.out.first HP.out.lt.2)
      clear hlt
      go_wp2_with fail
      refine bodyPost_ret (results_op _ _ w.heap.size _ _ _ _ false rfl rfl (putO_at (HR.out.first HP.out.lt.2) _ _ _ _)) rfl ?_
      exact ⟨⟨#[]⟩, false, by rw [HE.out]; rfl, by rw [HE.out]; rfl, HR.out.put' HP.out (putO_chg _ _ _ _ _ _)⟩
end Go.Proofs.YtikofngogkchfaaDoor

/- The program's parser: trees. -/
namespace Go.Proofs.YtikofngogkchfaaDoor
open Go.RowKit
set_option linter.unusedVariables false

def RecT (pb wg f : Nat) : Prop := ∀ lv w' ws', lv ≤ 7 → 9 * ws'.length + 8 < f + lv → PS w' pb wg ws' → Calls Tryd.prog 25 #[.pointer (some ⟨pb, 0, none⟩), .int .i64 (lv : Nat)] w' (Aft w' pb wg (TreeV w'.heap.size) (tree f lv ws'))
/-- A tree that a callee made, opened, its cells too. -/
theorem TreeV.open {base : Nat} {n : Nd} {w : World} {v : Value} (h : TreeV base n w v) : ∃ op vk vi vb vt t i p m, v = .agg #[.int .i64 op, .int .i64 vk, .int .i64 vi, .bool vb, .string vt, .string t, .int .i64 i, .slice p m m] ∧ n.cells (.slice p m m) = [.int .i64 op, .int .i64 vk, .int .i64 vi, .bool vb, .string vt, .string t, .int .i64 i, .slice p m m] ∧ KidsAt w (fun g => base ≤ g) n (.slice p m m) := by
  obtain ⟨s, rfl, hk⟩ := h
  obtain ⟨p, m, rfl, _⟩ := Nd.kids_form hk
  obtain ⟨op, vk, vi, vb, vt, t, i, hc, hv⟩ := n.val_form (.slice p m m)
  exact ⟨op, vk, vi, vb, vt, t, i, p, m, hv, hc, hk⟩
theorem op_no {w : World} {pb wg : Nat} {ws : List Wd} (h : PS w pb wg ws) (lv k : Nat) (h7 : lv ≤ 7) (h2 : k ≤ 2) (hop : opF lv k (nextW ws) = 0) : Calls Tryd.prog 40 #[.pointer (some ⟨pb, 0, none⟩), .int .i64 (lv : Nat), .int .i64 (k : Nat)] w fun e w' =>
    (∃ m, e = .returned (.tuple #[.agg #[.string m, .int .i64 0, .int .i64 0, .int .i64 0], .bool false])) ∧ PS w' pb wg ws ∧ Chg [pb] w w' :=
  (operator_c h lv k h7 h2).mono fun e w' ⟨m, b, h1, h2, h3, h4⟩ => by
    rw [hop] at h1 h2
    obtain rfl : b = false := by rw [h2]; rfl
    exact ⟨⟨m, h1⟩, h3, h4⟩
theorem op_yes {w : World} {pb wg : Nat} {ws : List Wd} (h : PS w pb wg ws) (lv k : Nat) (h7 : lv ≤ 7) (h2 : k ≤ 2) (o : Nat) (ho : o = opF lv k (nextW ws)) (hop : o ≠ 0) : Calls Tryd.prog 40 #[.pointer (some ⟨pb, 0, none⟩), .int .i64 (lv : Nat), .int .i64 (k : Nat)] w fun e w' =>
    (∃ m, e = .returned (.tuple #[.agg #[.string m, .int .i64 (o : Nat), .int .i64 (lv : Nat), .int .i64 (k : Nat)], .bool true])) ∧ PS w' pb wg ws.tail ∧ Chg [pb] w w' :=
  (operator_c h lv k h7 h2).mono fun e w' ⟨m, b, h1, h2, h3, h4⟩ => by
    rw [← ho] at h1 h2
    obtain rfl : b = true := by rw [h2]; simp [hop]
    exact ⟨⟨m, h1⟩, h3, h4⟩

set_option maxRecDepth 100000 in
set_option maxHeartbeats 2000000 in
theorem tree_leaf {w : World} {pb wg f : Nat} {ws : List Wd} (hrec : RecT pb wg f) (h : PS w pb wg ws) (hf : 9 * ws.length + 8 < f + 1 + 7) :
    Calls Tryd.prog 25 #[.pointer (some ⟨pb, 0, none⟩), .int .i64 7] w (Aft w pb wg (TreeV w.heap.size) (pLeaf (tree f 0) ws)) := by
  have HL := Lib.hid (fun (w' : World) (h : PS w' pb wg ws) => leaf_c (tree f 0) (fun w2 ws2 hp hlt => hrec 0 w2 ws2 (by omega) (by omega) hp) h)
  have HP := Lib.hid h
  have HS0 := Lib.hid (fun o => Run.start h o)
  cases hm : pLeaf (tree f 0) ws with
  | none =>
    have HM := Lib.hid hm
    clear h hm hrec
    go_enter Tryd.func25, Tryd.ntmps25
    go_wp2_with (go_at_call 39; refine (HL.out _ (HS0.out _).ps).mono ?_; rw [HM.out]; rintro e wf ⟨rfl, hc⟩; have HC := Lib.hid ((HS0.out _).whole.trans hc); clear hc)
    exact ⟨rfl, rfl, HC.out⟩
  | some q =>
    obtain ⟨n, r⟩ := q
    have HM := Lib.hid hm
    clear h hm hrec
    go_enter Tryd.func25, Tryd.ntmps25
    go_wp2_with (go_at_call 39; refine (HL.out _ (HS0.out _).ps).mono ?_; rw [HM.out]; rintro e wf ⟨v, rfl, hv, hs, hc⟩; obtain ⟨op, vk, vi, vb, vt, t, i, p, m, rfl, hvv, hk⟩ := TreeV.parts hv; have HK := Lib.hid (And.intro hvv hk); have HF := Lib.hid ((HS0.out _).next hs hc); obtain ⟨z0, z1, z2, z3, z4, z5, z6, z7, zz⟩ := cellsN (HF.out.first HP.out.lt.2); clear hs hc hvv hk hv)
    refine bodyPost_ret (results_cell_row Tryd.results25 _ _ w.heap.size 26 _ (0, 0) _ rfl (putN_at (HF.out.first HP.out.lt.2) _ _ _ _ _ _ _ _) Tryd.underlying26 rfl infoN8) rfl ?_
    exact ⟨_, rfl, ⟨_, HK.out.1.symm, (HK.out.2.far (putN_chg _ _ _ _ _ _ _ _ _ _) (by simp)).up (by simp)⟩, HF.out.put' HP.out (putN_chg _ _ _ _ _ _ _ _ _ _)⟩

theorem below_drew1 (w : World) : Below w.heap.size w w.drew := (Below.refl _ _).drew
theorem Run.drew {w0 w : World} {pb wg : Nat} {ws : List Wd} (h : Run w0 pb wg ws w) : Run w0 pb wg ws w.drew := h.below (below_drew1 w)
/-- A box on top, and the words behind it. -/
theorem Run.top {w0 w1 w2 : World} {pb wg : Nat} {ws : List Wd} {o : Obj} (hc : Chg [pb] (w1.alloc o) w2) (h : Run w0 pb wg ws w1) : w2.heap[w1.heap.size]? = some o := Chg.box hc h.ps.lt.2

theorem keepC {w w' : World} {b g j : Nat} {v : Value} (h : w.cell? ⟨g, j, none⟩ = some v) (hg : g ≠ b) (hc : Chg [b] w w') : w'.cell? ⟨g, j, none⟩ = some v := by
  rw [World.cell?_of_block (w := w) (hc.block g (World.block_lt_of_cell? w _ h) (by simpa using hg))]
  exact h
theorem keepP {w : World} {b g j : Nat} {v : Value} (h : w.cell? ⟨g, j, none⟩ = some v) (hg : g ≠ b) (c0 c1 c2 c3 c4 c5 c6 c7 : Value) : (putN w b c0 c1 c2 c3 c4 c5 c6 c7).cell? ⟨g, j, none⟩ = some v := keepC h hg (putN_chg w b c0 c1 c2 c3 c4 c5 c6 c7)
theorem keepD {w : World} {a : Addr} {v : Value} (h : w.cell? a = some v) : w.drew.cell? a = some v := h
theorem keepA {w : World} {g j : Nat} {v : Value} (h : w.cell? ⟨g, j, none⟩ = some v) (o : Obj) : (w.alloc o).cell? ⟨g, j, none⟩ = some v := by
  rw [(box_bel' w o).cell (p := ⟨g, j, none⟩) (World.block_lt_of_cell? w _ h)]
  exact h
theorem putN_size (w : World) (b : Nat) (c0 c1 c2 c3 c4 c5 c6 c7 : Value) : (putN w b c0 c1 c2 c3 c4 c5 c6 c7).heap.size = w.heap.size := by simp [World.size_setCell]
/-- Behind the store of a node into a box, its kids' block on top. -/
theorem kids_top {w : World} {b : Nat} {c0 c1 c2 c3 c4 c5 c6 c7 : Value} {cs : Array Value} {T : TypeId} {N : Nat} (hN : N = w.heap.size) : ((putN w b c0 c1 c2 c3 c4 c5 c6 c7).alloc (.cells cs T)).heap[N]? = some (.cells cs T (0, 0)) := by
  have := heap_alloc_new (putN w b c0 c1 c2 c3 c4 c5 c6 c7) (.cells cs T)
  rw [putN_size] at this
  rw [hN]
  exact this
theorem box_low {w : World} {b : Nat} {z0 z1 z2 z3 z4 z5 z6 z7 : Value} {T : TypeId} (h : w.heap[b]? = some (.cells #[z0, z1, z2, z3, z4, z5, z6, z7] T (0, 0))) (c0 c1 c2 c3 c4 c5 c6 c7 : Value) (o : Obj) :
    ((putN w b c0 c1 c2 c3 c4 c5 c6 c7).alloc o).heap[b]? = some (.cells #[c0, c1, c2, c3, c4, c5, c6, c7] T (0, 0)) := by
  rw [Below.heap_alloc _ _ _ (by rw [putN_size]; exact (Array.getElem?_eq_some_iff.1 h).1)]
  exact putN_at h c0 c1 c2 c3 c4 c5 c6 c7
set_option maxRecDepth 100000 in
set_option maxHeartbeats 400000 in
theorem tree_un {w : World} {pb wg f lv o : Nat} {ws : List Wd} (hlv : lv < 7) (hrec : RecT pb wg f) (h : PS w pb wg ws) (hf : 9 * ws.length + 8 < f + 1 + lv) (ho : o = opF lv 1 (nextW ws)) (h0 : o ≠ 0) {n : Nd} {r : List Wd} (hm : tree f lv ws.tail = some (n, r)) :
    Calls Tryd.prog 25 #[.pointer (some ⟨pb, 0, none⟩), .int .i64 (lv : Nat)] w (Aft w pb wg (TreeV w.heap.size) (some (.un o n, r))) := by
  have hlen : ws.tail.length < ws.length := (op_lft (by rw [← ho]; exact h0)).1
  have HO := Lib.hid (fun (w' : World) (h : PS w' pb wg ws) => op_yes h lv 1 (by omega) (by omega) o ho h0)
  have HT := Lib.hid (fun (w' : World) (h : PS w' pb wg ws.tail) => hrec lv w' ws.tail (by omega) (by omega) h)
  have HM := Lib.hid hm
  have HP := Lib.hid h
  have HS0 := Lib.hid (fun o => Run.start h o)
  have tl : ((lv : Int) == 7) = false := by simp; omega
  clear h hm hrec ho h0 hlen
  go_enter Tryd.func25, Tryd.ntmps25
  go_wp2_with (go_at_call 40; refine (HO.out _ (HS0.out _).ps).mono ?_; rintro e w1 ⟨⟨mk, rfl⟩, hs, hc⟩; have HS1 := Lib.hid ((HS0.out _).next hs hc); clear hs hc)
  have HNE := Lib.hid (show w1.heap.size ≠ w.heap.size from by have := HS1.out.chg.size; simp at this; omega)
  have HK1 := Lib.hid (cellsO (heap_alloc_new w1 (.cells #[.string mk, .int .i64 (o : Nat), .int .i64 (lv : Nat), .int .i64 1] 64))).2.1
  go_region_held3 (fun w' => w'.cell? ⟨w1.heap.size, 1, none⟩ = some (.int .i64 (o : Nat)))
    (first
      | with_reducible exact HK1.out
      | with_reducible exact keepD HK1.out
      | with_reducible exact keepD (keepD HK1.out)
      | with_reducible exact HK2.out
      | with_reducible exact keepD HK2.out
      | with_reducible exact keepD (keepD HK2.out)
      | with_reducible exact keepA HK2.out _
      | with_reducible exact keepD (keepA HK2.out _)
      | with_reducible exact keepA (keepP HK2.out HNE.out _ _ _ _ _ _ _ _) _)
    (first
      | (go_at_call 25; refine (HT.out _ ?_).mono ?_
         · first | with_reducible exact (HS1.out.box _).ps | with_reducible exact (HS1.out.box _).drew.ps | with_reducible exact (HS1.out.box _).drew.drew.ps
         rw [show tree f lv ws.tail = some (n, r) from HM.out]
         rintro e w2 ⟨v, rfl, hv, hs, hc0⟩
         have hc : Chg [pb] (w1.alloc (.cells #[.string mk, .int .i64 (o : Nat), .int .i64 (lv : Nat), .int .i64 1] 64)) w2 := by first | with_reducible exact hc0 | with_reducible exact ((Chg.refl [pb] _).drew').trans hc0 | with_reducible exact ((Chg.refl [pb] _).drew').drew'.trans hc0
         obtain ⟨op, vk, vi, vb, vt, t, i, p, m, rfl, hcc, hk⟩ := TreeV.open hv
         have HK := Lib.hid (And.intro hcc hk)
         have HF := Lib.hid ((HS1.out.box _).next hs hc)
         have HK2 := Lib.hid (cellsO (Run.top hc HS1.out)).2.1
         obtain ⟨z0, z1, z2, z3, z4, z5, z6, z7, zz⟩ := cellsN (HF.out.first HP.out.lt.2)
         have hlt1 := (Array.getElem?_eq_some_iff.1 (HF.out.first HP.out.lt.2)).1
         clear hs hc hc0 hcc hk hv)
      | fail "no arm")
  all_goals
    go_wp2_with fail
    refine bodyPost_ret (results_cell_row Tryd.results25 _ _ w.heap.size 26 _ (0, 0) _ rfl (box_low (HF.out.first HP.out.lt.2) _ _ _ _ _ _ _ _ _) Tryd.underlying26 rfl infoN8) rfl ?_
    have hq := HF.out.put' HP.out (putN_chg w2 w.heap.size (.int .i64 (o : Nat)) (.int .i64 0) (.int .i64 0) (.bool false) (.string ⟨#[]⟩) (.string ⟨#[]⟩) (.int .i64 0) (.slice (some ⟨w2.heap.size, 0, none⟩) 1 1))
    have hsz := HS1.out.chg.size
    have hsz2 := HF.out.chg.size
    simp only [World.size_alloc] at hsz hsz2
    refine ⟨_, rfl, ⟨_, rfl, w2.heap.size, .slice p m m, rfl, (by omega), ?_, ?_⟩, hq.1.alloc _, hq.2.alloc' _⟩
    · rw [HK.out.1]
      exact kids_top rfl
    · refine ((HK.out.2.far (putN_chg w2 w.heap.size _ _ _ _ _ _ _ _) ?_).below (box_bel' _ _)).up ?_
      · simp; omega
      · simp; omega
end Go.Proofs.YtikofngogkchfaaDoor

/- The program's parser: trees with operators on two. -/
namespace Go.Proofs.YtikofngogkchfaaDoor
open Go.RowKit
set_option linter.unusedVariables false

set_option maxRecDepth 100000 in
set_option maxHeartbeats 400000 in
theorem tree_un_no {w : World} {pb wg f lv o : Nat} {ws : List Wd} (hlv : lv < 7) (hrec : RecT pb wg f) (h : PS w pb wg ws) (hf : 9 * ws.length + 8 < f + 1 + lv) (ho : o = opF lv 1 (nextW ws)) (h0 : o ≠ 0) (hm : tree f lv ws.tail = none) :
    Calls Tryd.prog 25 #[.pointer (some ⟨pb, 0, none⟩), .int .i64 (lv : Nat)] w (Aft w pb wg (TreeV w.heap.size) none) := by
  have hlen : ws.tail.length < ws.length := (op_lft (by rw [← ho]; exact h0)).1
  have HO := Lib.hid (fun (w' : World) (h : PS w' pb wg ws) => op_yes h lv 1 (by omega) (by omega) o ho h0)
  have HT := Lib.hid (fun (w' : World) (h : PS w' pb wg ws.tail) => hrec lv w' ws.tail (by omega) (by omega) h)
  have HM := Lib.hid hm
  have HP := Lib.hid h
  have HS0 := Lib.hid (fun o => Run.start h o)
  have tl : ((lv : Int) == 7) = false := by simp; omega
  clear h hm hrec ho h0 hlen
  go_enter Tryd.func25, Tryd.ntmps25
  go_wp2_with (go_at_call 40; refine (HO.out _ (HS0.out _).ps).mono ?_; rintro e w1 ⟨⟨mk, rfl⟩, hs, hc⟩; have HS1 := Lib.hid ((HS0.out _).next hs hc); clear hs hc)
  go_region_dies
  all_goals
    refine (HT.out _ ?_).mono ?_
    · first | with_reducible exact (HS1.out.box _).ps | with_reducible exact (HS1.out.box _).drew.ps | with_reducible exact (HS1.out.box _).drew.drew.ps
    rw [show tree f lv ws.tail = none from HM.out]
    rintro e w2 ⟨rfl, hc0⟩
    have hc : Chg [pb] (w1.alloc (.cells #[.string mk, .int .i64 (o : Nat), .int .i64 (lv : Nat), .int .i64 1] 64)) w2 := by first | with_reducible exact hc0 | with_reducible exact ((Chg.refl [pb] _).drew').trans hc0 | with_reducible exact ((Chg.refl [pb] _).drew').drew'.trans hc0
    exact ⟨rfl, rfl, (HS1.out.box _).whole.trans hc⟩

/-- The first tree of a level fails. -/
theorem tree_bin_no {w : World} {pb wg f lv : Nat} {ws : List Wd} (hlv : lv < 7) (hrec : RecT pb wg f) (h : PS w pb wg ws) (hf : 9 * ws.length + 8 < f + 1 + lv) (h0 : opF lv 1 (nextW ws) = 0) (hm : tree f (lv + 1) ws = none) :
    Calls Tryd.prog 25 #[.pointer (some ⟨pb, 0, none⟩), .int .i64 (lv : Nat)] w (Aft w pb wg (TreeV w.heap.size) none) := by
  have HO := Lib.hid (fun (w' : World) (h : PS w' pb wg ws) => op_no h lv 1 (by omega) (by omega) h0)
  have HT := Lib.hid (fun (w' : World) (h : PS w' pb wg ws) => hrec (lv + 1) w' ws (by omega) (by omega) h)
  have HM := Lib.hid hm
  have HP := Lib.hid h
  have HS0 := Lib.hid (fun o => Run.start h o)
  have tl : ((lv : Int) == 7) = false := by simp; omega
  clear h hm hrec h0
  go_enter Tryd.func25, Tryd.ntmps25
  go_wp2_with (first
    | (go_at_call 25; refine (HT.out _ (HS1.out.box _).ps).mono ?_; rw [HM.out]; rintro e w2 ⟨rfl, hc⟩; have HC := Lib.hid ((HS1.out.box _).whole.trans hc); clear hc)
    | (go_at_call 40; refine (HO.out _ (HS0.out _).ps).mono ?_; rintro e w1 ⟨⟨mk, rfl⟩, hs, hc⟩; have HS1 := Lib.hid ((HS0.out _).next hs hc); clear hs hc))
  exact ⟨rfl, rfl, HC.out⟩

/-- The rest of a level while it is read: the tree so far lies in a box. -/
def LoopI (w : World) (pb wg bn : Nat) (rec : List Wd → Option (Nd × List Wd)) (lv N : Nat) (R : Option (Nd × List Wd)) (wr : World) : Prop :=
  ∃ (n : Nd) (ws : List Wd) (g : Nat) (op vk vi : Int) (vb : Bool) (vt t : ByteArray) (i : Int) (p : Option Addr) (m : Nat),
    wr.heap[bn]? = some (.cells #[.int .i64 op, .int .i64 vk, .int .i64 vi, .bool vb, .string vt, .string t, .int .i64 i, .slice p m m] 26 (0, 0)) ∧
    n.cells (.slice p m m) = [.int .i64 op, .int .i64 vk, .int .i64 vi, .bool vb, .string vt, .string t, .int .i64 i, .slice p m m] ∧
    KidsAt wr (fun g => w.heap.size < g ∧ g ≠ bn) n (.slice p m m) ∧ Run (w.alloc (.cells nodeZ 26)) pb wg ws wr ∧ pLoop rec lv g n ws = R ∧ ws.length < g ∧ ws.length < N
abbrev RES : Obj := .cells #[.int .i64 0, .int .i64 0, .int .i64 0, .bool false, .string ⟨#[]⟩, .string ⟨#[]⟩, .int .i64 0, .slice none 0 0] 26
theorem pLoop_end {rec : List Wd → Option (Nd × List Wd)} {lv g : Nat} {n : Nd} {ws : List Wd} (hg : ws.length < g) (h : opF lv 2 (nextW ws) = 0) : pLoop rec lv g n ws = some (n, ws) := by
  obtain ⟨g, rfl⟩ : ∃ k, g = k + 1 := ⟨g - 1, by omega⟩
  rw [pLoop, if_pos h]
theorem pLoop_no {rec : List Wd → Option (Nd × List Wd)} {lv g : Nat} {n : Nd} {ws : List Wd} (hg : ws.length < g) (h : opF lv 2 (nextW ws) ≠ 0) (hr : rec ws.tail = none) : pLoop rec lv g n ws = none := by
  obtain ⟨g, rfl⟩ : ∃ k, g = k + 1 := ⟨g - 1, by omega⟩
  rw [pLoop, if_neg h, hr]
theorem pLoop_last {rec : List Wd → Option (Nd × List Wd)} {g : Nat} {n m : Nd} {ws r : List Wd} (hg : ws.length < g) (h : opF 3 2 (nextW ws) ≠ 0) (hr : rec ws.tail = some (m, r)) : pLoop rec 3 g n ws = some (.bin (opF 3 2 (nextW ws) : Nat) n m, r) := by
  obtain ⟨g, rfl⟩ : ∃ k, g = k + 1 := ⟨g - 1, by omega⟩
  rw [pLoop, if_neg h, hr]
  exact if_pos rfl
theorem pLoop_next {rec : List Wd → Option (Nd × List Wd)} {lv g : Nat} {n m : Nd} {ws r : List Wd} (hg : ws.length < g + 1) (h : opF lv 2 (nextW ws) ≠ 0) (hr : rec ws.tail = some (m, r)) (hl : lv ≠ 3) : pLoop rec lv (g + 1) n ws = pLoop rec lv g (.bin (opF lv 2 (nextW ws) : Nat) n m) r := by
  rw [pLoop, if_neg h, hr]
  exact if_neg hl

set_option maxRecDepth 100000 in
theorem wrap_lv {lv : Nat} (h : lv < 7) : IntKind.i64.wrap ((lv : Int) + 1) = (lv : Int) + 1 := by
  rw [IntKind.wrap_i64]
  omega
/-- Two boxes. -/
def TwoB (w : World) (a b : Nat) (o o' : Obj) : Prop := w.heap[a]? = some o ∧ w.heap[b]? = some o'
theorem TwoB.drew {w : World} {a b : Nat} {o o' : Obj} (h : TwoB w a b o o') : TwoB w.drew a b o o' := h
theorem TwoB.below {w w' : World} {a b : Nat} {o o' : Obj} (h : TwoB w a b o o') (hb : Below w.heap.size w w') : TwoB w' a b o o' := ⟨(hb.block _ (Array.getElem?_eq_some_iff.1 h.1).1).trans h.1, (hb.block _ (Array.getElem?_eq_some_iff.1 h.2).1).trans h.2⟩
theorem TwoB.drewN {w : World} {a b : Nat} {o o' : Obj} (h : TwoB w a b o o') (k : Nat) : TwoB (w.drewN k) a b o o' := h.below (below_drewN (Below.refl _ _) _)
theorem TwoB.alloc {w : World} {a b : Nat} {o o' : Obj} (h : TwoB w a b o o') (x : Obj) : TwoB (w.alloc x) a b o o' := h.below (box_bel' _ _)
theorem Run.drewN {w0 w : World} {pb wg : Nat} {ws : List Wd} (h : Run w0 pb wg ws w) (k : Nat) : Run w0 pb wg ws (w.drewN k) := h.below (below_drewN (Below.refl _ _) _)
theorem two_cells {W : World} {a b : Nat} {x0 x1 x2 x3 c0 c1 c2 c3 c4 c5 c6 c7 : Value} {T T' : TypeId} (h : TwoB W a b (.cells #[x0, x1, x2, x3] T (0, 0)) (.cells #[c0, c1, c2, c3, c4, c5, c6, c7] T' (0, 0))) :
    W.cell? ⟨a, 1, none⟩ = some x1 ∧ W.cell? ⟨b, 0, none⟩ = some c0 ∧ W.cell? ⟨b, 1, none⟩ = some c1 ∧ W.cell? ⟨b, 2, none⟩ = some c2 ∧ W.cell? ⟨b, 3, none⟩ = some c3 ∧ W.cell? ⟨b, 4, none⟩ = some c4 ∧ W.cell? ⟨b, 5, none⟩ = some c5 ∧ W.cell? ⟨b, 6, none⟩ = some c6 ∧ W.cell? ⟨b, 7, none⟩ = some c7 := by
  obtain ⟨h0, h1, h2, h3, h4, h5, h6, h7, _⟩ := cellsN h.2
  exact ⟨(cellsO h.1).2.1, h0, h1, h2, h3, h4, h5, h6, h7⟩
set_option maxRecDepth 100000 in
set_option maxHeartbeats 2000000 in
theorem tree_bin {w : World} {pb wg f lv : Nat} {ws : List Wd} (hlv : lv < 7) (hrec : RecT pb wg f) (h : PS w pb wg ws) (hf : 9 * ws.length + 8 < f + 1 + lv) (h0 : opF lv 1 (nextW ws) = 0) {n : Nd} {r : List Wd} (hm : tree f (lv + 1) ws = some (n, r)) :
    Calls Tryd.prog 25 #[.pointer (some ⟨pb, 0, none⟩), .int .i64 (lv : Nat)] w (Aft w pb wg (TreeV w.heap.size) (pLoop (tree f (lv + 1)) lv (ws.length + 1) n r)) := by
  have HO := Lib.hid (fun (w' : World) (h : PS w' pb wg ws) => op_no h lv 1 (by omega) (by omega) h0)
  have HT := Lib.hid (fun (w' : World) (h : PS w' pb wg ws) => hrec (lv + 1) w' ws (by omega) (by omega) h)
  have HR := Lib.hid (fun (w' : World) (ws' : List Wd) (hl : ws'.length < ws.length) (h : PS w' pb wg ws') => hrec (lv + 1) w' ws' (by omega) (by omega) h)
  have HM := Lib.hid hm
  have HP := Lib.hid h
  have HS0 := Lib.hid (fun o => Run.start h o)
  have tl : ((lv : Int) == 7) = false := by simp; omega
  have hlen := (tree_lft _ _ _ _ _ hm).1
  have HLEN := Lib.hid hlen
  obtain ⟨R, hR⟩ : ∃ R, R = pLoop (tree f (lv + 1)) lv (ws.length + 1) n r := ⟨_, rfl⟩
  have HRR := Lib.hid hR
  rw [← hR]
  clear h hm hrec h0 hlen hR
  go_enter Tryd.func25, Tryd.ntmps25
  go_wp2_with (first
    | (go_at_call 25; refine (HT.out _ (HS1.out.box _).ps).mono ?_; rw [HM.out]; rintro e w2 ⟨v, rfl, hv, hs, hc⟩; obtain ⟨op, vk, vi, vb, vt, t, i, p, m, rfl, hcc, hk⟩ := TreeV.open hv; have HK := Lib.hid (And.intro hcc hk); have HS2 := Lib.hid ((HS1.out.box _).next hs hc); have HSZ := Lib.hid HS1.out.chg.size; clear hs hc hcc hk hv)
    | (go_at_call 40; refine (HO.out _ (HS0.out _).ps).mono ?_; rintro e w1 ⟨⟨mk, rfl⟩, hs, hc⟩; have HS1 := Lib.hid ((HS0.out _).next hs hc); clear hs hc))
  have HI0 := Lib.hid (show LoopI w pb wg w2.heap.size (tree f (lv + 1)) lv ws.length R (w2.alloc (.cells #[.int .i64 op, .int .i64 vk, .int .i64 vi, .bool vb, .string vt, .string t, .int .i64 i, .slice p m m] 26)) from
    ⟨n, r, ws.length + 1, op, vk, vi, vb, vt, t, i, p, m, heap_alloc_new _ _, HK.out.1, (HK.out.2.mono (fun g hg hlt => by have := HSZ.out; simp at this hg; omega)).below (box_bel' _ _), HS2.out.box _, HRR.out.symm, by have := HLEN.out; omega, HLEN.out⟩)
  have hwr := wrap_lv hlv
  have HBN := Lib.hid (show w.heap.size < w2.heap.size from by have := HS2.out.chg.size; simp at this; omega)
  clear HO HT HM HS0 HK HS2 HSZ HLEN HRR
  go_loopw [] (fun wr => LoopI w pb wg w2.heap.size (tree f (lv + 1)) lv ws.length R wr) (fun wr => lenAt wr pb)
  case atStart => exact HI0.out
  case round =>
    obtain ⟨n', qs, g, op', vk', vi', vb', vt', t', i', p', m', hbn, hcells, hkids, hrun, hloop, hg, hN⟩ := hrel
    have HRUN := Lib.hid hrun
    have HBNB := Lib.hid hbn
    have HKK := Lib.hid (And.intro hcells hkids)
    have hbl : w2.heap.size < wr.heap.size := (Array.getElem?_eq_some_iff.1 hbn).1
    have HBL := Lib.hid hbl
    have HNE := Lib.hid (show w2.heap.size ≠ pb from by have := HP.out.lt.2; have := HBN.out; omega)
    have HNE2 := Lib.hid (show w.heap.size ≠ pb from by have := HP.out.lt.2; omega)
    have HKP := Lib.hid (show ∀ g, (w.heap.size < g ∧ g ≠ w2.heap.size) → g ∉ [pb] from fun g hg => by have := HP.out.lt.2; simp; omega)
    by_cases hop : opF lv 2 (nextW qs) = 0
    · have HOP := Lib.hid (fun (w' : World) (h : PS w' pb wg qs) => op_no h lv 2 (by omega) (by omega) hop)
      have HRES := Lib.hid (show some (n', qs) = R from by rw [← hloop, pLoop_end hg hop])
      clear hrun hbn hcells hkids hloop hg hN hop hbl
      go_wp2_with (go_at_call 40; refine (HOP.out _ HRUN.out.ps).mono ?_; rintro e w3 ⟨⟨mk, rfl⟩, hs, hc⟩; have HF := Lib.hid (HRUN.out.next hs hc); obtain ⟨b0, b1, b2, b3, b4, b5, b6, b7, bz⟩ := cellsN ((hc.block w2.heap.size HBL.out (by simp; exact HNE.out)).trans HBNB.out); obtain ⟨z0, z1, z2, z3, z4, z5, z6, z7, zz⟩ := cellsN (HF.out.first HP.out.lt.2); have hl1 := (Array.getElem?_eq_some_iff.1 (HF.out.first HP.out.lt.2)).1; have hl2 : w2.heap.size < w3.heap.size := Nat.lt_of_lt_of_le HBL.out hc.size; have HK3 := Lib.hid (HKK.out.2.chg hc HKP.out); clear hs hc bz)
      refine bodyPost_ret (results_cell_row Tryd.results25 _ _ w.heap.size 26 _ (0, 0) _ rfl (box_low (HF.out.first HP.out.lt.2) _ _ _ _ _ _ _ _ _) Tryd.underlying26 rfl infoN8) rfl ?_
      have hq := HF.out.put' HP.out (putN_chg w3 w.heap.size (.int .i64 op') (.int .i64 vk') (.int .i64 vi') (.bool vb') (.string vt') (.string t') (.int .i64 i') (.slice p' m' m'))
      rw [← HRES.out]
      refine ⟨_, rfl, ⟨.slice p' m' m', ?_, ?_⟩, hq.1.alloc _, hq.2.alloc' _⟩
      · unfold Nd.val
        rw [HKK.out.1]
      · exact ((HK3.out.chg (putN_chg w3 w.heap.size _ _ _ _ _ _ _ _) (fun g hg => by simp; omega)).below (box_bel' _ _)).mono fun g hg _ => by omega
    · obtain ⟨o, ho⟩ : ∃ o, o = opF lv 2 (nextW qs) := ⟨_, rfl⟩
      have HOP := Lib.hid (fun (w' : World) (h : PS w' pb wg qs) => op_yes h lv 2 (by omega) (by omega) o ho (by rw [ho]; exact hop))
      have hlt2 := (op_lft hop).1
      have HT := Lib.hid (fun (w' : World) (h : PS w' pb wg qs.tail) => HR.out w' qs.tail (by omega) h)
      cases hm2 : tree f (lv + 1) qs.tail with
      | none =>
        have HM2 := Lib.hid hm2
        have HRES := Lib.hid (show none = R from by rw [← hloop, pLoop_no hg hop hm2])
        clear hrun hbn hcells hkids hloop hg hN hop hbl ho hlt2 hm2
        go_wp2_with (go_at_call 40; refine (HOP.out _ HRUN.out.ps).mono ?_; rintro e w3 ⟨⟨mk, rfl⟩, hs, hc⟩; have HF := Lib.hid (HRUN.out.next hs hc); obtain ⟨b0, b1, b2, b3, b4, b5, b6, b7, bz⟩ := cellsN ((hc.block w2.heap.size HBL.out (by simp; exact HNE.out)).trans HBNB.out); have hl2 : w2.heap.size < w3.heap.size := Nat.lt_of_lt_of_le HBL.out hc.size; clear hs hc bz)
        go_region_dies
        all_goals
          refine (HT.out _ ?_).mono ?_
          · first | with_reducible exact (HF.out.box _).ps | with_reducible exact (HF.out.box _).drew.ps | with_reducible exact (HF.out.box _).drew.drew.ps
          rw [show tree f (lv + 1) qs.tail = none from HM2.out]
          rintro e w4 ⟨rfl, hc0⟩
          have hc : Chg [pb] (w3.alloc (.cells #[.string mk, .int .i64 (o : Nat), .int .i64 (lv : Nat), .int .i64 2] 64)) w4 := by first | with_reducible exact hc0 | with_reducible exact ((Chg.refl [pb] _).drew').trans hc0 | with_reducible exact ((Chg.refl [pb] _).drew').drew'.trans hc0
          exact ⟨rfl, by rw [← HRES.out]; exact ⟨rfl, (HF.out.box _).whole.trans hc⟩⟩
      | some q =>
        obtain ⟨m2, r2⟩ := q
        have HM2 := Lib.hid hm2
        have hml := (tree_lft _ _ _ _ _ hm2).1
        have HOP0 := Lib.hid (show o ≠ 0 from by rw [ho]; exact hop)
        obtain ⟨g, rfl⟩ : ∃ k, g = k + 1 := ⟨g - 1, by omega⟩
        have HLAST := Lib.hid (fun (h3 : lv = 3) => show some (.bin (o : Nat) n' m2, r2) = R from by rw [← hloop]; subst h3; rw [ho]; exact (pLoop_last hg hop hm2).symm)
        have HNEXT := Lib.hid (fun (h3 : lv ≠ 3) => show pLoop (tree f (lv + 1)) lv g (.bin (o : Nat) n' m2) r2 = R from by rw [← hloop, ho]; exact (pLoop_next hg hop hm2 h3).symm)
        have HLN := Lib.hid (And.intro (show r2.length < g by omega) (show r2.length < qs.length ∧ qs.length < ws.length from ⟨by omega, hN⟩))
        have HMS := Lib.hid hrun.ps.lenAt
        clear hrun hbn hcells hkids hloop hg hN hop hbl ho hlt2 hm2 hml
        go_wp2_with (go_at_call 40; refine (HOP.out _ HRUN.out.ps).mono ?_; rintro e w3 ⟨⟨mk, rfl⟩, hs, hc⟩; have HF := Lib.hid (HRUN.out.next hs hc); have HNB := Lib.hid ((hc.block w2.heap.size HBL.out (by simp; exact HNE.out)).trans HBNB.out); obtain ⟨b0, b1, b2, b3, b4, b5, b6, b7, bz⟩ := cellsN HNB.out; have hl2 : w2.heap.size < w3.heap.size := Nat.lt_of_lt_of_le HBL.out hc.size; have HK3 := Lib.hid (HKK.out.2.chg hc HKP.out); clear hs hc bz)
        have HQ3 := Lib.hid (show TwoB (w3.alloc (.cells #[.string mk, .int .i64 (o : Nat), .int .i64 (lv : Nat), .int .i64 2] 64)) w3.heap.size w2.heap.size (.cells #[.string mk, .int .i64 (o : Nat), .int .i64 (lv : Nat), .int .i64 2] 64) (.cells #[.int .i64 op', .int .i64 vk', .int .i64 vi', .bool vb', .string vt', .string t', .int .i64 i', .slice p' m' m'] 26) from ⟨heap_alloc_new _ _, (Below.heap_alloc _ _ _ hl2).trans HNB.out⟩)
        have HKQ := Lib.hid (fun (W : World) (hW : TwoB W w3.heap.size w2.heap.size (.cells #[.string mk, .int .i64 (o : Nat), .int .i64 (lv : Nat), .int .i64 2] 64) (.cells #[.int .i64 op', .int .i64 vk', .int .i64 vi', .bool vb', .string vt', .string t', .int .i64 i', .slice p' m' m'] 26)) => two_cells hW)
        clear b0 b1 b2 b3 b4 b5 b6 b7
        refine wp_region_cut (S := (fun w' => w'.cell? ⟨w3.heap.size, 1, none⟩ = some (.int .i64 (o : Nat)) ∧ w'.cell? ⟨w2.heap.size, 0, none⟩ = some (.int .i64 op') ∧ w'.cell? ⟨w2.heap.size, 1, none⟩ = some (.int .i64 vk') ∧ w'.cell? ⟨w2.heap.size, 2, none⟩ = some (.int .i64 vi') ∧ w'.cell? ⟨w2.heap.size, 3, none⟩ = some (.bool vb') ∧ w'.cell? ⟨w2.heap.size, 4, none⟩ = some (.string vt') ∧ w'.cell? ⟨w2.heap.size, 5, none⟩ = some (.string t') ∧ w'.cell? ⟨w2.heap.size, 6, none⟩ = some (.int .i64 i') ∧ w'.cell? ⟨w2.heap.size, 7, none⟩ = some (.slice p' m' m'))) 9 (by kernel_rfl) (by kernel_rfl) ?_ (fun hHeld => ?_)
        · (try dsimp only)
          (first
              | with_reducible exact HKQ.out _ HQ3.out
              | with_reducible exact HKQ.out _ HQ3.out.drew
              | with_reducible exact HKQ.out _ (HQ3.out.drewN _)
              | with_reducible exact HKQ.out _ (HQ3.out.drewN _).drew
              | with_reducible exact HKQ.out _ HQ4.out
              | with_reducible exact HKQ.out _ HQ4.out.drew
              | with_reducible exact HKQ.out _ (HQ4.out.drewN _)
              | with_reducible exact HKQ.out _ (HQ4.out.alloc _)
              | with_reducible exact HKQ.out _ (HQ4.out.alloc _).drew
              | with_reducible exact HKQ.out _ (HQ4.out.drew.alloc _)
              | with_reducible exact HKQ.out _ ((HQ4.out.drewN _).alloc _))
        simp only [List.take_succ_cons, List.take_zero]
        (try dsimp only at hHeld)
        all_goals (repeat (first
               | (refine wpAnyH_take (i := 0) (v := ?_) rfl (by decide +kernel) (by decide +kernel) (by decide +kernel) (fun _ _ _ h => h) (Or.inl ⟨by rfl, ?_⟩) (by assumption) ?_; rotate_left 1; (focus (intro w hSw; (try dsimp only at hSw); (try simp only [List.getElem_toArray, List.getElem_cons_zero]); first | (go_simp; done) | (go_simp; with_reducible rfl))); (try simp only [Act.put, List.getElem_toArray, List.getElem_cons_zero, List.setIfInBounds_toArray, List.set_cons_zero, List.set_cons_succ]))
               | (refine wpAnyH_take (i := 1) (v := ?_) rfl (by decide +kernel) (by decide +kernel) (by decide +kernel) (fun _ _ _ h => h) (Or.inl ⟨by rfl, ?_⟩) (by assumption) ?_; rotate_left 1; (focus (intro w hSw; (try dsimp only at hSw); (try simp only [List.getElem_toArray, List.getElem_cons_succ, List.getElem_cons_zero]); first | (go_simp; done) | (go_simp; with_reducible rfl))); (try simp only [Act.put, List.getElem_toArray, List.getElem_cons_succ, List.getElem_cons_zero, List.setIfInBounds_toArray, List.set_cons_zero, List.set_cons_succ]))
               | (refine wpAnyH_take (i := 2) (v := ?_) rfl (by decide +kernel) (by decide +kernel) (by decide +kernel) (fun _ _ _ h => h) (Or.inl ⟨by rfl, ?_⟩) (by assumption) ?_; rotate_left 1; (focus (intro w hSw; (try dsimp only at hSw); (try simp only [List.getElem_toArray, List.getElem_cons_succ, List.getElem_cons_zero]); first | (go_simp; done) | (go_simp; with_reducible rfl))); (try simp only [Act.put, List.getElem_toArray, List.getElem_cons_succ, List.getElem_cons_zero, List.setIfInBounds_toArray, List.set_cons_zero, List.set_cons_succ]))
               | (refine wpAnyH_take (i := 3) (v := ?_) rfl (by decide +kernel) (by decide +kernel) (by decide +kernel) (fun _ _ _ h => h) (Or.inl ⟨by rfl, ?_⟩) (by assumption) ?_; rotate_left 1; (focus (intro w hSw; (try dsimp only at hSw); (try simp only [List.getElem_toArray, List.getElem_cons_succ, List.getElem_cons_zero]); first | (go_simp; done) | (go_simp; with_reducible rfl))); (try simp only [Act.put, List.getElem_toArray, List.getElem_cons_succ, List.getElem_cons_zero, List.setIfInBounds_toArray, List.set_cons_zero, List.set_cons_succ]))
               | (refine wpAnyH_take (i := 4) (v := ?_) rfl (by decide +kernel) (by decide +kernel) (by decide +kernel) (fun _ _ _ h => h) (Or.inl ⟨by rfl, ?_⟩) (by assumption) ?_; rotate_left 1; (focus (intro w hSw; (try dsimp only at hSw); (try simp only [List.getElem_toArray, List.getElem_cons_succ, List.getElem_cons_zero]); first | (go_simp; done) | (go_simp; with_reducible rfl))); (try simp only [Act.put, List.getElem_toArray, List.getElem_cons_succ, List.getElem_cons_zero, List.setIfInBounds_toArray, List.set_cons_zero, List.set_cons_succ]))
               | (refine wpAnyH_take (i := 5) (v := ?_) rfl (by decide +kernel) (by decide +kernel) (by decide +kernel) (fun _ _ _ h => h) (Or.inl ⟨by rfl, ?_⟩) (by assumption) ?_; rotate_left 1; (focus (intro w hSw; (try dsimp only at hSw); (try simp only [List.getElem_toArray, List.getElem_cons_succ, List.getElem_cons_zero]); first | (go_simp; done) | (go_simp; with_reducible rfl))); (try simp only [Act.put, List.getElem_toArray, List.getElem_cons_succ, List.getElem_cons_zero, List.setIfInBounds_toArray, List.set_cons_zero, List.set_cons_succ]))
               | (refine wpAnyH_take (i := 8) (v := ?_) rfl (by decide +kernel) (by decide +kernel) (by decide +kernel) (fun _ _ _ h => h) (Or.inl ⟨by rfl, ?_⟩) (by assumption) ?_; rotate_left 1; (focus (intro w hSw; (try dsimp only at hSw); (try simp only [List.getElem_toArray, List.getElem_cons_succ, List.getElem_cons_zero]); first | (go_simp; done) | (go_simp; with_reducible rfl))); (try simp only [Act.put, List.getElem_toArray, List.getElem_cons_succ, List.getElem_cons_zero, List.setIfInBounds_toArray, List.set_cons_zero, List.set_cons_succ]))
               | fail "nothing to take"))
        iterate 2 (all_goals (
          (first
            | (refine wpAnyH_ready (rs := [6]) (by decide +kernel) (by simp) ?_; refine (AllReadyH.cons rfl (fun Kx hKx => ?_) AllReadyH.nil))
            | (refine wpAnyH_ready (rs := [7]) (by decide +kernel) (by simp) ?_; refine (AllReadyH.cons rfl (fun Kx hKx => ?_) AllReadyH.nil)))
          all_goals (
            first
              | ((try simp only [List.getElem_toArray, List.getElem_cons_succ, List.getElem_cons_zero]); go_simp; go_at_call 25; refine (HT.out _ (by first | with_reducible exact (HF.out.box _).ps | with_reducible exact (HF.out.box _).drew.ps | with_reducible exact ((HF.out.box _).drewN _).ps | with_reducible exact ((HF.out.box _).drewN _).drew.ps)).mono ?_; rw [show tree f (lv + 1) qs.tail = some (m2, r2) from HM2.out]; rintro e w4 ⟨v, rfl, hv, hs, hc0⟩; have hc : Chg [pb] (w3.alloc (.cells #[.string mk, .int .i64 (o : Nat), .int .i64 (lv : Nat), .int .i64 2] 64)) w4 := (by first | with_reducible exact hc0 | with_reducible exact ((Chg.refl [pb] _).drew').trans hc0 | with_reducible exact (Chg.of_below (below_drewN (Below.refl _ _) _)).trans hc0 | with_reducible exact (Chg.of_below (below_drewN (Below.refl _ _) _).drew).trans hc0); obtain ⟨op2, vk2, vi2, vb2, vt2, t2, i2, p2, q2, rfl, hcc, hk⟩ := TreeV.open hv; have HK4 := Lib.hid (And.intro hcc (show KidsAt w4 (fun g => w3.heap.size < g) m2 (.slice p2 q2 q2) from hk.mono (fun g hg _ => by simp at hg; omega))); have HF4 := Lib.hid ((HF.out.box _).next hs hc); have HKN := Lib.hid ((HK3.out.below (box_bel' _ _)).chg hc HKP.out); have HQ4 := Lib.hid (show TwoB w4 w3.heap.size w2.heap.size (.cells #[.string mk, .int .i64 (o : Nat), .int .i64 (lv : Nat), .int .i64 2] 64) (.cells #[.int .i64 op', .int .i64 vk', .int .i64 vi', .bool vb', .string vt', .string t', .int .i64 i', .slice p' m' m'] 26) from ⟨Run.top hc HF.out, (hc.block w2.heap.size (by simp; omega) (by simp; exact HNE.out)).trans HQ3.out.2⟩); have HS4 := Lib.hid hc.size; obtain ⟨d0, d1, d2, d3, d4, d5, d6, d7, dz⟩ := cellsN HQ4.out.2; have hl4 : w2.heap.size < w4.heap.size := (Array.getElem?_eq_some_iff.1 HQ4.out.2).1; clear hs hc hc0 hcc hk hv; (try dsimp only))
              | ((try simp only [List.getElem_toArray, List.getElem_cons_succ, List.getElem_cons_zero]); go_simp)
            refine hKx.out _ _ ?_ (fun hHeld => ?_)
            · (try dsimp only)
              (first
                  | with_reducible exact HKQ.out _ HQ3.out
                  | with_reducible exact HKQ.out _ HQ3.out.drew
                  | with_reducible exact HKQ.out _ (HQ3.out.drewN _)
                  | with_reducible exact HKQ.out _ (HQ3.out.drewN _).drew
                  | with_reducible exact HKQ.out _ HQ4.out
                  | with_reducible exact HKQ.out _ HQ4.out.drew
                  | with_reducible exact HKQ.out _ (HQ4.out.drewN _)
                  | with_reducible exact HKQ.out _ (HQ4.out.alloc _)
                  | with_reducible exact HKQ.out _ (HQ4.out.alloc _).drew
                  | with_reducible exact HKQ.out _ (HQ4.out.drew.alloc _)
                  | with_reducible exact HKQ.out _ ((HQ4.out.drewN _).alloc _))
            (try dsimp only at hHeld)
            clear hKx Kx
            (try simp only [Act.put, List.getElem_toArray, List.getElem_cons_succ, List.getElem_cons_zero, List.setIfInBounds_toArray, List.set_cons_zero, List.set_cons_succ])
            repeat (first
               | (refine wpAnyH_take (i := 0) (v := ?_) rfl (by decide +kernel) (by decide +kernel) (by decide +kernel) (fun _ _ _ h => h) (Or.inl ⟨by rfl, ?_⟩) (by assumption) ?_; rotate_left 1; (focus (intro w hSw; (try dsimp only at hSw); (try simp only [List.getElem_toArray, List.getElem_cons_zero]); first | (go_simp; done) | (go_simp; with_reducible rfl))); (try simp only [Act.put, List.getElem_toArray, List.getElem_cons_zero, List.setIfInBounds_toArray, List.set_cons_zero, List.set_cons_succ]))
               | (refine wpAnyH_take (i := 1) (v := ?_) rfl (by decide +kernel) (by decide +kernel) (by decide +kernel) (fun _ _ _ h => h) (Or.inl ⟨by rfl, ?_⟩) (by assumption) ?_; rotate_left 1; (focus (intro w hSw; (try dsimp only at hSw); (try simp only [List.getElem_toArray, List.getElem_cons_succ, List.getElem_cons_zero]); first | (go_simp; done) | (go_simp; with_reducible rfl))); (try simp only [Act.put, List.getElem_toArray, List.getElem_cons_succ, List.getElem_cons_zero, List.setIfInBounds_toArray, List.set_cons_zero, List.set_cons_succ]))
               | (refine wpAnyH_take (i := 2) (v := ?_) rfl (by decide +kernel) (by decide +kernel) (by decide +kernel) (fun _ _ _ h => h) (Or.inl ⟨by rfl, ?_⟩) (by assumption) ?_; rotate_left 1; (focus (intro w hSw; (try dsimp only at hSw); (try simp only [List.getElem_toArray, List.getElem_cons_succ, List.getElem_cons_zero]); first | (go_simp; done) | (go_simp; with_reducible rfl))); (try simp only [Act.put, List.getElem_toArray, List.getElem_cons_succ, List.getElem_cons_zero, List.setIfInBounds_toArray, List.set_cons_zero, List.set_cons_succ]))
               | (refine wpAnyH_take (i := 3) (v := ?_) rfl (by decide +kernel) (by decide +kernel) (by decide +kernel) (fun _ _ _ h => h) (Or.inl ⟨by rfl, ?_⟩) (by assumption) ?_; rotate_left 1; (focus (intro w hSw; (try dsimp only at hSw); (try simp only [List.getElem_toArray, List.getElem_cons_succ, List.getElem_cons_zero]); first | (go_simp; done) | (go_simp; with_reducible rfl))); (try simp only [Act.put, List.getElem_toArray, List.getElem_cons_succ, List.getElem_cons_zero, List.setIfInBounds_toArray, List.set_cons_zero, List.set_cons_succ]))
               | (refine wpAnyH_take (i := 4) (v := ?_) rfl (by decide +kernel) (by decide +kernel) (by decide +kernel) (fun _ _ _ h => h) (Or.inl ⟨by rfl, ?_⟩) (by assumption) ?_; rotate_left 1; (focus (intro w hSw; (try dsimp only at hSw); (try simp only [List.getElem_toArray, List.getElem_cons_succ, List.getElem_cons_zero]); first | (go_simp; done) | (go_simp; with_reducible rfl))); (try simp only [Act.put, List.getElem_toArray, List.getElem_cons_succ, List.getElem_cons_zero, List.setIfInBounds_toArray, List.set_cons_zero, List.set_cons_succ]))
               | (refine wpAnyH_take (i := 5) (v := ?_) rfl (by decide +kernel) (by decide +kernel) (by decide +kernel) (fun _ _ _ h => h) (Or.inl ⟨by rfl, ?_⟩) (by assumption) ?_; rotate_left 1; (focus (intro w hSw; (try dsimp only at hSw); (try simp only [List.getElem_toArray, List.getElem_cons_succ, List.getElem_cons_zero]); first | (go_simp; done) | (go_simp; with_reducible rfl))); (try simp only [Act.put, List.getElem_toArray, List.getElem_cons_succ, List.getElem_cons_zero, List.setIfInBounds_toArray, List.set_cons_zero, List.set_cons_succ]))
               | (refine wpAnyH_take (i := 8) (v := ?_) rfl (by decide +kernel) (by decide +kernel) (by decide +kernel) (fun _ _ _ h => h) (Or.inl ⟨by rfl, ?_⟩) (by assumption) ?_; rotate_left 1; (focus (intro w hSw; (try dsimp only at hSw); (try simp only [List.getElem_toArray, List.getElem_cons_succ, List.getElem_cons_zero]); first | (go_simp; done) | (go_simp; with_reducible rfl))); (try simp only [Act.put, List.getElem_toArray, List.getElem_cons_succ, List.getElem_cons_zero, List.setIfInBounds_toArray, List.set_cons_zero, List.set_cons_succ]))
               | fail "nothing to take"))))
        all_goals refine wpAnyH_done (by decide +kernel) ?_ _
        all_goals simp only [cutPost, List.drop_succ_cons, List.drop_zero]
        rename_i hHa hHb
        clear hHeld hHa hHb HKQ HQ3 HOP HT HR d0 d1 d2 d3 d4 d5 d6 d7 dz
        refine wpList_store_row rfl 26 _ _ rfl w2.heap.size #[.int .i64 (o : Nat), .int .i64 0, .int .i64 0, .bool false, .string ⟨#[]⟩, .string ⟨#[]⟩, .int .i64 0, .slice (some ⟨w4.heap.size, 0, none⟩) 2 2] rfl rfl 26 _ (HQ4.out.alloc _).2 infoN8 rfl (by simp [Value.oneCell']) ?_
        have hsz4 : w.heap.size < w4.heap.size := by have := HF4.out.chg.size; simp at this; omega
        have hb5 := setRow_at (w4.alloc (.cells #[.int .i64 op', .int .i64 vk', .int .i64 vi', .bool vb', .string vt', .string t', .int .i64 i', .slice p' m' m', .int .i64 op2, .int .i64 vk2, .int .i64 vi2, .bool vb2, .string vt2, .string t2, .int .i64 i2, .slice p2 q2 q2] 26)) w2.heap.size #[.int .i64 (o : Nat), .int .i64 0, .int .i64 0, .bool false, .string ⟨#[]⟩, .string ⟨#[]⟩, .int .i64 0, .slice (some ⟨w4.heap.size, 0, none⟩) 2 2] _ _ _ (HQ4.out.alloc _).2
        have hr5 : ((w4.alloc (.cells #[.int .i64 op', .int .i64 vk', .int .i64 vi', .bool vb', .string vt', .string t', .int .i64 i', .slice p' m' m', .int .i64 op2, .int .i64 vk2, .int .i64 vi2, .bool vb2, .string vt2, .string t2, .int .i64 i2, .slice p2 q2 q2] 26)).setRow w2.heap.size #[.int .i64 (o : Nat), .int .i64 0, .int .i64 0, .bool false, .string ⟨#[]⟩, .string ⟨#[]⟩, .int .i64 0, .slice (some ⟨w4.heap.size, 0, none⟩) 2 2]).heap[w.heap.size]? = some (.cells nodeZ 26 (0, 0)) := by
          rw [setRow_far _ _ _ _ (by have := HBN.out; omega), Below.heap_alloc _ _ _ hsz4]
          exact HF4.out.first HP.out.lt.2
        have hk5 : ((w4.alloc (.cells #[.int .i64 op', .int .i64 vk', .int .i64 vi', .bool vb', .string vt', .string t', .int .i64 i', .slice p' m' m', .int .i64 op2, .int .i64 vk2, .int .i64 vi2, .bool vb2, .string vt2, .string t2, .int .i64 i2, .slice p2 q2 q2] 26)).setRow w2.heap.size #[.int .i64 (o : Nat), .int .i64 0, .int .i64 0, .bool false, .string ⟨#[]⟩, .string ⟨#[]⟩, .int .i64 0, .slice (some ⟨w4.heap.size, 0, none⟩) 2 2]).heap[w4.heap.size]? = some (.cells #[.int .i64 op', .int .i64 vk', .int .i64 vi', .bool vb', .string vt', .string t', .int .i64 i', .slice p' m' m', .int .i64 op2, .int .i64 vk2, .int .i64 vi2, .bool vb2, .string vt2, .string t2, .int .i64 i2, .slice p2 q2 q2] 26 (0, 0)) := by
          rw [setRow_far _ _ _ _ (by omega)]
          exact heap_alloc_new _ _
        have hc5 : Chg [w2.heap.size] (w4.alloc (.cells #[.int .i64 op', .int .i64 vk', .int .i64 vi', .bool vb', .string vt', .string t', .int .i64 i', .slice p' m' m', .int .i64 op2, .int .i64 vk2, .int .i64 vi2, .bool vb2, .string vt2, .string t2, .int .i64 i2, .slice p2 q2 q2] 26)) ((w4.alloc (.cells #[.int .i64 op', .int .i64 vk', .int .i64 vi', .bool vb', .string vt', .string t', .int .i64 i', .slice p' m' m', .int .i64 op2, .int .i64 vk2, .int .i64 vi2, .bool vb2, .string vt2, .string t2, .int .i64 i2, .slice p2 q2 q2] 26)).setRow w2.heap.size #[.int .i64 (o : Nat), .int .i64 0, .int .i64 0, .bool false, .string ⟨#[]⟩, .string ⟨#[]⟩, .int .i64 0, .slice (some ⟨w4.heap.size, 0, none⟩) 2 2]) := (Chg.refl _ _).setRow' _ _ (.inl (by simp))
        have hn5 := (HKN.out.below (box_bel' w4 (.cells #[.int .i64 op', .int .i64 vk', .int .i64 vi', .bool vb', .string vt', .string t', .int .i64 i', .slice p' m' m', .int .i64 op2, .int .i64 vk2, .int .i64 vi2, .bool vb2, .string vt2, .string t2, .int .i64 i2, .slice p2 q2 q2] 26))).chg hc5 (fun g hg => by simp; omega)
        have hm5 := ((HK4.out.2.mono (ok' := fun g => w.heap.size < g ∧ g ≠ w2.heap.size) (fun g hg _ => by have := HBN.out; have := hl2; omega)).below (box_bel' w4 (.cells #[.int .i64 op', .int .i64 vk', .int .i64 vi', .bool vb', .string vt', .string t', .int .i64 i', .slice p' m' m', .int .i64 op2, .int .i64 vk2, .int .i64 vi2, .bool vb2, .string vt2, .string t2, .int .i64 i2, .slice p2 q2 q2] 26))).chg hc5 (fun g hg => by simp; omega)
        have hrun5 := (HF4.out.box (.cells #[.int .i64 op', .int .i64 vk', .int .i64 vi', .bool vb', .string vt', .string t', .int .i64 i', .slice p' m' m', .int .i64 op2, .int .i64 vk2, .int .i64 vi2, .bool vb2, .string vt2, .string t2, .int .i64 i2, .slice p2 q2 q2] 26)).poke (b := w2.heap.size) HP.out (by simp) (by have := HBN.out; simp; omega) hc5
        have hkk : KidsAt ((w4.alloc (.cells #[.int .i64 op', .int .i64 vk', .int .i64 vi', .bool vb', .string vt', .string t', .int .i64 i', .slice p' m' m', .int .i64 op2, .int .i64 vk2, .int .i64 vi2, .bool vb2, .string vt2, .string t2, .int .i64 i2, .slice p2 q2 q2] 26)).setRow w2.heap.size #[.int .i64 (o : Nat), .int .i64 0, .int .i64 0, .bool false, .string ⟨#[]⟩, .string ⟨#[]⟩, .int .i64 0, .slice (some ⟨w4.heap.size, 0, none⟩) 2 2]) (fun g => w.heap.size < g ∧ g ≠ w2.heap.size) (.bin (o : Nat) n' m2) (.slice (some ⟨w4.heap.size, 0, none⟩) 2 2) :=
          ⟨w4.heap.size, _, _, rfl, ⟨by omega, by omega⟩, by rw [HKK.out.1, HK4.out.1]; exact hk5, hn5, hm5⟩
        obtain ⟨W5, hW5⟩ : ∃ X, X = (w4.alloc (.cells #[.int .i64 op', .int .i64 vk', .int .i64 vi', .bool vb', .string vt', .string t', .int .i64 i', .slice p' m' m', .int .i64 op2, .int .i64 vk2, .int .i64 vi2, .bool vb2, .string vt2, .string t2, .int .i64 i2, .slice p2 q2 q2] 26)).setRow w2.heap.size #[.int .i64 (o : Nat), .int .i64 0, .int .i64 0, .bool false, .string ⟨#[]⟩, .string ⟨#[]⟩, .int .i64 0, .slice (some ⟨w4.heap.size, 0, none⟩) 2 2] := ⟨_, rfl⟩
        rw [← hW5] at hb5 hr5 hrun5 hkk ⊢
        have HB5 := Lib.hid hb5
        have HR5 := Lib.hid hr5
        have HRUN5 := Lib.hid hrun5
        have HKK5 := Lib.hid hkk
        clear hb5 hr5 hrun5 hkk hk5 hc5 hn5 hm5 hW5
        by_cases h3 : lv = 3
        · have t3 : ((lv : Int) == 3) = true := by simp [h3]
          have HL3 := Lib.hid (HLAST.out h3)
          obtain ⟨d0, d1, d2, d3, d4, d5, d6, d7, dz⟩ := cellsN HB5.out
          obtain ⟨z0, z1, z2, z3, z4, z5, z6, z7, zz⟩ := cellsN HR5.out
          clear h3 HLAST HNEXT dz
          go_wp2_with fail
          refine bodyPost_ret (results_cell_row Tryd.results25 _ _ w.heap.size 26 _ (0, 0) _ rfl (putN_at HR5.out _ _ _ _ _ _ _ _) Tryd.underlying26 rfl infoN8) rfl ?_
          rw [← HL3.out]
          exact ⟨_, rfl, ⟨_, rfl, (HKK5.out.chg (putN_chg W5 w.heap.size _ _ _ _ _ _ _ _) (fun g hg => by simp; omega)).mono fun g hg _ => by omega⟩, HRUN5.out.put' HP.out (putN_chg _ _ _ _ _ _ _ _ _ _)⟩
        · have t3 : ((lv : Int) == 3) = false := by simp; omega
          have HL3 := Lib.hid (HNEXT.out h3)
          clear h3 HLAST HNEXT
          go_wp2_with fail
          go_roundw
          case rel => exact ⟨.bin (o : Nat) n' m2, r2, g, (o : Nat), 0, 0, false, ⟨#[]⟩, ⟨#[]⟩, 0, some ⟨w4.heap.size, 0, none⟩, 2, HB5.out, rfl, HKK5.out, HRUN5.out, HL3.out, HLN.out.1, by have := HLN.out.2; omega⟩
          case measure => rw [HRUN5.out.ps.lenAt, HMS.out]; have := HLN.out.2; omega

/-- The program's tree, at every level. -/
theorem tree_c (pb wg : Nat) : ∀ f, RecT pb wg f := by
  intro f
  induction f with
  | zero => intro lv w ws h1 h2; omega
  | succ f ih =>
    intro lv w ws h1 h2 h
    by_cases h7 : lv = 7
    · subst h7
      rw [show tree (f + 1) 7 ws = pLeaf (tree f 0) ws from by rw [tree, if_pos rfl]]
      exact tree_leaf ih h (by omega)
    · have hlv : lv < 7 := by omega
      by_cases h0 : opF lv 1 (nextW ws) = 0
      · cases hm : tree f (lv + 1) ws with
        | none =>
          rw [show tree (f + 1) lv ws = none from by rw [tree, if_neg h7, if_neg (by rw [h0]; simp), hm]]
          exact tree_bin_no hlv ih h (by omega) h0 hm
        | some q =>
          obtain ⟨n, r⟩ := q
          rw [show tree (f + 1) lv ws = pLoop (tree f (lv + 1)) lv (ws.length + 1) n r from by rw [tree, if_neg h7, if_neg (by rw [h0]; simp), hm]]
          exact tree_bin hlv ih h (by omega) h0 hm
      · cases hm : tree f lv ws.tail with
        | none =>
          rw [show tree (f + 1) lv ws = none from by rw [tree, if_neg h7, if_pos h0, hm]]
          exact tree_un_no hlv ih h (by omega) rfl h0 hm
        | some q =>
          obtain ⟨n, r⟩ := q
          rw [show tree (f + 1) lv ws = some (.un (opF lv 1 (nextW ws) : Nat) n, r) from by rw [tree, if_neg h7, if_pos h0, hm]]
          exact tree_un hlv ih h (by omega) rfl h0 hm
end Go.Proofs.YtikofngogkchfaaDoor

/- The program's Parse: what it raises and catches. -/
namespace Go.Proofs.YtikofngogkchfaaDoor
open Go.RowKit
set_option linter.unusedVariables false

def TreeC : Prop := ∀ pb wg f, RecT pb wg f

theorem assert_c (c : Int) (w : World) : (Instr.typeAssert (.iface 27 (.int .i64 c)) 20 27 false).run Tryd.prog w = .ok (.int .i64 c) w := by
  simp [Instr.typeAssert, go_sem]
theorem catch_c (b : Nat) (x c : Int) (older : List PanicEntry) (w : World) (hc : w.cell? ⟨b, 0, none⟩ = some (.int .i64 x)) (hz : w.frozen? ⟨b, 0, none⟩ = false) :
    CallsD Tryd.prog 16 #[.pointer (some ⟨b, 0, none⟩)] (.panicking ({ v := .iface 27 (.int .i64 c), recovered := false } :: older)) w fun e u' w' =>
      e = .returned (.tuple #[]) ∧ u' = .panicking ({ v := .iface 27 (.int .i64 c), recovered := true } :: older) ∧ w' = w.setCell ⟨b, 0, none⟩ (.int .i64 c) := by
  refine callsD_of_wpS Tryd.func16 rfl fun c₀ cs hu => ?_
  apply wpS_seq
  apply wpS_region
  simp [wpOpsS, go_sem, recoverD, hu, Tryd.ntmps16, Exit.thenS]
  apply wpS_seq
  apply wpS_region
  simp [wpOpsS, go_sem, Exit.thenS]
  refine wpS_cond (t := true) (by simp [Act.eval, Array.replicate]) ?_
  simp only [if_true]
  refine wpS_of_wp ?_
  have hta := assert_c c
  go_wp2_with fail
  simp [bodyPostS, results, Tryd.results16, go_sem]

theorem idle_c (b : Nat) (w : World) :
    CallsD Tryd.prog 16 #[.pointer (some ⟨b, 0, none⟩)] .returning w fun e u' w' => e = .returned (.tuple #[]) ∧ u' = .returning ∧ w' = w := by
  refine callsD_of_wpS Tryd.func16 rfl fun c₀ cs hu => ?_
  apply wpS_seq
  apply wpS_region
  simp [wpOpsS, go_sem, recoverD, hu, Tryd.ntmps16, Exit.thenS]
  apply wpS_seq
  apply wpS_region
  simp [wpOpsS, go_sem, Exit.thenS]
  refine wpS_cond (t := false) (by simp [Act.eval, Array.replicate]) ?_
  simp only [Bool.false_eq_true, if_false]
  refine wpS_of_wp (wp_skip ?_)
  cases c₀
  simp_all [bodyPostS, results, Tryd.results16]

/-- The end of Parse's words. -/
def WholeAft (w : World) (pb : Nat) (R : Option Nd × Int) (e : Ending) (w' : World) : Prop :=
  match R with
  | (none, c) => e = .panicked [{ v := .iface 27 (.int .i64 c), recovered := false }] ∧ Chg [pb] w w'
  | (some n, _) => ∃ v, e = .returned v ∧ TreeV w.heap.size n w' v ∧ Chg [pb] w w'

set_option maxRecDepth 100000 in
set_option maxHeartbeats 1000000 in
theorem whole_c (htree : TreeC) {w : World} {pb wg : Nat} {ws : List Wd} (h : PS w pb wg ws) : Calls Tryd.prog 17 #[.pointer (some ⟨pb, 0, none⟩)] w (WholeAft w pb (parseW ws)) := by
  have HT := Lib.hid (fun (w' : World) (h : PS w' pb wg ws) => htree pb wg (9 * ws.length + 9) 0 w' ws (by omega) (by omega) h)
  have HP := Lib.hid h
  have HS0 := Lib.hid (fun o => Run.start h o)
  cases hm : tree (9 * ws.length + 9) 0 ws with
  | none =>
    have HM := Lib.hid hm
    rw [show parseW ws = (none, 21) from by unfold parseW; rw [hm]]
    clear h hm htree
    go_enter Tryd.func17, Tryd.ntmps17
    go_wp2_with (go_at_call 25; refine (HT.out _ (HS0.out _).ps).mono ?_; rw [HM.out]; rintro e w2 ⟨rfl, hc⟩; have HC := Lib.hid ((HS0.out _).whole.trans hc); clear hc)
    exact ⟨rfl, rfl, HC.out⟩
  | some q =>
    obtain ⟨n, r⟩ := q
    have HM := Lib.hid hm
    have hdep := tree_dep _ _ _ _ _ hm
    have hl := h.len
    have hPW : parseW ws = if (nextW r).k ≠ 0 then (none, 21) else if 24 < n.depth then (none, 4) else (some n, 0) := by unfold parseW; rw [hm]
    have hd24 : n.depth ≤ 401 := by omega
    by_cases hk : (nextW r).k ≠ 0
    · rw [hPW, if_pos hk]
      have HKK := Lib.hid hk
      clear h hm htree hdep hl hPW hd24 hk
      go_enter Tryd.func17, Tryd.ntmps17
      go_wp2_with fail
      refine (HT.out _ (HS0.out _).ps).mono ?_
      rw [HM.out]
      rintro e w2 ⟨v, rfl, hv, hs, hc⟩
      obtain ⟨op, vk, vi, vb, vt, t, i, p, m, rfl, hcc, hk⟩ := TreeV.open hv
      have HF := Lib.hid ((HS0.out _).next hs hc)
      obtain ⟨x, q, off, cap, hr, _, c1, h1, h2, hz, n1, n2, n3⟩ := hs.first
      have hpl := hs.lt.2
      have hwl := hs.lt.1
      have hlt0 : (0 : Int) < (q.length : Int) + 1 := by omega
      obtain ⟨k, hkk⟩ : ∃ k, k = x.k := ⟨_, rfl⟩
      rw [← hkk] at n1
      have tk : (k != 0) = true := (by have := HKK.out; rw [hr] at this; have this : x.k ≠ 0 := this; rw [hkk]; simpa using this)
      clear hs hc hcc hk hv hr hkk
      go_wp2_with fail
      exact ⟨rfl, rfl, HF.out.whole.trans (Chg.of_below (box_bel' _ _))⟩
    · rw [hPW, if_neg hk]
      have HKK := Lib.hid (show (nextW r).k = 0 from by simpa using hk)
      by_cases hd : 24 < n.depth
      · rw [if_pos hd]
        have HD := Lib.hid (fun (w' : World) (ok : Nat → Prop) (s : Value) (h : KidsAt w' ok n s) => depth_c n w' ok s h (by omega))
        obtain ⟨D, hD⟩ : ∃ D, D = n.depth := ⟨_, rfl⟩
        rw [← hD] at HD hd
        have td : decide ((24 : Int) < (D : Int)) = true := by simp; omega
        clear h hm htree hdep hl hPW hd24 hk hD
        go_enter Tryd.func17, Tryd.ntmps17
        go_wp2_with fail
        refine (HT.out _ (HS0.out _).ps).mono ?_
        rw [HM.out]
        rintro e w2 ⟨v, rfl, hv, hs, hc⟩
        obtain ⟨op, vk, vi, vb, vt, t, i, p, m, rfl, hcc, hk⟩ := TreeV.open hv
        have HF := Lib.hid ((HS0.out _).next hs hc)
        have HKD := Lib.hid hk
        have HCC := Lib.hid hcc
        have HDD := Lib.hid (fun (w' : World) (hb : Below w2.heap.size w2 w') => (show Calls Tryd.prog 26 #[.agg #[.int .i64 op, .int .i64 vk, .int .i64 vi, .bool vb, .string vt, .string t, .int .i64 i, .slice p m m]] w' _ from by have := HD.out w' _ _ (hk.below hb); unfold Nd.val at this; rw [hcc] at this; exact this))
        obtain ⟨x, q, off, cap, hr, _, c1, h1, h2, hz, m1, m2, m3⟩ := hs.first
        have hpl := hs.lt.2
        have hwl := hs.lt.1
        have hlt0 : (0 : Int) < (q.length : Int) + 1 := by omega
        obtain ⟨k, hkk⟩ : ∃ k, k = x.k := ⟨_, rfl⟩
        rw [← hkk] at m1
        have tk : (k != 0) = false := by
          have := HKK.out
          rw [hr] at this
          have this : x.k = 0 := this
          rw [hkk, this]
          rfl
        clear hs hc hcc hk hv hr hkk
        go_wp2_with fail
        refine (HDD.out _ (box_bel' _ _)).mono ?_
        rintro e w3 ⟨rfl, hb⟩
        have HC := Lib.hid ((HF.out.box _).below hb)
        clear hb
        go_wp2_with fail
        exact ⟨rfl, rfl, HC.out.whole⟩
      · rw [if_neg hd]
        have HD := Lib.hid (fun (w' : World) (ok : Nat → Prop) (s : Value) (h : KidsAt w' ok n s) => depth_c n w' ok s h (by omega))
        obtain ⟨D, hD⟩ : ∃ D, D = n.depth := ⟨_, rfl⟩
        rw [← hD] at HD hd
        have td : decide ((24 : Int) < (D : Int)) = false := by simp; omega
        clear h hm htree hdep hl hPW hd24 hk hD
        go_enter Tryd.func17, Tryd.ntmps17
        go_wp2_with fail
        refine (HT.out _ (HS0.out _).ps).mono ?_
        rw [HM.out]
        rintro e w2 ⟨v, rfl, hv, hs, hc⟩
        obtain ⟨op, vk, vi, vb, vt, t, i, p, m, rfl, hcc, hk⟩ := TreeV.open hv
        have HF := Lib.hid ((HS0.out _).next hs hc)
        have HKD := Lib.hid hk
        have HCC := Lib.hid hcc
        have HDD := Lib.hid (fun (w' : World) (hb : Below w2.heap.size w2 w') => (show Calls Tryd.prog 26 #[.agg #[.int .i64 op, .int .i64 vk, .int .i64 vi, .bool vb, .string vt, .string t, .int .i64 i, .slice p m m]] w' _ from by have := HD.out w' _ _ (hk.below hb); unfold Nd.val at this; rw [hcc] at this; exact this))
        obtain ⟨x, q, off, cap, hr, _, c1, h1, h2, hz, m1, m2, m3⟩ := hs.first
        have hpl := hs.lt.2
        have hwl := hs.lt.1
        have hlt0 : (0 : Int) < (q.length : Int) + 1 := by omega
        obtain ⟨k, hkk⟩ : ∃ k, k = x.k := ⟨_, rfl⟩
        rw [← hkk] at m1
        have tk : (k != 0) = false := by
          have := HKK.out
          rw [hr] at this
          have this : x.k = 0 := this
          rw [hkk, this]
          rfl
        clear hs hc hcc hk hv hr hkk
        go_wp2_with fail
        refine (HDD.out _ (box_bel' _ _)).mono ?_
        rintro e w3 ⟨rfl, hb⟩
        have HC := Lib.hid ((HF.out.box _).below hb)
        have HKE := Lib.hid ((HKD.out.below (box_bel' _ _)).below hb)
        have HNB := Lib.hid ((hb.block w2.heap.size (by simp)).trans (heap_alloc_new w2 _))
        obtain ⟨n0, n1, n2, n3, n4, n5, n6, n7, nz⟩ := cellsN HNB.out
        obtain ⟨z0, z1, z2, z3, z4, z5, z6, z7, zz⟩ := cellsN (HC.out.first HP.out.lt.2)
        clear hb nz
        go_wp2_with fail
        refine bodyPost_ret (results_cell_row Tryd.results17 _ _ w.heap.size 26 _ (0, 0) _ rfl (putN_at (HC.out.first HP.out.lt.2) _ _ _ _ _ _ _ _) Tryd.underlying26 rfl infoN8) rfl ?_
        refine ⟨_, rfl, ⟨.slice p m m, ?_, ?_⟩, (HC.out.put' HP.out (putN_chg _ _ _ _ _ _ _ _ _ _)).2⟩
        · unfold Nd.val
          rw [HCC.out]
        · exact (HKE.out.far (putN_chg _ _ _ _ _ _ _ _ _ _) (by simp)).up (by simp)
end Go.Proofs.YtikofngogkchfaaDoor

/- The program's Parse. -/
namespace Go.Proofs.YtikofngogkchfaaDoor
open Go.RowKit
set_option linter.unusedVariables false

/-- How Parse ends: the tree, or the error. -/
def ParseAft (w : World) (R : Option Nd × Int) (e : Ending) (w' : World) : Prop :=
  ∃ v, e = .returned (.tuple #[v, .int .i64 R.2]) ∧ TreeV w.heap.size (R.1.getD zeroN) w' v ∧ Below w.heap.size w w'

theorem results_parse (tm : Array Value) (V : World) (b1 b2 : Nat) (c0 c1 c2 c3 c4 c5 c6 c7 c : Value) (h2 : tm.getD 2 undef = .pointer (some ⟨b1, 0, none⟩)) (h3 : tm.getD 3 undef = .pointer (some ⟨b2, 0, none⟩)) (hb1 : V.heap[b1]? = some (.cells #[c0, c1, c2, c3, c4, c5, c6, c7] 26 (0, 0))) (hb2 : V.heap[b2]? = some (.cells #[c] 27 (0, 0))) :
    (results Tryd.f5 tm).run Tryd.prog V = .ok (.tuple #[.agg #[c0, c1, c2, c3, c4, c5, c6, c7], c]) V := by
  obtain ⟨e0, e1, e2, e3, e4, e5, e6, e7, _⟩ := cellsN hb1
  obtain ⟨e8, _⟩ := cells1 hb2
  have h2' : tm[2]?.getD undef = .pointer (some ⟨b1, 0, none⟩) := by simpa using h2
  have h3' : tm[3]?.getD undef = .pointer (some ⟨b2, 0, none⟩) := by simpa using h3
  simp [results, Tryd.results5, go_sem, h2', h3', e0, e1, e2, e3, e4, e5, e6, e7, e8]
abbrev RE : Obj := .cells #[.int .i64 0] 27
/-- Both boxes of Parse. -/
structure Both (w w1 : World) (c : Value) : Prop where
  bel : Below w.heap.size w w1
  nd : w1.heap[w.heap.size]? = some (.cells nodeZ 26 (0, 0))
  er : w1.heap[w.heap.size + 1]? = some (.cells #[c] 27 (0, 0))
theorem both_start {w w1 : World} {v : Value} (hb : Below ((w.alloc RES).alloc RE).heap.size ((w.alloc RES).alloc RE) w1) : Both w (w1.setCell ⟨w.heap.size + 1, 0, none⟩ v) v := by
  have h1 := hb.block w.heap.size (by simp; omega)
  have h2 := hb.block (w.heap.size + 1) (by simp)
  refine ⟨(((box_bel' w RES).alloc (box_bel' w RES).size RE).trans (hb.mono (by simp; omega))).setCell (by simp) _, ?_, ?_⟩
  · rw [Below.heap_setCell _ _ _ _ (by simp), h1]
    exact heap_alloc2_old w _ _
  · rw [block_set _ _ _ _ _ _ _ (h2.trans (heap_alloc2_new w _ _))]
    rfl
theorem Both.ltn {w w1 : World} {c : Value} (h : Both w w1 c) : w.heap.size + 1 < w1.heap.size := (Array.getElem?_eq_some_iff.1 h.er).1

/-- Behind the stores of the results. -/
theorem Both.nd2 {w w1 : World} {c : Value} (h : Both w w1 c) (c0 c1 c2 c3 c4 c5 c6 c7 e : Value) : ((putN w1 w.heap.size c0 c1 c2 c3 c4 c5 c6 c7).setCell ⟨w.heap.size + 1, 0, none⟩ e).heap[w.heap.size]? = some (.cells #[c0, c1, c2, c3, c4, c5, c6, c7] 26 (0, 0)) := by
  rw [Below.heap_setCell _ _ _ _ (by simp)]
  exact putN_at h.nd c0 c1 c2 c3 c4 c5 c6 c7
theorem Both.er2 {w w1 : World} {c : Value} (h : Both w w1 c) (c0 c1 c2 c3 c4 c5 c6 c7 e : Value) : ((putN w1 w.heap.size c0 c1 c2 c3 c4 c5 c6 c7).setCell ⟨w.heap.size + 1, 0, none⟩ e).heap[w.heap.size + 1]? = some (.cells #[e] 27 (0, 0)) := by
  have := (putN_chg w1 w.heap.size c0 c1 c2 c3 c4 c5 c6 c7).block (w.heap.size + 1) h.ltn (by simp)
  rw [block_set _ _ _ _ _ _ _ (this.trans h.er)]
  rfl
theorem Both.nd3 {w w1 : World} {c : Value} (h : Both w w1 c) (c0 c1 c2 c3 c4 c5 c6 c7 e : Value) : (((putN w1 w.heap.size c0 c1 c2 c3 c4 c5 c6 c7).setCell ⟨w.heap.size + 1, 0, none⟩ e).drew).heap[w.heap.size]? = some (.cells #[c0, c1, c2, c3, c4, c5, c6, c7] 26 (0, 0)) := by
  rw [heap_drew]
  exact h.nd2 c0 c1 c2 c3 c4 c5 c6 c7 e
theorem Both.er3 {w w1 : World} {c : Value} (h : Both w w1 c) (c0 c1 c2 c3 c4 c5 c6 c7 e : Value) : (((putN w1 w.heap.size c0 c1 c2 c3 c4 c5 c6 c7).setCell ⟨w.heap.size + 1, 0, none⟩ e).drew).heap[w.heap.size + 1]? = some (.cells #[e] 27 (0, 0)) := by
  rw [heap_drew]
  exact h.er2 c0 c1 c2 c3 c4 c5 c6 c7 e
theorem Both.bel2 {w w1 : World} {c : Value} (h : Both w w1 c) (c0 c1 c2 c3 c4 c5 c6 c7 e : Value) : Below w.heap.size w ((putN w1 w.heap.size c0 c1 c2 c3 c4 c5 c6 c7).setCell ⟨w.heap.size + 1, 0, none⟩ e) :=
  (h.bel.trans ((putN_chg w1 w.heap.size c0 c1 c2 c3 c4 c5 c6 c7).below h.bel.size (by simp))).setCell (by simp) _

set_option maxRecDepth 100000 in
set_option maxHeartbeats 1000000 in
theorem parse_bad (w : World) (hT : Tabs w) (s : ByteArray) (hs : s.size ≤ 140737488351232) {ws : List Wd} {n : Nat} {c : Int} (hR : wordsOf s.data.toList = (ws, n, c)) (hc : c ≠ 0) : Calls Tryd.prog 5 #[.string s] w (ParseAft w (none, c)) := by
  have HW := Lib.hid (fun (w' : World) (hb : Below w.heap.size w w') => words_c w' (hT.below hb) s hs)
  rw [hR] at HW
  have HB2 := Lib.hid (fun o o2 => (box_bel' w o).alloc (box_bel' w o).size o2)
  have tc : (c != 0) = true := by simpa using hc
  clear hR hc hT hs
  go_enter_defers Tryd.func5, Tryd.ntmps5
  go_wp2_with fail
  refine (HW.out _ (HB2.out _ _)).mono ?_
  rintro e w1 ⟨v1, rfl, ho1, hb1⟩
  have HBO := Lib.hid (both_start (v := .int .i64 c) hb1)
  have he1 := (hb1.block (w.heap.size + 1) (by simp)).trans (heap_alloc2_new w _ _)
  obtain ⟨e0, ez⟩ := cells1 he1
  obtain ⟨z0, z1, z2, z3, z4, z5, z6, z7, zz⟩ := cellsN HBO.out.nd
  obtain ⟨x0, xz⟩ := cells1 HBO.out.er
  clear ho1 hb1 he1
  go_wp2_with fail
  generalize hW : w1.setCell ⟨w.heap.size + 1, 0, none⟩ (.int .i64 c) = W1 at *
  clear hW e0 ez
  have HWS := Lib.hid (Array.getElem?_eq_some_iff.1 HBO.out.er).1
  go_region
  all_goals
    go_wp2_with fail
    refine ⟨_, results_parse _ (((putN W1 w.heap.size (.int .i64 0) (.int .i64 0) (.int .i64 0) (.bool false) (.string ⟨#[]⟩) (.string ⟨#[]⟩) (.int .i64 0) (.slice none 0 0)).setCell ⟨w.heap.size + 1, 0, none⟩ (.int .i64 c)).drew) w.heap.size (w.heap.size + 1) _ _ _ _ _ _ _ _ _ rfl rfl (Both.nd3 HBO.out _ _ _ _ _ _ _ _ _) (Both.er3 HBO.out _ _ _ _ _ _ _ _ _), ?_⟩
    exact ⟨_, rfl, ⟨.slice none 0 0, rfl, rfl⟩, (Both.bel2 HBO.out _ _ _ _ _ _ _ _ _).drew⟩

/-- The parser that Parse makes. -/
theorem ps_of_words {w w1 : World} {v : Value} {ws : List Wd} {base : Nat} (hE : ETabs w) (hb : Below w.heap.size w w1) (ho : OwnS w1 base 49 3 v ws.length (wcells ws)) (hok : Oks ws) (hl : ws.length ≤ 401) : ∃ g, v.ownBlock = some g ∧ PS (w1.alloc (.cells #[v] 42)) w1.heap.size g ws := by
  have hne := hok.ne
  rcases ho.2 with ⟨rfl, h0⟩ | ⟨g, off, cap, cur, rfl, h1, h2, h3, h4, h5⟩
  · omega
  · have hg := ho.lt g rfl
    have hlt := hE.lt
    have hsz := hb.size
    refine ⟨g, rfl, (hE.below hb).below (box_bel' _ _), ⟨by omega, by omega⟩, hok, hl, ⟨off, cap, heap_alloc_new _ _, h3, h4, fun j u hu => ?_⟩, by omega, by simp; omega⟩
    have := ho.cell rfl j u hu
    rw [(box_bel' w1 _).cell (p := ⟨g, off + j, none⟩) hg]
    exact this

theorem Both.over {w W1 w2 : World} {c : Value} {o : Obj} {pb : Nat} (h : Both w W1 c) (hc : Chg [pb] (W1.alloc o) w2) (hp : pb = W1.heap.size) (hl : w.heap.size + 1 < pb) : Both w w2 c := by
  have hlt := h.ltn
  have h1 := hc.block w.heap.size (by simp; omega) (by simp; omega)
  have h2 := hc.block (w.heap.size + 1) (by simp; omega) (by simp; omega)
  rw [Below.heap_alloc _ _ _ (by omega)] at h1 h2
  exact ⟨(h.bel.alloc (by omega) o).trans (hc.below (by simp; omega) (by simp; omega)), h1.trans h.nd, h2.trans h.er⟩
theorem Both.nd0 {w w1 : World} {c : Value} (h : Both w w1 c) (e : Value) : (w1.setCell ⟨w.heap.size + 1, 0, none⟩ e).heap[w.heap.size]? = some (.cells nodeZ 26 (0, 0)) := by
  rw [Below.heap_setCell _ _ _ _ (by simp)]
  exact h.nd
theorem Both.er0 {w w1 : World} {c : Value} (h : Both w w1 c) (e : Value) : (w1.setCell ⟨w.heap.size + 1, 0, none⟩ e).heap[w.heap.size + 1]? = some (.cells #[e] 27 (0, 0)) := by
  rw [block_set _ _ _ _ _ _ _ h.er]
  rfl
theorem parseW_ok {ws : List Wd} {n : Nd} {c : Int} (h : parseW ws = (some n, c)) : (parseW ws).2 = 0 := by
  rw [h]
  unfold parseW at h
  split at h
  · cases h
  split at h
  · cases h
  split at h
  · cases h
  · simp only [Prod.mk.injEq] at h
    exact h.2.symm
set_option maxRecDepth 100000 in
set_option maxHeartbeats 1000000 in
theorem parse_good (w : World) (hT : Tabs w) (hE : ETabs w) (s : ByteArray) (hs : s.size ≤ 140737488351232) {ws : List Wd} {n : Nat} (hR : wordsOf s.data.toList = (ws, n, 0)) : Calls Tryd.prog 5 #[.string s] w (ParseAft w (parseW ws)) := by
  have HW := Lib.hid (fun (w' : World) (hb : Below w.heap.size w w') => words_c w' (hT.below hb) s hs)
  rw [hR] at HW
  have hv := wordsOf_v s.data.toList (by rw [hR])
  rw [hR] at hv
  have HV := Lib.hid hv
  have HE := Lib.hid hE
  have HB2 := Lib.hid (fun o o2 => (box_bel' w o).alloc (box_bel' w o).size o2)
  have hmf : ∀ (fn : Fn) (first cap : Array Value) (w : World), (Instr.makeFunc fn first cap).run Tryd.prog w = .ok (.func fn first cap) w := fun _ _ _ _ => rfl
  clear hR hT hs hE hv
  go_enter_defers Tryd.func5, Tryd.ntmps5
  go_wp2_with fail
  refine (HW.out _ (HB2.out _ _)).mono ?_
  rintro e w1 ⟨v1, rfl, ho1, hb1⟩
  dsimp only at ho1
  have HBO := Lib.hid (both_start (v := .int .i64 0) hb1)
  have he1 := (hb1.block (w.heap.size + 1) (by simp)).trans (heap_alloc2_new w _ _)
  obtain ⟨e0, ez⟩ := cells1 he1
  obtain ⟨x0, xz⟩ := cells1 HBO.out.er
  have HOW := Lib.hid (ho1.keep (w' := w1.setCell ⟨w.heap.size + 1, 0, none⟩ (.int .i64 0)) (fun g hg => Below.heap_setCell _ _ _ _ (by have := ho1.base g hg; simp at this; simp; omega)))
  obtain ⟨a1, c1, rfl, _⟩ := ho1.form
  have hps0 := ps_of_words HE.out HBO.out.bel HOW.out HV.out.1 HV.out.2
  rw [World.size_setCell] at hps0
  obtain ⟨g, hgo, hps⟩ := hps0
  have HWH := Lib.hid (whole_c (fun pb wg f => tree_c pb wg f) hps)
  have hwl : w.heap.size + 1 < w1.heap.size := by have := HBO.out.ltn; rwa [World.size_setCell] at this
  have HWL := Lib.hid hwl
  clear ho1 hb1 he1 hps hgo hwl
  go_wp2_with fail
  refine (HWH.out).mono ?_
  cases hP : parseW ws with
  | mk R c =>
    cases R with
    | none =>
      rintro e w2 ⟨rfl, hc⟩
      have HBO2 := Lib.hid (HBO.out.over hc (by simp) HWL.out)
      refine leaves_cons (f := 16) (args := #[.pointer (some ⟨w.heap.size + 1, 0, none⟩)]) (by simp) (by simp [go_sem]) ?_
      refine (catch_c (w.heap.size + 1) 0 c [] w2 (cells1 HBO2.out.er).1 ((cells1 HBO2.out.er).2 0)).mono ?_
      rintro e u' w'' ⟨rfl, rfl, rfl⟩
      refine ⟨_, results_parse _ (w2.setCell ⟨w.heap.size + 1, 0, none⟩ (.int .i64 c)) w.heap.size (w.heap.size + 1) _ _ _ _ _ _ _ _ _ rfl rfl (HBO2.out.nd0 _) (HBO2.out.er0 _), ?_⟩
      exact ⟨_, rfl, ⟨.slice none 0 0, rfl, rfl⟩, HBO2.out.bel.setCell (by simp) _⟩
    | some n' =>
      rintro e w2 ⟨v, rfl, hv, hc⟩
      have HBO2 := Lib.hid (HBO.out.over hc (by simp) HWL.out)
      obtain ⟨op, vk, vi, vb, vt, t, i, p, m, rfl, hvv, hk⟩ := TreeV.parts hv
      have HK := Lib.hid (And.intro hvv hk)
      obtain ⟨z0, z1, z2, z3, z4, z5, z6, z7, zz⟩ := cellsN HBO2.out.nd
      obtain ⟨y0, yz⟩ := cells1 HBO2.out.er
      have HC0 := Lib.hid (show c = 0 from by have := parseW_ok hP; rw [hP] at this; exact this)
      have hc0 := HC0.out
      subst hc0
      have HPW := Lib.hid hP
      clear hc hvv hk hv hP
      go_wp2_with fail
      refine leaves_cons (f := 16) (args := #[.pointer (some ⟨w.heap.size + 1, 0, none⟩)]) (by simp) (by simp [go_sem]) ?_
      refine (idle_c (w.heap.size + 1) _).mono ?_
      rintro e u' w'' ⟨rfl, rfl, rfl⟩
      refine ⟨_, results_parse _ ((putN w2 w.heap.size (.int .i64 op) (.int .i64 vk) (.int .i64 vi) (.bool vb) (.string vt) (.string t) (.int .i64 i) (.slice p m m)).setCell ⟨w.heap.size + 1, 0, none⟩ (.int .i64 0)) w.heap.size (w.heap.size + 1) _ _ _ _ _ _ _ _ _ rfl rfl (HBO2.out.nd2 _ _ _ _ _ _ _ _ _) (HBO2.out.er2 _ _ _ _ _ _ _ _ _), ?_⟩
      rw [show parseW ws = (some n', 0) from HPW.out]
      refine ⟨_, rfl, ⟨.slice p m m, HK.out.1.symm, ?_⟩, HBO2.out.bel2 _ _ _ _ _ _ _ _ _⟩
      have hsz := HWL.out
      refine ((HK.out.2.far (putN_chg w2 w.heap.size (.int .i64 op) (.int .i64 vk) (.int .i64 vi) (.bool vb) (.string vt) (.string t) (.int .i64 i) (.slice p m m)) ?_).far ((Chg.refl [w.heap.size + 1] _).set' _ _ _ (.inl (by simp))) ?_).up ?_
      · simp; omega
      · simp; omega
      · simp; omega
end Go.Proofs.YtikofngogkchfaaDoor

/- Parse whatever the text; the law's awake. -/
namespace Go.Proofs.YtikofngogkchfaaDoor
open Go.RowKit
set_option linter.unusedVariables false

theorem parse_awake : parseT [97, 46, 98, 43, 49, 32, 62, 32, 50, 32, 97, 110, 100, 32, 110, 111, 116, 32, 99] = (some (.bin 18 (.bin 14 (.bin 10 (.leaf 2 0 0 false [] [97, 46, 98] 0) (tLit 1 1 false [])) (tLit 1 2 false [])) (.un 5 (.leaf 2 0 0 false [] [99] 0))), 0) := by kernel_rfl
theorem parse_all (w : World) (hT : Tabs w) (hE : ETabs w) (s : ByteArray) (hs : s.size ≤ 140737488351232) : Calls Tryd.prog 5 #[.string s] w (ParseAft w (parseT s.data.toList)) := by
  obtain ⟨⟨ws, n, c⟩, hR⟩ : ∃ R, R = wordsOf s.data.toList := ⟨_, rfl⟩
  unfold parseT
  rw [← hR]
  by_cases hc : c ≠ 0
  · rw [if_pos hc]
    exact parse_bad w hT s hs hR.symm hc
  · have h0 : c = 0 := by simpa using hc
    subst h0
    rw [if_neg (by simp)]
    exact parse_good w hT hE s hs hR.symm

set_option maxRecDepth 100000 in
theorem eawake_c (w : World) (hT : Tabs w) (hE : ETabs w) : Calls Tryd.prog 8 #[] w fun e w' => e = .returned (.bool true) ∧ Below w.heap.size w w' := by
  have HQ := fun w' (hb : Below w.heap.size w w') => parse_all w' (hT.below hb) (hE.below hb) ⟨#[97, 46, 98, 43, 49, 32, 62, 32, 50, 32, 97, 110, 100, 32, 110, 111, 116, 32, 99]⟩ (by decide)
  rw [show (⟨#[97, 46, 98, 43, 49, 32, 62, 32, 50, 32, 97, 110, 100, 32, 110, 111, 116, 32, 99]⟩ : ByteArray).data.toList = [97, 46, 98, 43, 49, 32, 62, 32, 50, 32, 97, 110, 100, 32, 110, 111, 116, 32, 99] from rfl, parse_awake] at HQ
  have HQ' := Lib.hid HQ
  clear HQ hT hE
  go_enter Tryd.func8, Tryd.ntmps8
  go_wp2_with fail
  refine (HQ'.out _ (by first | exact Below.refl _ _ | exact box_bel' _ _ | exact (box_bel' _ _).alloc (box_bel' _ _).size _)).mono ?_
  rintro e w2 ⟨v, rfl, hv, hb⟩
  obtain ⟨s, rfl, hk⟩ := hv
  obtain ⟨p, m, rfl, _⟩ := Nd.kids_form hk
  have HB := Lib.hid hb
  clear hk hb
  simp only [Option.getD_some, Nd.val, Nd.cells]
  go_wp2_with fail
  go_ret
  exact ⟨rfl, HB.out.alloc HB.out.size _⟩
end Go.Proofs.YtikofngogkchfaaDoor
