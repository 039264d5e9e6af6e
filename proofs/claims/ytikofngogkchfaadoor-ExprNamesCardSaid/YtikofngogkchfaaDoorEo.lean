/- The program's parser: operators. -/
import Derived.Test.YtikofngogkchfaaDoorEx
namespace Go.Proofs.YtikofngogkchfaaDoor
open Go.RowKit
set_option linter.unusedVariables false

theorem infoOps : (Tryd.prog.info? 78).map (·.size) = some 60 := by kernel_rfl
theorem opA_size : opA.size = 60 := rfl
abbrev zeroO : Obj := .cells #[.string ⟨#[]⟩, .int .i64 0, .int .i64 0, .int .i64 0] 64
theorem opsAt {w : World} (h : ETabs w) (o : Obj) : ∃ t fr, (w.alloc o).heap[1]? = some (.cells opA t fr) := by
  obtain ⟨t, fr, e⟩ := h.ops
  exact ⟨t, fr, by rw [Below.heap_alloc _ _ _ h.lt.1]; exact e⟩
def opRow (j : Nat) : List UInt8 × Nat × Nat × Nat := opL.getD j ([], 0, 0, 0)
set_option maxRecDepth 100000 in
theorem op_index (w : World) : ∀ j, j < 15 → (Instr.index 78 (.agg opA) (.int .i64 (j : Nat))).run Tryd.prog w = .ok (.agg #[.string ⟨(opRow j).1.toArray⟩, .int .i64 (opRow j).2.1, .int .i64 (opRow j).2.2.1, .int .i64 (opRow j).2.2.2]) w := by
  intro j hj
  rcases (by omega : j = 0 ∨ j = 1 ∨ j = 2 ∨ j = 3 ∨ j = 4 ∨ j = 5 ∨ j = 6 ∨ j = 7 ∨ j = 8 ∨ j = 9 ∨ j = 10 ∨ j = 11 ∨ j = 12 ∨ j = 13 ∨ j = 14) with rfl | rfl | rfl | rfl | rfl | rfl | rfl | rfl | rfl | rfl | rfl | rfl | rfl | rfl | rfl <;> kernel_rfl
/-- No operator of the first. -/
def NoHit (lv k : Nat) (x : Wd) (j : Nat) : Prop := ∀ i, i < j → opHit lv k x (opRow i) = false
theorem NoHit.next {lv k : Nat} {x : Wd} {j : Nat} (h : NoHit lv k x j) (hj : opHit lv k x (opRow j) = false) : NoHit lv k x (j + 1) := fun i hi => by
  by_cases e : i = j
  · rw [e]; exact hj
  · exact h i (by omega)
theorem opL_split (j : Nat) (hj : j < 15) : opL = opL.take j ++ opRow j :: opL.drop (j + 1) := by
  have h : j < opL.length := hj
  have e : opRow j = opL[j] := by unfold opRow; rw [List.getD_eq_getElem?_getD, List.getElem?_eq_getElem h]; rfl
  rw [e, ← List.drop_eq_getElem_cons h, List.take_append_drop]
theorem NoHit.take {lv k : Nat} {x : Wd} {j : Nat} (h : NoHit lv k x j) (hj : j ≤ 15) : (opL.take j).find? (opHit lv k x) = none := by
  rw [List.find?_eq_none]
  intro o ho
  obtain ⟨i, hi, e⟩ := List.getElem_of_mem ho
  rw [List.length_take] at hi
  have h2 : i < opL.length := by omega
  have : o = opRow i := by
    rw [← e, List.getElem_take]
    unfold opRow
    rw [List.getD_eq_getElem?_getD, List.getElem?_eq_getElem h2]
    rfl
  rw [this, h i (by omega)]
  simp
theorem NoHit.all {lv k : Nat} {x : Wd} (h : NoHit lv k x 15) : opF lv k x = 0 := by
  have := h.take (Nat.le_refl _)
  rw [List.take_of_length_le (by decide)] at this
  unfold opF
  rw [this]
theorem NoHit.hit {lv k : Nat} {x : Wd} {j : Nat} (h : NoHit lv k x j) (hj : j < 15) (hh : opHit lv k x (opRow j) = true) : opF lv k x = (opRow j).2.1 := by
  have h1 := h.take (Nat.le_of_lt hj)
  have : opL.find? (opHit lv k x) = some (opRow j) := by
    rw [opL_split j hj, List.find?_append, h1, Option.none_or, List.find?_cons, hh]
  unfold opF
  rw [this]
theorem cellsO {w : World} {b : Nat} {c0 c1 c2 c3 : Value} {T : TypeId} (h : w.heap[b]? = some (.cells #[c0, c1, c2, c3] T (0, 0))) :
    w.cell? ⟨b, 0, none⟩ = some c0 ∧ w.cell? ⟨b, 1, none⟩ = some c1 ∧ w.cell? ⟨b, 2, none⟩ = some c2 ∧ w.cell? ⟨b, 3, none⟩ = some c3 ∧ (∀ o, w.frozen? ⟨b, o, none⟩ = false) := by
  refine ⟨?_, ?_, ?_, ?_, fun o => ?_⟩ <;> simp [World.cell?, World.frozen?, h]
abbrev putO (w : World) (b : Nat) (c0 c1 c2 c3 : Value) : World := ((((w.setCell ⟨b, 0, none⟩ c0).setCell ⟨b, 1, none⟩ c1).setCell ⟨b, 2, none⟩ c2).setCell ⟨b, 3, none⟩ c3)
theorem putO_at {w : World} {b : Nat} {z0 z1 z2 z3 : Value} {T : TypeId} (h : w.heap[b]? = some (.cells #[z0, z1, z2, z3] T (0, 0))) (c0 c1 c2 c3 : Value) : (putO w b c0 c1 c2 c3).heap[b]? = some (.cells #[c0, c1, c2, c3] T (0, 0)) := by
  unfold putO
  simp [World.setCell, Array.getElem?_modify, h]
theorem putO_chg (w : World) (b : Nat) (c0 c1 c2 c3 : Value) : Chg [b] w (putO w b c0 c1 c2 c3) :=
  ((((Chg.refl [b] w).set' _ _ _ (.inl (by simp))).set' _ _ _ (.inl (by simp))).set' _ _ _ (.inl (by simp))).set' _ _ _ (.inl (by simp))
/-- How it ends. -/
def OpAft (w : World) (pb wg lv k : Nat) (ws : List Wd) (e : Ending) (w' : World) : Prop :=
  ∃ m b, e = .returned (.tuple #[.agg #[.string m, .int .i64 (opF lv k (nextW ws) : Nat), .int .i64 (if b = true then (lv : Int) else 0), .int .i64 (if b = true then (k : Int) else 0)], .bool b]) ∧ (b = decide (opF lv k (nextW ws) ≠ 0)) ∧ PS w' pb wg (if b = true then ws.tail else ws) ∧ Chg [pb] w w'
theorem results_op (fr : Act) (V : World) (b : Nat) (c0 c1 c2 c3 : Value) (q : Bool) (h6 : fr.tmps.getD 6 undef = .pointer (some ⟨b, 0, none⟩)) (h7 : fr.tmps.getD 7 undef = .bool q) (h : V.heap[b]? = some (.cells #[c0, c1, c2, c3] 64 (0, 0))) :
    (results Tryd.f40 fr.tmps).run Tryd.prog V = .ok (.tuple #[.agg #[c0, c1, c2, c3], .bool q]) V := by
  obtain ⟨e0, e1, e2, e3, _⟩ := cellsO h
  have h6' : fr.tmps[6]?.getD undef = .pointer (some ⟨b, 0, none⟩) := by simpa using h6
  have h7' : fr.tmps[7]?.getD undef = .bool q := by simpa using h7
  simp [results, Tryd.results40, go_sem, h6', h7', e0, e1, e2, e3]

set_option maxRecDepth 100000 in
set_option maxHeartbeats 2000000 in
theorem operator_c {w : World} {pb wg : Nat} {ws : List Wd} (h : PS w pb wg ws) (lv k : Nat) (hlk : lv ≤ 7) (hk2 : k ≤ 2) : Calls Tryd.prog 40 #[.pointer (some ⟨pb, 0, none⟩), .int .i64 (lv : Nat), .int .i64 (k : Nat)] w (OpAft w pb wg lv k ws) := by
  obtain ⟨t, fr, ho⟩ := opsAt h.tab zeroO
  have HO := Lib.hid ho
  have HIX := op_index
  obtain ⟨A, hA⟩ : ∃ A, A = opA := ⟨_, rfl⟩
  rw [← hA] at HO HIX
  have hsz : (Tryd.prog.info? 78).map (·.size) = some A.size := by rw [hA]; exact infoOps
  have HSZ := Lib.hid hsz
  have HIX' := Lib.hid HIX
  have HP := Lib.hid h
  have HS0 := Lib.hid (Run.start h zeroO)
  clear hA ho hsz HIX h
  go_enter Tryd.func40, Tryd.ntmps40
  go_wp2_with (refine wpList_load_row rfl 78 _ rfl 1 rfl _ _ _ _ HO.out Tryd.underlying78 rfl HSZ.out ?_)
  go_loopw [11] (fun i wr => ∃ j : Nat, j ≤ 15 ∧ i = .int .i64 (j : Nat) ∧ NoHit lv k (nextW ws) j ∧ Run (w.alloc zeroO) pb wg ws wr) (fun i _ => 15 - (intOf i).toNat)
  case atStart => exact ⟨0, by omega, rfl, fun i hi => by omega, HS0.out⟩
  case round =>
    obtain ⟨j, hj, rfl, hn, hrun⟩ := hrel
    have HN := Lib.hid hn
    have HR := Lib.hid hrun
    clear hn hrun
    by_cases hlt : j < 15
    · have hix := fun w => HIX'.out w j hlt
      obtain ⟨⟨M, op, l, kk⟩, hrow⟩ : ∃ r, r = opRow j := ⟨_, rfl⟩
      rw [← hrow] at hix
      simp only at hix
      have hh : opHit lv k (nextW ws) (opRow j) = ((decide (l = lv) && decide (kk = k)) && isB M (nextW ws)) := by rw [← hrow]; rfl
      have hmne : M ≠ [] := by
        have : ∀ j, j < 15 → (opRow j).1 ≠ [] := by decide
        have := this j hlt
        rwa [← hrow] at this
      have hop : (opRow j).2.1 = op := by rw [← hrow]
      have HMNE := Lib.hid hmne
      obtain ⟨X, hX⟩ : ∃ X : ByteArray, X = ⟨M.toArray⟩ := ⟨_, rfl⟩
      have HX := Lib.hid (show X.data.toList = M from by rw [hX])
      rw [← hX] at hix
      by_cases hl : l = lv
      · by_cases hkk : kk = k
        · have tl : ((l : Int) == (lv : Int)) = true := by simp [hl]
          have tk : ((kk : Int) == (k : Int)) = true := by simp [hkk]
          rw [decide_eq_true hl, decide_eq_true hkk] at hh
          simp only [Bool.true_and] at hh
          by_cases hb : isB M (nextW ws) = true
          · rw [hb] at hh
            have HE := Lib.hid (show opF lv k (nextW ws) = op from by rw [HN.out.hit hlt hh, hop])
            have HB := Lib.hid (show isB X.data.toList (nextW ws) = true from by rw [HX.out]; exact hb)
            have HLK := Lib.hid (And.intro hl hkk)
            have HON := Lib.hid (show op ≠ 0 from by
              have : ∀ j, j < 15 → (opRow j).2.1 ≠ 0 := by decide
              have := this j hlt
              rwa [hop] at this)
            clear hh hb hX hrow hop hl hkk hmne
            go_wp2_with (go_at_call 58; refine (take_yes (HR.out.box _).ps X (by rw [HX.out]; exact HMNE.out) HB.out).mono ?_; rintro e w2 ⟨rfl, hs, hc⟩; have HF := Lib.hid ((HR.out.box _).next hs hc); obtain ⟨n0, n1, n2, n3, nz⟩ := cellsO (Chg.box hc HR.out.ps.lt.2); obtain ⟨z0, z1, z2, z3, zz⟩ := cellsO (HF.out.first HP.out.lt.2); clear hs hc nz)
            refine bodyPost_ret (results_op _ _ w.heap.size _ _ _ _ true rfl rfl (putO_at (HF.out.first HP.out.lt.2) _ _ _ _)) rfl ?_
            exact ⟨X, true, by rw [HE.out, ← HLK.out.1, ← HLK.out.2]; rfl, by rw [HE.out]; simp [HON.out], HF.out.put' HP.out (putO_chg _ _ _ _ _ _)⟩
          · rw [Bool.not_eq_true] at hb
            rw [hb] at hh
            have HE := Lib.hid (HN.out.next hh)
            have HB := Lib.hid (show isB X.data.toList (nextW ws) = false from by rw [HX.out]; exact hb)
            clear hh hb hX hrow hop hl hkk hmne
            go_wp2_with (go_at_call 58; refine (take_no (HR.out.box _).ps X HB.out).mono ?_; rintro e w2 ⟨rfl, hs, hc⟩; have HF := Lib.hid ((HR.out.box _).next hs hc); clear hs hc)
            go_roundw
            case rel => exact ⟨j + 1, by omega, by go_num, HE.out, HF.out⟩
            case measure => simp [intOf]; omega
        · have tl : ((l : Int) == (lv : Int)) = true := by simp [hl]
          have tk : ((kk : Int) == (k : Int)) = false := by simp; omega
          have HE := Lib.hid (HN.out.next (j := j) (by rw [hh, decide_eq_false hkk]; simp))
          clear hh hX hrow hop hl hkk hmne
          go_wp2_with fail
          go_roundw
          case rel => exact ⟨j + 1, by omega, by go_num, HE.out, HR.out.box _⟩
          case measure => simp [intOf]; omega
      · have tl : ((l : Int) == (lv : Int)) = false := by simp; omega
        have HE := Lib.hid (HN.out.next (j := j) (by rw [hh, decide_eq_false hl]; simp))
        clear hh hX hrow hop hl hmne
        go_wp2_with fail
        go_roundw
        case rel => exact ⟨j + 1, by omega, by go_num, HE.out, HR.out.box _⟩
        case measure => simp [intOf]; omega
    · obtain rfl : j = 15 := by omega
      have HE := Lib.hid HN.out.all
      obtain ⟨z0, z1, z2, z3, zz⟩ := cellsO (HR.out.first HP.out.lt.2)
      clear hlt
      go_wp2_with fail
      refine bodyPost_ret (results_op _ _ w.heap.size _ _ _ _ false rfl rfl (putO_at (HR.out.first HP.out.lt.2) _ _ _ _)) rfl ?_
      exact ⟨⟨#[]⟩, false, by rw [HE.out]; rfl, by rw [HE.out]; rfl, HR.out.put' HP.out (putO_chg _ _ _ _ _ _)⟩
end Go.Proofs.YtikofngogkchfaaDoor
