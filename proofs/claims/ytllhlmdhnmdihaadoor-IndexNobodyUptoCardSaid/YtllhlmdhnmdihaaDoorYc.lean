/- A case is small: dossierplain.Case. Written by tools/genyc.py. -/
import Derived.Test.YtllhlmdhnmdihaaDoorYb
import Derived.OpenShut
import Derived.Outline
import Derived.WalkLawsBesides
import Derived.WalkSpells
namespace Go.Proofs.YtllhlmdhnmdihaaDoor
open Go.RowKit Go.Deep
set_option linter.unusedVariables false
set_option linter.unusedSimpArgs false

def okI (x : IV) : Bool := decide (x.path.size ≤ 400) && decide (x.ls.length ≤ 40)
def okD (x : DV) : Bool := decide (x.path.size ≤ 400) && decide (x.rs.length ≤ 40)
def okC (c : CV) : Bool := (c.insts.all okI && c.docs.all okD) && (decide (c.insts.length ≤ 40) && decide (c.docs.length ≤ 30))

/-- A row, cell for cell. -/
theorem Rows6.row {w : World} {a : Option Addr} {n c : Nat} {row : Nat → List Value} (h : Rows6 w (.slice a n c) n row) {k : Nat} (hk : k < n) {c0 c1 c2 c3 c4 c5 : Value} (hr : row k = [c0, c1, c2, c3, c4, c5]) :
    ∃ b o, a = some ⟨b, o, none⟩ ∧ b < w.heap.size ∧ w.cell? ⟨b, o + k * 6, none⟩ = some c0 ∧ w.cell? ⟨b, o + k * 6 + 1, none⟩ = some c1 ∧ w.cell? ⟨b, o + k * 6 + 2, none⟩ = some c2 ∧ w.cell? ⟨b, o + k * 6 + 3, none⟩ = some c3 ∧ w.cell? ⟨b, o + k * 6 + 4, none⟩ = some c4 ∧ w.cell? ⟨b, o + k * 6 + 5, none⟩ = some c5 := by
  obtain ⟨a', c', e, h1, h2, h3, h4⟩ := h
  simp only [Value.slice.injEq, true_and] at e
  obtain ⟨rfl, rfl⟩ := e
  obtain ⟨b, o, rfl, hlt, hx⟩ := h4 (by omega)
  have hj := fun j (hj : j < 6) => by
    have := hx k hk j hj
    rw [hr] at this
    exact this
  exact ⟨b, o, rfl, hlt, by simpa using hj 0 (by omega), by simpa [Nat.add_assoc] using hj 1 (by omega), by simpa [Nat.add_assoc] using hj 2 (by omega), by simpa [Nat.add_assoc] using hj 3 (by omega), by simpa [Nat.add_assoc] using hj 4 (by omega), by simpa [Nat.add_assoc] using hj 5 (by omega)⟩
theorem RdV.form {w : World} {v : Value} {cs : List Value} (h : RdV w v cs) : ∃ p c, v = .slice p cs.length c := by
  obtain ⟨p, c, h, _⟩ := h
  exact ⟨p, c, h⟩
theorem box_bel' (w : World) (o : Obj) : Below w.heap.size w (w.alloc o) := (Below.refl _ _).alloc (Nat.le_refl _) _
theorem bel_tr {w x w' : World} (h1 : Below w.heap.size w x) (h2 : Below x.heap.size x w') : Below w.heap.size w w' := h1.trans (h2.mono h1.size)
theorem all_take {α : Type} {f : α → Bool} {l : List α} {k : Nat} (hk : k < l.length) (h : (l.take k).all f = true) (hx : f l[k] = true) : (l.take (k + 1)).all f = true := by
  rw [List.take_succ_eq_append_getElem hk, List.all_append, h]
  simp [hx]
theorem all_not {α : Type} {f : α → Bool} {l : List α} {k : Nat} (hk : k < l.length) (hx : f l[k] = false) : l.all f = false := by
  rw [List.all_eq_false]
  exact ⟨l[k], List.getElem_mem hk, by rw [hx]; simp⟩

theorem cellsC {w : World} {b : Nat} {c0 c1 c2 c3 c4 : Value} {T : TypeId} (h : w.heap[b]? = some (.cells #[c0, c1, c2, c3, c4] T (0, 0))) :
    w.cell? ⟨b, 0, none⟩ = some c0 ∧ w.cell? ⟨b, 1, none⟩ = some c1 ∧ w.cell? ⟨b, 2, none⟩ = some c2 ∧ w.cell? ⟨b, 3, none⟩ = some c3 ∧ w.cell? ⟨b, 4, none⟩ = some c4 := by
  refine ⟨?_, ?_, ?_, ?_, ?_⟩ <;> simp [World.cell?, h]
set_option maxRecDepth 100000 in
set_option maxHeartbeats 2000000 in
theorem plain_c (w : World) (c : CV) (h : CVok w c) : Calls Tryd.prog 4 #[c.val] w fun e w' => e = .returned (.bool (okC c)) ∧ Below w.heap.size w w' := by
  obtain ⟨id, mo, iv, dv, cl, is, ds⟩ := c
  obtain ⟨a, ca, hv, h1, h2, h3, h4⟩ := h.insts.1
  obtain ⟨b, cb, hvb, k1, k2, k3, k4⟩ := h.docs.1
  dsimp only at hv hvb h1 h3 k1 k3
  subst hv hvb
  have hil : is.length ≤ 9223372036854775807 := by unfold maxLen at h2; omega
  have hdl : ds.length ≤ 9223372036854775807 := by unfold maxLen at k2; omega
  have HI := Lib.hid h.insts
  have HD := Lib.hid h.docs
  dsimp only at HI HD
  obtain ⟨R, hR⟩ : ∃ R, R = okC ⟨id, mo, .slice a is.length ca, .slice b ds.length cb, cl, is, ds⟩ := ⟨_, rfl⟩
  have HR := Lib.hid (show R = ((is.all okI && ds.all okD) && (decide (is.length ≤ 40) && decide (ds.length ≤ 30))) from hR)
  rw [← hR]
  unfold CV.val
  dsimp only
  have HB := Lib.hid (fun o => box_bel' w o)
  obtain ⟨w0, hw0⟩ : ∃ x, x = w.alloc (.cells #[.int .i64 id, .string mo, .slice a is.length ca, .slice b ds.length cb, .int .i64 cl] 25) := ⟨_, rfl⟩
  have HBW := Lib.hid (show Below w.heap.size w w0 from by rw [hw0]; exact box_bel' _ _)
  have HQ := Lib.hid (show w0.heap[w.heap.size]? = some (.cells #[.int .i64 id, .string mo, .slice a is.length ca, .slice b ds.length cb, .int .i64 cl] 25 (0, 0)) from by rw [hw0]; exact heap_alloc_new _ _)
  have HW0 := Lib.hid hw0
  clear h hR h4 k4 h3 k3 hw0
  go_enter Tryd.func4, Tryd.ntmps4
  go_wp2_with fail
  rw [← HW0.out]
  go_loopw [10] (fun i wr => ∃ k : Nat, k ≤ is.length ∧ i = .int .i64 k ∧ Below w0.heap.size w0 wr ∧ (is.take k).all okI = true) (fun i _ => is.length - (intOf i).toNat)
  case atStart => exact ⟨0, by omega, rfl, Below.refl _ _, by simp⟩
  case round =>
    obtain ⟨k, hk, rfl, hbr, hall⟩ := hrel
    have HBR := Lib.hid hbr
    have HAL := Lib.hid hall
    clear hbr hall
    by_cases hlt : k < is.length
    · obtain ⟨x, hx⟩ : ∃ x, x = is[k] := ⟨_, rfl⟩
      have HX := Lib.hid hx
      have hrow : rowI is k = x.cells := by unfold rowI; rw [List.getElem?_eq_getElem hlt, ← hx]; rfl
      have hxo := HI.out.2 x (by rw [hx]; exact List.getElem_mem hlt)
      obtain ⟨p, cp, hlv⟩ := hxo.rl.form
      obtain ⟨path, item, st, bf, lv, ls, due⟩ := x
      dsimp only at hlv
      subst hlv
      obtain ⟨g, o, ha, hg, c0, c1, c2, c3, c4, c5⟩ := ((HI.out.1.below HBW.out).below HBR.out).row hlt hrow
      subst ha
      have hll : (icells ls).length = ls.length := by simp [icells]
      rw [hll] at c4
      generalize hls : ls.length = nl at *
      by_cases q1 : 400 < path.size
      · have HE := Lib.hid (show R = false from by
          rw [HR.out, show is.all okI = false from all_not hlt (by rw [← HX.out]; unfold okI; simp; omega)]; simp)
        have d1 : decide (400 < path.size) = true := decide_eq_true q1
        have d2 : decide ((400 : Int) < (path.size : Nat)) = true := decide_eq_true (by omega)
        clear hrow hxo hx hls hll
        go_wp2_with fail
        go_ret
        exact ⟨by rw [HE.out]; rfl, HBW.out.trans ((HBR.out.alloc HBR.out.size _).mono HBW.out.size)⟩
      · have d1 : decide (400 < path.size) = false := decide_eq_false q1
        have d2 : decide ((400 : Int) < (path.size : Nat)) = false := decide_eq_false (by omega)
        by_cases q2 : 40 < nl
        · have HE := Lib.hid (show R = false from by
            rw [HR.out, show is.all okI = false from all_not hlt (by rw [← HX.out]; unfold okI; simp [hls]; omega)]; simp)
          have d3 : decide (40 < nl) = true := decide_eq_true q2
          have d4 : decide ((40 : Int) < (nl : Nat)) = true := decide_eq_true (by omega)
          clear hrow hxo hx hls hll
          go_wp2_with fail
          go_ret
          exact ⟨by rw [HE.out]; rfl, HBW.out.trans ((HBR.out.alloc HBR.out.size _).mono HBW.out.size)⟩
        · have d3 : decide (40 < nl) = false := decide_eq_false q2
          have d4 : decide ((40 : Int) < (nl : Nat)) = false := decide_eq_false (by omega)
          have HN := Lib.hid (all_take hlt HAL.out (by rw [← HX.out]; unfold okI; simp [hls]; omega))
          clear hrow hxo hx hls hll
          go_wp2_with fail
          exact ⟨⟨k + 1, by omega, by go_num, HBR.out.alloc HBR.out.size _, HN.out⟩, by simp [intOf]; omega⟩
    · have HN := Lib.hid (show is.all okI = true from by have := HAL.out; rwa [List.take_of_length_le (by omega)] at this)
      have HNI := HN
      have HBI := HBR
      have hq2 := (HBR.out.block w.heap.size (Array.getElem?_eq_some_iff.1 HQ.out).1).trans HQ.out
      obtain ⟨q0, q1, q2, q3, q4⟩ := cellsC hq2
      clear hq2
      go_wp2_with fail
      clear q0 q1 q2 q3 q4
      go_loopw [28] (fun i wr => ∃ k : Nat, k ≤ ds.length ∧ i = .int .i64 k ∧ Below w0.heap.size w0 wr ∧ (ds.take k).all okD = true) (fun i _ => ds.length - (intOf i).toNat)
      case atStart => exact ⟨0, by omega, rfl, HBI.out, by simp⟩
      case round =>
        obtain ⟨k, hk, rfl, hbr, hall⟩ := hrel
        have HBR := Lib.hid hbr
        have HAL := Lib.hid hall
        clear hbr hall
        by_cases hlt : k < ds.length
        · obtain ⟨x, hx⟩ : ∃ x, x = ds[k] := ⟨_, rfl⟩
          have HX := Lib.hid hx
          have hrow : rowD ds k = x.cells := by unfold rowD; rw [List.getElem?_eq_getElem hlt, ← hx]; rfl
          have hxo := HD.out.2 x (by rw [hx]; exact List.getElem_mem hlt)
          obtain ⟨p, cp, hlv⟩ := hxo.rr.form
          obtain ⟨path, vk, vi, vb, vt, rv, rs⟩ := x
          dsimp only at hlv
          subst hlv
          obtain ⟨g, o, ha, hg, c0, c1, c2, c3, c4, c5⟩ := ((HD.out.1.below HBW.out).below HBR.out).row hlt hrow
          subst ha
          have hll : (tcells rs).length = rs.length := by simp [tcells]
          rw [hll] at c5
          generalize hls : rs.length = nl at *
          by_cases q1 : 400 < path.size
          · have HE := Lib.hid (show R = false from by
              rw [HR.out, show ds.all okD = false from all_not hlt (by rw [← HX.out]; unfold okD; simp; omega)]; simp)
            have d1 : decide (400 < path.size) = true := decide_eq_true q1
            have d2 : decide ((400 : Int) < (path.size : Nat)) = true := decide_eq_true (by omega)
            clear hrow hxo hx hls hll
            go_wp2_with fail
            go_ret
            exact ⟨by rw [HE.out]; rfl, HBW.out.trans ((HBR.out.alloc HBR.out.size _).mono HBW.out.size)⟩
          · have d1 : decide (400 < path.size) = false := decide_eq_false q1
            have d2 : decide ((400 : Int) < (path.size : Nat)) = false := decide_eq_false (by omega)
            by_cases q2 : 40 < nl
            · have HE := Lib.hid (show R = false from by
                rw [HR.out, show ds.all okD = false from all_not hlt (by rw [← HX.out]; unfold okD; simp [hls]; omega)]; simp)
              have d3 : decide (40 < nl) = true := decide_eq_true q2
              have d4 : decide ((40 : Int) < (nl : Nat)) = true := decide_eq_true (by omega)
              clear hrow hxo hx hls hll
              go_wp2_with fail
              go_ret
              exact ⟨by rw [HE.out]; rfl, HBW.out.trans ((HBR.out.alloc HBR.out.size _).mono HBW.out.size)⟩
            · have d3 : decide (40 < nl) = false := decide_eq_false q2
              have d4 : decide ((40 : Int) < (nl : Nat)) = false := decide_eq_false (by omega)
              have HN := Lib.hid (all_take hlt HAL.out (by rw [← HX.out]; unfold okD; simp [hls]; omega))
              clear hrow hxo hx hls hll
              go_wp2_with fail
              exact ⟨⟨k + 1, by omega, by go_num, HBR.out.alloc HBR.out.size _, HN.out⟩, by simp [intOf]; omega⟩
        · have HN := Lib.hid (show ds.all okD = true from by have := HAL.out; rwa [List.take_of_length_le (by omega)] at this)
          have hq2 := (HBR.out.block w.heap.size (Array.getElem?_eq_some_iff.1 HQ.out).1).trans HQ.out
          obtain ⟨q0, q1, q2, q3, q4⟩ := cellsC hq2
          clear hq2
          have HE := Lib.hid (show R = (decide (is.length ≤ 40) && decide (ds.length ≤ 30)) from by rw [HR.out, HNI.out, HN.out]; rfl)
          obtain ⟨u, hu⟩ : ∃ u, decide (is.length ≤ 40) = u := ⟨_, rfl⟩
          obtain ⟨v, hv⟩ : ∃ v, decide (ds.length ≤ 30) = v := ⟨_, rfl⟩
          have hu2 : decide ((is.length : Int) ≤ 40) = u := by rw [← hu, decide_eq_decide]; omega
          have hv2 : decide ((ds.length : Int) ≤ 30) = v := by rw [← hv, decide_eq_decide]; omega
          rw [hu, hv] at HE
          cases u
          · go_wp2_with fail
            go_ret
            exact ⟨by rw [HE.out]; simp, HBW.out.trans (HBR.out.mono HBW.out.size)⟩
          · go_wp2_with fail
            go_ret
            exact ⟨by rw [HE.out]; simp, HBW.out.trans (HBR.out.mono HBW.out.size)⟩
end Go.Proofs.YtllhlmdhnmdihaaDoor
