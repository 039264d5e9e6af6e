/- The decoder's two tables: from the row's list to the cells, and a world for the witness. -/
import Derived.Test.YtikofngogkchfaaDoorCards
import Derived.Test.YtikofngogkchfaaDoorTie
import Derived.Test.YtikofngogkchfaaDoorCw
import Derived.ProofKit
import Derived.OpenShut
import Derived.Deep.DeepHandedRow
import Derived.Lib.LaidU8
import Derived.PinnedBridge
import Derived.MakeChecks
import Derived.Test.YtikofngogkchfaaDoorEt
namespace Go.Proofs.YtikofngogkchfaaDoor
open Go.Lib Go.RowKit

theorem first_is : Rows.laid_unicode_utf8_first = Lib.firstData := Pinned.utf8First_eq
theorem accept_is : (Rows.laid_unicode_utf8_acceptRanges : DataW Unit) = Lib.acceptData := by kernel_rfl
def tabList : List (String × DataW Unit) := [("unicode/utf8.acceptRanges", Rows.laid_unicode_utf8_acceptRanges), ("unicode/utf8.first", Rows.laid_unicode_utf8_first)]

theorem gFirst : Tryd.prog.globalNamed "unicode/utf8.first" = some 2 := by kernel_rfl
theorem gFirstT : (Tryd.prog.globals[2]?).map (·.type) = some 91 := by kernel_rfl
theorem gAcc : Tryd.prog.globalNamed "unicode/utf8.acceptRanges" = some 3 := by kernel_rfl
theorem gAccT : (Tryd.prog.globals[3]?).map (·.type) = some 94 := by kernel_rfl
theorem cells5 : Tryd.prog.cellsOf 5 = 1 := by kernel_rfl
theorem cellsFirst : Tryd.prog.cellsOf 91 = 256 := by kernel_rfl
theorem cellsAcc : Tryd.prog.cellsOf 93 = 2 := by kernel_rfl

theorem tabs_of {W : World} (h : laidMetH Tryd.prog tabList W) : Tabs W := by
  rw [MakeChecks.laidMetH_plain _ _ _ (by kernel_rfl)] at h
  have h3 : VarReads Tryd.prog W "unicode/utf8.first" Lib.firstData := by rw [← first_is]; exact laidMet.reads h (by simp [tabList])
  have h4 : VarReads Tryd.prog W "unicode/utf8.acceptRanges" Lib.acceptData := by rw [← accept_is]; exact laidMet.reads h (by simp [tabList])
  refine ⟨fun c hc => ?_, fun i hi => ?_⟩
  · obtain ⟨g, t, cs, fuel, p, hg, hty, hvar, hd⟩ := h3
    obtain rfl := Option.some.inj (gFirst.symm.trans hg)
    obtain rfl := Option.some.inj (gFirstT.symm.trans hty)
    have hcs := cells_of_tab Tryd.underlying91 Tryd.underlying5 cells5 cellsFirst hd
    have := World.var?_cell hg hvar c
    rw [this, ← Array.getElem?_toList, hcs]
    simp [firstTab, hc]
  · obtain ⟨g, t, cs, fuel, p, hg, hty, hvar, hd⟩ := h4
    obtain rfl := Option.some.inj (gAcc.symm.trans hg)
    obtain rfl := Option.some.inj (gAccT.symm.trans hty)
    obtain ⟨fuel', d, q, hdi, he⟩ := array_elem Tryd.underlying94 hd i hi
    simp only [List.getElem?_map, List.getElem?_range hi, Option.map_some, Option.some.injEq] at hdi
    subst hdi
    rw [cellsAcc] at he
    have hcs := ints_of_struct Tryd.underlying93 (fun j f hj => by
      match j, hj with
      | 0, hj => simp at hj; subst hj; exact ⟨Tryd.underlying5, rfl, cells5⟩
      | 1, hj => simp at hj; subst hj; exact ⟨Tryd.underlying5, rfl, cells5⟩
      | j + 2, hj => simp at hj) (by rw [cellsAcc]; rfl) he
    have e0 := congrArg (·[0]?) hcs
    have e1 := congrArg (·[1]?) hcs
    simp only [List.getElem?_take, List.getElem?_drop] at e0 e1
    constructor
    · rw [World.var?_cell hg hvar (2 * i), ← Array.getElem?_toList]
      simpa [Nat.mul_comm] using e0
    · rw [World.var?_cell hg hvar (2 * i + 1), ← Array.getElem?_toList]
      simpa [Nat.mul_comm] using e1

/-- A block with other cells. -/
def recells (cs : Array Value) : Obj → Obj
  | .cells _ t fz => .cells cs t fz
  | o => o
def firstCells : Array Value := ((List.range 256).map fun c => Value.int .u8 (firstT c)).toArray
def accCells : Array Value := ((List.range 32).map fun c => Value.int .u8 (if c % 2 = 0 then accLo (c / 2) else accHi (c / 2))).toArray

/-- A world for the witness: the settled one, both tables as their initialisers lay them. -/
noncomputable def laidWorld (os : Os) : World :=
  { World.holding Tryd.prog os ⟨#[], #[], []⟩ with heap := ((World.holding Tryd.prog os ⟨#[], #[], []⟩).heap.modify 2 (recells firstCells)).modify 3 (recells accCells) }
end Go.Proofs.YtikofngogkchfaaDoor

/- The reference's states. -/
namespace Go.Proofs.YtikofngogkchfaaDoor
open Go Go.RowKit
set_option linter.unusedVariables false

theorem rst_cells (w : World) : ∀ k, k < 9 → (w.alloc (.cells #[.string ⟨#[]⟩, .string ⟨#[97, 118, 97, 105, 108, 97, 98, 108, 101]⟩, .string ⟨#[101, 110, 97, 98, 108, 101, 100]⟩, .string ⟨#[100, 105, 115, 97, 98, 108, 101, 100]⟩, .string ⟨#[97, 99, 116, 105, 118, 101]⟩, .string ⟨#[102, 97, 105, 108, 101, 100]⟩, .string ⟨#[115, 117, 115, 112, 101, 110, 100, 101, 100]⟩, .string ⟨#[99, 111, 109, 112, 108, 101, 116, 101, 100]⟩, .string ⟨#[116, 101, 114, 109, 105, 110, 97, 116, 101, 100]⟩] 9)).cell? ⟨w.heap.size, k, none⟩ = some (.string (stX k)) := by
  intro k hk
  simp only [World.cell?, heap_alloc_new]
  rcases (by omega : k = 0 ∨ k = 1 ∨ k = 2 ∨ k = 3 ∨ k = 4 ∨ k = 5 ∨ k = 6 ∨ k = 7 ∨ k = 8) with rfl | rfl | rfl | rfl | rfl | rfl | rfl | rfl | rfl <;> rfl

set_option maxRecDepth 100000 in
theorem rstates_c (w : World) : Calls Tryd.prog 21 #[] w fun e w' => e = .returned (.slice (some ⟨w.heap.size, 0, none⟩) 9 9) ∧ w' = w.alloc (.cells #[.string ⟨#[]⟩, .string ⟨#[97, 118, 97, 105, 108, 97, 98, 108, 101]⟩, .string ⟨#[101, 110, 97, 98, 108, 101, 100]⟩, .string ⟨#[100, 105, 115, 97, 98, 108, 101, 100]⟩, .string ⟨#[97, 99, 116, 105, 118, 101]⟩, .string ⟨#[102, 97, 105, 108, 101, 100]⟩, .string ⟨#[115, 117, 115, 112, 101, 110, 100, 101, 100]⟩, .string ⟨#[99, 111, 109, 112, 108, 101, 116, 101, 100]⟩, .string ⟨#[116, 101, 114, 109, 105, 110, 97, 116, 101, 100]⟩] 9) := by
  go_enter Tryd.func21, Tryd.ntmps21
  go_wp2_with fail
  go_ret
  exact ⟨rfl, rfl⟩
set_option maxRecDepth 100000 in
set_option maxHeartbeats 1000000 in
theorem rstate_c (w : World) (s : ByteArray) : Calls Tryd.prog 10 #[.string s] w fun e w' => e = .returned (.tuple #[.int .i64 (stF s.data.toList : Nat), .bool (!(decide (stF s.data.toList = 0)))]) ∧ Below w.heap.size w w' := by
  have HCL := Lib.hid (rst_cells w)
  have HB := Lib.hid (fun o => box_bel w o)
  have HS := Lib.hid (fun w => rstates_c w)
  go_enter Tryd.func10, Tryd.ntmps10
  go_wp2_with (go_at_call 21; refine (HS.out _).mono ?_; rintro e w1 ⟨rfl, rfl⟩)
  go_loop [8] (fun i => ∃ k : Nat, k ≤ 9 ∧ i = .int .i64 k ∧ NoSt s.data.toList k) (fun i => 9 - (intOf i).toNat)
  case atStart => exact ⟨0, by omega, rfl, fun j h1 h2 => by omega⟩
  case round =>
    obtain ⟨k, hk, rfl, hr⟩ := hrel
    have HR := Lib.hid hr
    clear hr
    by_cases hlt : k < 9
    · have hcl := HCL.out k hlt
      have hv := st_hit s k
      by_cases h0 : k = 0
      · have hpos : decide (0 < k) = false := by simp [h0]
        have hpos' : ¬ 0 < k := by omega
        have HE := Lib.hid (show NoSt s.data.toList (k + 1) from fun j h1 h2 => by omega)
        generalize stX k = X at *
        clear hv h0
        go_wp2_with fail
        exact ⟨⟨k + 1, by omega, by go_num, HE.out⟩, by simp [intOf]; omega⟩
      · have hpos : 0 < k := by omega
        have hk1 : 1 ≤ k := by omega
        obtain ⟨b, hb⟩ : ∃ b, (stL.getD k [] == s.data.toList) = b := ⟨_, rfl⟩
        rw [hb] at hv
        cases b with
        | true =>
          have HE := Lib.hid (show stF s.data.toList = k from by rw [← (by simpa using hb : stL.getD k [] = s.data.toList)]; exact stF_hit k hk1 hlt)
          generalize stX k = X at *
          clear hb h0
          go_wp2_with fail
          go_ret2
          exact ⟨by rw [HE.out]; simp; omega, HB.out _⟩
        | false =>
          have HE := Lib.hid (HR.out.next (k := k) (by intro e; rw [e] at hb; simp at hb))
          generalize stX k = X at *
          clear hb h0
          go_wp2_with fail
          exact ⟨⟨k + 1, by omega, by go_num, HE.out⟩, by simp [intOf]; omega⟩
    · have HE := Lib.hid (show stF s.data.toList = 0 from stF_none _ fun j h1 h2 => HR.out j h1 (by omega))
      have hge : (9 : Int) ≤ k := by omega
      go_wp2_with fail
      go_ret2
      exact ⟨by rw [HE.out]; rfl, HB.out _⟩

set_option maxRecDepth 100000 in
theorem rsname_c (w : World) (n : Int) : Calls Tryd.prog 14 #[.int .i64 n] w fun e w' => e = .returned (.string (snX n)) ∧ Below w.heap.size w w' := by
  have HB := Lib.hid (fun o => box_bel w o)
  by_cases h1 : n < 1
  · have HE := Lib.hid (show snX n = ⟨#[]⟩ from by unfold snX; rw [if_pos (by unfold snB; simp [h1])])
    go_enter Tryd.func14, Tryd.ntmps14
    go_wp2_with fail
    go_ret
    exact ⟨by rw [HE.out]; rfl, Below.refl _ _⟩
  · by_cases h2 : 8 < n
    · have HE := Lib.hid (show snX n = ⟨#[]⟩ from by unfold snX; rw [if_pos (by unfold snB; simp [h2])])
      go_enter Tryd.func14, Tryd.ntmps14
      go_wp2_with fail
      go_ret
      exact ⟨by rw [HE.out]; rfl, Below.refl _ _⟩
    · obtain ⟨k, rfl⟩ : ∃ k : Nat, n = (k : Int) := ⟨n.toNat, by omega⟩
      have hk1 : 1 ≤ k := by omega
      have hk8 : k < 9 := by omega
      have hcl := rst_cells w k hk8
      have HE := Lib.hid (show snX (k : Int) = stX k from by unfold snX; rw [if_neg (by unfold snB; simp; omega)]; rfl)
      have HS := Lib.hid (fun w => rstates_c w)
      generalize stX k = X at *
      go_enter Tryd.func14, Tryd.ntmps14
      go_wp2_with (go_at_call 21; refine (HS.out _).mono ?_; rintro e w1 ⟨rfl, rfl⟩)
      go_ret
      exact ⟨by rw [HE.out]; rfl, HB.out _⟩
end Go.Proofs.YtikofngogkchfaaDoor

/- The tables of operators and of states' names: from the row's list to the cells, and a world for the witness. -/
namespace Go.Proofs.YtikofngogkchfaaDoor
open Go.Lib Go.RowKit

section
variable {H : Type} {enc : TypeId × Value → H} {P : Program} {w : World} {base : Nat} {sp : Nat → Bool} {held : Bool}
/-- The value that a leaf reads from. -/
def leafV : DataW H → Option Value
  | .lit (.int k z) => some (.int k z)
  | .lit (.string s) => some (.string ⟨s.toArray⟩)
  | _ => none
def rowV : DataW H → List (Option Value)
  | .agg l => l.map leafV
  | _ => []
theorem leaf_one {fuel : Nat} {t : TypeId} {cs : List Value} {d : DataW H} {p : List MemPlace} (ht : P.underlying t = some .string ∨ ∃ k, P.underlying t = some (.int k)) (h : DataW.trod enc P w base sp held fuel t cs = some (d, p)) : ∃ v, cs = [v] ∧ leafV d = some v := by
  rcases ht with ht | ⟨k, ht⟩
  · obtain ⟨s, rfl, hx, _⟩ := DataW.trod_string ht h
    simp only [Prod.mk.injEq] at hx
    obtain ⟨rfl, _⟩ := hx
    exact ⟨_, rfl, rfl⟩
  · obtain ⟨n, rfl, hx, _⟩ := DataW.trod_int ht h
    simp only [Prod.mk.injEq] at hx
    obtain ⟨rfl, _⟩ := hx
    exact ⟨_, rfl, rfl⟩
theorem leaves_array {fuel : Nat} {t e : TypeId} {n : Nat} {cs : List Value} {ds : List (DataW H)} {p : List MemPlace} (ht : P.underlying t = some (.array n e)) (he : P.underlying e = some .string ∨ ∃ k, P.underlying e = some (.int k)) (hc : P.cellsOf e = 1)
    (h : DataW.trod enc P w base sp held fuel t cs = some (.agg ds, p)) (i : Nat) (hi : i < n) : ∃ v, cs[i]? = some v ∧ (ds.map leafV)[i]? = some (some v) := by
  obtain ⟨fuel', d, q, hd, hx⟩ := array_elem ht h i hi
  obtain ⟨v, hv, hl⟩ := leaf_one he hx
  rw [hc, Nat.mul_one] at hv
  refine ⟨v, ?_, by rw [List.getElem?_map, hd, Option.map_some, hl]⟩
  have := congrArg (·[0]?) hv
  simpa [List.getElem?_take, List.getElem?_drop] using this
theorem array_len {fuel : Nat} {t e : TypeId} {n : Nat} {cs : List Value} {ds : List (DataW H)} {p : List MemPlace} (ht : P.underlying t = some (.array n e)) (h : DataW.trod enc P w base sp held fuel t cs = some (.agg ds, p)) : cs.length = P.cellsOf t := by
  cases fuel with
  | zero => simp [DataW.trod] at h
  | succ fuel =>
    simp only [DataW.trod, ht] at h
    split at h
    · assumption
    · cases h
theorem leaves_struct {fuel : Nat} {t : TypeId} {fs : Array Field} {cs : List Value} {d : DataW H} {p : List MemPlace} (ht : P.underlying t = some (.struct fs))
    (hf : ∀ (i : Nat) (f : Field), fs[i]? = some f → (P.underlying f.type = some .string ∨ ∃ k, P.underlying f.type = some (.int k)) ∧ f.offset = i ∧ P.cellsOf f.type = 1)
    (h : DataW.trod enc P w base sp held fuel t cs = some (d, p)) (i : Nat) (hi : i < fs.size) : ∃ v, cs[i]? = some v ∧ (rowV d)[i]? = some (some v) := by
  obtain ⟨xs, n, rfl, hx, hl, hxl, hall⟩ := DataW.trod_struct ht h
  simp only [Prod.mk.injEq] at hx
  obtain ⟨rfl, _⟩ := hx
  obtain ⟨hu, ho, hc⟩ := hf i fs[i] (by simp [hi])
  have h1 := hall i fs[i] (by simp [hi])
  obtain ⟨b, hb⟩ : ∃ b, xs[i]? = some b := ⟨xs[i]'(by omega), List.getElem?_eq_getElem (by omega)⟩
  rw [hb, ho, hc] at h1
  obtain ⟨v, hv, hlv⟩ := leaf_one (d := b.1) (p := b.2) hu h1
  refine ⟨v, ?_, ?_⟩
  · have := congrArg (·[0]?) hv
    simpa [List.getElem?_take, List.getElem?_drop] using this
  · show ((xs.map (·.1)).map leafV)[i]? = _
    rw [List.getElem?_map, List.getElem?_map, hb]
    simp [hlv]
end
/-- What a list of leaves says of a place. -/
theorem some_at {L : List (Option Value)} {C : List Value} (h : L = C.map some) {i : Nat} {v : Value} (hv : L[i]? = some (some v)) : C[i]? = some v := by
  rw [h, List.getElem?_map] at hv
  simpa using hv

theorem gSt : Tryd.prog.globalNamed "dossier/expr.stateNames" = some 0 := by kernel_rfl
theorem gStT : (Tryd.prog.globals[0]?).map (·.type) = some 51 := by kernel_rfl
theorem gOp : Tryd.prog.globalNamed "dossier/expr.operators" = some 1 := by kernel_rfl
theorem gOpT : (Tryd.prog.globals[1]?).map (·.type) = some 78 := by kernel_rfl
theorem cellsStr : Tryd.prog.cellsOf 9 = 1 := by kernel_rfl
theorem cellsInt : Tryd.prog.cellsOf 3 = 1 := by kernel_rfl
theorem cellsOps : Tryd.prog.cellsOf 78 = 60 := by kernel_rfl
theorem cellsOp : Tryd.prog.cellsOf 64 = 4 := by kernel_rfl
def dataL : DataW Unit → List (DataW Unit) | .agg l => l | _ => []
theorem st_data : Rows.laid_dossier_expr_stateNames = DataW.agg (dataL Rows.laid_dossier_expr_stateNames) ∧ (dataL Rows.laid_dossier_expr_stateNames).map leafV = stCells.map some := ⟨rfl, rfl⟩
theorem op_data : Rows.laid_dossier_expr_operators = DataW.agg (dataL Rows.laid_dossier_expr_operators) ∧ (dataL Rows.laid_dossier_expr_operators).map rowV = opL.map (fun o => [some (.string ⟨o.1.toArray⟩), some (.int .i64 o.2.1), some (.int .i64 o.2.2.1), some (.int .i64 o.2.2.2)]) := ⟨rfl, rfl⟩
theorem opCells_at : ∀ (L : List (List UInt8 × Nat × Nat × Nat)) (i r : Nat), r < 4 →
    (L.flatMap fun o => [Value.string ⟨o.1.toArray⟩, .int .i64 o.2.1, .int .i64 o.2.2.1, .int .i64 o.2.2.2])[4 * i + r]? = (L[i]?).bind fun o => ([Value.string ⟨o.1.toArray⟩, .int .i64 o.2.1, .int .i64 o.2.2.1, .int .i64 o.2.2.2])[r]? := by
  intro L
  induction L with
  | nil => intro i r _; simp
  | cons o L ih =>
    intro i r hr
    rw [List.flatMap_cons]
    cases i with
    | zero => rw [List.getElem?_append_left (by simp; omega)]; simp
    | succ i =>
      rw [List.getElem?_append_right (by simp; omega)]
      have := ih i r hr
      simp only [List.length_cons, List.length_nil, List.getElem?_cons_succ]
      rw [show 4 * (i + 1) + r - (0 + 1 + 1 + 1 + 1) = 4 * i + r from by omega]
      exact this

theorem etabs_of {W : World} {L : List (String × DataW Unit)} (h : laidMetH Tryd.prog L W) (hh : ∀ W, laidMetH Tryd.prog L W = laidMet Tryd.prog L W) (h1 : ("dossier/expr.stateNames", Rows.laid_dossier_expr_stateNames) ∈ L) (h2 : ("dossier/expr.operators", Rows.laid_dossier_expr_operators) ∈ L) : ETabs W := by
  rw [hh] at h
  have h3 : VarReads Tryd.prog W "dossier/expr.stateNames" _ := laidMet.reads h h1
  have h4 : VarReads Tryd.prog W "dossier/expr.operators" _ := laidMet.reads h h2
  refine ⟨?_, fun j u hu => ?_⟩
  · obtain ⟨g, t, cs, fuel, p, hg, hty, hvar, hd⟩ := h4
    obtain rfl := Option.some.inj (gOp.symm.trans hg)
    obtain rfl := Option.some.inj (gOpT.symm.trans hty)
    rw [op_data.1] at hd
    have hlen := array_len Tryd.underlying78 hd
    rw [cellsOps] at hlen
    have hcs : cs = opA := by
      apply Array.ext'
      apply List.ext_getElem?
      intro j
      by_cases hj : j < 60
      · obtain ⟨i, r, rfl, hr⟩ : ∃ i r, j = 4 * i + r ∧ r < 4 := ⟨j / 4, j % 4, by omega, by omega⟩
        obtain ⟨fuel', d, q, hdi, hx⟩ := array_elem Tryd.underlying78 hd i (by omega)
        obtain ⟨v, hv, hr2⟩ := leaves_struct Tryd.underlying64 (fun k f hk => by
          match k, hk with
          | 0, hk => simp at hk; subst hk; exact ⟨.inl Tryd.underlying9, rfl, cellsStr⟩
          | 1, hk => simp at hk; subst hk; exact ⟨.inr ⟨_, Tryd.underlying3⟩, rfl, cellsInt⟩
          | 2, hk => simp at hk; subst hk; exact ⟨.inr ⟨_, Tryd.underlying3⟩, rfl, cellsInt⟩
          | 3, hk => simp at hk; subst hk; exact ⟨.inr ⟨_, Tryd.underlying3⟩, rfl, cellsInt⟩
          | k + 4, hk => simp at hk) hx r (by simpa using hr)
        have e1 : cs.toList[4 * i + r]? = some v := by
          rw [cellsOp] at hv
          rw [List.getElem?_take, if_pos hr, List.getElem?_drop] at hv
          rw [← hv]; congr 1; omega
        rw [e1]
        have e2 : ((dataL Rows.laid_dossier_expr_operators).map rowV)[i]? = some (rowV d) := by rw [List.getElem?_map, hdi]; rfl
        rw [op_data.2, List.getElem?_map] at e2
        have e3 := opCells_at opL i r hr
        have hi15 : i < 15 := by omega
        cases ho : opL[i]? with
        | none => rw [ho] at e2; cases e2
        | some o =>
          rw [ho] at e2 e3
          simp only [Option.map_some, Option.some.injEq] at e2
          rw [← e2] at hr2
          have e4 : opA.toList[4 * i + r]? = _ := e3
          rw [e4]
          simp only [Option.bind_some]
          rcases (by omega : r = 0 ∨ r = 1 ∨ r = 2 ∨ r = 3) with rfl | rfl | rfl | rfl <;> (simp at hr2; simp [hr2])
      · rw [List.getElem?_eq_none (by omega), List.getElem?_eq_none (by show 60 ≤ j; omega)]
    unfold World.var? at hvar
    rw [gOp] at hvar
    simp only [Option.bind_some] at hvar
    split at hvar
    · next c t fr hh =>
      simp only [Option.some.injEq] at hvar
      subst hvar
      rw [hcs] at hh
      exact ⟨_, _, hh⟩
    · cases hvar
  · obtain ⟨g, t, cs, fuel, p, hg, hty, hvar, hd⟩ := h3
    obtain rfl := Option.some.inj (gSt.symm.trans hg)
    obtain rfl := Option.some.inj (gStT.symm.trans hty)
    have hj : j < 9 := by
      have := (List.getElem?_eq_some_iff.1 hu).1
      simpa [stCells, stL] using this
    rw [st_data.1] at hd
    obtain ⟨v, hv, hl⟩ := leaves_array Tryd.underlying51 (.inl Tryd.underlying9) cellsStr hd j hj
    rw [World.var?_cell hg hvar j, ← Array.getElem?_toList, hv]
    have := some_at st_data.2 hl
    rw [hu] at this
    exact this.symm
theorem tabs_mem {W : World} {L : List (String × DataW Unit)} (h : laidMet Tryd.prog L W) (m1 : ("unicode/utf8.first", Rows.laid_unicode_utf8_first) ∈ L) (m2 : ("unicode/utf8.acceptRanges", Rows.laid_unicode_utf8_acceptRanges) ∈ L) : Tabs W := by
  have h3 : VarReads Tryd.prog W "unicode/utf8.first" Lib.firstData := by rw [← first_is]; exact laidMet.reads h m1
  have h4 : VarReads Tryd.prog W "unicode/utf8.acceptRanges" Lib.acceptData := by rw [← accept_is]; exact laidMet.reads h m2
  refine ⟨fun c hc => ?_, fun i hi => ?_⟩
  · obtain ⟨g, t, cs, fuel, p, hg, hty, hvar, hd⟩ := h3
    obtain rfl := Option.some.inj (gFirst.symm.trans hg)
    obtain rfl := Option.some.inj (gFirstT.symm.trans hty)
    have hcs := cells_of_tab Tryd.underlying91 Tryd.underlying5 cells5 cellsFirst hd
    have := World.var?_cell hg hvar c
    rw [this, ← Array.getElem?_toList, hcs]
    simp [firstTab, hc]
  · obtain ⟨g, t, cs, fuel, p, hg, hty, hvar, hd⟩ := h4
    obtain rfl := Option.some.inj (gAcc.symm.trans hg)
    obtain rfl := Option.some.inj (gAccT.symm.trans hty)
    obtain ⟨fuel', d, q, hdi, he⟩ := array_elem Tryd.underlying94 hd i hi
    simp only [List.getElem?_map, List.getElem?_range hi, Option.map_some, Option.some.injEq] at hdi
    subst hdi
    rw [cellsAcc] at he
    have hcs := ints_of_struct Tryd.underlying93 (fun j f hj => by
      match j, hj with
      | 0, hj => simp at hj; subst hj; exact ⟨Tryd.underlying5, rfl, cells5⟩
      | 1, hj => simp at hj; subst hj; exact ⟨Tryd.underlying5, rfl, cells5⟩
      | j + 2, hj => simp at hj) (by rw [cellsAcc]; rfl) he
    have e0 := congrArg (·[0]?) hcs
    have e1 := congrArg (·[1]?) hcs
    simp only [List.getElem?_take, List.getElem?_drop] at e0 e1
    constructor
    · rw [World.var?_cell hg hvar (2 * i), ← Array.getElem?_toList]
      simpa [Nat.mul_comm] using e0
    · rw [World.var?_cell hg hvar (2 * i + 1), ← Array.getElem?_toList]
      simpa [Nat.mul_comm] using e1

/-- A world for the witness: all four tables as their initialisers lay them. -/
noncomputable def laidWorld4 (os : Os) : World :=
  { laidWorld os with heap := ((laidWorld os).heap.modify 1 (recells opA)).modify 0 (recells stCells.toArray) }
end Go.Proofs.YtikofngogkchfaaDoor
