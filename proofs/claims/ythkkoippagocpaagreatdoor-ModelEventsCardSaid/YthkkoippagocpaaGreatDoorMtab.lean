/- The table of the events' names: from the row's list to the cells; a world for the witness, all listed variables laid. -/
import Derived.Test.YthkkoippagocpaaGreatDoorCards
import Derived.Test.YthkkoippagocpaaGreatDoorTie
import Derived.Test.YthkkoippagocpaaGreatDoorMo
import Derived.ProofKit
import Derived.OpenShut
import Derived.Deep.DeepHandedRow
import Derived.PinnedBridge
import Derived.MakeChecks
namespace Go.Proofs.YthkkoippagocpaaGreatDoor
open Go Go.Lib Go.RowKit
set_option linter.unusedVariables false

section
variable {H : Type} {enc : TypeId × Value → H} {P : Program} {w : World} {base : Nat} {sp : Nat → Bool} {held : Bool}
/-- The value that a text reads from. -/
def leafS : DataW H → Option Value
  | .lit (.string s) => some (.string ⟨s.toArray⟩)
  | _ => none
theorem leafS_array {fuel : Nat} {t e : TypeId} {n : Nat} {cs : List Value} {ds : List (DataW H)} {p : List MemPlace} (ht : P.underlying t = some (.array n e)) (he : P.underlying e = some .string) (hc : P.cellsOf e = 1)
    (h : DataW.trod enc P w base sp held fuel t cs = some (.agg ds, p)) (i : Nat) (hi : i < n) : ∃ v, cs[i]? = some v ∧ (ds.map leafS)[i]? = some (some v) := by
  obtain ⟨fuel', d, q, hd, hx⟩ := array_elem ht h i hi
  obtain ⟨s, hv, hx', _⟩ := DataW.trod_string he hx
  simp only [Prod.mk.injEq] at hx'
  obtain ⟨rfl, _⟩ := hx'
  rw [hc, Nat.mul_one] at hv
  refine ⟨.string s, ?_, by rw [List.getElem?_map, hd, Option.map_some]; rfl⟩
  have := congrArg (·[0]?) hv
  simpa [List.getElem?_take, List.getElem?_drop] using this
theorem arrayS_len {fuel : Nat} {t e : TypeId} {n : Nat} {cs : List Value} {ds : List (DataW H)} {p : List MemPlace} (ht : P.underlying t = some (.array n e)) (h : DataW.trod enc P w base sp held fuel t cs = some (.agg ds, p)) : cs.length = P.cellsOf t := by
  cases fuel with
  | zero => simp [DataW.trod] at h
  | succ fuel =>
    simp only [DataW.trod, ht] at h
    split at h
    · assumption
    · cases h
end
theorem someS_at {L : List (Option Value)} {C : List Value} (h : L = C.map some) {i : Nat} {v : Value} (hv : L[i]? = some (some v)) : C[i]? = some v := by
  rw [h, List.getElem?_map] at hv
  simpa using hv
theorem gEv : Tryz.prog.globalNamed "dossier/model.eventNames" = some 0 := by kernel_rfl
theorem gEvT : (Tryz.prog.globals[0]?).map (·.type) = some 29 := by kernel_rfl
theorem cellsStrM : Tryz.prog.cellsOf 9 = 1 := by kernel_rfl
theorem cellsEv : Tryz.prog.cellsOf 29 = 28 := by kernel_rfl
def dataS : DataW Unit → List (DataW Unit) | .agg l => l | _ => []
theorem ev_data : Rows.laid_dossier_model_eventNames = DataW.agg (dataS Rows.laid_dossier_model_eventNames) ∧ (dataS Rows.laid_dossier_model_eventNames).map leafS = evCells.map some := ⟨rfl, rfl⟩
theorem evtab_of {W : World} {L : List (String × DataW Unit)} (h : laidMetH Tryz.prog L W) (hh : ∀ W, laidMetH Tryz.prog L W = laidMet Tryz.prog L W) (h1 : ("dossier/model.eventNames", Rows.laid_dossier_model_eventNames) ∈ L) : EvTab W := by
  rw [hh] at h
  have h3 : VarReads Tryz.prog W "dossier/model.eventNames" _ := laidMet.reads h h1
  obtain ⟨g, t, cs, fuel, p, hg, hty, hvar, hd⟩ := h3
  obtain rfl := Option.some.inj (gEv.symm.trans hg)
  obtain rfl := Option.some.inj (gEvT.symm.trans hty)
  rw [ev_data.1] at hd
  have hlen := arrayS_len Tryz.underlying29 hd
  rw [cellsEv] at hlen
  have hcs : cs = evCells.toArray := by
    apply Array.ext'
    apply List.ext_getElem?
    intro j
    by_cases hj : j < 28
    · obtain ⟨v, hv, hl⟩ := leafS_array Tryz.underlying29 Tryz.underlying9 cellsStrM hd j hj
      rw [hv]
      exact (someS_at ev_data.2 hl).symm
    · rw [List.getElem?_eq_none (by omega), List.getElem?_eq_none (by show 28 ≤ j; omega)]
  unfold World.var? at hvar
  rw [gEv] at hvar
  simp only [Option.bind_some] at hvar
  split at hvar
  · next c t fr hh =>
    simp only [Option.some.injEq] at hvar
    subst hvar
    rw [hcs] at hh
    exact ⟨_, _, hh⟩
  · cases hvar

/-- A datum's cells. -/
def flatD : Nat → DataW Unit → List Value
  | 0, _ => []
  | _ + 1, .lit (.int k z) => [.int k z]
  | _ + 1, .lit (.string s) => [.string ⟨s.toArray⟩]
  | _ + 1, .lit (.bool b) => [.bool b]
  | n + 1, .agg l => l.flatMap (flatD n)
  | _ + 1, _ => []
/-- A block with other cells. -/
def recellsM (cs : Array Value) : Obj → Obj
  | .cells _ t fz => .cells cs t fz
  | o => o
/-- A world for the witness: the settled one, all tables as their initialisers lay them. -/
noncomputable def laidWorld5 (os : Os) : World :=
  { World.holding Tryz.prog os ⟨#[], #[], []⟩ with heap := (((((World.holding Tryz.prog os ⟨#[], #[], []⟩).heap.modify 1 (recellsM (flatD 4 Rows.laid_unicode_utf8_first).toArray)).modify 2 (recellsM (flatD 4 Rows.laid_unicode_utf8_acceptRanges).toArray)).modify 3 (recellsM (flatD 4 Rows.laid_dossier_expr_operators).toArray)).modify 5 (recellsM (flatD 4 Rows.laid_dossier_expr_stateNames).toArray)).modify 0 (recellsM (flatD 4 Rows.laid_dossier_model_eventNames).toArray) }
theorem laid_ok (os : Os) : laidMet Tryz.prog Rows.modelEventsRow.laid ((laidWorld5 os).forCall (fun _ _ => 0) ⟨#[], #[.int .i64 0, .int .i64 0, .string ByteArray.empty], []⟩).memory :=
  laidMet_of_run' 8 (by kernel_rfl) (by kernel_rfl)
end Go.Proofs.YthkkoippagocpaaGreatDoor
