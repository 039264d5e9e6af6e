/- xmllex: what the row lists of the world, and a world for the witness. -/
import Derived.Test.YthlphmldghppmaaGreatDoorIc
import Derived.Test.YthlphmldghppmaaGreatDoorTb
import Derived.Test.YthlphmldghppmaaGreatDoorBulk
import Derived.ShutString
import Derived.ChangeOld
import Derived.Shelf.Vars
import Derived.LaidLaws
namespace Go.Proofs.YthlphmldghppmaaGreatDoor
open Go.Lib Go.RowKit
set_option linter.unusedVariables false

theorem tabs_mem {W : World} {L : List (String × DataW Unit)} (h : laidMet Tryz.prog L W) (m1 : ("unicode/utf8.first", Rows.laid_unicode_utf8_first) ∈ L) (m2 : ("unicode/utf8.acceptRanges", Rows.laid_unicode_utf8_acceptRanges) ∈ L) : Tabs W := by
  have h3 : VarReads Tryz.prog W "unicode/utf8.first" Lib.firstData := by rw [← first_is]; exact laidMet.reads h m1
  have h4 : VarReads Tryz.prog W "unicode/utf8.acceptRanges" Lib.acceptData := by rw [← accept_is]; exact laidMet.reads h m2
  refine ⟨fun c hc => ?_, fun i hi => ?_⟩
  · obtain ⟨g, t, cs, fuel, p, hg, hty, hvar, hd⟩ := h3
    obtain rfl := Option.some.inj (gFirst.symm.trans hg)
    obtain rfl := Option.some.inj (gFirstT.symm.trans hty)
    have hcs := cells_of_tab Tryz.underlying120 Tryz.underlying5 cells5 cellsFirst hd
    have := World.var?_cell hg hvar c
    rw [this, ← Array.getElem?_toList, hcs]
    simp [firstTab, hc]
  · obtain ⟨g, t, cs, fuel, p, hg, hty, hvar, hd⟩ := h4
    obtain rfl := Option.some.inj (gAcc.symm.trans hg)
    obtain rfl := Option.some.inj (gAccT.symm.trans hty)
    obtain ⟨fuel', d, q, hdi, he⟩ := array_elem Tryz.underlying123 hd i hi
    simp only [List.getElem?_map, List.getElem?_range hi, Option.map_some, Option.some.injEq] at hdi
    subst hdi
    rw [cellsAcc] at he
    have hcs := ints_of_struct Tryz.underlying122 (fun j f hj => by
      match j, hj with
      | 0, hj => simp at hj; subst hj; exact ⟨Tryz.underlying5, rfl, cells5⟩
      | 1, hj => simp at hj; subst hj; exact ⟨Tryz.underlying5, rfl, cells5⟩
      | j + 2, hj => simp at hj) (by rw [cellsAcc]; rfl) he
    have e0 := congrArg (·[0]?) hcs
    have e1 := congrArg (·[1]?) hcs
    simp only [List.getElem?_take, List.getElem?_drop] at e0 e1
    constructor
    · rw [World.var?_cell hg hvar (2 * i), ← Array.getElem?_toList]
      simpa [Nat.mul_comm] using e0
    · rw [World.var?_cell hg hvar (2 * i + 1), ← Array.getElem?_toList]
      simpa [Nat.mul_comm] using e1
theorem gSyn : Tryz.prog.globalNamed "strconv.ErrSyntax" = some 3 := by kernel_rfl
theorem gSynT : (Tryz.prog.globals[3]?).map (·.type) = some 56 := by kernel_rfl
theorem gRan : Tryz.prog.globalNamed "strconv.ErrRange" = some 4 := by kernel_rfl
theorem gRanT : (Tryz.prog.globals[4]?).map (·.type) = some 56 := by kernel_rfl
theorem err_of {W : World} {n : String} {g : Nat} {name : String} {d : DataW Unit} (h : VarReads Tryz.prog W n (.iface name d)) (hn : Tryz.prog.globalNamed n = some g) (ht : (Tryz.prog.globals[g]?).map (·.type) = some 56) : ErrAt W g := by
  obtain ⟨g', t, cs, fuel, p, hg, hty, hvar, hd⟩ := h
  obtain rfl := Option.some.inj (hn.symm.trans hg)
  obtain rfl := Option.some.inj (ht.symm.trans hty)
  obtain ⟨_, u, v, hcs, _⟩ := iface_of_trod Tryz.underlying56 hd
  refine ⟨.iface u v, ?_, .inr ⟨u, v, rfl⟩⟩
  rw [World.var?_cell hg hvar 0, ← Array.getElem?_toList, hcs]
  rfl
theorem mx_of {W : World} (h : W.ShapedOpen Tryz.prog) : MX W :=
  cell_of_shapedOpen_int h (of_decide_eq_true (by kernel_rfl)) (zero := #[.int .i64 0]) (t := 3) (by kernel_rfl) rfl (by kernel_rfl) (by kernel_rfl) Tryz.underlying3
theorem bw_of {W : World} {L : List (String × DataW Unit)} (h : laidMet Tryz.prog L W) (hsh : W.ShapedOpen Tryz.prog) (m1 : ("unicode/utf8.first", Rows.laid_unicode_utf8_first) ∈ L) (m2 : ("unicode/utf8.acceptRanges", Rows.laid_unicode_utf8_acceptRanges) ∈ L) (m3 : ("strconv.ErrSyntax", Rows.laid_strconv_ErrSyntax) ∈ L) (m4 : ("strconv.ErrRange", Rows.laid_strconv_ErrRange) ∈ L) : BW W :=
  ⟨tabs_mem h m1 m2, mx_of hsh, err_of (laidMet.reads h m3) gSyn gSynT, err_of (laidMet.reads h m4) gRan gRanT⟩

def litC : DataW Unit → Array Value
  | .agg ps => (ps.map fun | .lit l => l.value | _ => undef).toArray
  | _ => #[]
def msgC : DataW Unit → Array Value
  | .iface _ (.ptr d) => litC d
  | _ => #[]
/-- A world for the witness: all seven variables as their initialisers lay them. -/
noncomputable def laidWorld7 (os : Os) : World :=
  { laidWorld os with heap := (((((((laidWorld os).heap.modify 6 (recells (litC Rows.laid_math_bits_deBruijn32tab))).modify 7 (recells (litC Rows.laid_math_bits_deBruijn64tab))).modify 5 (recells (litC Rows.laid_internal_strconv_uint64pow10))).modify 4 (recells #[.iface 127 (.pointer (some ⟨(laidWorld os).heap.size, 0, none⟩))])).modify 3 (recells #[.iface 127 (.pointer (some ⟨(laidWorld os).heap.size + 1, 0, none⟩))])).push (.cells (msgC Rows.laid_strconv_ErrRange) 129)).push (.cells (msgC Rows.laid_strconv_ErrSyntax) 129) }
end Go.Proofs.YthlphmldghppmaaGreatDoor
