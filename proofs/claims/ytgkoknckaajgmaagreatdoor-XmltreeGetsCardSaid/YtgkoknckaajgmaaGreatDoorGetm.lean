/- Proved: for every element e and all strings space and name, the law XmltreeGets returns true: where e's lists are not longer than 110, the program's Get and Sub give what the reference's give. Conditions: the listed package variables hold what Go's text lays (the card ties them); its type tells how deep and how long the argument may be. -/
import Derived.Test.YtgkoknckaajgmaaGreatDoorRows
import Derived.Test.YtgkoknckaajgmaaGreatDoorCards
import Derived.Test.YtgkoknckaajgmaaGreatDoorTie
import Derived.Test.YtgkoknckaajgmaaGreatDoorCw
import Derived.ProofKit
import Derived.OpenShut
import Derived.Deep.DeepHandedRow
import Derived.Lib.LaidU8
import Derived.PinnedBridge
import Derived.MakeChecks
import Derived.Test.YtgkoknckaajgmaaGreatDoorIi
import Derived.ShutString
import Derived.ChangeOld
import Derived.Shelf.Vars
import Derived.LaidLaws
import Derived.Test.YtgkoknckaajgmaaGreatDoorTeb
import Derived.Test.YtgkoknckaajgmaaGreatDoorTed
import Derived.Deep.RegionHeld3
import Derived.Test.YtgkoknckaajgmaaGreatDoorTea
namespace Go.Proofs.YtgkoknckaajgmaaGreatDoor

theorem bulk_one {H : Type} (d : DataW H) : 1 ≤ Rows.uptoBulk d := by
  cases d with
  | lit l => cases l <;> simp [Rows.uptoBulk]
  | _ => simp [Rows.uptoBulk]

theorem bulk_part {H : Type} {d : DataW H} {l : List (DataW H)} (h : d ∈ l) : Rows.uptoBulk d ≤ Rows.uptoBulkAll l := by
  induction l with
  | nil => cases h
  | cons x r ih =>
    simp only [Rows.uptoBulkAll]
    cases List.mem_cons.1 h with
    | inl e => subst e; omega
    | inr e => have := ih e; omega

theorem bulk_length {H : Type} (l : List (DataW H)) : l.length ≤ Rows.uptoBulkAll l := by
  induction l with
  | nil => simp [Rows.uptoBulkAll]
  | cons x r ih => have := bulk_one x; simp only [Rows.uptoBulkAll, List.length_cons]; omega

theorem bulk_bound {H : Type} {l : List (DataW H)} (hk : Rows.uptoSmall H l = true) : Rows.uptoBulkAll l ≤ 1048576 := of_decide_eq_true hk

theorem bulk_slice {H : Type} (elems spare l : List (DataW H)) (hk : Rows.uptoBulkAll l ≤ 1048576) (h : DataW.slice elems spare ∈ l) : elems.length ≤ 1048576 := by
  have h1 := bulk_part h
  have h2 := bulk_length elems
  simp only [Rows.uptoBulk] at h1
  omega

theorem bulk_string {H : Type} (bs : List UInt8) (l : List (DataW H)) (hk : Rows.uptoBulkAll l ≤ 1048576) (h : DataW.lit (.string bs) ∈ l) : bs.length ≤ 1048576 := by
  have h1 := bulk_part h
  simp only [Rows.uptoBulk] at h1
  omega
end Go.Proofs.YtgkoknckaajgmaaGreatDoor

/- The decoder's two tables: from the row's list to the cells, and a world for the witness. -/
namespace Go.Proofs.YtgkoknckaajgmaaGreatDoor
open Go.Lib Go.RowKit

theorem first_is : Rows.laid_unicode_utf8_first = Lib.firstData := Pinned.utf8First_eq
theorem accept_is : (Rows.laid_unicode_utf8_acceptRanges : DataW Unit) = Lib.acceptData := by kernel_rfl
def tabList : List (String × DataW Unit) := [("unicode/utf8.acceptRanges", Rows.laid_unicode_utf8_acceptRanges), ("unicode/utf8.first", Rows.laid_unicode_utf8_first)]

theorem gFirst : Tryz.prog.globalNamed "unicode/utf8.first" = some 0 := by kernel_rfl
theorem gFirstT : (Tryz.prog.globals[0]?).map (·.type) = some 154 := by kernel_rfl
theorem gAcc : Tryz.prog.globalNamed "unicode/utf8.acceptRanges" = some 1 := by kernel_rfl
theorem gAccT : (Tryz.prog.globals[1]?).map (·.type) = some 157 := by kernel_rfl
theorem cells5 : Tryz.prog.cellsOf 5 = 1 := by kernel_rfl
theorem cellsFirst : Tryz.prog.cellsOf 154 = 256 := by kernel_rfl
theorem cellsAcc : Tryz.prog.cellsOf 156 = 2 := by kernel_rfl

theorem tabs_of {W : World} (h : laidMetH Tryz.prog tabList W) : Tabs W := by
  rw [MakeChecks.laidMetH_plain _ _ _ (by kernel_rfl)] at h
  have h3 : VarReads Tryz.prog W "unicode/utf8.first" Lib.firstData := by rw [← first_is]; exact laidMet.reads h (by simp [tabList])
  have h4 : VarReads Tryz.prog W "unicode/utf8.acceptRanges" Lib.acceptData := by rw [← accept_is]; exact laidMet.reads h (by simp [tabList])
  refine ⟨fun c hc => ?_, fun i hi => ?_⟩
  · obtain ⟨g, t, cs, fuel, p, hg, hty, hvar, hd⟩ := h3
    obtain rfl := Option.some.inj (gFirst.symm.trans hg)
    obtain rfl := Option.some.inj (gFirstT.symm.trans hty)
    have hcs := cells_of_tab Tryz.underlying154 Tryz.underlying5 cells5 cellsFirst hd
    have := World.var?_cell hg hvar c
    rw [this, ← Array.getElem?_toList, hcs]
    simp [firstTab, hc]
  · obtain ⟨g, t, cs, fuel, p, hg, hty, hvar, hd⟩ := h4
    obtain rfl := Option.some.inj (gAcc.symm.trans hg)
    obtain rfl := Option.some.inj (gAccT.symm.trans hty)
    obtain ⟨fuel', d, q, hdi, he⟩ := array_elem Tryz.underlying157 hd i hi
    simp only [List.getElem?_map, List.getElem?_range hi, Option.map_some, Option.some.injEq] at hdi
    subst hdi
    rw [cellsAcc] at he
    have hcs := ints_of_struct Tryz.underlying156 (fun j f hj => by
      match j, hj with
      | 0, hj => simp at hj; subst hj; exact ⟨Tryz.underlying5, rfl, cells5⟩
      | 1, hj => simp at hj; subst hj; exact ⟨Tryz.underlying5, rfl, cells5⟩
      | j + 2, hj => simp at hj) (by rw [cellsAcc]; rfl) he
    have e0 := congrArg (·[0]?) hcs
    have e1 := congrArg (·[1]?) hcs
    simp only [List.getElem?_take, List.getElem?_drop] at e0 e1
    constructor
    · rw [World.var?_cell hg hvar (2 * i), ← Array.getElem?_toList]
      simpa [Nat.mul_comm] using e0
    · rw [World.var?_cell hg hvar (2 * i + 1), ← Array.getElem?_toList]
      simpa [Nat.mul_comm] using e1

/-- A block with other cells. -/
def recells (cs : Array Value) : Obj → Obj
  | .cells _ t fz => .cells cs t fz
  | o => o
def firstCells : Array Value := ((List.range 256).map fun c => Value.int .u8 (firstT c)).toArray
def accCells : Array Value := ((List.range 32).map fun c => Value.int .u8 (if c % 2 = 0 then accLo (c / 2) else accHi (c / 2))).toArray

/-- A world for the witness: the settled one, both tables as their initialisers lay them. -/
noncomputable def laidWorld (os : Os) : World :=
  { World.holding Tryz.prog os ⟨#[], #[], []⟩ with heap := ((World.holding Tryz.prog os ⟨#[], #[], []⟩).heap.modify 0 (recells firstCells)).modify 1 (recells accCells) }
end Go.Proofs.YtgkoknckaajgmaaGreatDoor

/- xmllex: what the row lists of the world, and a world for the witness. -/
namespace Go.Proofs.YtgkoknckaajgmaaGreatDoor
open Go.Lib Go.RowKit
set_option linter.unusedVariables false

theorem tabs_mem {W : World} {L : List (String × DataW Unit)} (h : laidMet Tryz.prog L W) (m1 : ("unicode/utf8.first", Rows.laid_unicode_utf8_first) ∈ L) (m2 : ("unicode/utf8.acceptRanges", Rows.laid_unicode_utf8_acceptRanges) ∈ L) : Tabs W := by
  have h3 : VarReads Tryz.prog W "unicode/utf8.first" Lib.firstData := by rw [← first_is]; exact laidMet.reads h m1
  have h4 : VarReads Tryz.prog W "unicode/utf8.acceptRanges" Lib.acceptData := by rw [← accept_is]; exact laidMet.reads h m2
  refine ⟨fun c hc => ?_, fun i hi => ?_⟩
  · obtain ⟨g, t, cs, fuel, p, hg, hty, hvar, hd⟩ := h3
    obtain rfl := Option.some.inj (gFirst.symm.trans hg)
    obtain rfl := Option.some.inj (gFirstT.symm.trans hty)
    have hcs := cells_of_tab Tryz.underlying154 Tryz.underlying5 cells5 cellsFirst hd
    have := World.var?_cell hg hvar c
    rw [this, ← Array.getElem?_toList, hcs]
    simp [firstTab, hc]
  · obtain ⟨g, t, cs, fuel, p, hg, hty, hvar, hd⟩ := h4
    obtain rfl := Option.some.inj (gAcc.symm.trans hg)
    obtain rfl := Option.some.inj (gAccT.symm.trans hty)
    obtain ⟨fuel', d, q, hdi, he⟩ := array_elem Tryz.underlying157 hd i hi
    simp only [List.getElem?_map, List.getElem?_range hi, Option.map_some, Option.some.injEq] at hdi
    subst hdi
    rw [cellsAcc] at he
    have hcs := ints_of_struct Tryz.underlying156 (fun j f hj => by
      match j, hj with
      | 0, hj => simp at hj; subst hj; exact ⟨Tryz.underlying5, rfl, cells5⟩
      | 1, hj => simp at hj; subst hj; exact ⟨Tryz.underlying5, rfl, cells5⟩
      | j + 2, hj => simp at hj) (by rw [cellsAcc]; rfl) he
    have e0 := congrArg (·[0]?) hcs
    have e1 := congrArg (·[1]?) hcs
    simp only [List.getElem?_take, List.getElem?_drop] at e0 e1
    constructor
    · rw [World.var?_cell hg hvar (2 * i), ← Array.getElem?_toList]
      simpa [Nat.mul_comm] using e0
    · rw [World.var?_cell hg hvar (2 * i + 1), ← Array.getElem?_toList]
      simpa [Nat.mul_comm] using e1
theorem gSyn : Tryz.prog.globalNamed "strconv.ErrSyntax" = some 3 := by kernel_rfl
theorem gSynT : (Tryz.prog.globals[3]?).map (·.type) = some 140 := by kernel_rfl
theorem gRan : Tryz.prog.globalNamed "strconv.ErrRange" = some 4 := by kernel_rfl
theorem gRanT : (Tryz.prog.globals[4]?).map (·.type) = some 140 := by kernel_rfl
theorem err_of {W : World} {n : String} {g : Nat} {name : String} {d : DataW Unit} (h : VarReads Tryz.prog W n (.iface name d)) (hn : Tryz.prog.globalNamed n = some g) (ht : (Tryz.prog.globals[g]?).map (·.type) = some 140) : ErrAt W g := by
  obtain ⟨g', t, cs, fuel, p, hg, hty, hvar, hd⟩ := h
  obtain rfl := Option.some.inj (hn.symm.trans hg)
  obtain rfl := Option.some.inj (ht.symm.trans hty)
  obtain ⟨_, u, v, hcs, _⟩ := iface_of_trod Tryz.underlying140 hd
  refine ⟨.iface u v, ?_, .inr ⟨u, v, rfl⟩⟩
  rw [World.var?_cell hg hvar 0, ← Array.getElem?_toList, hcs]
  rfl
theorem mx_of {W : World} (h : W.ShapedOpen Tryz.prog) : MX W :=
  cell_of_shapedOpen_int h (of_decide_eq_true (by kernel_rfl)) (zero := #[.int .i64 0]) (t := 3) (by kernel_rfl) rfl (by kernel_rfl) (by kernel_rfl) Tryz.underlying3
theorem bw_of {W : World} {L : List (String × DataW Unit)} (h : laidMet Tryz.prog L W) (hsh : W.ShapedOpen Tryz.prog) (m1 : ("unicode/utf8.first", Rows.laid_unicode_utf8_first) ∈ L) (m2 : ("unicode/utf8.acceptRanges", Rows.laid_unicode_utf8_acceptRanges) ∈ L) (m3 : ("strconv.ErrSyntax", Rows.laid_strconv_ErrSyntax) ∈ L) (m4 : ("strconv.ErrRange", Rows.laid_strconv_ErrRange) ∈ L) : BW W :=
  ⟨tabs_mem h m1 m2, mx_of hsh, err_of (laidMet.reads h m3) gSyn gSynT, err_of (laidMet.reads h m4) gRan gRanT⟩

def litC : DataW Unit → Array Value
  | .agg ps => (ps.map fun | .lit l => l.value | _ => undef).toArray
  | _ => #[]
def msgC : DataW Unit → Array Value
  | .iface _ (.ptr d) => litC d
  | _ => #[]
/-- A world for the witness: all seven variables as their initialisers lay them. -/
noncomputable def laidWorld7 (os : Os) : World :=
  { laidWorld os with heap := (((((((laidWorld os).heap.modify 6 (recells (litC Rows.laid_math_bits_deBruijn32tab))).modify 7 (recells (litC Rows.laid_math_bits_deBruijn64tab))).modify 5 (recells (litC Rows.laid_internal_strconv_uint64pow10))).modify 4 (recells #[.iface 213 (.pointer (some ⟨(laidWorld os).heap.size, 0, none⟩))])).modify 3 (recells #[.iface 213 (.pointer (some ⟨(laidWorld os).heap.size + 1, 0, none⟩))])).push (.cells (msgC Rows.laid_strconv_ErrRange) 215)).push (.cells (msgC Rows.laid_strconv_ErrSyntax) 215) }
end Go.Proofs.YtgkoknckaajgmaaGreatDoor

/- xmltree: the law XmltreeGets, walked. -/
namespace Go.Proofs.YtgkoknckaajgmaaGreatDoor
open Go Go.RowKit Go.Deep Go.Shelf
set_option linter.unusedVariables false
set_option linter.unusedSimpArgs false

set_option maxRecDepth 100000 in
set_option maxHeartbeats 8000000 in
theorem gets_w (v0 : Value) (d : Nat) (t : ET) (sp nm : ByteArray) (w : World) (hw : BW w) (h : ElemD Any w (d + 1) v0 t) : Calls Tryz.prog 5 #[v0, .string sp, .string nm] w fun e w' => e = .returned (.bool true) ∧ Below w.heap.size w w' := by
  have HEL := Lib.hid (fun (W : World) (hb : Below w.heap.size w W) => elementP_c W (d + 1) v0 t (h.below hb))
  have HG := Lib.hid (fun (W : World) (hb : Below w.heap.size w W) => get_c W (d + 1) v0 t nm (h.below hb))
  have HRG := Lib.hid (fun (W : World) (hb : Below w.heap.size w W) => rget_c W (d + 1) v0 t nm (h.below hb))
  have HSUB := Lib.hid (fun (hE : okE (d + 1) t) (W : World) (hb : Below w.heap.size w W) => sub_c W d v0 t sp nm (h.below hb) hE)
  have HRS := Lib.hid (fun (hE : okE (d + 1) t) (W : World) (hb : Below w.heap.size w W) => rsub_c W d v0 t sp nm (h.below hb) hE)
  have HAW := Lib.hid (fun (W : World) (hb : Below w.heap.size w W) => (awake_c W (hw.below hb)).mono (R' := fun e w' => e = Ending.returned (.bool true) ∧ Below w.heap.size w w' ∧ Below W.heap.size W w') (fun e w' hh => show e = Ending.returned (.bool true) ∧ Below w.heap.size w w' ∧ Below W.heap.size W w' from ⟨hh.1, hb.trans (hh.2.mono hb.size), hh.2⟩))
  obtain ⟨av, kv, rfl, hp1, hk1⟩ := h
  obtain ⟨pa, ca, hav, -⟩ := hp1.form
  obtain ⟨pk, ck, hkv, -⟩ := hk1.form
  subst hav hkv
  obtain ⟨N, hN⟩ : ∃ N, N = t.attrs.length := ⟨_, rfl⟩
  obtain ⟨M, hM⟩ : ∃ M, M = t.kids.length := ⟨_, rfl⟩
  obtain ⟨S1, hS1⟩ : ∃ S, S = t.space := ⟨_, rfl⟩
  obtain ⟨S2, hS2⟩ : ∃ S, S = t.name := ⟨_, rfl⟩
  obtain ⟨S3, hS3⟩ : ∃ S, S = t.text := ⟨_, rfl⟩
  rw [← hN, ← hM, ← hS1, ← hS2, ← hS3] at HEL HG HRG HSUB HRS
  rw [← hN, ← hM, ← hS1, ← hS2, ← hS3]
  have HBX := Lib.hid (box_belT w (.cells #[.string S1, .string S2, .slice pa N ca, .slice pk M ck, .string S3] 27))
  have HX := Lib.hid (heap_alloc_new w (.cells #[.string S1, .string S2, .slice pa N ca, .slice pk M ck, .string S3] 27))
  obtain ⟨x0, x1, x2, x3, x4, xz⟩ := cellsE5 HX.out
  clear hp1 hk1 hN hM hS1 hS2 hS3 hw
  go_enter Tryz.func5, Tryz.ntmps5
  go_wp2_with fail
  refine (HEL.out _ HBX.out).mono ?_
  rintro e w1 ⟨⟨q, rfl, hq⟩, hb1⟩
  have HQ := Lib.hid hq
  have HB1 := Lib.hid (HBX.out.trans (hb1.mono HBX.out.size))
  have hX1 := (hb1.block w.heap.size (by simp)).trans HX.out
  have HX1 := Lib.hid hX1
  clear x0 x1 x2 x3 x4 xz hq
  obtain ⟨x0, x1, x2, x3, x4, xz⟩ := cellsE5 hX1
  clear hb1 hX1
  cases q
  · go_wp2_with fail
    refine (HAW.out _ HB1.out).mono ?_
    rintro e w2 ⟨rfl, hb2, -⟩
    have HB2 := Lib.hid hb2
    clear hb2
    go_wp2_with fail
    go_ret
    exact ⟨rfl, HB2.out⟩
  · have HOK := Lib.hid (HQ.out rfl)
    go_wp2_with fail
    refine (HG.out _ HB1.out).mono ?_
    rintro e w2 ⟨hge, hb2⟩
    have HB2 := Lib.hid (HB1.out.trans (hb2.mono HB1.out.size))
    have hX2 := (hb2.block w.heap.size (Array.getElem?_eq_some_iff.1 HX1.out).1).trans HX1.out
    have HX2 := Lib.hid hX2
    clear x0 x1 x2 x3 x4 xz
    obtain ⟨x0, x1, x2, x3, x4, xz⟩ := cellsE5 hX2
    clear hb2 hX2
    obtain ⟨R, hR⟩ : ∃ R, R = getM nm t.attrs := ⟨_, rfl⟩
    rw [← hR] at hge HRG
    obtain ⟨g, bq, hgv, hgv2⟩ : ∃ (g : ByteArray) (bq : Bool), e = .returned (.tuple #[.string g, .bool bq]) ∧ ∀ e', GetEnd R e' → e' = .returned (.tuple #[.string g, .bool bq]) := by
      cases R with
      | none => exact ⟨_, _, hge, fun e' h => h⟩
      | some u => exact ⟨_, _, hge, fun e' h => h⟩
    subst hgv
    have HGV := Lib.hid hgv2
    clear hge hgv2 hR
    go_wp2_with fail
    refine (HRG.out _ HB2.out).mono ?_
    rintro e w3 ⟨hge, hb3⟩
    obtain rfl := HGV.out e hge
    have HB3 := Lib.hid (HB2.out.trans (hb3.mono HB2.out.size))
    have hX3 := (hb3.block w.heap.size (Array.getElem?_eq_some_iff.1 HX2.out).1).trans HX2.out
    have HX3 := Lib.hid hX3
    clear x0 x1 x2 x3 x4 xz
    clear hb3 hX3 hge
    have HKP := Lib.hid (show ∀ W : World, Below w3.heap.size w3 W → (W.cell? ⟨w.heap.size, 0, none⟩ = some (.string S1) ∧ W.cell? ⟨w.heap.size, 1, none⟩ = some (.string S2) ∧ W.cell? ⟨w.heap.size, 2, none⟩ = some (.slice pa N ca) ∧ W.cell? ⟨w.heap.size, 3, none⟩ = some (.slice pk M ck) ∧ W.cell? ⟨w.heap.size, 4, none⟩ = some (.string S3)) ∧ Below w3.heap.size w3 W from fun W hb => by
      obtain ⟨d0, d1, d2, d3, d4, _⟩ := cellsE5 ((hb.block w.heap.size (Array.getElem?_eq_some_iff.1 HX3.out).1).trans HX3.out)
      exact ⟨⟨d0, d1, d2, d3, d4⟩, hb⟩)
    have HWZ := Lib.hid (fun (W : World) (hb : Below w3.heap.size w3 W) => HB3.out.trans (hb.mono HB3.out.size))
    have HSUB3 := Lib.hid (HSUB.out HOK.out)
    have HRS3 := Lib.hid (HRS.out HOK.out)
    clear HSUB HRS HEL HG HRG HGV HX1 HX2 HQ HB1 HB2 HX HBX
    go_wp2_with fail
    go_region_held3 (fun W => (W.cell? ⟨w.heap.size, 0, none⟩ = some (.string S1) ∧ W.cell? ⟨w.heap.size, 1, none⟩ = some (.string S2) ∧ W.cell? ⟨w.heap.size, 2, none⟩ = some (.slice pa N ca) ∧ W.cell? ⟨w.heap.size, 3, none⟩ = some (.slice pk M ck) ∧ W.cell? ⟨w.heap.size, 4, none⟩ = some (.string S3)) ∧ Below w3.heap.size w3 W)
      (first
        | exact HKP.out _ (Below.refl _ _)
        | exact HKP.out _ ((Below.refl _ _).drew)
        | (refine HKP.out _ ?_; assumption)
        | (refine HKP.out _ (Below.drew ?_); assumption))
      (first
        | (go_split_ands; go_at_call 11; refine (HAW.out _ (HWZ.out _ hB3)).mono ?_; rintro e u4 ⟨rfl, _, hb4⟩; have hB4 := hB3.trans (hb4.mono hB3.size))
        | (go_split_ands; go_at_call 19; refine (equalEs_c _ d _ _ _ HK56.out HK6.out).mono ?_; rintro e u3 ⟨rfl, hb3⟩; have hB3 := hB2.trans (hb3.mono hB2.size))
        | (go_split_ands; go_at_call 21; refine (HRS3.out _ (HWZ.out _ hB1)).mono ?_; rintro e u2 ⟨v6, rfl, hk6, hb2⟩; have hB2 := hB1.trans (hb2.mono hB1.size); have HK6 := Lib.hid hk6; have HK56 := Lib.hid (HK5.out.below hb2); clear hk6)
        | (go_split_ands; go_at_call 20; refine (HSUB3.out _ (HWZ.out _ ((Below.refl _ _).drew))).mono ?_; rintro e u1 ⟨v5, rfl, hk5, hb1⟩; have hB1 : Below w3.heap.size w3 u1 := ((Below.refl _ _).drew).trans hb1; have HK5 := Lib.hid hk5; clear hk5)
        | fail "no arm")
    all_goals
      go_wp2_with fail
      go_ret
      exact ⟨rfl, HWZ.out _ (by first | assumption | exact hB4 | exact hB4.drew)⟩
end Go.Proofs.YtgkoknckaajgmaaGreatDoor

/- xmltree: an element given as an argument is read. -/
namespace Go.Proofs.YtgkoknckaajgmaaGreatDoor
open Go.RowKit Go.ChangeShapes Go.WideShapes Go.Deep
set_option linter.unusedVariables false

section
variable {H : Type} {enc : TypeId × Value → H} {P : Program} {w : World} {base : Nat} {spare : Nat → Bool} {held : Bool}
/-- A struct of five one-cell fields, by value. -/
theorem agg5_open {r : Reach} {b0 : Nat} {t : TypeId} {f0 f1 f2 f3 f4 : Field} {v : Value} {d : DataW H} {p : List MemPlace} (hs : P.underlying t = some (.struct #[f0, f1, f2, f3, f4])) (hone : oneCellFields P #[f0, f1, f2, f3, f4] = true) (hC : P.cellsOf t = 5)
    (hv : Value.okWide P w r b0 t v) (h : DataW.Trod enc P w base spare held t v d p) :
    ∃ (v0 v1 v2 v3 v4 : Value) (y0 y1 y2 y3 y4 : DataW H × List MemPlace) (n : Nat), v = .agg #[v0, v1, v2, v3, v4] ∧ d = .agg [y0.1, y1.1, y2.1, y3.1, y4.1] ∧
      DataW.trod enc P w base spare held n f0.type [v0] = some y0 ∧ DataW.trod enc P w base spare held n f1.type [v1] = some y1 ∧ DataW.trod enc P w base spare held n f2.type [v2] = some y2 ∧ DataW.trod enc P w base spare held n f3.type [v3] = some y3 ∧ DataW.trod enc P w base spare held n f4.type [v4] = some y4 := by
  obtain ⟨cs, rfl, hsz⟩ := okWide_struct hs hv
  obtain ⟨l⟩ := cs
  match l, hsz.trans hC with
  | [c0, c1, c2, c3, c4], _ =>
    obtain ⟨fuel, hf⟩ := h
    obtain ⟨xs, n, _, hx, _, hlen, hg⟩ := DataW.trod_struct hs hf
    obtain ⟨o0, k0⟩ := hone_of hone 0 f0 rfl
    obtain ⟨o1, k1⟩ := hone_of hone 1 f1 rfl
    obtain ⟨o2, k2⟩ := hone_of hone 2 f2 rfl
    obtain ⟨o3, k3⟩ := hone_of hone 3 f3 rfl
    obtain ⟨o4, k4⟩ := hone_of hone 4 f4 rfl
    match xs, hlen with
    | [y0, y1, y2, y3, y4], _ =>
      simp only [Prod.mk.injEq] at hx
      exact ⟨c0, c1, c2, c3, c4, y0, y1, y2, y3, y4, n, rfl, by simpa using hx.1, by simpa [Value.cells, o0, k0] using hg 0 f0 rfl, by simpa [Value.cells, o1, k1] using hg 1 f1 rfl, by simpa [Value.cells, o2, k2] using hg 2 f2 rfl, by simpa [Value.cells, o3, k3] using hg 3 f3 rfl, by simpa [Value.cells, o4, k4] using hg 4 f4 rfl⟩
end
section
variable {H : Type} {enc : TypeId × Value → H} {w : World} {base : Nat}
set_option maxRecDepth 100000 in
theorem elem_open {held : Bool} {r : Reach} {b0 : Nat} {v : Value} {d : DataW H} {p : List MemPlace} (hv : Value.okWide Tryz.prog w r b0 27 v) (h : DataW.Trod enc Tryz.prog w base (fun _ => true) held 27 v d p) :
    ∃ D t, ElemD Any w (D + 1) v t := by
  obtain ⟨v0, v1, v2, v3, v4, y0, y1, y2, y3, y4, n, rfl, rfl, t0, t1, t2, t3, t4⟩ := agg5_open Tryz.underlying27 (by kernel_rfl) (by kernel_rfl) hv h
  obtain ⟨s0, e0, _, w0⟩ := DataW.trod_string Tryz.underlying9 t0
  obtain ⟨s1, e1, _, w1⟩ := DataW.trod_string Tryz.underlying9 t1
  obtain ⟨s4, e4, _, w4⟩ := DataW.trod_string Tryz.underlying9 t4
  simp only [List.cons.injEq, and_true] at e0 e1 e4
  subst e0 e1 e4
  obtain ⟨attrs, hp⟩ := pairs_open t2
  obtain ⟨kids, hk⟩ := kids_open _ t3
  exact ⟨_, .mk s0 s1 attrs kids s4, _, _, rfl, hp, hk⟩
end
end Go.Proofs.YtgkoknckaajgmaaGreatDoor

/- Proved: for every element e and all strings space and name, the law XmltreeGets returns true: where e's lists are not longer than 110, the program's Get and Sub give what the reference's give. Conditions: the listed package variables hold what Go's text lays (the card ties them); its type tells how deep and how long the argument may be. -/
namespace Go.Proofs.YtgkoknckaajgmaaGreatDoor.xmltreeGets
open Go.ChangeShapes Go.WideShapes Go.ChangeAt Go.RowKit
open Go.ChangeMaps (open_string shut_string)
set_option linter.unusedVariables false

theorem tabs_of {W : World} (h : laidMetH Tryz.prog Rows.xmltreeGetsRow.laid W) (hsh : W.ShapedOpen Tryz.prog) : BW W := by
  rw [MakeChecks.laidMetH_plain _ _ _ (by kernel_rfl)] at h
  exact bw_of h hsh (by simp [Rows.xmltreeGetsRow]) (by simp [Rows.xmltreeGetsRow]) (by simp [Rows.xmltreeGetsRow]) (by simp [Rows.xmltreeGetsRow])
noncomputable def laidWorld (os : Os) : World := laidWorld7 os
theorem walk (v0 : Value) (d0 : Nat) (t0 : ET) (a1 a2 : ByteArray) (w : World) (hw : BW w) (o0 : ElemD Any w (d0 + 1) v0 t0) (s1 : a1.size ≤ 140737488351232) (s2 : a2.size ≤ 140737488351232) : Calls Tryz.prog 5 #[v0, .string a1, .string a2] w fun e w' => e = .returned (.bool true) ∧ Below w.heap.size w w' :=
  gets_w v0 d0 t0 a1 a2 w hw o0

-- FRAME
theorem own : ownKnob Tryz.prog.godebug = none := by kernel_rfl
theorem laidOut : laidOutB Tryz.prog = true := by kernel_rfl

theorem laid_met (os : Os) : laidMet Tryz.prog Rows.xmltreeGetsRow.laid ((laidWorld os).forCall (fun _ _ => 0) ⟨#[], #[.agg #[.string ByteArray.empty, .string ByteArray.empty, .slice none 0 0, .slice none 0 0, .string ByteArray.empty], .string ByteArray.empty, .string ByteArray.empty], []⟩).memory :=
  laidMet_of_run' 8 (by kernel_rfl) (by kernel_rfl)
theorem reads (os : Os) {H : Type} (enc : TypeId × Value → H) : ∃ places, DataW.whole enc Tryz.prog ((laidWorld os).forCall (fun _ _ => 0) ⟨#[], #[.agg #[.string ByteArray.empty, .string ByteArray.empty, .slice none 0 0, .slice none 0 0, .string ByteArray.empty], .string ByteArray.empty, .string ByteArray.empty], []⟩).memory Tryz.f5.params.toList Rows.xmltreeGetsSpec.vars false (#[.agg #[.string ByteArray.empty, .string ByteArray.empty, .slice none 0 0, .slice none 0 0, .string ByteArray.empty], .string ByteArray.empty, .string ByteArray.empty] : Array Value).toList 8 = some ([.agg [.lit (.string []), .lit (.string []), .nil, .nil, .lit (.string [])], .lit (.string []), .lit (.string [])], [], places) :=
  ⟨[], by kernel_rfl⟩

set_option maxRecDepth 100000 in
theorem lifted (os : Os) (started : os.Started) (H : Type) (enc : TypeId × Value → H) (F : Stop.Interp) :
    ReturnsInHanded {} Tryz.checked os 5 .any ((OpenSpec.ofChange Rows.xmltreeGetsSpec).preRow enc Tryz.prog Tryz.f5 Rows.xmltreeGetsRow.domain false Rows.xmltreeGetsRow.laid) (((OpenSpec.ofChange Rows.xmltreeGetsSpec).at F).post enc Tryz.prog Tryz.f5 false true false false) := by
  obtain ⟨places, hx⟩ := reads os enc
  refine returnsInHanded_of_row (C := Tryz.checked) (s := OpenSpec.ofChange Rows.xmltreeGetsSpec) own started (by kernel_rfl) Tryz.func5
    (witness_row_at (enc := enc) (C := Tryz.checked) false (laidWorld os) #[.agg #[.string ByteArray.empty, .string ByteArray.empty, .slice none 0 0, .slice none 0 0, .string ByteArray.empty], .string ByteArray.empty, .string ByteArray.empty] rfl (by kernel_rfl) (by kernel_rfl) (by kernel_rfl)
      (OpenSpec.preRow_of_cond 8 hx (by kernel_rfl) (fun k hk => by cases hk) (by kernel_rfl) (laid_met os))) ?_
  intro W base args ds gs before hval0 hW hcnd hcond hsz0 hL hsh _
  have hT := tabs_of hL hsh
  have hsz : (DataW.weightsEach Tryz.prog (Tryz.f5.params.toList ++ Rows.xmltreeGetsSpec.plain.varTypes Tryz.prog) (ds ++ gs)).all (· ≤ reachBytes) = true := hsz0
  have hval : ∀ (j : Nat) t v, Tryz.f5.params[j]? = some t → args[j]? = some v → Value.okWide Tryz.prog W .any base t v := hval0
  have hW' := hW
  obtain ⟨p, q, hA0, hV, rfl, hfz, hnd⟩ := hW
  have hA : DataW.TrodAll enc Tryz.prog W 0 (fun _ => true) true Tryz.f5.params.toList args.toList ds p := hA0
  rw [Tryz.params5] at hA hval hsz
  obtain ⟨v0, vs0, d0, ds0, p0, q0, hargs, rfl, rfl, h0, r0⟩ := trodAll_cons hA
  obtain ⟨v1, vs1, d1, ds1, p1, q1, rfl, rfl, rfl, h1, r1⟩ := trodAll_cons r0
  obtain ⟨v2, vs2, d2, ds2, p2, q2, rfl, rfl, rfl, h2, r2⟩ := trodAll_cons r1
  obtain ⟨rfl, rfl, rfl⟩ := trodAll_nil r2
  obtain rfl : args = #[v0, v1, v2] := by cases args; simp_all
  obtain ⟨rfl, rfl⟩ := trodVars_none hV
  have k0 := h0
  have lt0 : ∀ x ∈ p0, x.block < W.heap.size := by obtain ⟨m, hm⟩ := k0; exact DataW.trod_lt m _ _ _ hm
  obtain ⟨d0', t0, o0⟩ := elem_open (hval 0 27 v0 rfl rfl) h0
  obtain ⟨a1, rfl, rfl, rfl, w1⟩ := open_string Tryz.underlying9 (hval 1 9 v1 rfl rfl) h1
  have s1 : a1.size ≤ 140737488351232 := by have := sized_string hsz (j := 1) (t := 9) rfl rfl; simpa [reachBytes] using this
  obtain ⟨a2, rfl, rfl, rfl, w2⟩ := open_string Tryz.underlying9 (hval 2 9 v2 rfl rfl) h2
  have s2 : a2.size ≤ 140737488351232 := by have := sized_string hsz (j := 2) (t := 9) rfl rfl; simpa [reachBytes] using this
  clear hA0 hval0
  refine (walk _ _ _ a1 a2 W hT o0 s1 s2).mono fun e W' ⟨he, bel⟩ => ?_
  subst he
  exact ⟨_, rfl, _, _, _, [], _, [], hW', trodAll_mk1 (shut_bool Tryz.underlying4 _), (trodAll_cons_mk (Below.trod laidOut (by kernel_rfl) (of_decide_eq_true (by kernel_rfl)) k0 bel lt0) (trodAll_cons_mk (shut_string Tryz.underlying9 w1) (trodAll_cons_mk (shut_string Tryz.underlying9 w2) trodAll_mk0))), rfl, bel.frame _, fun h => by cases h⟩

theorem said : Rows.XmltreeGetsSaid :=
  OpenClaim.holds_of_cond 5 Tryz.f5 rfl rfl rfl rfl rfl rfl rfl ⟨rfl, rfl, rfl, rfl, rfl⟩ rfl rfl rfl rfl rfl (by kernel_rfl) Tryz.func5 (by kernel_rfl)
    (of_decide_eq_true (by kernel_rfl)) (by unfold Func.isWrapper; first | (rw [if_pos (by decide +kernel)]; kernel_rfl) | (rw [if_neg (by decide +kernel)]; exact ⟨rfl, rfl⟩))
    (fun os started H enc _ F => by rw [OpenClaim.pre_eq_preRow]; exact lifted os started H enc F)

theorem plain (f : FuncId) (fn : Func) (hf : Tryz.pinned.checked.prog.funcNamed "dossier/dossierlaw06.XmltreeGets" = some f) (hfn : Tryz.pinned.checked.prog.funcs[f]? = some fn) :
    true = Tryz.pinned.checked.prog.looks [] ∧ ∀ (j : Nat) t, fn.params[j]? = some t → Tryz.pinned.checked.prog.wantsStandIn t = false := by
  obtain rfl : f = 5 := Option.some.inj ((show Tryz.prog.funcNamed "dossier/dossierlaw06.XmltreeGets" = some 5 by kernel_rfl).symm.trans hf) |>.symm
  obtain rfl : fn = Tryz.f5 := (Option.some.inj (Tryz.func5.symm.trans hfn)).symm
  refine ⟨by kernel_rfl, fun j t ht => ?_⟩
  rw [Tryz.params5] at ht
  have hm := Array.mem_of_getElem? ht
  simp only [Array.mem_def, List.mem_cons, List.not_mem_nil, or_false] at hm
  rcases hm with rfl | rfl | rfl
  · exact (show Tryz.prog.wantsStandIn 27 = false by kernel_rfl)
  · exact (show Tryz.prog.wantsStandIn 9 = false by kernel_rfl)
  · exact (show Tryz.prog.wantsStandIn 9 = false by kernel_rfl)

/-- The statement: the card. -/
theorem proved : Rows.XmltreeGetsCardSaid :=
  Claim7.holds_tied_plain_at .later [] _ _ _ _ said (fun _ h => by cases h) (by kernel_rfl) (fun _ h => by cases h) xmltreeGets_row_tie rfl ⟨rfl, rfl⟩ (by kernel_rfl) rfl plain (by kernel_rfl)
end Go.Proofs.YtgkoknckaajgmaaGreatDoor.xmltreeGets
