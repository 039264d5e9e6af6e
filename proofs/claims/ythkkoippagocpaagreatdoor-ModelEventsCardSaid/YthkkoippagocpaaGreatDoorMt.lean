/- A model at constants: the items are collected. -/
import Derived.Test.YthkkoippagocpaaGreatDoorMq
import Derived.Test.YthkkoippagocpaaGreatDoorRow
namespace Go.Proofs.YthkkoippagocpaaGreatDoor
open Go Go.RowKit Go.Shelf
set_option linter.unusedVariables false
set_option linter.unusedSimpArgs false

/-- A checker's cells. -/
def chkM (id pid : ByteArray) (vI vD : Value) : Array Value := #[.string id, .string ⟨#[]⟩, .slice none 0 0, .slice none 0 0, .string pid, .string ⟨#[]⟩, .int .i64 0, .slice none 0 0, .slice none 0 0, .string ⟨#[]⟩, .string ⟨#[]⟩, .string ⟨#[]⟩, .bool false, .bool false, .int .i64 0, .slice none 0 0, .slice none 0 0, .slice none 0 0, vI, vD]
theorem infoMItem : (Tryz.prog.info? 36).map (fun i => (i.zero, i.size, i.bytes)) = some (some (.agg #[.string ⟨#[]⟩, .string ⟨#[]⟩, .int .i64 0, .slice none 0 0, .slice none 0 0, .string ⟨#[]⟩, .string ⟨#[]⟩, .string ⟨#[]⟩, .bool false, .bool false, .int .i64 0, .slice none 0 0, .slice none 0 0, .slice none 0 0]), 14, 224) := by kernel_rfl
theorem infoMText : (Tryz.prog.info? 9).map (fun i => (i.zero, i.size, i.bytes)) = some (some (.string ⟨#[]⟩), 1, 16) := by kernel_rfl
theorem cells1m {w : World} {b : Nat} {c0 : Value} {T : TypeId} (h : w.heap[b]? = some (.cells #[c0] T (0, 0))) : w.cell? ⟨b, 0, none⟩ = some c0 ∧ (∀ o, w.frozen? ⟨b, o, none⟩ = false) := by
  refine ⟨?_, fun o => ?_⟩ <;> simp [World.cell?, World.frozen?, h]
theorem chk_cells {w : World} {K : Nat} {id pid : ByteArray} {vI vD : Value} (h : w.heap[K]? = some (.cells (chkM id pid vI vD) 43 (0, 0))) : w.cell? ⟨K, 18, none⟩ = some vI ∧ w.cell? ⟨K, 19, none⟩ = some vD ∧ (∀ o, w.frozen? ⟨K, o, none⟩ = false) := by
  refine ⟨?_, ?_, fun o => ?_⟩ <;> simp [World.cell?, World.frozen?, h, chkM]

theorem srcM_item {W : World} {g : Nat} {c0 c1 c2 c3 c4 c5 c6 c7 c8 c9 c10 c11 c12 c13 : Value} (h : W.heap[g]? = some (.cells #[c0, c1, c2, c3, c4, c5, c6, c7, c8, c9, c10, c11, c12, c13] 36 (0, 0))) (h1 : ∀ u ∈ [c0, c1, c2, c3, c4, c5, c6, c7, c8, c9, c10, c11, c12, c13], u.oneCell' = true := by simp [Value.oneCell']) : Src Tryz.prog 14 34 (.slice (some ⟨g, 0, none⟩) 1 1) 1 [c0, c1, c2, c3, c4, c5, c6, c7, c8, c9, c10, c11, c12, c13] W := by
  refine Src.ofSlice W Tryz.underlying34 ⟨g, 0, none⟩ 1 1 _ rfl (fun j u hu => ?_) h1
  rw [Addr.add_lit, cell_of_row W g (0 + j) _ _ _ h, Nat.zero_add, ← hu]
  simp
theorem srcM_text {W : World} {g : Nat} {c0 : Value} (h : W.heap[g]? = some (.cells #[c0] 9 (0, 0))) (h1 : ∀ u ∈ [c0], u.oneCell' = true := by simp [Value.oneCell']) : Src Tryz.prog 1 30 (.slice (some ⟨g, 0, none⟩) 1 1) 1 [c0] W := by
  refine Src.ofSlice W Tryz.underlying30 ⟨g, 0, none⟩ 1 1 _ rfl (fun j u hu => ?_) h1
  rw [Addr.add_lit, cell_of_row W g (0 + j) _ _ _ h, Nat.zero_add, ← hu]
  simp

theorem cells14m {w : World} {b : Nat} {c0 c1 c2 c3 c4 c5 c6 c7 c8 c9 c10 c11 c12 c13 : Value} {T : TypeId} (h : w.heap[b]? = some (.cells #[c0, c1, c2, c3, c4, c5, c6, c7, c8, c9, c10, c11, c12, c13] T (0, 0))) :
    w.cell? ⟨b, 0, none⟩ = some c0 ∧ w.cell? ⟨b, 1, none⟩ = some c1 ∧ w.cell? ⟨b, 2, none⟩ = some c2 ∧ w.cell? ⟨b, 3, none⟩ = some c3 ∧ w.cell? ⟨b, 4, none⟩ = some c4 ∧ w.cell? ⟨b, 5, none⟩ = some c5 ∧ w.cell? ⟨b, 6, none⟩ = some c6 ∧ w.cell? ⟨b, 7, none⟩ = some c7 ∧ w.cell? ⟨b, 8, none⟩ = some c8 ∧ w.cell? ⟨b, 9, none⟩ = some c9 ∧ w.cell? ⟨b, 10, none⟩ = some c10 ∧ w.cell? ⟨b, 11, none⟩ = some c11 ∧ w.cell? ⟨b, 12, none⟩ = some c12 ∧ w.cell? ⟨b, 13, none⟩ = some c13 ∧ (∀ o, w.frozen? ⟨b, o, none⟩ = false) := by
  refine ⟨?_, ?_, ?_, ?_, ?_, ?_, ?_, ?_, ?_, ?_, ?_, ?_, ?_, ?_, fun o => ?_⟩ <;> simp [World.cell?, World.frozen?, h]
/-- An item stored into a row. -/
abbrev putM (w : World) (b off : Nat) (c0 c1 c2 c3 c4 c5 c6 c7 c8 c9 c10 c11 c12 c13 : Value) : World := ((((((((((((((w.setCell ⟨b, off, none⟩ c0).setCell ⟨b, off + 1, none⟩ c1).setCell ⟨b, off + 2, none⟩ c2).setCell ⟨b, off + 3, none⟩ c3).setCell ⟨b, off + 4, none⟩ c4).setCell ⟨b, off + 5, none⟩ c5).setCell ⟨b, off + 6, none⟩ c6).setCell ⟨b, off + 7, none⟩ c7).setCell ⟨b, off + 8, none⟩ c8).setCell ⟨b, off + 9, none⟩ c9).setCell ⟨b, off + 10, none⟩ c10).setCell ⟨b, off + 11, none⟩ c11).setCell ⟨b, off + 12, none⟩ c12).setCell ⟨b, off + 13, none⟩ c13)
theorem putM_own {w : World} {b off : Nat} {E : TypeId} {c : Nat} {xs : List Value} (h : Own1 w b off E 1 14 c xs) (c0 c1 c2 c3 c4 c5 c6 c7 c8 c9 c10 c11 c12 c13 : Value) : Own1 (putM w b off c0 c1 c2 c3 c4 c5 c6 c7 c8 c9 c10 c11 c12 c13) b off E 1 14 c [c0, c1, c2, c3, c4, c5, c6, c7, c8, c9, c10, c11, c12, c13] := by
  have hl : xs.length = 14 := by obtain ⟨_, _, hl, _⟩ := h; omega
  have := ((((((((((((((h.set0 (by omega) c0).set 1 (by simp [hl]) c1).set 2 (by simp [hl]) c2).set 3 (by simp [hl]) c3).set 4 (by simp [hl]) c4).set 5 (by simp [hl]) c5).set 6 (by simp [hl]) c6).set 7 (by simp [hl]) c7).set 8 (by simp [hl]) c8).set 9 (by simp [hl]) c9).set 10 (by simp [hl]) c10).set 11 (by simp [hl]) c11).set 12 (by simp [hl]) c12).set 13 (by simp [hl]) c13)
  match xs, hl with
  | [x0, x1, x2, x3, x4, x5, x6, x7, x8, x9, x10, x11, x12, x13], _ => exact this
theorem putM_below {w0 w : World} {B b off : Nat} (h : Below B w0 w) (hb : B ≤ b) (c0 c1 c2 c3 c4 c5 c6 c7 c8 c9 c10 c11 c12 c13 : Value) : Below B w0 (putM w b off c0 c1 c2 c3 c4 c5 c6 c7 c8 c9 c10 c11 c12 c13) := ((((((((((((((h.setCell (p := ⟨b, _, none⟩) hb c0).setCell (p := ⟨b, _, none⟩) hb c1).setCell (p := ⟨b, _, none⟩) hb c2).setCell (p := ⟨b, _, none⟩) hb c3).setCell (p := ⟨b, _, none⟩) hb c4).setCell (p := ⟨b, _, none⟩) hb c5).setCell (p := ⟨b, _, none⟩) hb c6).setCell (p := ⟨b, _, none⟩) hb c7).setCell (p := ⟨b, _, none⟩) hb c8).setCell (p := ⟨b, _, none⟩) hb c9).setCell (p := ⟨b, _, none⟩) hb c10).setCell (p := ⟨b, _, none⟩) hb c11).setCell (p := ⟨b, _, none⟩) hb c12).setCell (p := ⟨b, _, none⟩) hb c13)
theorem putM_far (w : World) {b off g : Nat} (h : g ≠ b) (c0 c1 c2 c3 c4 c5 c6 c7 c8 c9 c10 c11 c12 c13 : Value) : (putM w b off c0 c1 c2 c3 c4 c5 c6 c7 c8 c9 c10 c11 c12 c13).heap[g]? = w.heap[g]? := by
  unfold putM
  simp [World.setCell, Array.getElem?_modify, Ne.symm h]
theorem putM_size (w : World) (b off : Nat) (c0 c1 c2 c3 c4 c5 c6 c7 c8 c9 c10 c11 c12 c13 : Value) : (putM w b off c0 c1 c2 c3 c4 c5 c6 c7 c8 c9 c10 c11 c12 c13).heap.size = w.heap.size := by
  unfold putM
  simp [World.setCell]

/-- What the visit of the plan leaves. -/
def Coll1B (w : World) (K B1 B2 : Nat) (id pid : ByteArray) (w' : World) : Prop :=
  ∃ g off c g2 off2 c2, w'.heap[K]? = some (.cells (chkM id pid (.slice (some ⟨g, off, none⟩) 1 c) (.slice (some ⟨g2, off2, none⟩) 1 c2)) 43 (0, 0)) ∧ Row w.heap.size w' (.slice (some ⟨g, off, none⟩) 1 c) 1 14 (itemM pid).toList ∧ Row w.heap.size w' (.slice (some ⟨g2, off2, none⟩) 1 c2) 1 1 [.string pid] ∧
    w'.heap[B2]? = some (.cells #[.bool true] 4 (0, 0)) ∧ (∀ k, k < w.heap.size → k ≠ K → k ≠ B2 → w'.heap[k]? = w.heap[k]?) ∧ (∀ B v0, Below B v0 w → B ≤ K → Below B v0 w')

/-- The items' row is there: with these cells. -/
def AfterI (w w0 : World) (K B1 B2 : Nat) (id pid : ByteArray) (cs : List Value) (g off c : Nat) (wx : World) : Prop :=
  wx.heap[K]? = some (.cells (chkM id pid (.slice (some ⟨g, off, none⟩) 1 c) (.slice none 0 0)) 43 (0, 0)) ∧ Own1 wx g off 36 1 14 c cs ∧ w.heap.size + 1 ≤ g ∧ g < wx.heap.size ∧ w.heap.size + 1 ≤ wx.heap.size ∧
    (∀ k, k < w.heap.size + 1 → k ≠ K → wx.heap[k]? = w0.heap[k]?) ∧ (∀ B v0, Below B v0 w → B ≤ K → Below B v0 wx)
theorem afterI_of {w w0 W3 w' : World} {K B1 B2 g off c : Nat} {id pid : ByteArray} {o : Obj} {cs : List Value} (hK : K < w.heap.size) (hs3 : W3.heap.size = w.heap.size + 2) (hk3 : W3.heap[K]? = some (.cells (chkM id pid (.slice none 0 0) (.slice none 0 0)) 43 (0, 0)))
    (hx3 : ∀ k, k < w.heap.size + 1 → W3.heap[k]? = w0.heap[k]?) (hb3 : ∀ B v0, Below B v0 w → B ≤ K → Below B v0 W3) (hgrow : (W3.alloc o).drew.grownBy w' none) (hg : w.heap.size + 1 ≤ g) (hgl : g < w'.heap.size) (ow : Own1 w' g off 36 1 14 c cs) :
    AfterI w w0 K B1 B2 id pid cs g off c (w'.setCell ⟨K, 18, none⟩ (.slice (some ⟨g, off, none⟩) 1 c)) := by
  have hs : W3.heap.size + 1 ≤ w'.heap.size := by have := hgrow.size; simpa using this
  have hgb : ∀ k, k < W3.heap.size → w'.heap[k]? = W3.heap[k]? := fun k hk => (hgrow.block k (by simp; omega) (by simp)).trans (Below.heap_alloc W3 _ k hk)
  have hq := (hgb K (by omega)).trans hk3
  refine ⟨by simp [World.setCell, Array.getElem?_modify, hq, chkM], ow.keep (setX_far w' (by omega) _), hg, by simpa [World.setCell] using hgl, by rw [World.size_setCell]; omega, fun k hk kK => ?_, fun B v0 hb hB => ?_⟩
  · rw [setX_far w' kK, hgb k (by omega), hx3 k hk]
  · exact ((((hb3 B v0 hb hB).alloc (by have := hb.size; omega) _).drew).grown hgrow (by simp; omega) (fun k ek => by cases ek)).setCell (p := ⟨K, 18, none⟩) hB _
theorem AfterI.put {w w0 : World} {K B1 B2 g off c : Nat} {id pid : ByteArray} {cs : List Value} {wx : World} (h : AfterI w w0 K B1 B2 id pid cs g off c wx) (hK : K < w.heap.size) : AfterI w w0 K B1 B2 id pid [.string pid, .string ⟨#[]⟩, .int .i64 0, .slice none 0 0, .slice none 0 0, .string ⟨#[]⟩, .string ⟨#[]⟩, .string ⟨#[]⟩, .bool false, .bool false, .int .i64 0, .slice none 0 0, .slice none 0 0, .slice none 0 0] g off c (putM wx g off (.string pid) (.string ⟨#[]⟩) (.int .i64 0) (.slice none 0 0) (.slice none 0 0) (.string ⟨#[]⟩) (.string ⟨#[]⟩) (.string ⟨#[]⟩) (.bool false) (.bool false) (.int .i64 0) (.slice none 0 0) (.slice none 0 0) (.slice none 0 0)) := by
  obtain ⟨h1, h2, h3, h4, h5, h6, h7⟩ := h
  refine ⟨(putM_far _ (by omega) _ _ _ _ _ _ _ _ _ _ _ _ _ _).trans h1, putM_own h2 _ _ _ _ _ _ _ _ _ _ _ _ _ _, h3, by rw [putM_size]; exact h4, by rw [putM_size]; exact h5, fun k hk kK => (putM_far _ (by omega) _ _ _ _ _ _ _ _ _ _ _ _ _ _).trans (h6 k hk kK), fun B v0 hb hB => putM_below (h7 B v0 hb hB) (by omega) _ _ _ _ _ _ _ _ _ _ _ _ _ _⟩

set_option maxRecDepth 100000 in
set_option maxHeartbeats 4000000 in
theorem coll1_x (w : World) (K B1 B2 : Nat) (id pid : ByteArray) (v0 : Value) (h1 : K < B1) (h2 : B1 < B2) (h3 : B2 < w.heap.size) (hk : w.heap[K]? = some (.cells (chkM id pid (.slice none 0 0) (.slice none 0 0)) 43 (0, 0)))
    (hb1 : w.heap[B1]? = some (.cells #[.pointer (some ⟨K, 0, none⟩)] 50 (0, 0))) (hb2 : w.heap[B2]? = some (.cells #[v0] 4 (0, 0))) :
    Calls Tryz.prog 30 #[.agg (itemM pid), .slice none 0 0, .pointer (some ⟨B1, 0, none⟩), .pointer (some ⟨B2, 0, none⟩)] w fun e w' => e = .returned (.bool true) ∧ Coll1B w K B1 B2 id pid w' := by
  obtain ⟨i0, hi, hz0, hz1, hz2⟩ := info_parts infoMItem
  obtain ⟨i1, hi1, hz10, hz11, hz12⟩ := info_parts infoMText
  obtain ⟨k18, k19, kz⟩ := chk_cells hk
  obtain ⟨b0, bz⟩ := cells1m hb1
  obtain ⟨f0, fz⟩ := cells1m hb2
  have hK : K < w.heap.size := by omega
  have hB1 : B1 < w.heap.size := by omega
  obtain ⟨w0, hw0⟩ : ∃ y, y = (w.setCell ⟨B2, 0, none⟩ (.bool true)).alloc (.cells (itemM pid) 36) := ⟨_, rfl⟩
  have HBW := Lib.hid (fun B v0 (hb : Below B v0 w) (hB : B ≤ B2) => (show Below B v0 w0 from by rw [hw0]; exact (hb.setCell (p := ⟨B2, 0, none⟩) hB _).alloc (by simp [World.setCell]; omega) _))
  have hsw : w0.heap.size = w.heap.size + 1 := by rw [hw0]; simp [World.setCell]
  have hfar : ∀ k, k < w.heap.size → k ≠ B2 → w0.heap[k]? = w.heap[k]? := fun k hk kb => by rw [hw0, Below.heap_alloc _ _ _ (by simp [World.setCell]; omega)]; exact setX_far w kb _
  have HK0 := Lib.hid ((hfar K (by omega) (by omega)).trans hk)
  have HB10 := Lib.hid ((hfar B1 (by omega) (by omega)).trans hb1)
  have HB20 := Lib.hid (show w0.heap[B2]? = some (.cells #[.bool true] 4 (0, 0)) from by rw [hw0, Below.heap_alloc _ _ _ (by simp [World.setCell]; omega)]; simp [World.setCell, Array.getElem?_modify, hb2])
  have HI0 := Lib.hid (show w0.heap[w.heap.size]? = some (.cells #[.string pid, .string ⟨#[]⟩, .int .i64 0, .slice none 0 0, .slice none 0 0, .string ⟨#[]⟩, .string ⟨#[]⟩, .string ⟨#[]⟩, .bool false, .bool false, .int .i64 0, .slice none 0 0, .slice none 0 0, .slice none 0 0] 36 (0, 0)) from by have h := heap_alloc_new (w.setCell ⟨B2, 0, none⟩ (.bool true)) (.cells (itemM pid) 36); rw [World.size_setCell] at h; rw [hw0]; exact h)
  have HF0 := Lib.hid hfar
  have HSW := Lib.hid hsw
  unfold itemM at hw0
  have HW0 := Lib.hid hw0
  clear hw0 hsw hfar hk hb1 hb2
  unfold itemM
  go_enter Tryz.func30, Tryz.ntmps30
  go_wp2_with fail
  rw [← HW0.out]
  clear k18 k19 kz b0 bz f0 fz
  go_region
  · skip
    obtain ⟨W3, hW3⟩ : ∃ y, y = (w0.alloc (.cells #[.bool false] 4)).drew := ⟨_, rfl⟩
    have hb3 : Below w0.heap.size w0 W3 := by rw [hW3]; exact ((Below.refl _ _).alloc (Nat.le_refl _) _).drew
    have hs3 : W3.heap.size = w.heap.size + 2 := by rw [hW3]; have := HSW.out; simp; omega
    have hx3 : ∀ k, k < w.heap.size + 1 → W3.heap[k]? = w0.heap[k]? := fun k hk => hb3.block k (by have := HSW.out; omega)
    go_wp2_with fail
    rw [← hW3]
    have HS3 := Lib.hid hs3
    have HK3 := Lib.hid ((hx3 K (by omega)).trans HK0.out)
    have HB13 := Lib.hid ((hx3 B1 (by omega)).trans HB10.out)
    have HI3 := Lib.hid ((hx3 w.heap.size (by omega)).trans HI0.out)
    have HX3 := Lib.hid hx3
    have HBB3 := Lib.hid (show ∀ B v0, Below B v0 w → B ≤ K → Below B v0 W3 from fun B v0 hb hB => (HBW.out B v0 hb (by omega)).trans (hb3.mono (by have := HSW.out; have := hb.size; omega)))
    clear hW3 hb3 hs3 hx3
    obtain ⟨k18, k19, kz⟩ := chk_cells HK3.out
    obtain ⟨b0, bz⟩ := cells1m HB13.out
    obtain ⟨p0, p1, p2, p3, p4, p5, p6, p7, p8, p9, p10, p11, p12, p13, pz⟩ := cells14m HI3.out
    have l0 : K < W3.heap.size := by have := HS3.out; omega
    have l1 : B1 < W3.heap.size := by have := HS3.out; omega
    have l2 : w.heap.size < W3.heap.size := by have := HS3.out; omega
    go_cut [] (fun wx => ∃ W g off c, W = wx ∧ AfterI w w0 K B1 B2 id pid [.string pid, .string ⟨#[]⟩, .int .i64 0, .slice none 0 0, .slice none 0 0, .string ⟨#[]⟩, .string ⟨#[]⟩, .string ⟨#[]⟩, .bool false, .bool false, .int .i64 0, .slice none 0 0, .slice none 0 0, .slice none 0 0] g off c W)
    case first =>
      go_region_law (first
        | (refine step_append_nil (by rfl) (Operand.tmp 35) (Operand.tmp 37) 34 34 (by rfl) (w.heap.size + 1) 36 i0 (.agg #[.string ⟨#[]⟩, .string ⟨#[]⟩, .int .i64 0, .slice none 0 0, .slice none 0 0, .string ⟨#[]⟩, .string ⟨#[]⟩, .string ⟨#[]⟩, .bool false, .bool false, .int .i64 0, .slice none 0 0, .slice none 0 0, .slice none 0 0]) 14 224 Tryz.underlying34 hi hz0 hz1 hz2 rfl (by decide) (by rfl) (.slice (some ⟨W3.heap.size, 0, none⟩) 1 1) 1 [.string pid, .string ⟨#[]⟩, .int .i64 0, .slice none 0 0, .slice none 0 0, .string ⟨#[]⟩, .string ⟨#[]⟩, .string ⟨#[]⟩, .bool false, .bool false, .int .i64 0, .slice none 0 0, .slice none 0 0, .slice none 0 0] (by rfl) (srcM_item (heap_alloc_new W3 _)) (by unfold maxLen; omega) (by omega) (by have := HS3.out; simp; omega) ?_
           intro v' w' hown hgrow
           obtain ⟨g, off, c, hv, hg, hgl, ow⟩ := (OwnS.ofRow hown).own1 (by omega)
           subst hv
           have HAF := Lib.hid (afterI_of (B1 := B1) (B2 := B2) hK HS3.out HK3.out HX3.out HBB3.out hgrow hg hgl ow)
           have hgb : ∀ k, k < W3.heap.size → w'.heap[k]? = W3.heap[k]? := fun k hk => (hgrow.block k (by simp; omega) (by simp)).trans (Below.heap_alloc W3 _ k hk)
           obtain ⟨m18, m19, mz⟩ := chk_cells ((hgb K l0).trans HK3.out)
           obtain ⟨n0, nz⟩ := cells1m ((hgb B1 l1).trans HB13.out)
           clear hown hgrow hgb ow)
        | fail "no arm")
      all_goals
        go_wp2_with fail
        go_meet
        exact ⟨_, _, _, _, rfl, HAF.out⟩
    case rest =>
      obtain ⟨W5, g, off, c, hWX, hai⟩ := hcut
      subst hWX
      have HAI := Lib.hid hai
      obtain ⟨r1, r2, r3, r4, r5, r6, r7⟩ := hai
      have HB14 := Lib.hid ((r6 B1 (by omega) (by omega)).trans HB10.out)
      have HB24 := Lib.hid ((r6 B2 (by omega) (by omega)).trans HB20.out)
      have HI4 := Lib.hid ((r6 w.heap.size (by omega) (by omega)).trans HI0.out)
      have HS4 := Lib.hid r5
      clear k18 k19 kz b0 bz p0 p1 p2 p3 p4 p5 p6 p7 p8 p9 p10 p11 p12 p13 pz l0 l1 l2
      obtain ⟨k18, k19, kz⟩ := chk_cells r1
      obtain ⟨b0, bz⟩ := cells1m HB14.out
      have p0 := (cells14m HI4.out).1
      have l0 : K < W5.heap.size := by omega
      have l1 : B1 < W5.heap.size := by omega
      have l2 : w.heap.size < W5.heap.size := by omega
      clear r1 r2 r6 r7
      go_wp2_with fail
      go_cut [] (fun wy => ∃ g off c g2 off2 c2, wy.heap[K]? = some (.cells (chkM id pid (.slice (some ⟨g, off, none⟩) 1 c) (.slice (some ⟨g2, off2, none⟩) 1 c2)) 43 (0, 0)) ∧ Row w.heap.size wy (.slice (some ⟨g, off, none⟩) 1 c) 1 14 (itemM pid).toList ∧ Row w.heap.size wy (.slice (some ⟨g2, off2, none⟩) 1 c2) 1 1 [.string pid] ∧ wy.heap[B2]? = some (.cells #[.bool true] 4 (0, 0)) ∧ (∀ k, k < w.heap.size → k ≠ K → k ≠ B2 → wy.heap[k]? = w.heap[k]?) ∧ (∀ B v0, Below B v0 w → B ≤ K → Below B v0 wy))
      case first =>
        go_region_law (first
          | (refine step_append_nil (by rfl) (Operand.tmp 45) (Operand.tmp 48) 30 30 (by rfl) (w.heap.size + 1) 9 i1 (.string ⟨#[]⟩) 1 16 Tryz.underlying30 hi1 hz10 hz11 hz12 rfl (by decide) (by rfl) (.slice (some ⟨W5.heap.size, 0, none⟩) 1 1) 1 [.string pid] (by rfl) (srcM_text (heap_alloc_new W5 _)) (by unfold maxLen; omega) (by omega) (by simp; omega) ?_
             intro v5 w5 hown5 hgrow5
             obtain ⟨g5, off5, c5, hv5, hg5, hgl5, ow5⟩ := (OwnS.ofRow hown5).own1 (by omega)
             subst hv5
             have hgb5 : ∀ k, k < W5.heap.size → w5.heap[k]? = W5.heap[k]? := fun k hk => (hgrow5.block k (by simp; omega) (by simp)).trans (Below.heap_alloc W5 _ k hk)
             have HOW5 := Lib.hid ow5
             have HGB5 := Lib.hid hgb5
             have hq5 := (hgb5 K l0).trans HAI.out.1
             have HQ5 := Lib.hid hq5
             have HB25 := Lib.hid ((hgb5 B2 (by omega)).trans HB24.out)
             have HBel5 := Lib.hid (fun B v0 (hb : Below B v0 W5) (hB : B ≤ W5.heap.size) => ((hb.alloc hB _).drew).grown hgrow5 (by simp; omega) (fun k ek => by cases ek))
             obtain ⟨m18, m19, mz⟩ := chk_cells hq5
             obtain ⟨n0, nz⟩ := cells1m ((hgb5 B1 l1).trans HB14.out)
             clear hown5 hgrow5 hgb5 hq5 ow5)
          | fail "no arm")
        all_goals
          go_wp2_with fail
          go_meet
          have hfar5 : ∀ k, k ≠ K → (w5.setCell ⟨K, 19, none⟩ (.slice (some ⟨g5, off5, none⟩) 1 c5)).heap[k]? = w5.heap[k]? := fun k hk => setX_far w5 hk _
          obtain ⟨r1, r2, r3, r4, r5, r6, r7⟩ := HAI.out
          refine ⟨g, off, c, g5, off5, c5, ?_, ?_, ?_, (hfar5 B2 (by omega)).trans HB25.out, fun k hk k1 k2 => ?_, fun B v0 hb hB => ?_⟩
          · simp [World.setCell, Array.getElem?_modify, HQ5.out, chkM]
          · exact ((r2.keep (HGB5.out g r4)).keep (hfar5 g (by omega))).row (by simp [Value.oneCell']) _ (by omega)
          · exact (HOW5.out.keep (hfar5 g5 (by omega))).row (by simp [Value.oneCell']) _ (by omega)
          · rw [hfar5 k k1, HGB5.out k (by omega), r6 k (by omega) k1, HF0.out k hk k2]
          · exact (HBel5.out B v0 (r7 B v0 hb hB) (by omega)).setCell (p := ⟨K, 19, none⟩) hB _
      case rest =>
        have HCC := Lib.hid hcut
        obtain ⟨_, _, _, _, _, _, _, _, _, y2, _⟩ := hcut
        obtain ⟨y0, yz⟩ := cells1m y2
        clear y2 k18 k19 kz b0 bz p0 l0 l1 l2
        go_wp2_with fail
        go_ret
        exact ⟨rfl, HCC.out⟩
  · skip
    obtain ⟨W3, hW3⟩ : ∃ y, y = (w0.alloc (.cells #[.bool true] 4)).drew := ⟨_, rfl⟩
    have hb3 : Below w0.heap.size w0 W3 := by rw [hW3]; exact ((Below.refl _ _).alloc (Nat.le_refl _) _).drew
    have hs3 : W3.heap.size = w.heap.size + 2 := by rw [hW3]; have := HSW.out; simp; omega
    have hx3 : ∀ k, k < w.heap.size + 1 → W3.heap[k]? = w0.heap[k]? := fun k hk => hb3.block k (by have := HSW.out; omega)
    go_wp2_with fail
    rw [← hW3]
    have HS3 := Lib.hid hs3
    have HK3 := Lib.hid ((hx3 K (by omega)).trans HK0.out)
    have HB13 := Lib.hid ((hx3 B1 (by omega)).trans HB10.out)
    have HI3 := Lib.hid ((hx3 w.heap.size (by omega)).trans HI0.out)
    have HX3 := Lib.hid hx3
    have HBB3 := Lib.hid (show ∀ B v0, Below B v0 w → B ≤ K → Below B v0 W3 from fun B v0 hb hB => (HBW.out B v0 hb (by omega)).trans (hb3.mono (by have := HSW.out; have := hb.size; omega)))
    clear hW3 hb3 hs3 hx3
    obtain ⟨k18, k19, kz⟩ := chk_cells HK3.out
    obtain ⟨b0, bz⟩ := cells1m HB13.out
    obtain ⟨p0, p1, p2, p3, p4, p5, p6, p7, p8, p9, p10, p11, p12, p13, pz⟩ := cells14m HI3.out
    have l0 : K < W3.heap.size := by have := HS3.out; omega
    have l1 : B1 < W3.heap.size := by have := HS3.out; omega
    have l2 : w.heap.size < W3.heap.size := by have := HS3.out; omega
    go_cut [24, 25, 27] (fun x24 x25 x27 wx => ∃ W g off c, W = wx ∧ x24 = .agg #[.string pid, .string ⟨#[]⟩, .int .i64 0, .slice none 0 0, .slice none 0 0, .string ⟨#[]⟩, .string ⟨#[]⟩, .string ⟨#[]⟩, .bool false, .bool false, .int .i64 0, .slice none 0 0, .slice none 0 0, .slice none 0 0] ∧ x25 = .int .i64 0 ∧ x27 = .slice (some ⟨g, off, none⟩) 1 c ∧ AfterI w w0 K B1 B2 id pid [.string ⟨#[]⟩, .string ⟨#[]⟩, .int .i64 0, .slice none 0 0, .slice none 0 0, .string ⟨#[]⟩, .string ⟨#[]⟩, .string ⟨#[]⟩, .bool false, .bool false, .int .i64 0, .slice none 0 0, .slice none 0 0, .slice none 0 0] g off c W)
    case first =>
      go_region_law (first
        | (refine step_append_nil (by rfl) (Operand.tmp 23) (Operand.tmp 26) 34 34 (by rfl) (w.heap.size + 1) 36 i0 (.agg #[.string ⟨#[]⟩, .string ⟨#[]⟩, .int .i64 0, .slice none 0 0, .slice none 0 0, .string ⟨#[]⟩, .string ⟨#[]⟩, .string ⟨#[]⟩, .bool false, .bool false, .int .i64 0, .slice none 0 0, .slice none 0 0, .slice none 0 0]) 14 224 Tryz.underlying34 hi hz0 hz1 hz2 rfl (by decide) (by rfl) (.slice (some ⟨W3.heap.size, 0, none⟩) 1 1) 1 [.string ⟨#[]⟩, .string ⟨#[]⟩, .int .i64 0, .slice none 0 0, .slice none 0 0, .string ⟨#[]⟩, .string ⟨#[]⟩, .string ⟨#[]⟩, .bool false, .bool false, .int .i64 0, .slice none 0 0, .slice none 0 0, .slice none 0 0] (by rfl) (srcM_item (heap_alloc_new W3 _)) (by unfold maxLen; omega) (by omega) (by have := HS3.out; simp; omega) ?_
           intro v' w' hown hgrow
           obtain ⟨g, off, c, hv, hg, hgl, ow⟩ := (OwnS.ofRow hown).own1 (by omega)
           subst hv
           have HAF := Lib.hid (afterI_of (B1 := B1) (B2 := B2) hK HS3.out HK3.out HX3.out HBB3.out hgrow hg hgl ow)
           have hgb : ∀ k, k < W3.heap.size → w'.heap[k]? = W3.heap[k]? := fun k hk => (hgrow.block k (by simp; omega) (by simp)).trans (Below.heap_alloc W3 _ k hk)
           obtain ⟨m18, m19, mz⟩ := chk_cells ((hgb K l0).trans HK3.out)
           obtain ⟨n0, nz⟩ := cells1m ((hgb B1 l1).trans HB13.out)
           clear hown hgrow hgb ow)
        | fail "no arm")
      all_goals
        go_wp2_with fail
        go_meet
        exact ⟨_, _, _, _, rfl, rfl, rfl, rfl, HAF.out⟩
    case rest =>
      obtain ⟨W4, g, off, c, hWX, rfl, rfl, rfl, haz⟩ := hcut
      subst hWX
      have HAZ := Lib.hid haz
      have hgK : g ≠ K := by have := haz.2.2.1; omega
      have hgl : g < W4.heap.size := haz.2.2.2.1
      have o0 := haz.2.1.cell 0 _ rfl
      have o1 := haz.2.1.cell 1 _ rfl
      have o2 := haz.2.1.cell 2 _ rfl
      have o3 := haz.2.1.cell 3 _ rfl
      have o4 := haz.2.1.cell 4 _ rfl
      have o5 := haz.2.1.cell 5 _ rfl
      have o6 := haz.2.1.cell 6 _ rfl
      have o7 := haz.2.1.cell 7 _ rfl
      have o8 := haz.2.1.cell 8 _ rfl
      have o9 := haz.2.1.cell 9 _ rfl
      have o10 := haz.2.1.cell 10 _ rfl
      have o11 := haz.2.1.cell 11 _ rfl
      have o12 := haz.2.1.cell 12 _ rfl
      have o13 := haz.2.1.cell 13 _ rfl
      have oz := haz.2.1.frozen
      simp only [Nat.add_zero] at o0
      clear haz
      go_upto_region 6 with (fail)
      obtain ⟨W5, hW5⟩ : ∃ y, y = putM W4 g off (.string pid) (.string ⟨#[]⟩) (.int .i64 0) (.slice none 0 0) (.slice none 0 0) (.string ⟨#[]⟩) (.string ⟨#[]⟩) (.string ⟨#[]⟩) (.bool false) (.bool false) (.int .i64 0) (.slice none 0 0) (.slice none 0 0) (.slice none 0 0) := ⟨_, rfl⟩
      have hai : AfterI w w0 K B1 B2 id pid [.string pid, .string ⟨#[]⟩, .int .i64 0, .slice none 0 0, .slice none 0 0, .string ⟨#[]⟩, .string ⟨#[]⟩, .string ⟨#[]⟩, .bool false, .bool false, .int .i64 0, .slice none 0 0, .slice none 0 0, .slice none 0 0] g off c W5 := by rw [hW5]; exact HAZ.out.put hK
      unfold putM at hW5
      rw [← hW5]
      clear hW5 o0 o1 o2 o3 o4 o5 o6 o7 o8 o9 o10 o11 o12 o13 oz hgl
      have HAI := Lib.hid hai
      obtain ⟨r1, r2, r3, r4, r5, r6, r7⟩ := hai
      have HB14 := Lib.hid ((r6 B1 (by omega) (by omega)).trans HB10.out)
      have HB24 := Lib.hid ((r6 B2 (by omega) (by omega)).trans HB20.out)
      have HI4 := Lib.hid ((r6 w.heap.size (by omega) (by omega)).trans HI0.out)
      have HS4 := Lib.hid r5
      clear k18 k19 kz b0 bz p0 p1 p2 p3 p4 p5 p6 p7 p8 p9 p10 p11 p12 p13 pz l0 l1 l2
      obtain ⟨k18, k19, kz⟩ := chk_cells r1
      obtain ⟨b0, bz⟩ := cells1m HB14.out
      have p0 := (cells14m HI4.out).1
      have l0 : K < W5.heap.size := by omega
      have l1 : B1 < W5.heap.size := by omega
      have l2 : w.heap.size < W5.heap.size := by omega
      clear r1 r2 r6 r7
      go_wp2_with fail
      go_cut [] (fun wy => ∃ g off c g2 off2 c2, wy.heap[K]? = some (.cells (chkM id pid (.slice (some ⟨g, off, none⟩) 1 c) (.slice (some ⟨g2, off2, none⟩) 1 c2)) 43 (0, 0)) ∧ Row w.heap.size wy (.slice (some ⟨g, off, none⟩) 1 c) 1 14 (itemM pid).toList ∧ Row w.heap.size wy (.slice (some ⟨g2, off2, none⟩) 1 c2) 1 1 [.string pid] ∧ wy.heap[B2]? = some (.cells #[.bool true] 4 (0, 0)) ∧ (∀ k, k < w.heap.size → k ≠ K → k ≠ B2 → wy.heap[k]? = w.heap[k]?) ∧ (∀ B v0, Below B v0 w → B ≤ K → Below B v0 wy))
      case first =>
        go_region_law (first
          | (refine step_append_nil (by rfl) (Operand.tmp 45) (Operand.tmp 48) 30 30 (by rfl) (w.heap.size + 1) 9 i1 (.string ⟨#[]⟩) 1 16 Tryz.underlying30 hi1 hz10 hz11 hz12 rfl (by decide) (by rfl) (.slice (some ⟨W5.heap.size, 0, none⟩) 1 1) 1 [.string pid] (by rfl) (srcM_text (heap_alloc_new W5 _)) (by unfold maxLen; omega) (by omega) (by simp; omega) ?_
             intro v5 w5 hown5 hgrow5
             obtain ⟨g5, off5, c5, hv5, hg5, hgl5, ow5⟩ := (OwnS.ofRow hown5).own1 (by omega)
             subst hv5
             have hgb5 : ∀ k, k < W5.heap.size → w5.heap[k]? = W5.heap[k]? := fun k hk => (hgrow5.block k (by simp; omega) (by simp)).trans (Below.heap_alloc W5 _ k hk)
             have HOW5 := Lib.hid ow5
             have HGB5 := Lib.hid hgb5
             have hq5 := (hgb5 K l0).trans HAI.out.1
             have HQ5 := Lib.hid hq5
             have HB25 := Lib.hid ((hgb5 B2 (by omega)).trans HB24.out)
             have HBel5 := Lib.hid (fun B v0 (hb : Below B v0 W5) (hB : B ≤ W5.heap.size) => ((hb.alloc hB _).drew).grown hgrow5 (by simp; omega) (fun k ek => by cases ek))
             obtain ⟨m18, m19, mz⟩ := chk_cells hq5
             obtain ⟨n0, nz⟩ := cells1m ((hgb5 B1 l1).trans HB14.out)
             clear hown5 hgrow5 hgb5 hq5 ow5)
          | fail "no arm")
        all_goals
          go_wp2_with fail
          go_meet
          have hfar5 : ∀ k, k ≠ K → (w5.setCell ⟨K, 19, none⟩ (.slice (some ⟨g5, off5, none⟩) 1 c5)).heap[k]? = w5.heap[k]? := fun k hk => setX_far w5 hk _
          obtain ⟨r1, r2, r3, r4, r5, r6, r7⟩ := HAI.out
          refine ⟨g, off, c, g5, off5, c5, ?_, ?_, ?_, (hfar5 B2 (by omega)).trans HB25.out, fun k hk k1 k2 => ?_, fun B v0 hb hB => ?_⟩
          · simp [World.setCell, Array.getElem?_modify, HQ5.out, chkM]
          · exact ((r2.keep (HGB5.out g r4)).keep (hfar5 g (by omega))).row (by simp [Value.oneCell']) _ (by omega)
          · exact (HOW5.out.keep (hfar5 g5 (by omega))).row (by simp [Value.oneCell']) _ (by omega)
          · rw [hfar5 k k1, HGB5.out k (by omega), r6 k (by omega) k1, HF0.out k hk k2]
          · exact (HBel5.out B v0 (r7 B v0 hb hB) (by omega)).setCell (p := ⟨K, 19, none⟩) hB _
      case rest =>
        have HCC := Lib.hid hcut
        obtain ⟨_, _, _, _, _, _, _, _, _, y2, _⟩ := hcut
        obtain ⟨y0, yz⟩ := cells1m y2
        clear y2 k18 k19 kz b0 bz p0 l0 l1 l2
        go_wp2_with fail
        go_ret
        exact ⟨rfl, HCC.out⟩
end Go.Proofs.YthkkoippagocpaaGreatDoor
