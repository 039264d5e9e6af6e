/- xmltree: the names of a tag's attributes, as they are written; the keys of attributes. -/
import Derived.Test.YtgkoknckaajgmaaGreatDoorTeb
import Derived.Test.YtgkoknckaajgmaaGreatDoorIa
import Derived.Test.YtgkoknckaajgmaaGreatDoorTea
import Derived.BigQuiet
import Derived.Test.YtgkoknckaajgmaaGreatDoorSheln
import Derived.Test.YtgkoknckaajgmaaGreatDoorShelf
import Derived.Test.YtgkoknckaajgmaaGreatDoorIi
import Derived.Deep.RegionWith
namespace Go.Proofs.YtgkoknckaajgmaaGreatDoor
open Go Go.RowKit Go.Deep
set_option linter.unusedVariables false
set_option linter.unusedSimpArgs false
/-- A token with its place, as cells. -/
abbrev tokP (t : Tk) (s : Value) (at_ : Int) : Value := .agg #[.int .i64 (t.kind : Nat), .string ⟨t.name.toArray⟩, s, .bool t.empty, .string ⟨t.text.toArray⟩, .int .i64 at_]
abbrev strLx (x : List UInt8) : Value := .string ⟨x.toArray⟩
theorem infoStr : (Tryz.prog.info? 9).map (fun i => (i.zero, i.size, i.bytes)) = some (some (.string ⟨#[]⟩), 1, 16) := by kernel_rfl
theorem infoStrX : ∃ i0, Tryz.prog.info? 9 = some i0 ∧ i0.zero = some (.string ⟨#[]⟩) ∧ i0.size = 1 ∧ i0.bytes = 16 := by
  have h := infoStr
  cases hi : Tryz.prog.info? 9 with
  | none => rw [hi] at h; simp at h
  | some i =>
    rw [hi] at h
    simp at h
    exact ⟨i, rfl, h.1, h.2.1, h.2.2⟩
theorem infoKey : (Tryz.prog.info? 96).map (fun i => (i.zero, i.size, i.bytes)) = some (some (.agg #[.string ⟨#[]⟩, .string ⟨#[]⟩]), 2, 32) := by kernel_rfl
theorem infoKeyX : ∃ i0, Tryz.prog.info? 96 = some i0 ∧ i0.zero = some (.agg #[.string ⟨#[]⟩, .string ⟨#[]⟩]) ∧ i0.size = 2 ∧ i0.bytes = 32 := by
  have h := infoKey
  cases hi : Tryz.prog.info? 96 with
  | none => rw [hi] at h; simp at h
  | some i =>
    rw [hi] at h
    simp at h
    exact ⟨i, rfl, h.1, h.2.1, h.2.2⟩
theorem cellsE6 {w : World} {b : Nat} {c0 c1 c2 c3 c4 c5 : Value} {T : TypeId} (h : w.heap[b]? = some (.cells #[c0, c1, c2, c3, c4, c5] T (0, 0))) : w.cell? ⟨b, 0, none⟩ = some c0 ∧ w.cell? ⟨b, 1, none⟩ = some c1 ∧ w.cell? ⟨b, 2, none⟩ = some c2 ∧ w.cell? ⟨b, 3, none⟩ = some c3 ∧ w.cell? ⟨b, 4, none⟩ = some c4 ∧ w.cell? ⟨b, 5, none⟩ = some c5 ∧ (∀ o, w.frozen? ⟨b, o, none⟩ = false) := by
  refine ⟨?_, ?_, ?_, ?_, ?_, ?_, fun o => ?_⟩ <;> simp [World.cell?, World.frozen?, h]
theorem AtsIs.at {w : World} {v : Value} {l : List (List UInt8 × List UInt8)} (h : AtsIs w v l) {k : Nat} (hk : k < l.length) : ∃ b o c, v = .slice (some ⟨b, o, none⟩) l.length c ∧ b < w.heap.size ∧ w.cell? ⟨b, o + k * 2, none⟩ = some (strLx l[k].1) ∧ w.cell? ⟨b, o + k * 2 + 1, none⟩ = some (strLx l[k].2) := by
  obtain ⟨p, c, e, h1, h2, h3, h4⟩ := h
  obtain ⟨b, o, hp, hx⟩ := h4 (by omega)
  have hf : ∀ j, j < 2 → (l.flatMap fun x => [Value.string ⟨x.1.toArray⟩, Value.string ⟨x.2.toArray⟩])[k * 2 + j]? = [strLx l[k].1, strLx l[k].2][j]? := fun j hj => flat_at (f := fun x : List UInt8 × List UInt8 => [Value.string ⟨x.1.toArray⟩, Value.string ⟨x.2.toArray⟩]) (fun x => rfl) l k j hk hj
  have c0 := hx (k * 2 + 0) _ (hf 0 (by omega))
  have c1 := hx (k * 2 + 1) _ (hf 1 (by omega))
  exact ⟨b, o, c, by rw [e, hp], World.block_lt_of_cell? w _ c0, c0, by rw [Nat.add_assoc]; exact c1⟩
theorem AtsIs.form {w : World} {v : Value} {l : List (List UInt8 × List UInt8)} (h : AtsIs w v l) : ∃ p c, v = .slice p l.length c ∧ l.length ≤ c ∧ c ≤ maxLen := by
  obtain ⟨p, c, e, h1, h2, _⟩ := h
  exact ⟨p, c, e, h1, h2⟩

set_option maxRecDepth 100000 in
set_option maxHeartbeats 2000000 in
theorem written_c (w : World) (k0 t0 m0 x0 f0 : Value) (s : Value) (l : List (List UInt8 × List UInt8)) (h : AtsIs w s l) (hl : l.length ≤ 1048576) : Calls Tryz.prog 97 #[.agg #[k0, t0, s, m0, x0, f0]] w fun e w' => ∃ v', e = .returned v' ∧ w'.ownsRow w.heap.size 9 1 v' l.length (l.map fun x => strLx x.1) ∧ Below w.heap.size w w' := by
  obtain ⟨i0, hi, hz0, hz1, hz2⟩ := infoStrX
  obtain ⟨pa, ca, hav, hla, hma⟩ := h.form
  have H1 := Lib.hid h
  subst hav
  obtain ⟨N, hN⟩ : ∃ N, N = l.length := ⟨_, rfl⟩
  rw [← hN] at hl H1 ⊢
  have HN := Lib.hid hN
  have HB0 := Lib.hid (box_belT w (.cells #[k0, t0, .slice pa N ca, m0, x0, f0] 75))
  obtain ⟨z0, z1, z2, z3, z4, z5, zz⟩ := cellsE6 (heap_alloc_new w (.cells #[k0, t0, .slice pa N ca, m0, x0, f0] 75))
  clear h hla hma hN
  go_enter Tryz.func97, Tryz.ntmps97
  go_wp2_with fail
  clear z0 z1 z2 z3 z4 z5 zz
  go_loopw [3, 10] (fun v i wr => ∃ k : Nat, k ≤ N ∧ i = .int .i64 k ∧ Hid (wr.ownsRow w.heap.size 9 1 v k ((l.take k).map fun x => strLx x.1)) ∧ Below w.heap.size w wr) (fun _ i _ => N - (intOf i).toNat)
  case atStart => exact ⟨0, by omega, rfl, Lib.hid (World.ownsRow_nil _ _ _ _), HB0.out⟩
  case round =>
    obtain ⟨k, hk, rfl, HOW, hbr⟩ := hrel
    have HBR := Lib.hid hbr
    clear hbr
    obtain ⟨pv, cv, hv⟩ := rowT_form HOW.out
    subst hv
    by_cases hlt : k < N
    · have hkl : k < l.length := by rw [← HN.out]; exact hlt
      obtain ⟨b, o, cc, hv2, hbl, c0, c1⟩ := H1.out.at hkl
      rw [← HN.out] at hv2
      cases hv2
      have e0 := (HBR.out.cell (p := ⟨b, o + k * 2, none⟩) hbl).trans c0
      have e1 := (HBR.out.cell (p := ⟨b, o + k * 2 + 1, none⟩) hbl).trans c1
      have htake := Lib.hid (show (l.take (k + 1)).map (fun x => strLx x.1) = (l.take k).map (fun x => strLx x.1) ++ [strLx l[k].1] from by rw [List.take_succ_eq_append_getElem hkl, List.map_append]; rfl)
      obtain ⟨T1, hT1⟩ : ∃ T, T = strLx l[k].1 := ⟨_, rfl⟩
      obtain ⟨T2, hT2⟩ : ∃ T, T = strLx l[k].2 := ⟨_, rfl⟩
      obtain ⟨u1, hu1⟩ : ∃ u : ByteArray, T1 = .string u := ⟨_, hT1⟩
      obtain ⟨u2, hu2⟩ : ∃ u : ByteArray, T2 = .string u := ⟨_, hT2⟩
      rw [← hT1] at e0 htake
      rw [← hT2] at e1
      subst hu1 hu2
      have HA := Lib.hid ((box_belT wr (.cells #[.string u1, .string u2] 121)).trans ((box_belT (wr.alloc (.cells #[.string u1, .string u2] 121)) (.cells #[.string u1] 9)).mono (by simp)))
      clear c0 c1 hT1 hT2 hkl
      have hbz := HBR.out.size
      go_wp2_with (at_builtin; go_loud (refine wpList_append_lies _ (by rfl) _ _ 122 (by rfl) w.heap.size 9 i0 (.string ⟨#[]⟩) 1 16 Tryz.underlying122 hi hz0 hz1 hz2 rfl (by omega) (.slice pv k cv) k _ (by rfl) (rowT_below HOW.out (by first | exact HA.out | exact HA.out.drew | exact below_drewN HA.out _)) ⟨wr.heap.size + 1, 0, none⟩ 1 1 [.string u1] (by rfl) (by simp) (World.news_of_block (by simpa using heap_alloc_new (wr.alloc (.cells #[.string u1, .string u2] 121)) (.cells #[.string u1] 9))) (by simp [Value.oneCell']) (by omega) (by unfold maxLen; omega) (by omega) (by simp; omega) (wr.heap.size + 2) (by simp) ?_))
      intro g6 cap6 w6 hown6 hgrow6 hat6 hlt6
      have HPUSH := Lib.hid (show w6.ownsRow w.heap.size 9 1 (.slice (some ⟨g6, 0, none⟩) (k + 1) cap6) (k + 1) ((l.take (k + 1)).map fun x => strLx x.1) ∧ Below w.heap.size w w6 from
        ⟨by rw [htake.out, List.map_take]; exact hown6, (HBR.out.trans (HA.out.mono HBR.out.size)).grown hgrow6 (by simp; omega) (fun b e => by have := rowT_lt HOW.out b e; omega)⟩)
      clear hown6 hgrow6 hat6 hlt6 e0 e1
      go_wp2_with fail
      go_roundw
      case rel => exact ⟨k + 1, by omega, by go_num, Lib.hid HPUSH.out.1, HPUSH.out.2⟩
      case measure => simp [intOf]; omega
    · have hkN : k = N := by omega
      subst hkN
      have HE := Lib.hid (show wr.ownsRow w.heap.size 9 1 (.slice pv k cv) k (l.map fun x => strLx x.1) from by
        have := HOW.out
        rwa [show l.take k = l from by rw [HN.out]; exact List.take_length] at this)
      go_wp2_with fail
      go_ret
      exact ⟨_, rfl, HE.out, HBR.out⟩
/-- The keys of attributes, as cells. -/
def kcells (l : List PT) : List Value := l.flatMap fun p => [.string p.1, .string p.2.1]
theorem PairsR.at' {ok : Nat → Prop} {w : World} {v : Value} {l : List PT} (h : PairsR ok w v l) {k : Nat} (hk : k < l.length) : ∃ b o c, v = .slice (some ⟨b, o, none⟩) l.length c ∧ b < w.heap.size ∧ ok b ∧ w.cell? ⟨b, o + k * 3, none⟩ = some (.string l[k].1) ∧ w.cell? ⟨b, o + k * 3 + 1, none⟩ = some (.string l[k].2.1) ∧ w.cell? ⟨b, o + k * 3 + 2, none⟩ = some (.string l[k].2.2) := by
  obtain ⟨a, c, e, h1, h2, h3, h4⟩ := h
  obtain ⟨b, o, ha, hb, ho, hx⟩ := h4 (by omega)
  obtain ⟨c0, c1, c2⟩ := hx k hk
  exact ⟨b, o, c, by rw [e, ha], hb, ho, c0, c1, c2⟩
set_option maxRecDepth 100000 in
set_option maxHeartbeats 2000000 in
theorem keys_c {ok : Nat → Prop} (w : World) (s : Value) (l : List PT) (h : PairsR ok w s l) (hl : l.length ≤ 1048576) : Calls Tryz.prog 60 #[s] w fun e w' => ∃ v', e = .returned v' ∧ w'.ownsRow w.heap.size 96 2 v' l.length (kcells l) ∧ Below w.heap.size w w' := by
  obtain ⟨i0, hi, hz0, hz1, hz2⟩ := infoKeyX
  obtain ⟨pa, ca, hav, hla, hma⟩ := h.form
  have H1 := Lib.hid h
  subst hav
  obtain ⟨N, hN⟩ : ∃ N, N = l.length := ⟨_, rfl⟩
  rw [← hN] at hl H1 ⊢
  have HN := Lib.hid hN
  clear h hla hma hN
  go_enter Tryz.func60, Tryz.ntmps60
  go_wp2_with fail
  go_loopw [3, 8] (fun v i wr => ∃ k : Nat, k ≤ N ∧ i = .int .i64 k ∧ Hid (wr.ownsRow w.heap.size 96 2 v k (kcells (l.take k))) ∧ Below w.heap.size w wr) (fun _ i _ => N - (intOf i).toNat)
  case atStart => exact ⟨0, by omega, rfl, Lib.hid (World.ownsRow_nil _ _ _ _), Below.refl _ _⟩
  case round =>
    obtain ⟨k, hk, rfl, HOW, hbr⟩ := hrel
    have HBR := Lib.hid hbr
    clear hbr
    obtain ⟨pv, cv, hv⟩ := rowT_form HOW.out
    subst hv
    by_cases hlt : k < N
    · have hkl : k < l.length := by rw [← HN.out]; exact hlt
      obtain ⟨b, o, cc, hv2, hbl, -, c0, c1, c2⟩ := H1.out.at' hkl
      rw [← HN.out] at hv2
      cases hv2
      have e0 := (HBR.out.cell (p := ⟨b, o + k * 3, none⟩) hbl).trans c0
      have e1 := (HBR.out.cell (p := ⟨b, o + k * 3 + 1, none⟩) hbl).trans c1
      have e2 := (HBR.out.cell (p := ⟨b, o + k * 3 + 2, none⟩) hbl).trans c2
      have htake := Lib.hid (show kcells (l.take (k + 1)) = kcells (l.take k) ++ [.string l[k].1, .string l[k].2.1] from by unfold kcells; rw [List.take_succ_eq_append_getElem hkl, List.flatMap_append]; rfl)
      generalize l[k] = x at *
      obtain ⟨u1, u2, u3⟩ := x
      dsimp only at e0 e1 e2 htake
      have HA := Lib.hid ((box_belT wr (.cells #[.string u1, .string u2, .string u3] 63)).trans ((box_belT (wr.alloc (.cells #[.string u1, .string u2, .string u3] 63)) (.cells #[.string u1, .string u2] 96)).mono (by simp)))
      clear c0 c1 c2 hkl
      have hbz := HBR.out.size
      go_wp2_with (at_builtin; go_loud (refine wpList_append_lies _ (by rfl) _ _ 97 (by rfl) w.heap.size 96 i0 (.agg #[.string ⟨#[]⟩, .string ⟨#[]⟩]) 2 32 Tryz.underlying97 hi hz0 hz1 hz2 rfl (by omega) (.slice pv k cv) k _ (by rfl) (rowT_below HOW.out (by first | exact HA.out | exact HA.out.drew | exact below_drewN HA.out _)) ⟨wr.heap.size + 1, 0, none⟩ 1 1 [.string u1, .string u2] (by rfl) (by simp) (World.news_of_block (by simpa using heap_alloc_new (wr.alloc (.cells #[.string u1, .string u2, .string u3] 63)) (.cells #[.string u1, .string u2] 96))) (by simp [Value.oneCell']) (by omega) (by unfold maxLen; omega) (by omega) (by simp; omega) (wr.heap.size + 2) (by simp) ?_))
      intro g6 cap6 w6 hown6 hgrow6 hat6 hlt6
      have HPUSH := Lib.hid (show w6.ownsRow w.heap.size 96 2 (.slice (some ⟨g6, 0, none⟩) (k + 1) cap6) (k + 1) (kcells (l.take (k + 1))) ∧ Below w.heap.size w w6 from
        ⟨by rw [htake.out]; exact hown6, (HBR.out.trans (HA.out.mono HBR.out.size)).grown hgrow6 (by simp; omega) (fun b e => by have := rowT_lt HOW.out b e; omega)⟩)
      clear hown6 hgrow6 hat6 hlt6 e0 e1 e2
      go_wp2_with fail
      go_roundw
      case rel => exact ⟨k + 1, by omega, by go_num, Lib.hid HPUSH.out.1, HPUSH.out.2⟩
      case measure => simp [intOf]; omega
    · have hkN : k = N := by omega
      subst hkN
      have HE := Lib.hid (show wr.ownsRow w.heap.size 96 2 (.slice pv k cv) k (kcells l) from by
        have := HOW.out
        rwa [show l.take k = l from by rw [HN.out]; exact List.take_length] at this)
      go_wp2_with fail
      go_ret
      exact ⟨_, rfl, HE.out, HBR.out⟩
end Go.Proofs.YtgkoknckaajgmaaGreatDoor

/- xmltree: slices.Index, slices.Contains and twice, at strings and at keys. Written by tools/gentl.py. -/
namespace Go.Proofs.YtgkoknckaajgmaaGreatDoor
open Go Go.RowKit Go.Deep
set_option linter.unusedVariables false
set_option linter.unusedSimpArgs false

theorem anyG_next {α : Type} {l : List α} {f : α → Bool} {k : Nat} (h : k < l.length) (ht : (l.take k).any f = false) (hb : f l[k] = false) : (l.take (k + 1)).any f = false := by
  rw [List.take_succ_eq_append_getElem h, List.any_append, ht, List.any_cons, hb]
  rfl
theorem anyG_hit {α : Type} {l : List α} {f : α → Bool} {k : Nat} (h : k < l.length) (hb : f l[k] = true) : l.any f = true := List.any_eq_true.2 ⟨l[k], List.getElem_mem h, hb⟩
theorem beq_symT (a b : List UInt8) : (a == b) = (b == a) := by
  rw [Bool.eq_iff_iff, beq_iff_eq, beq_iff_eq]
  exact eq_comm
/-- Strings that can be read. -/
def RdS (w : World) (v : Value) (l : List ByteArray) : Prop :=
  ∃ a c, v = .slice a l.length c ∧ l.length ≤ c ∧ c ≤ maxLen ∧ (0 < l.length → ∃ b o, a = some ⟨b, o, none⟩ ∧ b < w.heap.size ∧ ∀ k (h : k < l.length), w.cell? ⟨b, o + k, none⟩ = some (.string l[k]))
/-- Keys that can be read. -/
def RdK (w : World) (v : Value) (l : List (ByteArray × ByteArray)) : Prop :=
  ∃ a c, v = .slice a l.length c ∧ l.length ≤ c ∧ c ≤ maxLen ∧ (0 < l.length → ∃ b o, a = some ⟨b, o, none⟩ ∧ b < w.heap.size ∧ ∀ k (h : k < l.length), w.cell? ⟨b, o + k * 2, none⟩ = some (.string l[k].1) ∧ w.cell? ⟨b, o + k * 2 + 1, none⟩ = some (.string l[k].2))
theorem RdS.take {w : World} {a : Option Addr} {n c : Nat} {l : List ByteArray} (h : RdS w (.slice a n c) l) {k : Nat} (hk : k ≤ n) : RdS w (.slice a k c) (l.take k) := by
  obtain ⟨a', c', e, h1, h2, h3⟩ := h
  cases e
  have hl : (l.take k).length = k := by rw [List.length_take]; omega
  refine ⟨a, c, by rw [hl], by omega, h2, fun hp => ?_⟩
  obtain ⟨b, o, ha, hb, hx⟩ := h3 (by omega)
  refine ⟨b, o, ha, hb, fun j hj => ?_⟩
  rw [hl] at hj
  rw [List.getElem_take]
  exact hx j (by omega)
theorem RdK.take {w : World} {a : Option Addr} {n c : Nat} {l : List (ByteArray × ByteArray)} (h : RdK w (.slice a n c) l) {k : Nat} (hk : k ≤ n) : RdK w (.slice a k c) (l.take k) := by
  obtain ⟨a', c', e, h1, h2, h3⟩ := h
  cases e
  have hl : (l.take k).length = k := by rw [List.length_take]; omega
  refine ⟨a, c, by rw [hl], by omega, h2, fun hp => ?_⟩
  obtain ⟨b, o, ha, hb, hx⟩ := h3 (by omega)
  refine ⟨b, o, ha, hb, fun j hj => ?_⟩
  rw [hl] at hj
  rw [List.getElem_take]
  exact hx j (by omega)
theorem RdS.below {w w' : World} {v : Value} {l : List ByteArray} (h : RdS w v l) (hb : Below w.heap.size w w') : RdS w' v l := by
  obtain ⟨a, c, e, h1, h2, h3⟩ := h
  refine ⟨a, c, e, h1, h2, fun hp => ?_⟩
  obtain ⟨b, o, ha, hbl, hx⟩ := h3 hp
  exact ⟨b, o, ha, Nat.lt_of_lt_of_le hbl hb.size, fun j hj => (hb.cell (p := ⟨b, o + j, none⟩) hbl).trans (hx j hj)⟩
theorem RdK.below {w w' : World} {v : Value} {l : List (ByteArray × ByteArray)} (h : RdK w v l) (hb : Below w.heap.size w w') : RdK w' v l := by
  obtain ⟨a, c, e, h1, h2, h3⟩ := h
  refine ⟨a, c, e, h1, h2, fun hp => ?_⟩
  obtain ⟨b, o, ha, hbl, hx⟩ := h3 hp
  exact ⟨b, o, ha, Nat.lt_of_lt_of_le hbl hb.size, fun j hj => ⟨(hb.cell (p := ⟨b, o + j * 2, none⟩) hbl).trans (hx j hj).1, (hb.cell (p := ⟨b, o + j * 2 + 1, none⟩) hbl).trans (hx j hj).2⟩⟩
/-- The lists read one another through rows of our own. -/
theorem RdS.ofRow {w : World} {base : Nat} {v : Value} {l : List ByteArray} (h : w.ownsRow base 9 1 v l.length (l.map Value.string)) : RdS w v l := by
  have hf := OwnS.ofRow h
  obtain ⟨p, c, hv, h1, h2, h3⟩ := hf.form
  refine ⟨p, c, hv, h1, h2, fun hp => ?_⟩
  obtain ⟨g, off, c', hv', hg1, hg2, hown⟩ := hf.own1 hp
  rw [hv] at hv'
  cases hv'
  exact ⟨g, off, rfl, hg2, fun k hk => hown.cell k _ (by rw [List.getElem?_map, List.getElem?_eq_getElem hk]; rfl)⟩
theorem RdK.ofRow {w : World} {base : Nat} {v : Value} {l : List (ByteArray × ByteArray)} (h : w.ownsRow base 96 2 v l.length (l.flatMap fun p => [Value.string p.1, Value.string p.2])) : RdK w v l := by
  have hf := OwnS.ofRow h
  obtain ⟨p, c, hv, h1, h2, h3⟩ := hf.form
  refine ⟨p, c, hv, h1, h2, fun hp => ?_⟩
  obtain ⟨g, off, c', hv', hg1, hg2, hown⟩ := hf.own1 hp
  rw [hv] at hv'
  cases hv'
  refine ⟨g, off, rfl, hg2, fun k hk => ?_⟩
  have hx := fun j (hj : j < 2) u (hu : [Value.string l[k].1, Value.string l[k].2][j]? = some u) => hown.cell (k * 2 + j) u (by rw [flat_at (f := fun p : ByteArray × ByteArray => [Value.string p.1, Value.string p.2]) (fun x => rfl) l k j hk hj]; exact hu)
  exact ⟨hx 0 (by omega) _ rfl, by rw [Nat.add_assoc]; exact hx 1 (by omega) _ rfl⟩
theorem fieldsK : (Tryz.prog.fieldsOf 96).toList.map (fun f => (f.name != "_", f.type, f.offset)) = [(true, 9, 0), (true, 9, 1)] := by kernel_rfl
theorem structK : Tryz.prog.underlying 96 = some (.struct (Tryz.prog.fieldsOf 96)) := by kernel_rfl
theorem heldK : Tryz.prog.stoodInHeld 96 = false := by kernel_rfl
theorem run_eqlK (w : World) (s t s' t' : ByteArray) : (binOp .eql 96 (.agg #[.string s, .string t]) (.agg #[.string s', .string t'])).run Tryz.prog w = .ok (.bool (s.toList == s'.toList && t.toList == t'.toList)) w := by
  rw [run_eql_struct, run_equalIn_agg _ _ _ _ _ structK heldK]
  have hf := fieldsK
  generalize (Tryz.prog.fieldsOf 96).toList = fs at hf
  rcases fs with _ | ⟨f0, _ | ⟨f1, _ | ⟨f2, r⟩⟩⟩
  · simp at hf
  · simp at hf
  · simp only [List.map_cons, List.map_nil, List.cons.injEq, Prod.mk.injEq, and_true] at hf
    obtain ⟨⟨n0, t0, o0⟩, n1, t1, o1⟩ := hf
    simp only [Op.eqFields, t0, t1, o0, o1]
    simp only [bne_iff_ne] at n0 n1
    rw [if_pos n0, if_pos n1]
    cases h1 : (s.toList == s'.toList) <;> cases h2 : (t.toList == t'.toList) <;> simp [go_sem, part, h1, h2]
  · simp at hf
/-- How a search ends, and how a test ends. -/
def TwE (p : Prop) (e : Ending) : Prop := (p ∧ e = .returned (.bool true)) ∨ (¬ p ∧ e = .returned (.bool false))

set_option maxRecDepth 100000 in
set_option maxHeartbeats 1000000 in
theorem sindexS_c (w : World) (v : Value) (l : List ByteArray) (h : RdS w v l) (s : ByteArray) :
    Calls Tryz.prog 140 #[v, .string s] w fun e w' => (∃ z : Int, e = .returned (.int .i64 z) ∧ decide (0 ≤ z) = (l.any fun x => (x.toList == s.toList))) ∧ Below w.heap.size w w' := by
  obtain ⟨R, hR⟩ : ∃ R, R = l.any fun x => (x.toList == s.toList) := ⟨_, rfl⟩
  have HR := Lib.hid hR
  rw [← hR]
  obtain ⟨a, c, hv, hlc, hcm, hx⟩ := h
  subst hv
  have HX := Lib.hid hx
  have hn : l.length ≤ 9223372036854775807 := by unfold maxLen at hcm; omega
  skip
  clear hR hlc hcm hx
  go_enter Tryz.func140, Tryz.ntmps140
  go_wp2_with fail
  go_loopw [8] (fun i wr => ∃ k : Nat, k ≤ l.length ∧ i = .int .i64 k ∧ Below w.heap.size w wr ∧ ((l.take k).any fun x => (x.toList == s.toList)) = false) (fun i _ => l.length - (intOf i).toNat)
  case atStart => exact ⟨0, by omega, rfl, Below.refl _ _, by simp⟩
  case round =>
    obtain ⟨k, hk, rfl, hwr, hall⟩ := hrel
    have HW := Lib.hid hwr
    have HAL := Lib.hid hall
    clear hall
    by_cases hlt : k < l.length
    · obtain ⟨b, o, ha, hbl, hc⟩ := HX.out (by omega)
      subst ha
      have hc2 := hc k hlt
      have HNX := Lib.hid (fun (hb : ((fun x : ByteArray => (x.toList == s.toList)) l[k]) = false) => anyG_next (f := fun x => (x.toList == s.toList)) hlt HAL.out hb)
      have HHT := Lib.hid (fun (hb : ((fun x : ByteArray => (x.toList == s.toList)) l[k]) = true) => anyG_hit (f := fun x => (x.toList == s.toList)) hlt hb)
      have c0 : wr.cell? ⟨b, o + k, none⟩ = some (.string l[k]) := (hwr.cell (p := ⟨b, o + k, none⟩) hbl).trans hc2
      generalize l[k] = x at *
      obtain ⟨q, hq⟩ : ∃ q, (x.toList == s.toList) = q := ⟨_, rfl⟩
      try dsimp only at HNX HHT
      simp only [hq] at HNX HHT
      have hq2 : (s.toList == x.toList) = q := (beq_symT _ _).trans hq
      clear hc hwr hc2 
      cases q
      · have HN := Lib.hid (HNX.out rfl)
        clear HNX HHT
        go_wp2_with fail
        go_roundw
        case rel => exact ⟨k + 1, by omega, by go_num, HW.out, HN.out⟩
        case measure => simp [intOf]; omega
      · have HN := Lib.hid (HR.out.trans (HHT.out rfl))
        clear HNX HHT
        go_wp2_with fail
        go_ret
        exact ⟨⟨(k : Int), rfl, by rw [HN.out]; exact decide_eq_true (by omega)⟩, HW.out⟩
    · have HE := Lib.hid (show R = false from by rw [HR.out]; have := HAL.out; rwa [List.take_of_length_le (by omega)] at this)
      clear hwr
      go_wp2_with fail
      go_ret
      exact ⟨⟨-1, rfl, by rw [HE.out]; rfl⟩, HW.out⟩

set_option maxRecDepth 100000 in
theorem containsS_c (w : World) (v : Value) (l : List ByteArray) (h : RdS w v l) (s : ByteArray) :
    Calls Tryz.prog 124 #[v, .string s] w fun e w' => e = .returned (.bool (l.any fun x => (x.toList == s.toList))) ∧ Below w.heap.size w w' := by
  have HI := Lib.hid (fun (W : World) (hb : Below w.heap.size w W) => sindexS_c W v l (h.below hb) s)
  obtain ⟨R, hR⟩ : ∃ R, R = l.any fun x => (x.toList == s.toList) := ⟨_, rfl⟩
  rw [← hR] at HI ⊢
  obtain ⟨a, c, hv, -⟩ := h
  subst hv
  skip
  clear hR
  go_enter Tryz.func124, Tryz.ntmps124
  go_wp2_with fail
  refine (HI.out _ (Below.refl _ _)).mono ?_
  rintro e w' ⟨⟨z, rfl, hz⟩, hb⟩
  have HZ := Lib.hid hz
  have HB := Lib.hid (show Below w.heap.size w w' from hb)
  clear hz hb
  go_wp2_with fail
  go_ret
  exact ⟨by rw [← HZ.out]; rfl, HB.out⟩

set_option maxRecDepth 100000 in
set_option maxHeartbeats 2000000 in
theorem twiceS_c (w : World) (v : Value) (l : List ByteArray) (h : RdS w v l) :
    Calls Tryz.prog 96 #[v] w fun e w' => TwE (¬ l.Nodup) e ∧ Below w.heap.size w w' := by
  have H := Lib.hid h
  obtain ⟨a, c, hv, hlc, hcm, hx⟩ := h
  subst hv
  have HX := Lib.hid hx
  have hn : l.length ≤ 9223372036854775807 := by unfold maxLen at hcm; omega
  clear hcm hx
  go_enter Tryz.func96, Tryz.ntmps96
  go_wp2_with fail
  go_loopw [7] (fun i wr => ∃ k : Nat, k ≤ l.length ∧ i = .int .i64 k ∧ Hid ((l.take k).Nodup) ∧ Below w.heap.size w wr) (fun i _ => l.length - (intOf i).toNat)
  case atStart => exact ⟨0, by omega, rfl, Lib.hid (by simp), Below.refl _ _⟩
  case round =>
    obtain ⟨k, hk, rfl, HND, hbr⟩ := hrel
    have HBR := Lib.hid hbr
    clear hbr
    by_cases hlt : k < l.length
    · obtain ⟨b, o, ha, hbl, hc⟩ := HX.out (by omega)
      subst ha
      have hc2 := hc k hlt
      have hkc : k ≤ c := by omega
      have hmem : ((l.take k).any fun x => (x.toList == l[k].toList)) = true ↔ l[k] ∈ l.take k := by
        rw [List.any_eq_true]
        constructor
        · rintro ⟨x, h1, h2⟩
          have : x = l[k] := toList_inj (beq_iff_eq.1 h2)
          rw [← this]; exact h1
        · intro h1
          exact ⟨_, h1, by simp⟩
      have htk : l.take (k + 1) = l.take k ++ [l[k]] := List.take_succ_eq_append_getElem hlt
      have HYES := Lib.hid (show l[k] ∈ l.take k → ¬ l.Nodup from fun h1 h2 => by
        have h3 : (l.take (k + 1)).Nodup := h2.sublist (List.take_sublist _ _)
        rw [htk, List.nodup_append] at h3
        exact h3.2.2 _ h1 _ (by simp) rfl)
      have HNO := Lib.hid (show l[k] ∉ l.take k → (l.take (k + 1)).Nodup from fun h1 => by
        rw [htk, List.nodup_append]
        exact ⟨HND.out, by simp, fun a h2 b h3 => by
          obtain rfl : b = l[k] := by simpa using h3
          exact fun e => h1 (e ▸ h2)⟩)
      have HCT := Lib.hid (fun (W : World) (hb : Below w.heap.size w W) => containsS_c W (.slice (some ⟨b, o, none⟩) k c) (l.take k) ((H.out.take hk).below hb) l[k])
      have c0 : wr.cell? ⟨b, o + k, none⟩ = some (.string l[k]) := (HBR.out.cell (p := ⟨b, o + k, none⟩) hbl).trans hc2
      obtain ⟨q, hq⟩ : ∃ q, ((l.take k).any fun x => (x.toList == l[k].toList)) = q := ⟨_, rfl⟩
      rw [hq] at hmem
      have HCT' := Lib.hid (fun (W : World) (hb : Below w.heap.size w W) => (HCT.out W hb).mono (R' := fun e w' => e = Ending.returned (.bool q) ∧ Below W.heap.size W w') (fun e w' hh => show e = Ending.returned (.bool q) ∧ Below W.heap.size W w' from ⟨hq ▸ hh.1, hh.2⟩))
      have HMEM := Lib.hid hmem
      clear hc hc2 hmem htk hq HCT
      generalize l[k] = x at *
      go_wp2_with fail
      refine (HCT'.out _ HBR.out).mono ?_
      rintro e w' ⟨rfl, hb⟩
      have HB := Lib.hid (show Below w.heap.size w w' from HBR.out.trans (hb.mono HBR.out.size))
      clear hb c0
      cases q
      · have HN := Lib.hid (HNO.out (fun h1 => by have := HMEM.out.2 h1; simp at this))
        go_wp2_with fail
        go_roundw
        case rel => exact ⟨k + 1, by omega, by go_num, HN, HB.out⟩
        case measure => simp [intOf]; omega
      · have HN := Lib.hid (HYES.out (HMEM.out.1 rfl))
        go_wp2_with fail
        go_ret
        exact ⟨.inl ⟨HN.out, rfl⟩, HB.out⟩
    · have HE := Lib.hid (show l.Nodup from by have := HND.out; rwa [List.take_of_length_le (by omega)] at this)
      go_wp2_with fail
      go_ret
      exact ⟨.inr ⟨fun h => h HE.out, rfl⟩, HBR.out⟩

set_option maxRecDepth 100000 in
set_option maxHeartbeats 1000000 in
theorem sindexK_c (w : World) (v : Value) (l : List (ByteArray × ByteArray)) (h : RdK w v l) (s1 s2 : ByteArray) :
    Calls Tryz.prog 113 #[v, .agg #[.string s1, .string s2]] w fun e w' => (∃ z : Int, e = .returned (.int .i64 z) ∧ decide (0 ≤ z) = (l.any fun x => (x.1.toList == s1.toList && x.2.toList == s2.toList))) ∧ Below w.heap.size w w' := by
  obtain ⟨R, hR⟩ : ∃ R, R = l.any fun x => (x.1.toList == s1.toList && x.2.toList == s2.toList) := ⟨_, rfl⟩
  have HR := Lib.hid hR
  rw [← hR]
  obtain ⟨a, c, hv, hlc, hcm, hx⟩ := h
  subst hv
  have HX := Lib.hid hx
  have hn : l.length ≤ 9223372036854775807 := by unfold maxLen at hcm; omega
  skip
  clear hR hlc hcm hx
  go_enter Tryz.func113, Tryz.ntmps113
  go_wp2_with fail
  go_loopw [8] (fun i wr => ∃ k : Nat, k ≤ l.length ∧ i = .int .i64 k ∧ Below (w.heap.size + 1) (w.alloc (.cells #[.string s1, .string s2] 96)) wr ∧ ((l.take k).any fun x => (x.1.toList == s1.toList && x.2.toList == s2.toList)) = false) (fun i _ => l.length - (intOf i).toNat)
  case atStart => exact ⟨0, by omega, rfl, Below.refl _ _, by simp⟩
  case round =>
    obtain ⟨k, hk, rfl, hwr, hall⟩ := hrel
    have HW := Lib.hid hwr
    have HAL := Lib.hid hall
    clear hall
    by_cases hlt : k < l.length
    · obtain ⟨b, o, ha, hbl, hc⟩ := HX.out (by omega)
      subst ha
      have hc2 := hc k hlt
      have HNX := Lib.hid (fun (hb : ((fun x : (ByteArray × ByteArray) => (x.1.toList == s1.toList && x.2.toList == s2.toList)) l[k]) = false) => anyG_next (f := fun x => (x.1.toList == s1.toList && x.2.toList == s2.toList)) hlt HAL.out hb)
      have HHT := Lib.hid (fun (hb : ((fun x : (ByteArray × ByteArray) => (x.1.toList == s1.toList && x.2.toList == s2.toList)) l[k]) = true) => anyG_hit (f := fun x => (x.1.toList == s1.toList && x.2.toList == s2.toList)) hlt hb)
      have HWB := (box_belT w (.cells #[.string s1, .string s2] 96)).trans (hwr.mono (by simp))
      have c0 : wr.cell? ⟨b, o + k * 2, none⟩ = some (.string l[k].1) := ((HWB.cell (p := ⟨b, o + k * 2, none⟩) hbl).trans hc2.1)
      have c1 : wr.cell? ⟨b, o + k * 2 + 1, none⟩ = some (.string l[k].2) := ((HWB.cell (p := ⟨b, o + k * 2 + 1, none⟩) hbl).trans hc2.2)
      have e0 : wr.cell? ⟨w.heap.size, 0, none⟩ = some (.string s1) := (hwr.cell (p := ⟨w.heap.size, 0, none⟩) (by simp)).trans <| World.news_of_block (heap_alloc_new w (.cells #[.string s1, .string s2] 96)) 0 _ rfl
      have e1 : wr.cell? ⟨w.heap.size, 1, none⟩ = some (.string s2) := (hwr.cell (p := ⟨w.heap.size, 1, none⟩) (by simp)).trans <| World.news_of_block (heap_alloc_new w (.cells #[.string s1, .string s2] 96)) 1 _ rfl
      generalize l[k] = x at *
      obtain ⟨x1, x2⟩ := x
      dsimp only at *
      obtain ⟨q, hq⟩ : ∃ q, (x1.toList == s1.toList && x2.toList == s2.toList) = q := ⟨_, rfl⟩
      try dsimp only at HNX HHT
      simp only [hq] at HNX HHT
      have hq2 : (s1.toList == x1.toList && s2.toList == x2.toList) = q := by rw [beq_symT s1.toList, beq_symT s2.toList]; exact hq
      have heqk := fun W => run_eqlK W s1 s2 x1 x2
      rw [hq2] at heqk
      clear hc hwr hc2 HWB
      cases q
      · have HN := Lib.hid (HNX.out rfl)
        clear HNX HHT
        go_wp2_with fail
        go_quiet (fail)
        go_wp2_with fail
        go_roundw
        case rel => exact ⟨k + 1, by omega, by go_num, below_drewN HW.out _, HN.out⟩
        case measure => simp [intOf]; omega
      · have HN := Lib.hid (HR.out.trans (HHT.out rfl))
        clear HNX HHT
        go_wp2_with fail
        go_quiet (fail)
        go_wp2_with fail
        go_ret
        exact ⟨⟨(k : Int), rfl, by rw [HN.out]; exact decide_eq_true (by omega)⟩, (box_belT w _).trans ((below_drewN HW.out _).mono (by simp))⟩
    · have HE := Lib.hid (show R = false from by rw [HR.out]; have := HAL.out; rwa [List.take_of_length_le (by omega)] at this)
      clear hwr
      go_wp2_with fail
      go_ret
      exact ⟨⟨-1, rfl, by rw [HE.out]; rfl⟩, (box_belT w _).trans (HW.out.mono (by simp))⟩

set_option maxRecDepth 100000 in
theorem containsK_c (w : World) (v : Value) (l : List (ByteArray × ByteArray)) (h : RdK w v l) (s1 s2 : ByteArray) :
    Calls Tryz.prog 89 #[v, .agg #[.string s1, .string s2]] w fun e w' => e = .returned (.bool (l.any fun x => (x.1.toList == s1.toList && x.2.toList == s2.toList))) ∧ Below w.heap.size w w' := by
  have HI := Lib.hid (fun (W : World) (hb : Below w.heap.size w W) => sindexK_c W v l (h.below hb) s1 s2)
  obtain ⟨R, hR⟩ : ∃ R, R = l.any fun x => (x.1.toList == s1.toList && x.2.toList == s2.toList) := ⟨_, rfl⟩
  rw [← hR] at HI ⊢
  obtain ⟨a, c, hv, -⟩ := h
  subst hv
  skip
  clear hR
  go_enter Tryz.func89, Tryz.ntmps89
  go_wp2_with fail
  refine (HI.out _ (box_belT w _)).mono ?_
  rintro e w' ⟨⟨z, rfl, hz⟩, hb⟩
  have HZ := Lib.hid hz
  have HB := Lib.hid (show Below w.heap.size w w' from (box_belT w _).trans (hb.mono (box_belT w _).size))
  clear hz hb
  go_wp2_with fail
  go_ret
  exact ⟨by rw [← HZ.out]; rfl, HB.out⟩

set_option maxRecDepth 100000 in
set_option maxHeartbeats 2000000 in
theorem twiceK_c (w : World) (v : Value) (l : List (ByteArray × ByteArray)) (h : RdK w v l) :
    Calls Tryz.prog 59 #[v] w fun e w' => TwE (¬ l.Nodup) e ∧ Below w.heap.size w w' := by
  have H := Lib.hid h
  obtain ⟨a, c, hv, hlc, hcm, hx⟩ := h
  subst hv
  have HX := Lib.hid hx
  have hn : l.length ≤ 9223372036854775807 := by unfold maxLen at hcm; omega
  clear hcm hx
  go_enter Tryz.func59, Tryz.ntmps59
  go_wp2_with fail
  go_loopw [7] (fun i wr => ∃ k : Nat, k ≤ l.length ∧ i = .int .i64 k ∧ Hid ((l.take k).Nodup) ∧ Below w.heap.size w wr) (fun i _ => l.length - (intOf i).toNat)
  case atStart => exact ⟨0, by omega, rfl, Lib.hid (by simp), Below.refl _ _⟩
  case round =>
    obtain ⟨k, hk, rfl, HND, hbr⟩ := hrel
    have HBR := Lib.hid hbr
    clear hbr
    by_cases hlt : k < l.length
    · obtain ⟨b, o, ha, hbl, hc⟩ := HX.out (by omega)
      subst ha
      have hc2 := hc k hlt
      have hkc : k ≤ c := by omega
      have hmem : ((l.take k).any fun x => (x.1.toList == l[k].1.toList && x.2.toList == l[k].2.toList)) = true ↔ l[k] ∈ l.take k := by
        rw [List.any_eq_true]
        constructor
        · rintro ⟨x, h1, h2⟩
          rw [Bool.and_eq_true] at h2
          have : x = l[k] := Prod.ext (toList_inj (beq_iff_eq.1 h2.1)) (toList_inj (beq_iff_eq.1 h2.2))
          rw [← this]; exact h1
        · intro h1
          exact ⟨_, h1, by simp⟩
      have htk : l.take (k + 1) = l.take k ++ [l[k]] := List.take_succ_eq_append_getElem hlt
      have HYES := Lib.hid (show l[k] ∈ l.take k → ¬ l.Nodup from fun h1 h2 => by
        have h3 : (l.take (k + 1)).Nodup := h2.sublist (List.take_sublist _ _)
        rw [htk, List.nodup_append] at h3
        exact h3.2.2 _ h1 _ (by simp) rfl)
      have HNO := Lib.hid (show l[k] ∉ l.take k → (l.take (k + 1)).Nodup from fun h1 => by
        rw [htk, List.nodup_append]
        exact ⟨HND.out, by simp, fun a h2 b h3 => by
          obtain rfl : b = l[k] := by simpa using h3
          exact fun e => h1 (e ▸ h2)⟩)
      have HCT := Lib.hid (fun (W : World) (hb : Below w.heap.size w W) => containsK_c W (.slice (some ⟨b, o, none⟩) k c) (l.take k) ((H.out.take hk).below hb) l[k].1 l[k].2)
      have c0 : wr.cell? ⟨b, o + k * 2, none⟩ = some (.string l[k].1) := (HBR.out.cell (p := ⟨b, o + k * 2, none⟩) hbl).trans hc2.1
      have c1 : wr.cell? ⟨b, o + k * 2 + 1, none⟩ = some (.string l[k].2) := (HBR.out.cell (p := ⟨b, o + k * 2 + 1, none⟩) hbl).trans hc2.2
      obtain ⟨q, hq⟩ : ∃ q, ((l.take k).any fun x => (x.1.toList == l[k].1.toList && x.2.toList == l[k].2.toList)) = q := ⟨_, rfl⟩
      rw [hq] at hmem
      have HCT' := Lib.hid (fun (W : World) (hb : Below w.heap.size w W) => (HCT.out W hb).mono (R' := fun e w' => e = Ending.returned (.bool q) ∧ Below W.heap.size W w') (fun e w' hh => show e = Ending.returned (.bool q) ∧ Below W.heap.size W w' from ⟨hq ▸ hh.1, hh.2⟩))
      have HMEM := Lib.hid hmem
      clear hc hc2 hmem htk hq HCT
      generalize l[k] = x at *
      obtain ⟨x1, x2⟩ := x
      dsimp only at *
      have HBX := Lib.hid (HBR.out.alloc HBR.out.size (.cells #[.string x1, .string x2] 96))
      have f0 := World.news_of_block (heap_alloc_new wr (.cells #[.string x1, .string x2] 96)) 0 _ rfl
      have f1 := World.news_of_block (heap_alloc_new wr (.cells #[.string x1, .string x2] 96)) 1 _ rfl
      go_wp2_with fail
      go_region_with (go_at_call 89; refine (HCT'.out _ (by first | exact HBX.out | exact below_drewN HBX.out _)).mono ?_; rintro e w' ⟨rfl, hb⟩; have HB := Lib.hid (show Below w.heap.size w w' from (by first | exact HBX.out.trans (hb.mono HBX.out.size) | exact (below_drewN HBX.out _).trans (hb.mono HBX.out.size))); clear hb)
      all_goals clear c0 c1 f0 f1
      all_goals
        cases q
        · have HN := Lib.hid (HNO.out (fun h1 => by have := HMEM.out.2 h1; simp at this))
          go_wp2_with fail
          go_roundw
          case rel => exact ⟨k + 1, by omega, by go_num, HN, HB.out⟩
          case measure => simp [intOf]; omega
        · have HN := Lib.hid (HYES.out (HMEM.out.1 rfl))
          go_wp2_with fail
          go_ret
          exact ⟨.inl ⟨HN.out, rfl⟩, HB.out⟩
    · have HE := Lib.hid (show l.Nodup from by have := HND.out; rwa [List.take_of_length_le (by omega)] at this)
      go_wp2_with fail
      go_ret
      exact ⟨.inr ⟨fun h => h HE.out, rfl⟩, HBR.out⟩
end Go.Proofs.YtgkoknckaajgmaaGreatDoor

/- xmltree: split, declares and blank. -/
namespace Go.Proofs.YtgkoknckaajgmaaGreatDoor
open Go Go.RowKit Go.Deep Go.Shelf
set_option linter.unusedVariables false
set_option linter.unusedSimpArgs false

def cutC : List UInt8 → List UInt8 × List UInt8
  | [] => ([], [])
  | c :: r => if c = 58 then ([], r) else (c :: (cutC r).1, (cutC r).2)
theorem cutC_none (l : List UInt8) (h : (58 : UInt8) ∉ l) : cutC l = (l, []) := by
  induction l with
  | nil => rfl
  | cons c r ih =>
    have hc : c ≠ 58 := fun e => h (by simp [e])
    rw [cutC, if_neg hc, ih (fun e => h (by simp [e]))]
theorem cutC_of (a b : List UInt8) (h : (58 : UInt8) ∉ a) : cutC (a ++ 58 :: b) = (a, b) := by
  induction a with
  | nil => simp [cutC]
  | cons c r ih =>
    have hc : c ≠ 58 := fun e => h (by simp [e])
    rw [List.cons_append, cutC, if_neg hc, ih (fun e => h (by simp [e]))]
/-- The prefix of a tag name, and the rest. -/
def splM (l : List UInt8) : List UInt8 × List UInt8 := if 58 ∈ l then cutC l else ([], l)
theorem idxT_cases (c : UInt8) (l : List UInt8) : (Lib.indexByte l c = -1 ∧ c ∉ l) ∨ ∃ k : Nat, Lib.indexByte l c = (k : Int) ∧ k < l.length ∧ c ∉ l.take k ∧ l = l.take k ++ c :: l.drop (k + 1) := by
  induction l with
  | nil => exact .inl ⟨rfl, by simp⟩
  | cons a r ih =>
    unfold Lib.indexByte
    by_cases h : a = c
    · subst h
      exact .inr ⟨0, by simp, by simp, by simp, by simp⟩
    · rcases ih with ⟨hi, hn⟩ | ⟨k, hi, hk, hn, hc⟩
      · have h' : (a == c) = false := beq_eq_false_iff_ne.2 h
        exact .inl ⟨by rw [h', hi]; rfl, by simp [hn, Ne.symm h]⟩
      · have h' : (a == c) = false := beq_eq_false_iff_ne.2 h
        have h2 : ((k : Int) == -1) = false := by rw [beq_eq_false_iff_ne]; omega
        refine .inr ⟨k + 1, ?_, by simp; omega, by simp [hn, Ne.symm h], by simpa using hc⟩
        rw [h', hi, h2]
        rfl
theorem cutToT (s : ByteArray) (z : Nat) : s.extract 0 z = ⟨(s.data.toList.take z).toArray⟩ := by
  apply ByteArray.ext
  rw [ByteArray.data_extract]
  apply Array.toList_inj.1
  rw [Array.toList_extract, List.extract_eq_take_drop]
  simp
theorem cutFromT (s : ByteArray) (k : Nat) : s.extract k s.size = ⟨(s.data.toList.drop k).toArray⟩ := by
  apply ByteArray.ext
  rw [ByteArray.data_extract]
  apply Array.toList_inj.1
  rw [Array.toList_extract, List.extract_eq_take_drop]
  show _ = s.data.toList.drop k
  rw [List.take_of_length_le (by rw [List.length_drop, Array.length_toList]; exact Nat.le_refl _)]

set_option maxRecDepth 100000 in
theorem cut1C_c (s : ByteArray) (hs : s.size ≤ 140737488355328) (w : World) : Calls Tryz.prog 142 #[.string s, .string ⟨#[58]⟩] w fun e w' =>
    e = .returned (.tuple #[.string ⟨(cutC s.data.toList).1.toArray⟩, .string ⟨(cutC s.data.toList).2.toArray⟩, .bool (decide (58 ∈ s.data.toList))]) ∧ ∃ q, w' = w.drewN q := by
  have hrl : s.data.toList.length = s.size := Array.length_toList
  rcases idxT_cases 58 s.data.toList with ⟨hi, hnot⟩ | ⟨k, hi, hk, hnot, hcut⟩
  · have HC := Lib.hid (fun w => Tryz.stringslite_Index_one s 58 w)
    rw [hi] at HC
    have HH := Lib.hid (cutC_none _ hnot)
    have HD := Lib.hid (show decide ((58 : UInt8) ∈ s.data.toList) = false from decide_eq_false hnot)
    clear hi hnot hrl
    go_enter Tryz.func142, Tryz.ntmps142
    go_wp2_with (go_at_call 150; refine (HC.out _).mono ?_; rintro e w' ⟨rfl, rfl⟩)
    go_ret3
    exact ⟨by rw [HH.out, HD.out]; rfl, 0, rfl⟩
  · have HC := Lib.hid (fun w => Tryz.stringslite_Index_one s 58 w)
    rw [hi] at HC
    have hh : cutC s.data.toList = (s.data.toList.take k, s.data.toList.drop (k + 1)) := by
      conv => lhs; rw [hcut]
      exact cutC_of _ _ hnot
    have HH := Lib.hid hh
    have HD := Lib.hid (show decide ((58 : UInt8) ∈ s.data.toList) = true from decide_eq_true (by rw [hcut]; simp))
    have hk0 : k ≤ s.size := by omega
    have hk1 : k + 1 ≤ s.size := by omega
    clear hi hnot hrl hcut hk hh
    go_enter Tryz.func142, Tryz.ntmps142
    go_wp2_with (go_at_call 150; refine (HC.out _).mono ?_; rintro e w' ⟨rfl, rfl⟩)
    go_quiet (fail)
    go_wp2_with fail
    go_ret3
    exact ⟨by rw [HH.out, HD.out, ← cutToT, ← cutFromT]; rfl, _, rfl⟩
set_option maxRecDepth 100000 in
theorem cutC_c (s : ByteArray) (hs : s.size ≤ 140737488355328) (w : World) : Calls Tryz.prog 126 #[.string s, .string ⟨#[58]⟩] w fun e w' =>
    e = .returned (.tuple #[.string ⟨(cutC s.data.toList).1.toArray⟩, .string ⟨(cutC s.data.toList).2.toArray⟩, .bool (decide (58 ∈ s.data.toList))]) ∧ ∃ q, w' = w.drewN q := by
  have HC := fun w => cut1C_c s hs w
  generalize (⟨(cutC s.data.toList).1.toArray⟩ : ByteArray) = A at *
  generalize (⟨(cutC s.data.toList).2.toArray⟩ : ByteArray) = D at *
  generalize decide ((58 : UInt8) ∈ s.data.toList) = b at *
  have HC' := Lib.hid HC
  clear HC
  go_enter Tryz.func126, Tryz.ntmps126
  go_wp2_with (go_at_call 142; refine (HC'.out _).mono ?_; rintro e w' ⟨rfl, q, rfl⟩)
  go_ret3
  exact ⟨rfl, _, rfl⟩
set_option maxRecDepth 100000 in
theorem split_c (w : World) (s : ByteArray) (hs : s.size ≤ 140737488355328) : Calls Tryz.prog 100 #[.string s] w fun e w' =>
    e = .returned (.tuple #[.string ⟨(splM s.data.toList).1.toArray⟩, .string ⟨(splM s.data.toList).2.toArray⟩]) ∧ Below w.heap.size w w' := by
  have HC := Lib.hid (fun w => cutC_c s hs w)
  by_cases h : (58 : UInt8) ∈ s.data.toList
  · have HM := Lib.hid (show splM s.data.toList = cutC s.data.toList from if_pos h)
    rw [decide_eq_true h] at HC
    go_enter Tryz.func100, Tryz.ntmps100
    go_wp2_with (go_at_call 126; refine (HC.out _).mono ?_; rintro e w' ⟨rfl, q, rfl⟩)
    go_ret2
    exact ⟨by rw [HM.out]; rfl, below_drewN (Below.refl _ _) _⟩
  · have HM := Lib.hid (show splM s.data.toList = ([], s.data.toList) from if_neg h)
    rw [decide_eq_false h] at HC
    go_enter Tryz.func100, Tryz.ntmps100
    go_wp2_with (go_at_call 126; refine (HC.out _).mono ?_; rintro e w' ⟨rfl, q, rfl⟩)
    go_ret2
    exact ⟨by rw [HM.out]; rfl, below_drewN (Below.refl _ _) _⟩
/-- Whether an attribute declares, and which prefix. -/
def dclM (l : List UInt8) : List UInt8 × Bool := if l = [120, 109, 108, 110, 115] then ([], true) else (Lib.trimPrefix l [120, 109, 108, 110, 115, 58], Lib.hasPrefix l [120, 109, 108, 110, 115, 58])
set_option maxRecDepth 100000 in
theorem declares_c (w : World) (s : ByteArray) : Calls Tryz.prog 98 #[.string s] w fun e w' =>
    e = .returned (.tuple #[.string ⟨(dclM s.data.toList).1.toArray⟩, .bool (dclM s.data.toList).2]) ∧ w' = w := by
  have HC := Lib.hid (fun w => Tryz.strings_CutPrefix s ⟨#[120, 109, 108, 110, 115, 58]⟩ w)
  have hs : s.toList = s.data.toList := by rw [ByteArray.toList_eq]
  by_cases h : s.data.toList = [120, 109, 108, 110, 115]
  · have HM := Lib.hid (show dclM s.data.toList = ([], true) from if_pos h)
    have he : (s.data.toList == [120, 109, 108, 110, 115]) = true := by rw [beq_iff_eq]; exact h
    clear h
    go_enter Tryz.func98, Tryz.ntmps98
    go_wp2_with fail
    go_ret2
    exact ⟨by rw [HM.out]; rfl, rfl⟩
  · have HM := Lib.hid (show dclM s.data.toList = (Lib.trimPrefix s.data.toList [120, 109, 108, 110, 115, 58], Lib.hasPrefix s.data.toList [120, 109, 108, 110, 115, 58]) from if_neg h)
    have he : (s.data.toList == [120, 109, 108, 110, 115]) = false := by rw [beq_eq_false_iff_ne]; exact h
    clear h
    go_enter Tryz.func98, Tryz.ntmps98
    go_wp2_with (go_at_call 125; refine (HC.out _).mono ?_; rintro e w' ⟨rfl, rfl⟩)
    go_ret2
    exact ⟨by rw [HM.out]; rfl, rfl⟩
end Go.Proofs.YtgkoknckaajgmaaGreatDoor

/- xmltree: next, where it reads a token. -/
namespace Go.Proofs.YtgkoknckaajgmaaGreatDoor
open Go Go.RowKit Go.Deep Go.Shelf
set_option linter.unusedVariables false
set_option linter.unusedSimpArgs false

theorem AtsIs.below {w w' : World} {v : Value} {l : List (List UInt8 × List UInt8)} (h : AtsIs w v l) (hb : Below w.heap.size w w') : AtsIs w' v l := by
  obtain ⟨p, c, hv, h1, h2, h3, h4⟩ := h
  refine ⟨p, c, hv, h1, h2, h3, fun hp => ?_⟩
  obtain ⟨b, o, hbo, hx⟩ := h4 hp
  exact ⟨b, o, hbo, fun j u hu => chg_cell (pb := b + 1) (Chg.of_below hb) (hx j u hu) (by omega)⟩
/-- The parser at a place. -/
structure PS (w0 : World) (pb : Nat) (bv sv : Value) (a : Nat) (w : World) : Prop where
  bel : Below w0.heap.size w0 w
  low : w0.heap.size ≤ pb
  box : w.heap[pb]? = some (.cells #[bv, .int .i64 a, sv] 50 (0, 0))
theorem PS.lt {w0 : World} {pb : Nat} {bv sv : Value} {a : Nat} {w : World} (h : PS w0 pb bv sv a w) : pb < w.heap.size := (Array.getElem?_eq_some_iff.1 h.box).1
theorem PS.below {w0 : World} {pb : Nat} {bv sv : Value} {a : Nat} {w w' : World} (h : PS w0 pb bv sv a w) (hb : Below w.heap.size w w') : PS w0 pb bv sv a w' := ⟨h.bel.trans (hb.mono h.bel.size), h.low, (hb.block _ h.lt).trans h.box⟩
theorem PS.seek {w0 : World} {pb : Nat} {bv sv : Value} {a : Nat} {w : World} (h : PS w0 pb bv sv a w) (k : Nat) : PS w0 pb bv sv k (w.setCell ⟨pb, 1, none⟩ (.int .i64 k)) :=
  ⟨h.bel.setCell (p := ⟨pb, 1, none⟩) h.low _, h.low, by rw [block_set _ _ _ _ _ _ _ h.box]; rfl⟩
theorem cellsP3 {w : World} {b : Nat} {c0 c1 c2 : Value} {T : TypeId} (h : w.heap[b]? = some (.cells #[c0, c1, c2] T (0, 0))) : w.cell? ⟨b, 0, none⟩ = some c0 ∧ w.cell? ⟨b, 1, none⟩ = some c1 ∧ w.cell? ⟨b, 2, none⟩ = some c2 ∧ (∀ o, w.frozen? ⟨b, o, none⟩ = false) := by
  refine ⟨?_, ?_, ?_, fun o => ?_⟩ <;> simp [World.cell?, World.frozen?, h]
theorem AtsIs.away {w w' : World} {v : Value} {l : List (List UInt8 × List UInt8)} {pb : Nat} {p p' : Option Addr} {n n' c c' : Nat} {i : Int} (h : AtsIs w v l) (hb : w.heap[pb]? = some (.cells #[.slice p n c, .int .i64 i, .slice p' n' c'] 50 (0, 0))) (hk : Chg [pb] w w') : AtsIs w' v l := by
  obtain ⟨q, d, e, h1, h2, h3, h4⟩ := h
  refine ⟨q, d, e, h1, h2, h3, fun hp => ?_⟩
  obtain ⟨b, o, hq, hx⟩ := h4 hp
  refine ⟨b, o, hq, fun j u hu => ?_⟩
  have hc := hx j u hu
  have hne : b ≠ pb := by
    rintro rfl
    have hs : ∃ s, u = .string s := by
      have := List.mem_of_getElem? hu
      rw [List.mem_flatMap] at this
      obtain ⟨x, _, hx2⟩ := this
      simp at hx2
      rcases hx2 with h9 | h9 <;> exact ⟨_, h9⟩
    obtain ⟨s, rfl⟩ := hs
    simp only [World.cell?, hb] at hc
    rcases ho : o + j with _ | _ | _ | m
    · simp [ho] at hc
    · simp [ho] at hc
    · simp [ho] at hc
    · simp [ho] at hc
  rw [World.cell?_of_block (hk.block b (World.block_lt_of_cell? w _ hc) (by simpa using hne))]
  exact hc
theorem flat_at0 (l : List (List UInt8 × List UInt8)) (h : 0 < l.length) : (l.flatMap fun x => [Value.string ⟨x.1.toArray⟩, Value.string ⟨x.2.toArray⟩])[0]? = some (strLx l[0].1) := by
  cases l with
  | nil => simp at h
  | cons x r => rfl
theorem flat_at1 (l : List (List UInt8 × List UInt8)) (h : 0 < l.length) : (l.flatMap fun x => [Value.string ⟨x.1.toArray⟩, Value.string ⟨x.2.toArray⟩])[1]? = some (strLx l[0].2) := by
  cases l with
  | nil => simp at h
  | cons x r => rfl
/-- A token's box holds no attributes. -/
theorem AtsIs.tok {w w' : World} {v : Value} {l : List (List UInt8 × List UInt8)} {b0 : Nat} (h : AtsIs w v l) (hb : w.heap[b0]? = some (.cells #[.int .i64 0, .string ⟨#[]⟩, .slice none 0 0, .bool false, .string ⟨#[]⟩, .int .i64 0] 75 (0, 0))) (hk : Chg [b0] w w') : AtsIs w' v l := by
  obtain ⟨q, d, e, h1, h2, h3, h4⟩ := h
  refine ⟨q, d, e, h1, h2, h3, fun hp => ?_⟩
  obtain ⟨b, o, hq, hx⟩ := h4 hp
  refine ⟨b, o, hq, fun j u hu => ?_⟩
  have hc := hx j u hu
  have hne : b ≠ b0 := by
    rintro rfl
    have c0 := hx 0 (strLx l[0].1) (flat_at0 l hp)
    have c1 := hx 1 (strLx l[0].2) (flat_at1 l hp)
    simp only [World.cell?, hb] at c0 c1
    match o, c0, c1 with
    | 0, c0, c1 => simp at c0
    | 1, c0, c1 => simp at c1
    | 2, c0, c1 => simp at c0
    | 3, c0, c1 => simp at c0
    | 4, c0, c1 => simp at c1
    | 5, c0, c1 => simp at c0
    | m + 6, c0, c1 => simp at c0
  rw [World.cell?_of_block (hk.block b (World.block_lt_of_cell? w _ hc) (by simpa using hne))]
  exact hc
theorem infoTok6 : (Tryz.prog.info? 75).map (·.size) = some 6 := by kernel_rfl
abbrev ZTok : Obj := .cells #[.int .i64 0, .string ⟨#[]⟩, .slice none 0 0, .bool false, .string ⟨#[]⟩, .int .i64 0] 75
abbrev put6 (w : World) (b : Nat) (c0 c1 c2 c3 c4 c5 : Value) : World := (((((w.setCell ⟨b, 0, none⟩ c0).setCell ⟨b, 1, none⟩ c1).setCell ⟨b, 2, none⟩ c2).setCell ⟨b, 3, none⟩ c3).setCell ⟨b, 4, none⟩ c4).setCell ⟨b, 5, none⟩ c5
theorem put6_at {w : World} {b : Nat} {z0 z1 z2 z3 z4 z5 : Value} {T : TypeId} (h : w.heap[b]? = some (.cells #[z0, z1, z2, z3, z4, z5] T (0, 0))) (c0 c1 c2 c3 c4 c5 : Value) : (put6 w b c0 c1 c2 c3 c4 c5).heap[b]? = some (.cells #[c0, c1, c2, c3, c4, c5] T (0, 0)) := by
  have h0 : (w.setCell ⟨b, 0, none⟩ c0).heap[b]? = some (.cells #[c0, z1, z2, z3, z4, z5] T (0, 0)) := by rw [block_set _ _ _ _ _ _ _ h]; rfl
  have h1 : ((w.setCell ⟨b, 0, none⟩ c0).setCell ⟨b, 1, none⟩ c1).heap[b]? = some (.cells #[c0, c1, z2, z3, z4, z5] T (0, 0)) := by rw [block_set _ _ _ _ _ _ _ h0]; rfl
  have h2 : (((w.setCell ⟨b, 0, none⟩ c0).setCell ⟨b, 1, none⟩ c1).setCell ⟨b, 2, none⟩ c2).heap[b]? = some (.cells #[c0, c1, c2, z3, z4, z5] T (0, 0)) := by rw [block_set _ _ _ _ _ _ _ h1]; rfl
  have h3 : ((((w.setCell ⟨b, 0, none⟩ c0).setCell ⟨b, 1, none⟩ c1).setCell ⟨b, 2, none⟩ c2).setCell ⟨b, 3, none⟩ c3).heap[b]? = some (.cells #[c0, c1, c2, c3, z4, z5] T (0, 0)) := by rw [block_set _ _ _ _ _ _ _ h2]; rfl
  have h4 : (((((w.setCell ⟨b, 0, none⟩ c0).setCell ⟨b, 1, none⟩ c1).setCell ⟨b, 2, none⟩ c2).setCell ⟨b, 3, none⟩ c3).setCell ⟨b, 4, none⟩ c4).heap[b]? = some (.cells #[c0, c1, c2, c3, c4, z5] T (0, 0)) := by rw [block_set _ _ _ _ _ _ _ h3]; rfl
  rw [block_set _ _ _ _ _ _ _ h4]; rfl
theorem put6_chg (w : World) (b : Nat) (c0 c1 c2 c3 c4 c5 : Value) : Chg [b] w (put6 w b c0 c1 c2 c3 c4 c5) := (((((((Chg.refl [b] w).set' _ _ _ (.inl (by simp))).set' _ _ _ (.inl (by simp))).set' _ _ _ (.inl (by simp))).set' _ _ _ (.inl (by simp))).set' _ _ _ (.inl (by simp))).set' _ _ _ (.inl (by simp)))
/-- A token is handed out. -/
theorem next_end {w0 w w2 : World} {pb : Nat} {p p' ps : Option Addr} {n n' c c' cs : Nat} {a k N : Nat} {t : Tk} (h : PS w0 pb (.slice p n c) (.slice p' n' c') a w) (hb : Below w.heap.size w w2) (hz : w2.heap[w.heap.size]? = some ZTok) (hat : AtsIs w2 (.slice ps t.attrs.length cs) t.attrs) (o : Obj) (q : Nat) (S1 S2 : ByteArray) (hN : N = t.attrs.length) :
    ((put6 (w2.setCell ⟨pb, 1, none⟩ (.int .i64 k)) w.heap.size (.int .i64 (t.kind : Nat)) (.string S1) (.slice ps N cs) (.bool t.empty) (.string S2) (.int .i64 (q : Nat))).alloc o).heap[w.heap.size]? = some (.cells #[.int .i64 (t.kind : Nat), .string S1, .slice ps N cs, .bool t.empty, .string S2, .int .i64 (q : Nat)] 75 (0, 0)) ∧
    AtsIs ((put6 (w2.setCell ⟨pb, 1, none⟩ (.int .i64 k)) w.heap.size (.int .i64 (t.kind : Nat)) (.string S1) (.slice ps N cs) (.bool t.empty) (.string S2) (.int .i64 (q : Nat))).alloc o) (.slice ps N cs) t.attrs ∧
    PS w0 pb (.slice p n c) (.slice p' n' c') k ((put6 (w2.setCell ⟨pb, 1, none⟩ (.int .i64 k)) w.heap.size (.int .i64 (t.kind : Nat)) (.string S1) (.slice ps N cs) (.bool t.empty) (.string S2) (.int .i64 (q : Nat))).alloc o) ∧
    Chg [pb] w ((put6 (w2.setCell ⟨pb, 1, none⟩ (.int .i64 k)) w.heap.size (.int .i64 (t.kind : Nat)) (.string S1) (.slice ps N cs) (.bool t.empty) (.string S2) (.int .i64 (q : Nat))).alloc o) := by
  subst hN
  have hpl := h.lt
  have hzl : w.heap.size < w2.heap.size := (Array.getElem?_eq_some_iff.1 hz).1
  have h2 := h.below hb
  have h3 := h2.seek k
  have hz2 : (w2.setCell ⟨pb, 1, none⟩ (.int .i64 k)).heap[w.heap.size]? = some ZTok := by
    rw [Below.heap_setCell _ _ _ _ (by simp; omega)]
    exact hz
  have hc := put6_chg (w2.setCell ⟨pb, 1, none⟩ (.int .i64 k)) w.heap.size (.int .i64 (t.kind : Nat)) (.string S1) (.slice ps t.attrs.length cs) (.bool t.empty) (.string S2) (.int .i64 (q : Nat))
  have hba := box_belT (put6 (w2.setCell ⟨pb, 1, none⟩ (.int .i64 k)) w.heap.size (.int .i64 (t.kind : Nat)) (.string S1) (.slice ps t.attrs.length cs) (.bool t.empty) (.string S2) (.int .i64 (q : Nat))) o
  have hat6 := put6_at hz2 (.int .i64 (t.kind : Nat)) (.string S1) (.slice ps t.attrs.length cs) (.bool t.empty) (.string S2) (.int .i64 (q : Nat))
  have hpz : pb ≠ w.heap.size := by omega
  refine ⟨(hba.block _ (Array.getElem?_eq_some_iff.1 hat6).1).trans hat6, ?_, ?_, ?_⟩
  · have a2 := hat.away h2.box ((Chg.refl [pb] _).set' pb 1 (.int .i64 k) (.inl (by simp)))
    exact (a2.tok hz2 hc).below hba
  · have h4 : PS w0 pb (.slice p n c) (.slice p' n' c') k (put6 (w2.setCell ⟨pb, 1, none⟩ (.int .i64 k)) w.heap.size (.int .i64 (t.kind : Nat)) (.string S1) (.slice ps t.attrs.length cs) (.bool t.empty) (.string S2) (.int .i64 (q : Nat))) :=
      ⟨h3.bel.trans (hc.below (B := w0.heap.size) h3.bel.size (fun i hi => by simp at hi; subst hi; exact h.bel.size)), h.low, (hc.block pb h3.lt (by simpa using hpz)).trans h3.box⟩
    exact h4.below hba
  · exact ((((Chg.of_below (S := [pb]) hb).set' pb 1 _ (.inl (by simp))).then hc (fun i hi => by simp at hi; subst hi; exact .inr (Nat.le_refl _))).alloc' o)
/-- How next ends, where it reads a token. -/
def NxtE (w0 w : World) (pb : Nat) (bv sv : Value) (t : Tk) (k a : Nat) (e : Ending) (w' : World) : Prop :=
  ∃ s, e = .returned (.agg #[.int .i64 (t.kind : Nat), .string ⟨t.name.toArray⟩, s, .bool t.empty, .string ⟨t.text.toArray⟩, .int .i64 (a : Nat)]) ∧ AtsIs w' s t.attrs ∧ PS w0 pb bv sv k w' ∧ Chg [pb] w w'
set_option maxRecDepth 100000 in
set_option maxHeartbeats 4000000 in
theorem pnext_c {w0 w : World} (hw0 : BW w0) {pb : Nat} {p p' : Option Addr} {n n' c c' : Nat} {xs : List UInt8} {a k q r : Nat} {t : Tk} (hr : Rd w0 (.slice p n c) xs) (hl : xs.length ≤ 1048576) (h : PS w0 pb (.slice p n c) (.slice p' n' c') a w)
    (hs : skA insP xs a = (q, r)) (hn : nxt insP opnP cloP xs q = (t, k, 0)) :
    Calls Tryz.prog 38 #[.pointer (some ⟨pb, 0, none⟩)] w (NxtE w0 w pb (.slice p n c) (.slice p' n' c') t k q) := by
  have hz : Below w.heap.size w (w.alloc ZTok) := box_belT w ZTok
  have hzw : ∀ W, Below (w.alloc ZTok).heap.size (w.alloc ZTok) W → Below w.heap.size w W := fun W hb => hz.trans (hb.mono hz.size)
  have HZW := Lib.hid hzw
  have HSK := Lib.hid (fun (W : World) (hb : Below (w.alloc ZTok).heap.size (w.alloc ZTok) W) => xskip_c ((hw0.below h.bel).below (hzw W hb)) ((hr.below h.bel).below (hzw W hb)) hl (a : Int))
  have HNX := Lib.hid (fun (W : World) (hb : Below (w.alloc ZTok).heap.size (w.alloc ZTok) W) => next_c ((hw0.below h.bel).below (hzw W hb)) ((hr.below h.bel).below (hzw W hb)) hl (q : Int))
  rw [hs] at HSK
  rw [hn] at HNX
  have HSK2 := Lib.hid (fun (W : World) (hb : Below (w.alloc ZTok).heap.size (w.alloc ZTok) W) => (HSK.out W hb).mono (R' := fun e w' => e = Ending.returned (.tuple #[.int .i64 (q : Nat), .int .i64 (r : Nat)]) ∧ Below (w.alloc ZTok).heap.size (w.alloc ZTok) w') (fun e w' hh => show e = Ending.returned (.tuple #[.int .i64 (q : Nat), .int .i64 (r : Nat)]) ∧ Below (w.alloc ZTok).heap.size (w.alloc ZTok) w' from ⟨hh.1, hb.trans (hh.2.mono hb.size)⟩))
  have HP := Lib.hid h
  have HZ := Lib.hid (Below.refl (w.alloc ZTok).heap.size (w.alloc ZTok))
  have hpl := h.lt
  obtain ⟨x0, x1, x2, xz⟩ := cellsP3 ((hz.block _ hpl).trans h.box)
  obtain ⟨S1, hS1⟩ : ∃ S1, S1 = (⟨t.name.toArray⟩ : ByteArray) := ⟨_, rfl⟩
  obtain ⟨S2, hS2⟩ : ∃ S2, S2 = (⟨t.text.toArray⟩ : ByteArray) := ⟨_, rfl⟩
  have HN1 := Lib.hid hS1
  have HN2 := Lib.hid hS2
  clear hw0 hr hl h hs hn hz hS1 hS2 hzw
  go_enter Tryz.func38, Tryz.ntmps38
  go_wp2_with fail
  go_region_with (go_at_call 69; refine (HSK2.out _ (by first | exact HZ.out | exact HZ.out.drew | exact below_drewN HZ.out _)).mono ?_; rintro e w1 ⟨rfl, hb1⟩; have HB1 := Lib.hid hb1; obtain ⟨y0, y1, y2, yz⟩ := cellsP3 (((HZW.out _ hb1).block _ hpl).trans HP.out.box); clear hb1)
  all_goals
    clear x0 x1 x2 xz
    go_wp2_with fail
    refine (HNX.out _ (by first | exact HB1.out | exact HB1.out.drew | exact below_drewN HB1.out _)).mono ?_
    rintro e w2 ⟨v, rfl, ⟨s, rfl, hat⟩, hb2, hkl⟩
    have hb2' : Below w1.heap.size w1 w2 := ⟨hb2.os, hb2.tape, hb2.output, hb2.size, hb2.block⟩
    have hb3 := HB1.out.trans (hb2'.mono HB1.out.size)
    obtain ⟨ps, cs, hsv, -⟩ := hat.form
    have HAT := Lib.hid hat
    have HB3 := Lib.hid (HZW.out _ hb3)
    clear y0 y1 y2 yz hb2 hb2' hkl hat
    subst hsv
    dsimp only at HAT
    obtain ⟨N, hN⟩ : ∃ N, N = t.attrs.length := ⟨_, rfl⟩
    have HN := Lib.hid hN
    rw [← hN] at HAT
    dsimp only
    rw [← HN1.out, ← HN2.out, ← hN]
    obtain ⟨y0, y1, y2, yz⟩ := cellsP3 (((HZW.out _ hb3).block _ hpl).trans HP.out.box)
    have hzz : w2.heap[w.heap.size]? = some ZTok := (hb3.block _ (by simp)).trans (heap_alloc_new w ZTok)
    have hzl : w.heap.size < w2.heap.size := (Array.getElem?_eq_some_iff.1 hzz).1
    have hpl2 : pb < w2.heap.size := by omega
    have HEND := Lib.hid (next_end (t := t) (k := k) HP.out HB3.out hzz (by have h9 := HAT.out; rw [HN.out] at h9; exact h9) (.cells #[.int .i64 (t.kind : Nat), .string S1, .slice ps N cs, .bool t.empty, .string S2] 57) q S1 S2 HN.out)
    obtain ⟨z0, z1, z2, z3, z4, z5, zz⟩ := cellsE6 hzz
    clear hb3 hN hzz
    go_wp2_with fail
    refine bodyPost_ret (results_cell_row Tryz.results38 _ _ w.heap.size 75 _ (0, 0) _ rfl HEND.out.1 Tryz.underlying75 rfl infoTok6) rfl ?_
    exact ⟨_, by rw [HN1.out, HN2.out], HEND.out.2.1, HEND.out.2.2.1, HEND.out.2.2.2⟩
end Go.Proofs.YtgkoknckaajgmaaGreatDoor
