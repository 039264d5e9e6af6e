/- xmltree: the names of a tag's attributes, as they are written; the keys of attributes. -/
import Derived.Test.YtpcajjbdlfookaaGreatDoorMw27
import Derived.Test.YtpcajjbdlfookaaGreatDoorMw24
namespace Go.Proofs.YtpcajjbdlfookaaGreatDoor
open Go Go.RowKit Go.Deep
set_option linter.unusedVariables false
set_option linter.unusedSimpArgs false
/-- A token with its place, as cells. -/
abbrev tokP (t : Tk) (s : Value) (at_ : Int) : Value := .agg #[.int .i64 (t.kind : Nat), .string ⟨t.name.toArray⟩, s, .bool t.empty, .string ⟨t.text.toArray⟩, .int .i64 at_]
abbrev strLx (x : List UInt8) : Value := .string ⟨x.toArray⟩
theorem infoStr : (Tryz.prog.info? 9).map (fun i => (i.zero, i.size, i.bytes)) = some (some (.string ⟨#[]⟩), 1, 16) := by kernel_rfl
theorem infoStrX : ∃ i0, Tryz.prog.info? 9 = some i0 ∧ i0.zero = some (.string ⟨#[]⟩) ∧ i0.size = 1 ∧ i0.bytes = 16 := by
  have h := infoStr
  cases hi : Tryz.prog.info? 9 with
  | none => rw [hi] at h; simp at h
  | some i =>
    rw [hi] at h
    simp at h
    exact ⟨i, rfl, h.1, h.2.1, h.2.2⟩
theorem infoKey : (Tryz.prog.info? 90).map (fun i => (i.zero, i.size, i.bytes)) = some (some (.agg #[.string ⟨#[]⟩, .string ⟨#[]⟩]), 2, 32) := by kernel_rfl
theorem infoKeyX : ∃ i0, Tryz.prog.info? 90 = some i0 ∧ i0.zero = some (.agg #[.string ⟨#[]⟩, .string ⟨#[]⟩]) ∧ i0.size = 2 ∧ i0.bytes = 32 := by
  have h := infoKey
  cases hi : Tryz.prog.info? 90 with
  | none => rw [hi] at h; simp at h
  | some i =>
    rw [hi] at h
    simp at h
    exact ⟨i, rfl, h.1, h.2.1, h.2.2⟩
theorem cellsE6 {w : World} {b : Nat} {c0 c1 c2 c3 c4 c5 : Value} {T : TypeId} (h : w.heap[b]? = some (.cells #[c0, c1, c2, c3, c4, c5] T (0, 0))) : w.cell? ⟨b, 0, none⟩ = some c0 ∧ w.cell? ⟨b, 1, none⟩ = some c1 ∧ w.cell? ⟨b, 2, none⟩ = some c2 ∧ w.cell? ⟨b, 3, none⟩ = some c3 ∧ w.cell? ⟨b, 4, none⟩ = some c4 ∧ w.cell? ⟨b, 5, none⟩ = some c5 ∧ (∀ o, w.frozen? ⟨b, o, none⟩ = false) := by
  refine ⟨?_, ?_, ?_, ?_, ?_, ?_, fun o => ?_⟩ <;> simp [World.cell?, World.frozen?, h]
theorem AtsIs.at {w : World} {v : Value} {l : List (List UInt8 × List UInt8)} (h : AtsIs w v l) {k : Nat} (hk : k < l.length) : ∃ b o c, v = .slice (some ⟨b, o, none⟩) l.length c ∧ b < w.heap.size ∧ w.cell? ⟨b, o + k * 2, none⟩ = some (strLx l[k].1) ∧ w.cell? ⟨b, o + k * 2 + 1, none⟩ = some (strLx l[k].2) := by
  obtain ⟨p, c, e, h1, h2, h3, h4⟩ := h
  obtain ⟨b, o, hp, hx⟩ := h4 (by omega)
  have hf : ∀ j, j < 2 → (l.flatMap fun x => [Value.string ⟨x.1.toArray⟩, Value.string ⟨x.2.toArray⟩])[k * 2 + j]? = [strLx l[k].1, strLx l[k].2][j]? := fun j hj => flat_at (f := fun x : List UInt8 × List UInt8 => [Value.string ⟨x.1.toArray⟩, Value.string ⟨x.2.toArray⟩]) (fun x => rfl) l k j hk hj
  have c0 := hx (k * 2 + 0) _ (hf 0 (by omega))
  have c1 := hx (k * 2 + 1) _ (hf 1 (by omega))
  exact ⟨b, o, c, by rw [e, hp], World.block_lt_of_cell? w _ c0, c0, by rw [Nat.add_assoc]; exact c1⟩
theorem AtsIs.form {w : World} {v : Value} {l : List (List UInt8 × List UInt8)} (h : AtsIs w v l) : ∃ p c, v = .slice p l.length c ∧ l.length ≤ c ∧ c ≤ maxLen := by
  obtain ⟨p, c, e, h1, h2, _⟩ := h
  exact ⟨p, c, e, h1, h2⟩

set_option maxRecDepth 100000 in
set_option maxHeartbeats 2000000 in
theorem written_c (w : World) (k0 t0 m0 x0 f0 : Value) (s : Value) (l : List (List UInt8 × List UInt8)) (h : AtsIs w s l) (hl : l.length ≤ 1048576) : Calls Tryz.prog 87 #[.agg #[k0, t0, s, m0, x0, f0]] w fun e w' => ∃ v', e = .returned v' ∧ w'.ownsRow w.heap.size 9 1 v' l.length (l.map fun x => strLx x.1) ∧ Below w.heap.size w w' := by
  obtain ⟨i0, hi, hz0, hz1, hz2⟩ := infoStrX
  obtain ⟨pa, ca, hav, hla, hma⟩ := h.form
  have H1 := Lib.hid h
  subst hav
  obtain ⟨N, hN⟩ : ∃ N, N = l.length := ⟨_, rfl⟩
  rw [← hN] at hl H1 ⊢
  have HN := Lib.hid hN
  have HB0 := Lib.hid (box_belT w (.cells #[k0, t0, .slice pa N ca, m0, x0, f0] 69))
  obtain ⟨z0, z1, z2, z3, z4, z5, zz⟩ := cellsE6 (heap_alloc_new w (.cells #[k0, t0, .slice pa N ca, m0, x0, f0] 69))
  clear h hla hma hN
  go_enter Tryz.func87, Tryz.ntmps87
  go_wp2_with fail
  clear z0 z1 z2 z3 z4 z5 zz
  go_loopw [3, 10] (fun v i wr => ∃ k : Nat, k ≤ N ∧ i = .int .i64 k ∧ Hid (wr.ownsRow w.heap.size 9 1 v k ((l.take k).map fun x => strLx x.1)) ∧ Below w.heap.size w wr) (fun _ i _ => N - (intOf i).toNat)
  case atStart => exact ⟨0, by omega, rfl, Lib.hid (World.ownsRow_nil _ _ _ _), HB0.out⟩
  case round =>
    obtain ⟨k, hk, rfl, HOW, hbr⟩ := hrel
    have HBR := Lib.hid hbr
    clear hbr
    obtain ⟨pv, cv, hv⟩ := rowT_form HOW.out
    subst hv
    by_cases hlt : k < N
    · have hkl : k < l.length := by rw [← HN.out]; exact hlt
      obtain ⟨b, o, cc, hv2, hbl, c0, c1⟩ := H1.out.at hkl
      rw [← HN.out] at hv2
      cases hv2
      have e0 := (HBR.out.cell (p := ⟨b, o + k * 2, none⟩) hbl).trans c0
      have e1 := (HBR.out.cell (p := ⟨b, o + k * 2 + 1, none⟩) hbl).trans c1
      have htake := Lib.hid (show (l.take (k + 1)).map (fun x => strLx x.1) = (l.take k).map (fun x => strLx x.1) ++ [strLx l[k].1] from by rw [List.take_succ_eq_append_getElem hkl, List.map_append]; rfl)
      obtain ⟨T1, hT1⟩ : ∃ T, T = strLx l[k].1 := ⟨_, rfl⟩
      obtain ⟨T2, hT2⟩ : ∃ T, T = strLx l[k].2 := ⟨_, rfl⟩
      obtain ⟨u1, hu1⟩ : ∃ u : ByteArray, T1 = .string u := ⟨_, hT1⟩
      obtain ⟨u2, hu2⟩ : ∃ u : ByteArray, T2 = .string u := ⟨_, hT2⟩
      rw [← hT1] at e0 htake
      rw [← hT2] at e1
      subst hu1 hu2
      have HA := Lib.hid ((box_belT wr (.cells #[.string u1, .string u2] 114)).trans ((box_belT (wr.alloc (.cells #[.string u1, .string u2] 114)) (.cells #[.string u1] 9)).mono (by simp)))
      clear c0 c1 hT1 hT2 hkl
      have hbz := HBR.out.size
      go_wp2_with (at_builtin; go_loud (refine wpList_append_lies _ (by rfl) _ _ 115 (by rfl) w.heap.size 9 i0 (.string ⟨#[]⟩) 1 16 Tryz.underlying115 hi hz0 hz1 hz2 rfl (by omega) (.slice pv k cv) k _ (by rfl) (rowT_below HOW.out (by first | exact HA.out | exact HA.out.drew | exact Go.below_drewN HA.out _)) ⟨wr.heap.size + 1, 0, none⟩ 1 1 [.string u1] (by rfl) (by simp) (World.news_of_block (by simpa using heap_alloc_new (wr.alloc (.cells #[.string u1, .string u2] 114)) (.cells #[.string u1] 9))) (by simp [Value.oneCell']) (by omega) (by unfold maxLen; omega) (by omega) (by simp; omega) (wr.heap.size + 2) (by simp) ?_))
      intro g6 cap6 w6 hown6 hgrow6 hat6 hlt6
      have HPUSH := Lib.hid (show w6.ownsRow w.heap.size 9 1 (.slice (some ⟨g6, 0, none⟩) (k + 1) cap6) (k + 1) ((l.take (k + 1)).map fun x => strLx x.1) ∧ Below w.heap.size w w6 from
        ⟨by rw [htake.out, List.map_take]; exact hown6, (HBR.out.trans (HA.out.mono HBR.out.size)).grown hgrow6 (by simp; omega) (fun b e => by have := rowT_lt HOW.out b e; omega)⟩)
      clear hown6 hgrow6 hat6 hlt6 e0 e1
      go_wp2_with fail
      go_roundw
      case rel => exact ⟨k + 1, by omega, by go_num, Lib.hid HPUSH.out.1, HPUSH.out.2⟩
      case measure => simp [intOf]; omega
    · have hkN : k = N := by omega
      subst hkN
      have HE := Lib.hid (show wr.ownsRow w.heap.size 9 1 (.slice pv k cv) k (l.map fun x => strLx x.1) from by
        have := HOW.out
        rwa [show l.take k = l from by rw [HN.out]; exact List.take_length] at this)
      go_wp2_with fail
      go_ret
      exact ⟨_, rfl, HE.out, HBR.out⟩
/-- The keys of attributes, as cells. -/
def kcells (l : List PT) : List Value := l.flatMap fun p => [.string p.1, .string p.2.1]
theorem PairsR.at' {ok : Nat → Prop} {w : World} {v : Value} {l : List PT} (h : PairsR ok w v l) {k : Nat} (hk : k < l.length) : ∃ b o c, v = .slice (some ⟨b, o, none⟩) l.length c ∧ b < w.heap.size ∧ ok b ∧ w.cell? ⟨b, o + k * 3, none⟩ = some (.string l[k].1) ∧ w.cell? ⟨b, o + k * 3 + 1, none⟩ = some (.string l[k].2.1) ∧ w.cell? ⟨b, o + k * 3 + 2, none⟩ = some (.string l[k].2.2) := by
  obtain ⟨a, c, e, h1, h2, h3, h4⟩ := h
  obtain ⟨b, o, ha, hb, ho, hx⟩ := h4 (by omega)
  obtain ⟨c0, c1, c2⟩ := hx k hk
  exact ⟨b, o, c, by rw [e, ha], hb, ho, c0, c1, c2⟩
set_option maxRecDepth 100000 in
set_option maxHeartbeats 2000000 in
theorem keys_c {ok : Nat → Prop} (w : World) (s : Value) (l : List PT) (h : PairsR ok w s l) (hl : l.length ≤ 1048576) : Calls Tryz.prog 52 #[s] w fun e w' => ∃ v', e = .returned v' ∧ w'.ownsRow w.heap.size 90 2 v' l.length (kcells l) ∧ Below w.heap.size w w' := by
  obtain ⟨i0, hi, hz0, hz1, hz2⟩ := infoKeyX
  obtain ⟨pa, ca, hav, hla, hma⟩ := h.form
  have H1 := Lib.hid h
  subst hav
  obtain ⟨N, hN⟩ : ∃ N, N = l.length := ⟨_, rfl⟩
  rw [← hN] at hl H1 ⊢
  have HN := Lib.hid hN
  clear h hla hma hN
  go_enter Tryz.func52, Tryz.ntmps52
  go_wp2_with fail
  go_loopw [3, 8] (fun v i wr => ∃ k : Nat, k ≤ N ∧ i = .int .i64 k ∧ Hid (wr.ownsRow w.heap.size 90 2 v k (kcells (l.take k))) ∧ Below w.heap.size w wr) (fun _ i _ => N - (intOf i).toNat)
  case atStart => exact ⟨0, by omega, rfl, Lib.hid (World.ownsRow_nil _ _ _ _), Below.refl _ _⟩
  case round =>
    obtain ⟨k, hk, rfl, HOW, hbr⟩ := hrel
    have HBR := Lib.hid hbr
    clear hbr
    obtain ⟨pv, cv, hv⟩ := rowT_form HOW.out
    subst hv
    by_cases hlt : k < N
    · have hkl : k < l.length := by rw [← HN.out]; exact hlt
      obtain ⟨b, o, cc, hv2, hbl, -, c0, c1, c2⟩ := H1.out.at' hkl
      rw [← HN.out] at hv2
      cases hv2
      have e0 := (HBR.out.cell (p := ⟨b, o + k * 3, none⟩) hbl).trans c0
      have e1 := (HBR.out.cell (p := ⟨b, o + k * 3 + 1, none⟩) hbl).trans c1
      have e2 := (HBR.out.cell (p := ⟨b, o + k * 3 + 2, none⟩) hbl).trans c2
      have htake := Lib.hid (show kcells (l.take (k + 1)) = kcells (l.take k) ++ [.string l[k].1, .string l[k].2.1] from by unfold kcells; rw [List.take_succ_eq_append_getElem hkl, List.flatMap_append]; rfl)
      generalize l[k] = x at *
      obtain ⟨u1, u2, u3⟩ := x
      dsimp only at e0 e1 e2 htake
      have HA := Lib.hid ((box_belT wr (.cells #[.string u1, .string u2, .string u3] 58)).trans ((box_belT (wr.alloc (.cells #[.string u1, .string u2, .string u3] 58)) (.cells #[.string u1, .string u2] 90)).mono (by simp)))
      clear c0 c1 c2 hkl
      have hbz := HBR.out.size
      go_wp2_with (at_builtin; go_loud (refine wpList_append_lies _ (by rfl) _ _ 91 (by rfl) w.heap.size 90 i0 (.agg #[.string ⟨#[]⟩, .string ⟨#[]⟩]) 2 32 Tryz.underlying91 hi hz0 hz1 hz2 rfl (by omega) (.slice pv k cv) k _ (by rfl) (rowT_below HOW.out (by first | exact HA.out | exact HA.out.drew | exact Go.below_drewN HA.out _)) ⟨wr.heap.size + 1, 0, none⟩ 1 1 [.string u1, .string u2] (by rfl) (by simp) (World.news_of_block (by simpa using heap_alloc_new (wr.alloc (.cells #[.string u1, .string u2, .string u3] 58)) (.cells #[.string u1, .string u2] 90))) (by simp [Value.oneCell']) (by omega) (by unfold maxLen; omega) (by omega) (by simp; omega) (wr.heap.size + 2) (by simp) ?_))
      intro g6 cap6 w6 hown6 hgrow6 hat6 hlt6
      have HPUSH := Lib.hid (show w6.ownsRow w.heap.size 90 2 (.slice (some ⟨g6, 0, none⟩) (k + 1) cap6) (k + 1) (kcells (l.take (k + 1))) ∧ Below w.heap.size w w6 from
        ⟨by rw [htake.out]; exact hown6, (HBR.out.trans (HA.out.mono HBR.out.size)).grown hgrow6 (by simp; omega) (fun b e => by have := rowT_lt HOW.out b e; omega)⟩)
      clear hown6 hgrow6 hat6 hlt6 e0 e1 e2
      go_wp2_with fail
      go_roundw
      case rel => exact ⟨k + 1, by omega, by go_num, Lib.hid HPUSH.out.1, HPUSH.out.2⟩
      case measure => simp [intOf]; omega
    · have hkN : k = N := by omega
      subst hkN
      have HE := Lib.hid (show wr.ownsRow w.heap.size 90 2 (.slice pv k cv) k (kcells l) from by
        have := HOW.out
        rwa [show l.take k = l from by rw [HN.out]; exact List.take_length] at this)
      go_wp2_with fail
      go_ret
      exact ⟨_, rfl, HE.out, HBR.out⟩
end Go.Proofs.YtpcajjbdlfookaaGreatDoor
