/- xmltree: slices.Index, slices.Contains and twice, at strings and at keys. Written by tools/gentl.py. -/
import Derived.Test.YtpcajjbdlfookaaGreatDoorMw28
import Derived.Test.YtpcajjbdlfookaaGreatDoorMw26
import Derived.BigQuiet
import Derived.Shelf.Lays
import Derived.Shelf.Unicode.ValidAny
import Derived.Test.YtpcajjbdlfookaaGreatDoorProg
namespace Go.Proofs.YtpcajjbdlfookaaGreatDoor
open Go Go.RowKit Go.Deep
set_option linter.unusedVariables false
set_option linter.unusedSimpArgs false

theorem anyG_next {α : Type} {l : List α} {f : α → Bool} {k : Nat} (h : k < l.length) (ht : (l.take k).any f = false) (hb : f l[k] = false) : (l.take (k + 1)).any f = false := by
  rw [List.take_succ_eq_append_getElem h, List.any_append, ht, List.any_cons, hb]
  rfl
theorem anyG_hit {α : Type} {l : List α} {f : α → Bool} {k : Nat} (h : k < l.length) (hb : f l[k] = true) : l.any f = true := List.any_eq_true.2 ⟨l[k], List.getElem_mem h, hb⟩
theorem beq_symT (a b : List UInt8) : (a == b) = (b == a) := by
  rw [Bool.eq_iff_iff, beq_iff_eq, beq_iff_eq]
  exact eq_comm
/-- Strings that can be read. -/
def RdS (w : World) (v : Value) (l : List ByteArray) : Prop :=
  ∃ a c, v = .slice a l.length c ∧ l.length ≤ c ∧ c ≤ maxLen ∧ (0 < l.length → ∃ b o, a = some ⟨b, o, none⟩ ∧ b < w.heap.size ∧ ∀ k (h : k < l.length), w.cell? ⟨b, o + k, none⟩ = some (.string l[k]))
/-- Keys that can be read. -/
def RdK (w : World) (v : Value) (l : List (ByteArray × ByteArray)) : Prop :=
  ∃ a c, v = .slice a l.length c ∧ l.length ≤ c ∧ c ≤ maxLen ∧ (0 < l.length → ∃ b o, a = some ⟨b, o, none⟩ ∧ b < w.heap.size ∧ ∀ k (h : k < l.length), w.cell? ⟨b, o + k * 2, none⟩ = some (.string l[k].1) ∧ w.cell? ⟨b, o + k * 2 + 1, none⟩ = some (.string l[k].2))
theorem RdS.take {w : World} {a : Option Addr} {n c : Nat} {l : List ByteArray} (h : RdS w (.slice a n c) l) {k : Nat} (hk : k ≤ n) : RdS w (.slice a k c) (l.take k) := by
  obtain ⟨a', c', e, h1, h2, h3⟩ := h
  cases e
  have hl : (l.take k).length = k := by rw [List.length_take]; omega
  refine ⟨a, c, by rw [hl], by omega, h2, fun hp => ?_⟩
  obtain ⟨b, o, ha, hb, hx⟩ := h3 (by omega)
  refine ⟨b, o, ha, hb, fun j hj => ?_⟩
  rw [hl] at hj
  rw [List.getElem_take]
  exact hx j (by omega)
theorem RdK.take {w : World} {a : Option Addr} {n c : Nat} {l : List (ByteArray × ByteArray)} (h : RdK w (.slice a n c) l) {k : Nat} (hk : k ≤ n) : RdK w (.slice a k c) (l.take k) := by
  obtain ⟨a', c', e, h1, h2, h3⟩ := h
  cases e
  have hl : (l.take k).length = k := by rw [List.length_take]; omega
  refine ⟨a, c, by rw [hl], by omega, h2, fun hp => ?_⟩
  obtain ⟨b, o, ha, hb, hx⟩ := h3 (by omega)
  refine ⟨b, o, ha, hb, fun j hj => ?_⟩
  rw [hl] at hj
  rw [List.getElem_take]
  exact hx j (by omega)
theorem RdS.below {w w' : World} {v : Value} {l : List ByteArray} (h : RdS w v l) (hb : Below w.heap.size w w') : RdS w' v l := by
  obtain ⟨a, c, e, h1, h2, h3⟩ := h
  refine ⟨a, c, e, h1, h2, fun hp => ?_⟩
  obtain ⟨b, o, ha, hbl, hx⟩ := h3 hp
  exact ⟨b, o, ha, Nat.lt_of_lt_of_le hbl hb.size, fun j hj => (hb.cell (p := ⟨b, o + j, none⟩) hbl).trans (hx j hj)⟩
theorem RdK.below {w w' : World} {v : Value} {l : List (ByteArray × ByteArray)} (h : RdK w v l) (hb : Below w.heap.size w w') : RdK w' v l := by
  obtain ⟨a, c, e, h1, h2, h3⟩ := h
  refine ⟨a, c, e, h1, h2, fun hp => ?_⟩
  obtain ⟨b, o, ha, hbl, hx⟩ := h3 hp
  exact ⟨b, o, ha, Nat.lt_of_lt_of_le hbl hb.size, fun j hj => ⟨(hb.cell (p := ⟨b, o + j * 2, none⟩) hbl).trans (hx j hj).1, (hb.cell (p := ⟨b, o + j * 2 + 1, none⟩) hbl).trans (hx j hj).2⟩⟩
/-- The lists read one another through rows of our own. -/
theorem RdS.ofRow {w : World} {base : Nat} {v : Value} {l : List ByteArray} (h : w.ownsRow base 9 1 v l.length (l.map Value.string)) : RdS w v l := by
  have hf := OwnS.ofRow h
  obtain ⟨p, c, hv, h1, h2, h3⟩ := hf.form
  refine ⟨p, c, hv, h1, h2, fun hp => ?_⟩
  obtain ⟨g, off, c', hv', hg1, hg2, hown⟩ := hf.own1 hp
  rw [hv] at hv'
  cases hv'
  exact ⟨g, off, rfl, hg2, fun k hk => hown.cell k _ (by rw [List.getElem?_map, List.getElem?_eq_getElem hk]; rfl)⟩
theorem RdK.ofRow {w : World} {base : Nat} {v : Value} {l : List (ByteArray × ByteArray)} (h : w.ownsRow base 90 2 v l.length (l.flatMap fun p => [Value.string p.1, Value.string p.2])) : RdK w v l := by
  have hf := OwnS.ofRow h
  obtain ⟨p, c, hv, h1, h2, h3⟩ := hf.form
  refine ⟨p, c, hv, h1, h2, fun hp => ?_⟩
  obtain ⟨g, off, c', hv', hg1, hg2, hown⟩ := hf.own1 hp
  rw [hv] at hv'
  cases hv'
  refine ⟨g, off, rfl, hg2, fun k hk => ?_⟩
  have hx := fun j (hj : j < 2) u (hu : [Value.string l[k].1, Value.string l[k].2][j]? = some u) => hown.cell (k * 2 + j) u (by rw [flat_at (f := fun p : ByteArray × ByteArray => [Value.string p.1, Value.string p.2]) (fun x => rfl) l k j hk hj]; exact hu)
  exact ⟨hx 0 (by omega) _ rfl, by rw [Nat.add_assoc]; exact hx 1 (by omega) _ rfl⟩
theorem fieldsK : (Tryz.prog.fieldsOf 90).toList.map (fun f => (f.name != "_", f.type, f.offset)) = [(true, 9, 0), (true, 9, 1)] := by kernel_rfl
theorem structK : Tryz.prog.underlying 90 = some (.struct (Tryz.prog.fieldsOf 90)) := by kernel_rfl
theorem heldK : Tryz.prog.stoodInHeld 90 = false := by kernel_rfl
theorem run_eqlK (w : World) (s t s' t' : ByteArray) : (binOp .eql 90 (.agg #[.string s, .string t]) (.agg #[.string s', .string t'])).run Tryz.prog w = .ok (.bool (s.toList == s'.toList && t.toList == t'.toList)) w := by
  rw [run_eql_struct, run_equalIn_agg _ _ _ _ _ structK heldK]
  have hf := fieldsK
  generalize (Tryz.prog.fieldsOf 90).toList = fs at hf
  rcases fs with _ | ⟨f0, _ | ⟨f1, _ | ⟨f2, r⟩⟩⟩
  · simp at hf
  · simp at hf
  · simp only [List.map_cons, List.map_nil, List.cons.injEq, Prod.mk.injEq, and_true] at hf
    obtain ⟨⟨n0, t0, o0⟩, n1, t1, o1⟩ := hf
    simp only [Op.eqFields, t0, t1, o0, o1]
    simp only [bne_iff_ne] at n0 n1
    rw [if_pos n0, if_pos n1]
    cases h1 : (s.toList == s'.toList) <;> cases h2 : (t.toList == t'.toList) <;> simp [go_sem, part, h1, h2]
  · simp at hf
/-- How a search ends, and how a test ends. -/
def TwE (p : Prop) (e : Ending) : Prop := (p ∧ e = .returned (.bool true)) ∨ (¬ p ∧ e = .returned (.bool false))

set_option maxRecDepth 100000 in
set_option maxHeartbeats 1000000 in
theorem sindexS_c (w : World) (v : Value) (l : List ByteArray) (h : RdS w v l) (s : ByteArray) :
    Calls Tryz.prog 130 #[v, .string s] w fun e w' => (∃ z : Int, e = .returned (.int .i64 z) ∧ decide (0 ≤ z) = (l.any fun x => (x.toList == s.toList))) ∧ Below w.heap.size w w' := by
  obtain ⟨R, hR⟩ : ∃ R, R = l.any fun x => (x.toList == s.toList) := ⟨_, rfl⟩
  have HR := Lib.hid hR
  rw [← hR]
  obtain ⟨a, c, hv, hlc, hcm, hx⟩ := h
  subst hv
  have HX := Lib.hid hx
  have hn : l.length ≤ 9223372036854775807 := by unfold maxLen at hcm; omega
  skip
  clear hR hlc hcm hx
  go_enter Tryz.func130, Tryz.ntmps130
  go_wp2_with fail
  go_loopw [8] (fun i wr => ∃ k : Nat, k ≤ l.length ∧ i = .int .i64 k ∧ Below w.heap.size w wr ∧ ((l.take k).any fun x => (x.toList == s.toList)) = false) (fun i _ => l.length - (intOf i).toNat)
  case atStart => exact ⟨0, by omega, rfl, Below.refl _ _, by simp⟩
  case round =>
    obtain ⟨k, hk, rfl, hwr, hall⟩ := hrel
    have HW := Lib.hid hwr
    have HAL := Lib.hid hall
    clear hall
    by_cases hlt : k < l.length
    · obtain ⟨b, o, ha, hbl, hc⟩ := HX.out (by omega)
      subst ha
      have hc2 := hc k hlt
      have HNX := Lib.hid (fun (hb : ((fun x : ByteArray => (x.toList == s.toList)) l[k]) = false) => anyG_next (f := fun x => (x.toList == s.toList)) hlt HAL.out hb)
      have HHT := Lib.hid (fun (hb : ((fun x : ByteArray => (x.toList == s.toList)) l[k]) = true) => anyG_hit (f := fun x => (x.toList == s.toList)) hlt hb)
      have c0 : wr.cell? ⟨b, o + k, none⟩ = some (.string l[k]) := (hwr.cell (p := ⟨b, o + k, none⟩) hbl).trans hc2
      generalize l[k] = x at *
      obtain ⟨q, hq⟩ : ∃ q, (x.toList == s.toList) = q := ⟨_, rfl⟩
      try dsimp only at HNX HHT
      simp only [hq] at HNX HHT
      have hq2 : (s.toList == x.toList) = q := (beq_symT _ _).trans hq
      clear hc hwr hc2 
      cases q
      · have HN := Lib.hid (HNX.out rfl)
        clear HNX HHT
        go_wp2_with fail
        go_roundw
        case rel => exact ⟨k + 1, by omega, by go_num, HW.out, HN.out⟩
        case measure => simp [intOf]; omega
      · have HN := Lib.hid (HR.out.trans (HHT.out rfl))
        clear HNX HHT
        go_wp2_with fail
        go_ret
        exact ⟨⟨(k : Int), rfl, by rw [HN.out]; exact decide_eq_true (by omega)⟩, HW.out⟩
    · have HE := Lib.hid (show R = false from by rw [HR.out]; have := HAL.out; rwa [List.take_of_length_le (by omega)] at this)
      clear hwr
      go_wp2_with fail
      go_ret
      exact ⟨⟨-1, rfl, by rw [HE.out]; rfl⟩, HW.out⟩

set_option maxRecDepth 100000 in
theorem containsS_c (w : World) (v : Value) (l : List ByteArray) (h : RdS w v l) (s : ByteArray) :
    Calls Tryz.prog 114 #[v, .string s] w fun e w' => e = .returned (.bool (l.any fun x => (x.toList == s.toList))) ∧ Below w.heap.size w w' := by
  have HI := Lib.hid (fun (W : World) (hb : Below w.heap.size w W) => sindexS_c W v l (h.below hb) s)
  obtain ⟨R, hR⟩ : ∃ R, R = l.any fun x => (x.toList == s.toList) := ⟨_, rfl⟩
  rw [← hR] at HI ⊢
  obtain ⟨a, c, hv, -⟩ := h
  subst hv
  skip
  clear hR
  go_enter Tryz.func114, Tryz.ntmps114
  go_wp2_with fail
  refine (HI.out _ (Below.refl _ _)).mono ?_
  rintro e w' ⟨⟨z, rfl, hz⟩, hb⟩
  have HZ := Lib.hid hz
  have HB := Lib.hid (show Below w.heap.size w w' from hb)
  clear hz hb
  go_wp2_with fail
  go_ret
  exact ⟨by rw [← HZ.out]; rfl, HB.out⟩

set_option maxRecDepth 100000 in
set_option maxHeartbeats 2000000 in
theorem twiceS_c (w : World) (v : Value) (l : List ByteArray) (h : RdS w v l) :
    Calls Tryz.prog 86 #[v] w fun e w' => TwE (¬ l.Nodup) e ∧ Below w.heap.size w w' := by
  have H := Lib.hid h
  obtain ⟨a, c, hv, hlc, hcm, hx⟩ := h
  subst hv
  have HX := Lib.hid hx
  have hn : l.length ≤ 9223372036854775807 := by unfold maxLen at hcm; omega
  clear hcm hx
  go_enter Tryz.func86, Tryz.ntmps86
  go_wp2_with fail
  go_loopw [7] (fun i wr => ∃ k : Nat, k ≤ l.length ∧ i = .int .i64 k ∧ Hid ((l.take k).Nodup) ∧ Below w.heap.size w wr) (fun i _ => l.length - (intOf i).toNat)
  case atStart => exact ⟨0, by omega, rfl, Lib.hid (by simp), Below.refl _ _⟩
  case round =>
    obtain ⟨k, hk, rfl, HND, hbr⟩ := hrel
    have HBR := Lib.hid hbr
    clear hbr
    by_cases hlt : k < l.length
    · obtain ⟨b, o, ha, hbl, hc⟩ := HX.out (by omega)
      subst ha
      have hc2 := hc k hlt
      have hkc : k ≤ c := by omega
      have hmem : ((l.take k).any fun x => (x.toList == l[k].toList)) = true ↔ l[k] ∈ l.take k := by
        rw [List.any_eq_true]
        constructor
        · rintro ⟨x, h1, h2⟩
          have : x = l[k] := toList_inj (beq_iff_eq.1 h2)
          rw [← this]; exact h1
        · intro h1
          exact ⟨_, h1, by simp⟩
      have htk : l.take (k + 1) = l.take k ++ [l[k]] := List.take_succ_eq_append_getElem hlt
      have HYES := Lib.hid (show l[k] ∈ l.take k → ¬ l.Nodup from fun h1 h2 => by
        have h3 : (l.take (k + 1)).Nodup := h2.sublist (List.take_sublist _ _)
        rw [htk, List.nodup_append] at h3
        exact h3.2.2 _ h1 _ (by simp) rfl)
      have HNO := Lib.hid (show l[k] ∉ l.take k → (l.take (k + 1)).Nodup from fun h1 => by
        rw [htk, List.nodup_append]
        exact ⟨HND.out, by simp, fun a h2 b h3 => by
          obtain rfl : b = l[k] := by simpa using h3
          exact fun e => h1 (e ▸ h2)⟩)
      have HCT := Lib.hid (fun (W : World) (hb : Below w.heap.size w W) => containsS_c W (.slice (some ⟨b, o, none⟩) k c) (l.take k) ((H.out.take hk).below hb) l[k])
      have c0 : wr.cell? ⟨b, o + k, none⟩ = some (.string l[k]) := (HBR.out.cell (p := ⟨b, o + k, none⟩) hbl).trans hc2
      obtain ⟨q, hq⟩ : ∃ q, ((l.take k).any fun x => (x.toList == l[k].toList)) = q := ⟨_, rfl⟩
      rw [hq] at hmem
      have HCT' := Lib.hid (fun (W : World) (hb : Below w.heap.size w W) => (HCT.out W hb).mono (R' := fun e w' => e = Ending.returned (.bool q) ∧ Below W.heap.size W w') (fun e w' hh => show e = Ending.returned (.bool q) ∧ Below W.heap.size W w' from ⟨hq ▸ hh.1, hh.2⟩))
      have HMEM := Lib.hid hmem
      clear hc hc2 hmem htk hq HCT
      generalize l[k] = x at *
      go_wp2_with fail
      refine (HCT'.out _ HBR.out).mono ?_
      rintro e w' ⟨rfl, hb⟩
      have HB := Lib.hid (show Below w.heap.size w w' from HBR.out.trans (hb.mono HBR.out.size))
      clear hb c0
      cases q
      · have HN := Lib.hid (HNO.out (fun h1 => by have := HMEM.out.2 h1; simp at this))
        go_wp2_with fail
        go_roundw
        case rel => exact ⟨k + 1, by omega, by go_num, HN, HB.out⟩
        case measure => simp [intOf]; omega
      · have HN := Lib.hid (HYES.out (HMEM.out.1 rfl))
        go_wp2_with fail
        go_ret
        exact ⟨.inl ⟨HN.out, rfl⟩, HB.out⟩
    · have HE := Lib.hid (show l.Nodup from by have := HND.out; rwa [List.take_of_length_le (by omega)] at this)
      go_wp2_with fail
      go_ret
      exact ⟨.inr ⟨fun h => h HE.out, rfl⟩, HBR.out⟩

set_option maxRecDepth 100000 in
set_option maxHeartbeats 1000000 in
theorem sindexK_c (w : World) (v : Value) (l : List (ByteArray × ByteArray)) (h : RdK w v l) (s1 s2 : ByteArray) :
    Calls Tryz.prog 103 #[v, .agg #[.string s1, .string s2]] w fun e w' => (∃ z : Int, e = .returned (.int .i64 z) ∧ decide (0 ≤ z) = (l.any fun x => (x.1.toList == s1.toList && x.2.toList == s2.toList))) ∧ Below w.heap.size w w' := by
  obtain ⟨R, hR⟩ : ∃ R, R = l.any fun x => (x.1.toList == s1.toList && x.2.toList == s2.toList) := ⟨_, rfl⟩
  have HR := Lib.hid hR
  rw [← hR]
  obtain ⟨a, c, hv, hlc, hcm, hx⟩ := h
  subst hv
  have HX := Lib.hid hx
  have hn : l.length ≤ 9223372036854775807 := by unfold maxLen at hcm; omega
  skip
  clear hR hlc hcm hx
  go_enter Tryz.func103, Tryz.ntmps103
  go_wp2_with fail
  go_loopw [8] (fun i wr => ∃ k : Nat, k ≤ l.length ∧ i = .int .i64 k ∧ Below (w.heap.size + 1) (w.alloc (.cells #[.string s1, .string s2] 90)) wr ∧ ((l.take k).any fun x => (x.1.toList == s1.toList && x.2.toList == s2.toList)) = false) (fun i _ => l.length - (intOf i).toNat)
  case atStart => exact ⟨0, by omega, rfl, Below.refl _ _, by simp⟩
  case round =>
    obtain ⟨k, hk, rfl, hwr, hall⟩ := hrel
    have HW := Lib.hid hwr
    have HAL := Lib.hid hall
    clear hall
    by_cases hlt : k < l.length
    · obtain ⟨b, o, ha, hbl, hc⟩ := HX.out (by omega)
      subst ha
      have hc2 := hc k hlt
      have HNX := Lib.hid (fun (hb : ((fun x : (ByteArray × ByteArray) => (x.1.toList == s1.toList && x.2.toList == s2.toList)) l[k]) = false) => anyG_next (f := fun x => (x.1.toList == s1.toList && x.2.toList == s2.toList)) hlt HAL.out hb)
      have HHT := Lib.hid (fun (hb : ((fun x : (ByteArray × ByteArray) => (x.1.toList == s1.toList && x.2.toList == s2.toList)) l[k]) = true) => anyG_hit (f := fun x => (x.1.toList == s1.toList && x.2.toList == s2.toList)) hlt hb)
      have HWB := (box_belT w (.cells #[.string s1, .string s2] 90)).trans (hwr.mono (by simp))
      have c0 : wr.cell? ⟨b, o + k * 2, none⟩ = some (.string l[k].1) := ((HWB.cell (p := ⟨b, o + k * 2, none⟩) hbl).trans hc2.1)
      have c1 : wr.cell? ⟨b, o + k * 2 + 1, none⟩ = some (.string l[k].2) := ((HWB.cell (p := ⟨b, o + k * 2 + 1, none⟩) hbl).trans hc2.2)
      have e0 : wr.cell? ⟨w.heap.size, 0, none⟩ = some (.string s1) := (hwr.cell (p := ⟨w.heap.size, 0, none⟩) (by simp)).trans <| World.news_of_block (heap_alloc_new w (.cells #[.string s1, .string s2] 90)) 0 _ rfl
      have e1 : wr.cell? ⟨w.heap.size, 1, none⟩ = some (.string s2) := (hwr.cell (p := ⟨w.heap.size, 1, none⟩) (by simp)).trans <| World.news_of_block (heap_alloc_new w (.cells #[.string s1, .string s2] 90)) 1 _ rfl
      generalize l[k] = x at *
      obtain ⟨x1, x2⟩ := x
      dsimp only at *
      obtain ⟨q, hq⟩ : ∃ q, (x1.toList == s1.toList && x2.toList == s2.toList) = q := ⟨_, rfl⟩
      try dsimp only at HNX HHT
      simp only [hq] at HNX HHT
      have hq2 : (s1.toList == x1.toList && s2.toList == x2.toList) = q := by rw [beq_symT s1.toList, beq_symT s2.toList]; exact hq
      have heqk := fun W => run_eqlK W s1 s2 x1 x2
      rw [hq2] at heqk
      clear hc hwr hc2 HWB
      cases q
      · have HN := Lib.hid (HNX.out rfl)
        clear HNX HHT
        go_wp2_with fail
        go_quiet (fail)
        go_wp2_with fail
        go_roundw
        case rel => exact ⟨k + 1, by omega, by go_num, Go.below_drewN HW.out _, HN.out⟩
        case measure => simp [intOf]; omega
      · have HN := Lib.hid (HR.out.trans (HHT.out rfl))
        clear HNX HHT
        go_wp2_with fail
        go_quiet (fail)
        go_wp2_with fail
        go_ret
        exact ⟨⟨(k : Int), rfl, by rw [HN.out]; exact decide_eq_true (by omega)⟩, (box_belT w _).trans ((Go.below_drewN HW.out _).mono (by simp))⟩
    · have HE := Lib.hid (show R = false from by rw [HR.out]; have := HAL.out; rwa [List.take_of_length_le (by omega)] at this)
      clear hwr
      go_wp2_with fail
      go_ret
      exact ⟨⟨-1, rfl, by rw [HE.out]; rfl⟩, (box_belT w _).trans (HW.out.mono (by simp))⟩

set_option maxRecDepth 100000 in
theorem containsK_c (w : World) (v : Value) (l : List (ByteArray × ByteArray)) (h : RdK w v l) (s1 s2 : ByteArray) :
    Calls Tryz.prog 79 #[v, .agg #[.string s1, .string s2]] w fun e w' => e = .returned (.bool (l.any fun x => (x.1.toList == s1.toList && x.2.toList == s2.toList))) ∧ Below w.heap.size w w' := by
  have HI := Lib.hid (fun (W : World) (hb : Below w.heap.size w W) => sindexK_c W v l (h.below hb) s1 s2)
  obtain ⟨R, hR⟩ : ∃ R, R = l.any fun x => (x.1.toList == s1.toList && x.2.toList == s2.toList) := ⟨_, rfl⟩
  rw [← hR] at HI ⊢
  obtain ⟨a, c, hv, -⟩ := h
  subst hv
  skip
  clear hR
  go_enter Tryz.func79, Tryz.ntmps79
  go_wp2_with fail
  refine (HI.out _ (box_belT w _)).mono ?_
  rintro e w' ⟨⟨z, rfl, hz⟩, hb⟩
  have HZ := Lib.hid hz
  have HB := Lib.hid (show Below w.heap.size w w' from (box_belT w _).trans (hb.mono (box_belT w _).size))
  clear hz hb
  go_wp2_with fail
  go_ret
  exact ⟨by rw [← HZ.out]; rfl, HB.out⟩

set_option maxRecDepth 100000 in
set_option maxHeartbeats 2000000 in
theorem twiceK_c (w : World) (v : Value) (l : List (ByteArray × ByteArray)) (h : RdK w v l) :
    Calls Tryz.prog 51 #[v] w fun e w' => TwE (¬ l.Nodup) e ∧ Below w.heap.size w w' := by
  have H := Lib.hid h
  obtain ⟨a, c, hv, hlc, hcm, hx⟩ := h
  subst hv
  have HX := Lib.hid hx
  have hn : l.length ≤ 9223372036854775807 := by unfold maxLen at hcm; omega
  clear hcm hx
  go_enter Tryz.func51, Tryz.ntmps51
  go_wp2_with fail
  go_loopw [7] (fun i wr => ∃ k : Nat, k ≤ l.length ∧ i = .int .i64 k ∧ Hid ((l.take k).Nodup) ∧ Below w.heap.size w wr) (fun i _ => l.length - (intOf i).toNat)
  case atStart => exact ⟨0, by omega, rfl, Lib.hid (by simp), Below.refl _ _⟩
  case round =>
    obtain ⟨k, hk, rfl, HND, hbr⟩ := hrel
    have HBR := Lib.hid hbr
    clear hbr
    by_cases hlt : k < l.length
    · obtain ⟨b, o, ha, hbl, hc⟩ := HX.out (by omega)
      subst ha
      have hc2 := hc k hlt
      have hkc : k ≤ c := by omega
      have hmem : ((l.take k).any fun x => (x.1.toList == l[k].1.toList && x.2.toList == l[k].2.toList)) = true ↔ l[k] ∈ l.take k := by
        rw [List.any_eq_true]
        constructor
        · rintro ⟨x, h1, h2⟩
          rw [Bool.and_eq_true] at h2
          have : x = l[k] := Prod.ext (toList_inj (beq_iff_eq.1 h2.1)) (toList_inj (beq_iff_eq.1 h2.2))
          rw [← this]; exact h1
        · intro h1
          exact ⟨_, h1, by simp⟩
      have htk : l.take (k + 1) = l.take k ++ [l[k]] := List.take_succ_eq_append_getElem hlt
      have HYES := Lib.hid (show l[k] ∈ l.take k → ¬ l.Nodup from fun h1 h2 => by
        have h3 : (l.take (k + 1)).Nodup := h2.sublist (List.take_sublist _ _)
        rw [htk, List.nodup_append] at h3
        exact h3.2.2 _ h1 _ (by simp) rfl)
      have HNO := Lib.hid (show l[k] ∉ l.take k → (l.take (k + 1)).Nodup from fun h1 => by
        rw [htk, List.nodup_append]
        exact ⟨HND.out, by simp, fun a h2 b h3 => by
          obtain rfl : b = l[k] := by simpa using h3
          exact fun e => h1 (e ▸ h2)⟩)
      have HCT := Lib.hid (fun (W : World) (hb : Below w.heap.size w W) => containsK_c W (.slice (some ⟨b, o, none⟩) k c) (l.take k) ((H.out.take hk).below hb) l[k].1 l[k].2)
      have c0 : wr.cell? ⟨b, o + k * 2, none⟩ = some (.string l[k].1) := (HBR.out.cell (p := ⟨b, o + k * 2, none⟩) hbl).trans hc2.1
      have c1 : wr.cell? ⟨b, o + k * 2 + 1, none⟩ = some (.string l[k].2) := (HBR.out.cell (p := ⟨b, o + k * 2 + 1, none⟩) hbl).trans hc2.2
      obtain ⟨q, hq⟩ : ∃ q, ((l.take k).any fun x => (x.1.toList == l[k].1.toList && x.2.toList == l[k].2.toList)) = q := ⟨_, rfl⟩
      rw [hq] at hmem
      have HCT' := Lib.hid (fun (W : World) (hb : Below w.heap.size w W) => (HCT.out W hb).mono (R' := fun e w' => e = Ending.returned (.bool q) ∧ Below W.heap.size W w') (fun e w' hh => show e = Ending.returned (.bool q) ∧ Below W.heap.size W w' from ⟨hq ▸ hh.1, hh.2⟩))
      have HMEM := Lib.hid hmem
      clear hc hc2 hmem htk hq HCT
      generalize l[k] = x at *
      obtain ⟨x1, x2⟩ := x
      dsimp only at *
      have HBX := Lib.hid (HBR.out.alloc HBR.out.size (.cells #[.string x1, .string x2] 90))
      have f0 := World.news_of_block (heap_alloc_new wr (.cells #[.string x1, .string x2] 90)) 0 _ rfl
      have f1 := World.news_of_block (heap_alloc_new wr (.cells #[.string x1, .string x2] 90)) 1 _ rfl
      go_wp2_with fail
      go_region_with (go_at_call 79; refine (HCT'.out _ (by first | exact HBX.out | exact Go.below_drewN HBX.out _)).mono ?_; rintro e w' ⟨rfl, hb⟩; have HB := Lib.hid (show Below w.heap.size w w' from (by first | exact HBX.out.trans (hb.mono HBX.out.size) | exact (Go.below_drewN HBX.out _).trans (hb.mono HBX.out.size))); clear hb)
      all_goals clear c0 c1 f0 f1
      all_goals
        cases q
        · have HN := Lib.hid (HNO.out (fun h1 => by have := HMEM.out.2 h1; simp at this))
          go_wp2_with fail
          go_roundw
          case rel => exact ⟨k + 1, by omega, by go_num, HN, HB.out⟩
          case measure => simp [intOf]; omega
        · have HN := Lib.hid (HYES.out (HMEM.out.1 rfl))
          go_wp2_with fail
          go_ret
          exact ⟨.inl ⟨HN.out, rfl⟩, HB.out⟩
    · have HE := Lib.hid (show l.Nodup from by have := HND.out; rwa [List.take_of_length_le (by omega)] at this)
      go_wp2_with fail
      go_ret
      exact ⟨.inr ⟨fun h => h HE.out, rfl⟩, HBR.out⟩
end Go.Proofs.YtpcajjbdlfookaaGreatDoor

/-
  DERIVED: THE SHELF's CONTRACTS AT THIS DUMP, IN PLAIN WORDS (tools/lay-plain.mjs out of 'YtpcajjbdlfookaaGreatDoorSi.lean', which tools/lay-shelf.mjs wrote): THE SAME DECLARATIONS UNDER THE SAME NAMES: 'import', 'namespace', 'open', 'def', 'theorem' AND NOTHING ELSE: no command of the shelf's: FOR A HAND-IN. Each laying: the table of numbers ('.._ren') and one theorem, a field a fact of the dump's own or the kernel's comparison; each contract: ONE APPLICATION.
-/
namespace Go.Proofs
open Go.Shelf
def Tryz.lays196_ren : Go.Shelf.Ren := ⟨fun | 196 => 76 | 259 => 102 | n => n, fun | 9 => 9 | 4 => 4 | 3 => 3 | 5 => 5 | 12 => 12 | 119 => 147 | 0 => 0 | 46 => 137 | 139 => 150 | 138 => 149 | 53 => 144 | n => n, fun | 3 => 0 | 4 => 1 | n => n⟩
theorem Tryz.lays196 : Go.Proofs.Lays.n196 Tryz.prog Tryz.lays196_ren := {
  mixed := by kernel_rfl
  f196 := Tryz.func76.trans (congrArg some (by kernel_rfl))
  f259 := Tryz.func102.trans (congrArg some (by kernel_rfl))
  t0 := Tryz.underlying0
  a0 := Tryz.isAgg0
  z0 := Tryz.sizeOf0
  v0 := Tryz.zeroValue0
  t3 := Tryz.underlying3
  a3 := Tryz.isAgg3
  z3 := Tryz.sizeOf3
  v3 := Tryz.zeroValue3
  t4 := Tryz.underlying4
  a4 := Tryz.isAgg4
  z4 := Tryz.sizeOf4
  v4 := Tryz.zeroValue4
  t5 := Tryz.underlying5
  a5 := Tryz.isAgg5
  z5 := Tryz.sizeOf5
  v5 := Tryz.zeroValue5
  t9 := Tryz.underlying9
  a9 := Tryz.isAgg9
  z9 := Tryz.sizeOf9
  v9 := Tryz.zeroValue9
  t12 := Tryz.underlying12
  a12 := Tryz.isAgg12
  z12 := Tryz.sizeOf12
  v12 := Tryz.zeroValue12
  t46 := Tryz.underlying137
  a46 := Tryz.isAgg137
  z46 := Tryz.sizeOf137
  v46 := Tryz.zeroValue137
  t53 := Tryz.underlying144
  a53 := Tryz.isAgg144
  z53 := Tryz.sizeOf144
  v53 := Tryz.zeroValue144
  t119 := Tryz.underlying147
  a119 := Tryz.isAgg147
  z119 := Tryz.sizeOf147
  t138 := Tryz.underlying149
  a138 := Tryz.isAgg149
  z138 := Tryz.sizeOf149
  v138 := Tryz.zeroValue149
  t139 := Tryz.underlying150
  a139 := Tryz.isAgg150
  z139 := Tryz.sizeOf150
  v139 := Tryz.zeroValue150
  g3 := by kernel_rfl
  g4 := by kernel_rfl }
theorem Tryz.utf8_ValidString (s : ByteArray) (w : World) (hs : s.size ≤ 9223372036854775807) (hT : Lib.Utf8Tabs 0 1 w) :
    Calls Tryz.prog 76 #[.string s] w fun e w' => e = .returned (.bool (Lib.validD s.data.toList)) ∧ RowKit.Below w.heap.size w w' := Any.utf8_ValidString Tryz.lays196 s w hs hT
end Go.Proofs
