/- xmltree: slices.Index, slices.Contains and twice, at strings and at keys. Written by tools/gentl.py. -/
import Derived.Test.YtpcajjbdlfookaaGreatDoorMp10
import Derived.Test.YtpcajjbdlfookaaGreatDoorMp09
import Derived.BigQuiet
import Derived.Shelf.Small.Wraps
import Derived.Shelf.Small.Strs
import Derived.Shelf.Strings.Search2
import Derived.Test.YtpcajjbdlfookaaGreatDoorProg
import Derived.Test.YtpcajjbdlfookaaGreatDoorShelf
import Derived.Test.YtpcajjbdlfookaaGreatDoorMp08
import Derived.Shelf.Lays
import Derived.Shelf.Unicode.ValidAny
namespace Go.Proofs.YtpcajjbdlfookaaGreatDoor
open Go Go.RowKit Go.Deep
set_option linter.unusedVariables false
set_option linter.unusedSimpArgs false

theorem anyG_next {α : Type} {l : List α} {f : α → Bool} {k : Nat} (h : k < l.length) (ht : (l.take k).any f = false) (hb : f l[k] = false) : (l.take (k + 1)).any f = false := by
  rw [List.take_succ_eq_append_getElem h, List.any_append, ht, List.any_cons, hb]
  rfl
theorem anyG_hit {α : Type} {l : List α} {f : α → Bool} {k : Nat} (h : k < l.length) (hb : f l[k] = true) : l.any f = true := List.any_eq_true.2 ⟨l[k], List.getElem_mem h, hb⟩
theorem beq_symT (a b : List UInt8) : (a == b) = (b == a) := by
  rw [Bool.eq_iff_iff, beq_iff_eq, beq_iff_eq]
  exact eq_comm
/-- Strings that can be read. -/
def RdS (w : World) (v : Value) (l : List ByteArray) : Prop :=
  ∃ a c, v = .slice a l.length c ∧ l.length ≤ c ∧ c ≤ maxLen ∧ (0 < l.length → ∃ b o, a = some ⟨b, o, none⟩ ∧ b < w.heap.size ∧ ∀ k (h : k < l.length), w.cell? ⟨b, o + k, none⟩ = some (.string l[k]))
/-- Keys that can be read. -/
def RdK (w : World) (v : Value) (l : List (ByteArray × ByteArray)) : Prop :=
  ∃ a c, v = .slice a l.length c ∧ l.length ≤ c ∧ c ≤ maxLen ∧ (0 < l.length → ∃ b o, a = some ⟨b, o, none⟩ ∧ b < w.heap.size ∧ ∀ k (h : k < l.length), w.cell? ⟨b, o + k * 2, none⟩ = some (.string l[k].1) ∧ w.cell? ⟨b, o + k * 2 + 1, none⟩ = some (.string l[k].2))
theorem RdS.take {w : World} {a : Option Addr} {n c : Nat} {l : List ByteArray} (h : RdS w (.slice a n c) l) {k : Nat} (hk : k ≤ n) : RdS w (.slice a k c) (l.take k) := by
  obtain ⟨a', c', e, h1, h2, h3⟩ := h
  cases e
  have hl : (l.take k).length = k := by rw [List.length_take]; omega
  refine ⟨a, c, by rw [hl], by omega, h2, fun hp => ?_⟩
  obtain ⟨b, o, ha, hb, hx⟩ := h3 (by omega)
  refine ⟨b, o, ha, hb, fun j hj => ?_⟩
  rw [hl] at hj
  rw [List.getElem_take]
  exact hx j (by omega)
theorem RdK.take {w : World} {a : Option Addr} {n c : Nat} {l : List (ByteArray × ByteArray)} (h : RdK w (.slice a n c) l) {k : Nat} (hk : k ≤ n) : RdK w (.slice a k c) (l.take k) := by
  obtain ⟨a', c', e, h1, h2, h3⟩ := h
  cases e
  have hl : (l.take k).length = k := by rw [List.length_take]; omega
  refine ⟨a, c, by rw [hl], by omega, h2, fun hp => ?_⟩
  obtain ⟨b, o, ha, hb, hx⟩ := h3 (by omega)
  refine ⟨b, o, ha, hb, fun j hj => ?_⟩
  rw [hl] at hj
  rw [List.getElem_take]
  exact hx j (by omega)
theorem RdS.below {w w' : World} {v : Value} {l : List ByteArray} (h : RdS w v l) (hb : Below w.heap.size w w') : RdS w' v l := by
  obtain ⟨a, c, e, h1, h2, h3⟩ := h
  refine ⟨a, c, e, h1, h2, fun hp => ?_⟩
  obtain ⟨b, o, ha, hbl, hx⟩ := h3 hp
  exact ⟨b, o, ha, Nat.lt_of_lt_of_le hbl hb.size, fun j hj => (hb.cell (p := ⟨b, o + j, none⟩) hbl).trans (hx j hj)⟩
theorem RdK.below {w w' : World} {v : Value} {l : List (ByteArray × ByteArray)} (h : RdK w v l) (hb : Below w.heap.size w w') : RdK w' v l := by
  obtain ⟨a, c, e, h1, h2, h3⟩ := h
  refine ⟨a, c, e, h1, h2, fun hp => ?_⟩
  obtain ⟨b, o, ha, hbl, hx⟩ := h3 hp
  exact ⟨b, o, ha, Nat.lt_of_lt_of_le hbl hb.size, fun j hj => ⟨(hb.cell (p := ⟨b, o + j * 2, none⟩) hbl).trans (hx j hj).1, (hb.cell (p := ⟨b, o + j * 2 + 1, none⟩) hbl).trans (hx j hj).2⟩⟩
/-- The lists read one another through rows of our own. -/
theorem RdS.ofRow {w : World} {base : Nat} {v : Value} {l : List ByteArray} (h : w.ownsRow base 9 1 v l.length (l.map Value.string)) : RdS w v l := by
  have hf := OwnS.ofRow h
  obtain ⟨p, c, hv, h1, h2, h3⟩ := hf.form
  refine ⟨p, c, hv, h1, h2, fun hp => ?_⟩
  obtain ⟨g, off, c', hv', hg1, hg2, hown⟩ := hf.own1 hp
  rw [hv] at hv'
  cases hv'
  exact ⟨g, off, rfl, hg2, fun k hk => hown.cell k _ (by rw [List.getElem?_map, List.getElem?_eq_getElem hk]; rfl)⟩
theorem RdK.ofRow {w : World} {base : Nat} {v : Value} {l : List (ByteArray × ByteArray)} (h : w.ownsRow base 90 2 v l.length (l.flatMap fun p => [Value.string p.1, Value.string p.2])) : RdK w v l := by
  have hf := OwnS.ofRow h
  obtain ⟨p, c, hv, h1, h2, h3⟩ := hf.form
  refine ⟨p, c, hv, h1, h2, fun hp => ?_⟩
  obtain ⟨g, off, c', hv', hg1, hg2, hown⟩ := hf.own1 hp
  rw [hv] at hv'
  cases hv'
  refine ⟨g, off, rfl, hg2, fun k hk => ?_⟩
  have hx := fun j (hj : j < 2) u (hu : [Value.string l[k].1, Value.string l[k].2][j]? = some u) => hown.cell (k * 2 + j) u (by rw [flat_at (f := fun p : ByteArray × ByteArray => [Value.string p.1, Value.string p.2]) (fun x => rfl) l k j hk hj]; exact hu)
  exact ⟨hx 0 (by omega) _ rfl, by rw [Nat.add_assoc]; exact hx 1 (by omega) _ rfl⟩
theorem fieldsK : (Tryz.prog.fieldsOf 90).toList.map (fun f => (f.name != "_", f.type, f.offset)) = [(true, 9, 0), (true, 9, 1)] := by kernel_rfl
theorem structK : Tryz.prog.underlying 90 = some (.struct (Tryz.prog.fieldsOf 90)) := by kernel_rfl
theorem heldK : Tryz.prog.stoodInHeld 90 = false := by kernel_rfl
theorem run_eqlK (w : World) (s t s' t' : ByteArray) : (binOp .eql 90 (.agg #[.string s, .string t]) (.agg #[.string s', .string t'])).run Tryz.prog w = .ok (.bool (s.toList == s'.toList && t.toList == t'.toList)) w := by
  rw [run_eql_struct, run_equalIn_agg _ _ _ _ _ structK heldK]
  have hf := fieldsK
  generalize (Tryz.prog.fieldsOf 90).toList = fs at hf
  rcases fs with _ | ⟨f0, _ | ⟨f1, _ | ⟨f2, r⟩⟩⟩
  · simp at hf
  · simp at hf
  · simp only [List.map_cons, List.map_nil, List.cons.injEq, Prod.mk.injEq, and_true] at hf
    obtain ⟨⟨n0, t0, o0⟩, n1, t1, o1⟩ := hf
    simp only [Op.eqFields, t0, t1, o0, o1]
    simp only [bne_iff_ne] at n0 n1
    rw [if_pos n0, if_pos n1]
    cases h1 : (s.toList == s'.toList) <;> cases h2 : (t.toList == t'.toList) <;> simp [go_sem, part, h1, h2]
  · simp at hf
/-- How a search ends, and how a test ends. -/
def TwE (p : Prop) (e : Ending) : Prop := (p ∧ e = .returned (.bool true)) ∨ (¬ p ∧ e = .returned (.bool false))

set_option maxRecDepth 100000 in
set_option maxHeartbeats 1000000 in
theorem sindexS_c (w : World) (v : Value) (l : List ByteArray) (h : RdS w v l) (s : ByteArray) :
    Calls Tryz.prog 130 #[v, .string s] w fun e w' => (∃ z : Int, e = .returned (.int .i64 z) ∧ decide (0 ≤ z) = (l.any fun x => (x.toList == s.toList))) ∧ Below w.heap.size w w' := by
  obtain ⟨R, hR⟩ : ∃ R, R = l.any fun x => (x.toList == s.toList) := ⟨_, rfl⟩
  have HR := Lib.hid hR
  rw [← hR]
  obtain ⟨a, c, hv, hlc, hcm, hx⟩ := h
  subst hv
  have HX := Lib.hid hx
  have hn : l.length ≤ 9223372036854775807 := by unfold maxLen at hcm; omega
  skip
  clear hR hlc hcm hx
  go_enter Tryz.func130, Tryz.ntmps130
  go_wp2_with fail
  go_loopw [8] (fun i wr => ∃ k : Nat, k ≤ l.length ∧ i = .int .i64 k ∧ Below w.heap.size w wr ∧ ((l.take k).any fun x => (x.toList == s.toList)) = false) (fun i _ => l.length - (intOf i).toNat)
  case atStart => exact ⟨0, by omega, rfl, Below.refl _ _, by simp⟩
  case round =>
    obtain ⟨k, hk, rfl, hwr, hall⟩ := hrel
    have HW := Lib.hid hwr
    have HAL := Lib.hid hall
    clear hall
    by_cases hlt : k < l.length
    · obtain ⟨b, o, ha, hbl, hc⟩ := HX.out (by omega)
      subst ha
      have hc2 := hc k hlt
      have HNX := Lib.hid (fun (hb : ((fun x : ByteArray => (x.toList == s.toList)) l[k]) = false) => anyG_next (f := fun x => (x.toList == s.toList)) hlt HAL.out hb)
      have HHT := Lib.hid (fun (hb : ((fun x : ByteArray => (x.toList == s.toList)) l[k]) = true) => anyG_hit (f := fun x => (x.toList == s.toList)) hlt hb)
      have c0 : wr.cell? ⟨b, o + k, none⟩ = some (.string l[k]) := (hwr.cell (p := ⟨b, o + k, none⟩) hbl).trans hc2
      generalize l[k] = x at *
      obtain ⟨q, hq⟩ : ∃ q, (x.toList == s.toList) = q := ⟨_, rfl⟩
      try dsimp only at HNX HHT
      simp only [hq] at HNX HHT
      have hq2 : (s.toList == x.toList) = q := (beq_symT _ _).trans hq
      clear hc hwr hc2 
      cases q
      · have HN := Lib.hid (HNX.out rfl)
        clear HNX HHT
        go_wp2_with fail
        go_roundw
        case rel => exact ⟨k + 1, by omega, by go_num, HW.out, HN.out⟩
        case measure => simp [intOf]; omega
      · have HN := Lib.hid (HR.out.trans (HHT.out rfl))
        clear HNX HHT
        go_wp2_with fail
        go_ret
        exact ⟨⟨(k : Int), rfl, by rw [HN.out]; exact decide_eq_true (by omega)⟩, HW.out⟩
    · have HE := Lib.hid (show R = false from by rw [HR.out]; have := HAL.out; rwa [List.take_of_length_le (by omega)] at this)
      clear hwr
      go_wp2_with fail
      go_ret
      exact ⟨⟨-1, rfl, by rw [HE.out]; rfl⟩, HW.out⟩

set_option maxRecDepth 100000 in
theorem containsS_c (w : World) (v : Value) (l : List ByteArray) (h : RdS w v l) (s : ByteArray) :
    Calls Tryz.prog 114 #[v, .string s] w fun e w' => e = .returned (.bool (l.any fun x => (x.toList == s.toList))) ∧ Below w.heap.size w w' := by
  have HI := Lib.hid (fun (W : World) (hb : Below w.heap.size w W) => sindexS_c W v l (h.below hb) s)
  obtain ⟨R, hR⟩ : ∃ R, R = l.any fun x => (x.toList == s.toList) := ⟨_, rfl⟩
  rw [← hR] at HI ⊢
  obtain ⟨a, c, hv, -⟩ := h
  subst hv
  skip
  clear hR
  go_enter Tryz.func114, Tryz.ntmps114
  go_wp2_with fail
  refine (HI.out _ (Below.refl _ _)).mono ?_
  rintro e w' ⟨⟨z, rfl, hz⟩, hb⟩
  have HZ := Lib.hid hz
  have HB := Lib.hid (show Below w.heap.size w w' from hb)
  clear hz hb
  go_wp2_with fail
  go_ret
  exact ⟨by rw [← HZ.out]; rfl, HB.out⟩

set_option maxRecDepth 100000 in
set_option maxHeartbeats 2000000 in
theorem twiceS_c (w : World) (v : Value) (l : List ByteArray) (h : RdS w v l) :
    Calls Tryz.prog 86 #[v] w fun e w' => TwE (¬ l.Nodup) e ∧ Below w.heap.size w w' := by
  have H := Lib.hid h
  obtain ⟨a, c, hv, hlc, hcm, hx⟩ := h
  subst hv
  have HX := Lib.hid hx
  have hn : l.length ≤ 9223372036854775807 := by unfold maxLen at hcm; omega
  clear hcm hx
  go_enter Tryz.func86, Tryz.ntmps86
  go_wp2_with fail
  go_loopw [7] (fun i wr => ∃ k : Nat, k ≤ l.length ∧ i = .int .i64 k ∧ Hid ((l.take k).Nodup) ∧ Below w.heap.size w wr) (fun i _ => l.length - (intOf i).toNat)
  case atStart => exact ⟨0, by omega, rfl, Lib.hid (by simp), Below.refl _ _⟩
  case round =>
    obtain ⟨k, hk, rfl, HND, hbr⟩ := hrel
    have HBR := Lib.hid hbr
    clear hbr
    by_cases hlt : k < l.length
    · obtain ⟨b, o, ha, hbl, hc⟩ := HX.out (by omega)
      subst ha
      have hc2 := hc k hlt
      have hkc : k ≤ c := by omega
      have hmem : ((l.take k).any fun x => (x.toList == l[k].toList)) = true ↔ l[k] ∈ l.take k := by
        rw [List.any_eq_true]
        constructor
        · rintro ⟨x, h1, h2⟩
          have : x = l[k] := toList_inj (beq_iff_eq.1 h2)
          rw [← this]; exact h1
        · intro h1
          exact ⟨_, h1, by simp⟩
      have htk : l.take (k + 1) = l.take k ++ [l[k]] := List.take_succ_eq_append_getElem hlt
      have HYES := Lib.hid (show l[k] ∈ l.take k → ¬ l.Nodup from fun h1 h2 => by
        have h3 : (l.take (k + 1)).Nodup := h2.sublist (List.take_sublist _ _)
        rw [htk, List.nodup_append] at h3
        exact h3.2.2 _ h1 _ (by simp) rfl)
      have HNO := Lib.hid (show l[k] ∉ l.take k → (l.take (k + 1)).Nodup from fun h1 => by
        rw [htk, List.nodup_append]
        exact ⟨HND.out, by simp, fun a h2 b h3 => by
          obtain rfl : b = l[k] := by simpa using h3
          exact fun e => h1 (e ▸ h2)⟩)
      have HCT := Lib.hid (fun (W : World) (hb : Below w.heap.size w W) => containsS_c W (.slice (some ⟨b, o, none⟩) k c) (l.take k) ((H.out.take hk).below hb) l[k])
      have c0 : wr.cell? ⟨b, o + k, none⟩ = some (.string l[k]) := (HBR.out.cell (p := ⟨b, o + k, none⟩) hbl).trans hc2
      obtain ⟨q, hq⟩ : ∃ q, ((l.take k).any fun x => (x.toList == l[k].toList)) = q := ⟨_, rfl⟩
      rw [hq] at hmem
      have HCT' := Lib.hid (fun (W : World) (hb : Below w.heap.size w W) => (HCT.out W hb).mono (R' := fun e w' => e = Ending.returned (.bool q) ∧ Below W.heap.size W w') (fun e w' hh => show e = Ending.returned (.bool q) ∧ Below W.heap.size W w' from ⟨hq ▸ hh.1, hh.2⟩))
      have HMEM := Lib.hid hmem
      clear hc hc2 hmem htk hq HCT
      generalize l[k] = x at *
      go_wp2_with fail
      refine (HCT'.out _ HBR.out).mono ?_
      rintro e w' ⟨rfl, hb⟩
      have HB := Lib.hid (show Below w.heap.size w w' from HBR.out.trans (hb.mono HBR.out.size))
      clear hb c0
      cases q
      · have HN := Lib.hid (HNO.out (fun h1 => by have := HMEM.out.2 h1; simp at this))
        go_wp2_with fail
        go_roundw
        case rel => exact ⟨k + 1, by omega, by go_num, HN, HB.out⟩
        case measure => simp [intOf]; omega
      · have HN := Lib.hid (HYES.out (HMEM.out.1 rfl))
        go_wp2_with fail
        go_ret
        exact ⟨.inl ⟨HN.out, rfl⟩, HB.out⟩
    · have HE := Lib.hid (show l.Nodup from by have := HND.out; rwa [List.take_of_length_le (by omega)] at this)
      go_wp2_with fail
      go_ret
      exact ⟨.inr ⟨fun h => h HE.out, rfl⟩, HBR.out⟩

set_option maxRecDepth 100000 in
set_option maxHeartbeats 1000000 in
theorem sindexK_c (w : World) (v : Value) (l : List (ByteArray × ByteArray)) (h : RdK w v l) (s1 s2 : ByteArray) :
    Calls Tryz.prog 103 #[v, .agg #[.string s1, .string s2]] w fun e w' => (∃ z : Int, e = .returned (.int .i64 z) ∧ decide (0 ≤ z) = (l.any fun x => (x.1.toList == s1.toList && x.2.toList == s2.toList))) ∧ Below w.heap.size w w' := by
  obtain ⟨R, hR⟩ : ∃ R, R = l.any fun x => (x.1.toList == s1.toList && x.2.toList == s2.toList) := ⟨_, rfl⟩
  have HR := Lib.hid hR
  rw [← hR]
  obtain ⟨a, c, hv, hlc, hcm, hx⟩ := h
  subst hv
  have HX := Lib.hid hx
  have hn : l.length ≤ 9223372036854775807 := by unfold maxLen at hcm; omega
  skip
  clear hR hlc hcm hx
  go_enter Tryz.func103, Tryz.ntmps103
  go_wp2_with fail
  go_loopw [8] (fun i wr => ∃ k : Nat, k ≤ l.length ∧ i = .int .i64 k ∧ Below (w.heap.size + 1) (w.alloc (.cells #[.string s1, .string s2] 90)) wr ∧ ((l.take k).any fun x => (x.1.toList == s1.toList && x.2.toList == s2.toList)) = false) (fun i _ => l.length - (intOf i).toNat)
  case atStart => exact ⟨0, by omega, rfl, Below.refl _ _, by simp⟩
  case round =>
    obtain ⟨k, hk, rfl, hwr, hall⟩ := hrel
    have HW := Lib.hid hwr
    have HAL := Lib.hid hall
    clear hall
    by_cases hlt : k < l.length
    · obtain ⟨b, o, ha, hbl, hc⟩ := HX.out (by omega)
      subst ha
      have hc2 := hc k hlt
      have HNX := Lib.hid (fun (hb : ((fun x : (ByteArray × ByteArray) => (x.1.toList == s1.toList && x.2.toList == s2.toList)) l[k]) = false) => anyG_next (f := fun x => (x.1.toList == s1.toList && x.2.toList == s2.toList)) hlt HAL.out hb)
      have HHT := Lib.hid (fun (hb : ((fun x : (ByteArray × ByteArray) => (x.1.toList == s1.toList && x.2.toList == s2.toList)) l[k]) = true) => anyG_hit (f := fun x => (x.1.toList == s1.toList && x.2.toList == s2.toList)) hlt hb)
      have HWB := (box_belT w (.cells #[.string s1, .string s2] 90)).trans (hwr.mono (by simp))
      have c0 : wr.cell? ⟨b, o + k * 2, none⟩ = some (.string l[k].1) := ((HWB.cell (p := ⟨b, o + k * 2, none⟩) hbl).trans hc2.1)
      have c1 : wr.cell? ⟨b, o + k * 2 + 1, none⟩ = some (.string l[k].2) := ((HWB.cell (p := ⟨b, o + k * 2 + 1, none⟩) hbl).trans hc2.2)
      have e0 : wr.cell? ⟨w.heap.size, 0, none⟩ = some (.string s1) := (hwr.cell (p := ⟨w.heap.size, 0, none⟩) (by simp)).trans <| World.news_of_block (heap_alloc_new w (.cells #[.string s1, .string s2] 90)) 0 _ rfl
      have e1 : wr.cell? ⟨w.heap.size, 1, none⟩ = some (.string s2) := (hwr.cell (p := ⟨w.heap.size, 1, none⟩) (by simp)).trans <| World.news_of_block (heap_alloc_new w (.cells #[.string s1, .string s2] 90)) 1 _ rfl
      generalize l[k] = x at *
      obtain ⟨x1, x2⟩ := x
      dsimp only at *
      obtain ⟨q, hq⟩ : ∃ q, (x1.toList == s1.toList && x2.toList == s2.toList) = q := ⟨_, rfl⟩
      try dsimp only at HNX HHT
      simp only [hq] at HNX HHT
      have hq2 : (s1.toList == x1.toList && s2.toList == x2.toList) = q := by rw [beq_symT s1.toList, beq_symT s2.toList]; exact hq
      have heqk := fun W => run_eqlK W s1 s2 x1 x2
      rw [hq2] at heqk
      clear hc hwr hc2 HWB
      cases q
      · have HN := Lib.hid (HNX.out rfl)
        clear HNX HHT
        go_wp2_with fail
        go_quiet (fail)
        go_wp2_with fail
        go_roundw
        case rel => exact ⟨k + 1, by omega, by go_num, Go.below_drewN HW.out _, HN.out⟩
        case measure => simp [intOf]; omega
      · have HN := Lib.hid (HR.out.trans (HHT.out rfl))
        clear HNX HHT
        go_wp2_with fail
        go_quiet (fail)
        go_wp2_with fail
        go_ret
        exact ⟨⟨(k : Int), rfl, by rw [HN.out]; exact decide_eq_true (by omega)⟩, (box_belT w _).trans ((Go.below_drewN HW.out _).mono (by simp))⟩
    · have HE := Lib.hid (show R = false from by rw [HR.out]; have := HAL.out; rwa [List.take_of_length_le (by omega)] at this)
      clear hwr
      go_wp2_with fail
      go_ret
      exact ⟨⟨-1, rfl, by rw [HE.out]; rfl⟩, (box_belT w _).trans (HW.out.mono (by simp))⟩

set_option maxRecDepth 100000 in
theorem containsK_c (w : World) (v : Value) (l : List (ByteArray × ByteArray)) (h : RdK w v l) (s1 s2 : ByteArray) :
    Calls Tryz.prog 79 #[v, .agg #[.string s1, .string s2]] w fun e w' => e = .returned (.bool (l.any fun x => (x.1.toList == s1.toList && x.2.toList == s2.toList))) ∧ Below w.heap.size w w' := by
  have HI := Lib.hid (fun (W : World) (hb : Below w.heap.size w W) => sindexK_c W v l (h.below hb) s1 s2)
  obtain ⟨R, hR⟩ : ∃ R, R = l.any fun x => (x.1.toList == s1.toList && x.2.toList == s2.toList) := ⟨_, rfl⟩
  rw [← hR] at HI ⊢
  obtain ⟨a, c, hv, -⟩ := h
  subst hv
  skip
  clear hR
  go_enter Tryz.func79, Tryz.ntmps79
  go_wp2_with fail
  refine (HI.out _ (box_belT w _)).mono ?_
  rintro e w' ⟨⟨z, rfl, hz⟩, hb⟩
  have HZ := Lib.hid hz
  have HB := Lib.hid (show Below w.heap.size w w' from (box_belT w _).trans (hb.mono (box_belT w _).size))
  clear hz hb
  go_wp2_with fail
  go_ret
  exact ⟨by rw [← HZ.out]; rfl, HB.out⟩

set_option maxRecDepth 100000 in
set_option maxHeartbeats 2000000 in
theorem twiceK_c (w : World) (v : Value) (l : List (ByteArray × ByteArray)) (h : RdK w v l) :
    Calls Tryz.prog 51 #[v] w fun e w' => TwE (¬ l.Nodup) e ∧ Below w.heap.size w w' := by
  have H := Lib.hid h
  obtain ⟨a, c, hv, hlc, hcm, hx⟩ := h
  subst hv
  have HX := Lib.hid hx
  have hn : l.length ≤ 9223372036854775807 := by unfold maxLen at hcm; omega
  clear hcm hx
  go_enter Tryz.func51, Tryz.ntmps51
  go_wp2_with fail
  go_loopw [7] (fun i wr => ∃ k : Nat, k ≤ l.length ∧ i = .int .i64 k ∧ Hid ((l.take k).Nodup) ∧ Below w.heap.size w wr) (fun i _ => l.length - (intOf i).toNat)
  case atStart => exact ⟨0, by omega, rfl, Lib.hid (by simp), Below.refl _ _⟩
  case round =>
    obtain ⟨k, hk, rfl, HND, hbr⟩ := hrel
    have HBR := Lib.hid hbr
    clear hbr
    by_cases hlt : k < l.length
    · obtain ⟨b, o, ha, hbl, hc⟩ := HX.out (by omega)
      subst ha
      have hc2 := hc k hlt
      have hkc : k ≤ c := by omega
      have hmem : ((l.take k).any fun x => (x.1.toList == l[k].1.toList && x.2.toList == l[k].2.toList)) = true ↔ l[k] ∈ l.take k := by
        rw [List.any_eq_true]
        constructor
        · rintro ⟨x, h1, h2⟩
          rw [Bool.and_eq_true] at h2
          have : x = l[k] := Prod.ext (toList_inj (beq_iff_eq.1 h2.1)) (toList_inj (beq_iff_eq.1 h2.2))
          rw [← this]; exact h1
        · intro h1
          exact ⟨_, h1, by simp⟩
      have htk : l.take (k + 1) = l.take k ++ [l[k]] := List.take_succ_eq_append_getElem hlt
      have HYES := Lib.hid (show l[k] ∈ l.take k → ¬ l.Nodup from fun h1 h2 => by
        have h3 : (l.take (k + 1)).Nodup := h2.sublist (List.take_sublist _ _)
        rw [htk, List.nodup_append] at h3
        exact h3.2.2 _ h1 _ (by simp) rfl)
      have HNO := Lib.hid (show l[k] ∉ l.take k → (l.take (k + 1)).Nodup from fun h1 => by
        rw [htk, List.nodup_append]
        exact ⟨HND.out, by simp, fun a h2 b h3 => by
          obtain rfl : b = l[k] := by simpa using h3
          exact fun e => h1 (e ▸ h2)⟩)
      have HCT := Lib.hid (fun (W : World) (hb : Below w.heap.size w W) => containsK_c W (.slice (some ⟨b, o, none⟩) k c) (l.take k) ((H.out.take hk).below hb) l[k].1 l[k].2)
      have c0 : wr.cell? ⟨b, o + k * 2, none⟩ = some (.string l[k].1) := (HBR.out.cell (p := ⟨b, o + k * 2, none⟩) hbl).trans hc2.1
      have c1 : wr.cell? ⟨b, o + k * 2 + 1, none⟩ = some (.string l[k].2) := (HBR.out.cell (p := ⟨b, o + k * 2 + 1, none⟩) hbl).trans hc2.2
      obtain ⟨q, hq⟩ : ∃ q, ((l.take k).any fun x => (x.1.toList == l[k].1.toList && x.2.toList == l[k].2.toList)) = q := ⟨_, rfl⟩
      rw [hq] at hmem
      have HCT' := Lib.hid (fun (W : World) (hb : Below w.heap.size w W) => (HCT.out W hb).mono (R' := fun e w' => e = Ending.returned (.bool q) ∧ Below W.heap.size W w') (fun e w' hh => show e = Ending.returned (.bool q) ∧ Below W.heap.size W w' from ⟨hq ▸ hh.1, hh.2⟩))
      have HMEM := Lib.hid hmem
      clear hc hc2 hmem htk hq HCT
      generalize l[k] = x at *
      obtain ⟨x1, x2⟩ := x
      dsimp only at *
      have HBX := Lib.hid (HBR.out.alloc HBR.out.size (.cells #[.string x1, .string x2] 90))
      have f0 := World.news_of_block (heap_alloc_new wr (.cells #[.string x1, .string x2] 90)) 0 _ rfl
      have f1 := World.news_of_block (heap_alloc_new wr (.cells #[.string x1, .string x2] 90)) 1 _ rfl
      go_wp2_with fail
      go_region_with (go_at_call 79; refine (HCT'.out _ (by first | exact HBX.out | exact Go.below_drewN HBX.out _)).mono ?_; rintro e w' ⟨rfl, hb⟩; have HB := Lib.hid (show Below w.heap.size w w' from (by first | exact HBX.out.trans (hb.mono HBX.out.size) | exact (Go.below_drewN HBX.out _).trans (hb.mono HBX.out.size))); clear hb)
      all_goals clear c0 c1 f0 f1
      all_goals
        cases q
        · have HN := Lib.hid (HNO.out (fun h1 => by have := HMEM.out.2 h1; simp at this))
          go_wp2_with fail
          go_roundw
          case rel => exact ⟨k + 1, by omega, by go_num, HN, HB.out⟩
          case measure => simp [intOf]; omega
        · have HN := Lib.hid (HYES.out (HMEM.out.1 rfl))
          go_wp2_with fail
          go_ret
          exact ⟨.inl ⟨HN.out, rfl⟩, HB.out⟩
    · have HE := Lib.hid (show l.Nodup from by have := HND.out; rwa [List.take_of_length_le (by omega)] at this)
      go_wp2_with fail
      go_ret
      exact ⟨.inr ⟨fun h => h HE.out, rfl⟩, HBR.out⟩
end Go.Proofs.YtpcajjbdlfookaaGreatDoor

/-
  DERIVED: THE SHELF's CONTRACTS AT THIS DUMP, IN PLAIN WORDS (tools/lay-plain.mjs out of 'YtpcajjbdlfookaaGreatDoorSn.lean', which tools/lay-shelf.mjs wrote): THE SAME DECLARATIONS UNDER THE SAME NAMES: 'import', 'namespace', 'open', 'def', 'theorem' AND NOTHING ELSE: no command of the shelf's: FOR A HAND-IN. Each laying: the table of numbers ('.._ren') and one theorem, a field a fact of the dump's own or the kernel's comparison; each contract: ONE APPLICATION.
-/
namespace Go.Proofs
open Go.Shelf
def Tryz.lays219_ren : Go.Shelf.Ren := ⟨fun | 219 => 140 | 217 => 150 | 225 => 151 | 224 => 144 | 267 => 152 | 266 => 158 | 314 => 159 | n => n, fun | 9 => 9 | 3 => 3 | 4 => 4 | 5 => 5 | 46 => 137 | 146 => 189 | 51 => 188 | n => n, fun | 1 => 2 | n => n⟩
theorem Tryz.lays219 : Go.Proofs.Lays.n219 Tryz.prog Tryz.lays219_ren := {
  mixed := by kernel_rfl
  f217 := Tryz.func150.trans (congrArg some (by kernel_rfl))
  f219 := Tryz.func140.trans (congrArg some (by kernel_rfl))
  f224 := Tryz.func144.trans (congrArg some (by kernel_rfl))
  f225 := Tryz.func151.trans (congrArg some (by kernel_rfl))
  f266 := Tryz.func158.trans (congrArg some (by kernel_rfl))
  f267 := Tryz.func152.trans (congrArg some (by kernel_rfl))
  f314 := Tryz.func159.trans (congrArg some (by kernel_rfl))
  t3 := Tryz.underlying3
  a3 := Tryz.isAgg3
  z3 := Tryz.sizeOf3
  v3 := Tryz.zeroValue3
  t4 := Tryz.underlying4
  a4 := Tryz.isAgg4
  z4 := Tryz.sizeOf4
  v4 := Tryz.zeroValue4
  t5 := Tryz.underlying5
  a5 := Tryz.isAgg5
  z5 := Tryz.sizeOf5
  v5 := Tryz.zeroValue5
  t9 := Tryz.underlying9
  a9 := Tryz.isAgg9
  z9 := Tryz.sizeOf9
  v9 := Tryz.zeroValue9
  t46 := Tryz.underlying137
  a46 := Tryz.isAgg137
  z46 := Tryz.sizeOf137
  v46 := Tryz.zeroValue137
  t51 := Tryz.underlying188
  a51 := Tryz.isAgg188
  z51 := Tryz.sizeOf188
  v51 := Tryz.zeroValue188
  t146 := Tryz.underlying189
  a146 := Tryz.isAgg189
  z146 := Tryz.sizeOf189
  v146 := Tryz.zeroValue189
  g1 := by kernel_rfl }
theorem Tryz.stringslite_Index_one (s : ByteArray) (c : UInt8) (w : World) :
    Calls Tryz.prog 140 #[.string s, .string ⟨#[c]⟩] w fun e w' => e = .returned (.int .i64 (Lib.indexByte s.data.toList c)) ∧ w' = w := Any.stringslite_Index_one Tryz.lays219 s c w
end Go.Proofs

/- xmltree: split, declares and blank. -/
namespace Go.Proofs.YtpcajjbdlfookaaGreatDoor
open Go Go.RowKit Go.Deep Go.Shelf
set_option linter.unusedVariables false
set_option linter.unusedSimpArgs false

def cutC : List UInt8 → List UInt8 × List UInt8
  | [] => ([], [])
  | c :: r => if c = 58 then ([], r) else (c :: (cutC r).1, (cutC r).2)
theorem cutC_none (l : List UInt8) (h : (58 : UInt8) ∉ l) : cutC l = (l, []) := by
  induction l with
  | nil => rfl
  | cons c r ih =>
    have hc : c ≠ 58 := fun e => h (by simp [e])
    rw [cutC, if_neg hc, ih (fun e => h (by simp [e]))]
theorem cutC_of (a b : List UInt8) (h : (58 : UInt8) ∉ a) : cutC (a ++ 58 :: b) = (a, b) := by
  induction a with
  | nil => simp [cutC]
  | cons c r ih =>
    have hc : c ≠ 58 := fun e => h (by simp [e])
    rw [List.cons_append, cutC, if_neg hc, ih (fun e => h (by simp [e]))]
/-- The prefix of a tag name, and the rest. -/
def splM (l : List UInt8) : List UInt8 × List UInt8 := if 58 ∈ l then cutC l else ([], l)
theorem idxT_cases (c : UInt8) (l : List UInt8) : (Lib.indexByte l c = -1 ∧ c ∉ l) ∨ ∃ k : Nat, Lib.indexByte l c = (k : Int) ∧ k < l.length ∧ c ∉ l.take k ∧ l = l.take k ++ c :: l.drop (k + 1) := by
  induction l with
  | nil => exact .inl ⟨rfl, by simp⟩
  | cons a r ih =>
    unfold Lib.indexByte
    by_cases h : a = c
    · subst h
      exact .inr ⟨0, by simp, by simp, by simp, by simp⟩
    · rcases ih with ⟨hi, hn⟩ | ⟨k, hi, hk, hn, hc⟩
      · have h' : (a == c) = false := beq_eq_false_iff_ne.2 h
        exact .inl ⟨by rw [h', hi]; rfl, by simp [hn, Ne.symm h]⟩
      · have h' : (a == c) = false := beq_eq_false_iff_ne.2 h
        have h2 : ((k : Int) == -1) = false := by rw [beq_eq_false_iff_ne]; omega
        refine .inr ⟨k + 1, ?_, by simp; omega, by simp [hn, Ne.symm h], by simpa using hc⟩
        rw [h', hi, h2]
        rfl
theorem cutToT (s : ByteArray) (z : Nat) : s.extract 0 z = ⟨(s.data.toList.take z).toArray⟩ := by
  apply ByteArray.ext
  rw [ByteArray.data_extract]
  apply Array.toList_inj.1
  rw [Array.toList_extract, List.extract_eq_take_drop]
  simp
theorem cutFromT (s : ByteArray) (k : Nat) : s.extract k s.size = ⟨(s.data.toList.drop k).toArray⟩ := by
  apply ByteArray.ext
  rw [ByteArray.data_extract]
  apply Array.toList_inj.1
  rw [Array.toList_extract, List.extract_eq_take_drop]
  show _ = s.data.toList.drop k
  rw [List.take_of_length_le (by rw [List.length_drop, Array.length_toList]; exact Nat.le_refl _)]

set_option maxRecDepth 100000 in
theorem cut1C_c (s : ByteArray) (hs : s.size ≤ 140737488355328) (w : World) : Calls Tryz.prog 132 #[.string s, .string ⟨#[58]⟩] w fun e w' =>
    e = .returned (.tuple #[.string ⟨(cutC s.data.toList).1.toArray⟩, .string ⟨(cutC s.data.toList).2.toArray⟩, .bool (decide (58 ∈ s.data.toList))]) ∧ ∃ q, w' = w.drewN q := by
  have hrl : s.data.toList.length = s.size := Array.length_toList
  rcases idxT_cases 58 s.data.toList with ⟨hi, hnot⟩ | ⟨k, hi, hk, hnot, hcut⟩
  · have HC := Lib.hid (fun w => Tryz.stringslite_Index_one s 58 w)
    rw [hi] at HC
    have HH := Lib.hid (cutC_none _ hnot)
    have HD := Lib.hid (show decide ((58 : UInt8) ∈ s.data.toList) = false from decide_eq_false hnot)
    clear hi hnot hrl
    go_enter Tryz.func132, Tryz.ntmps132
    go_wp2_with (go_at_call 140; refine (HC.out _).mono ?_; rintro e w' ⟨rfl, rfl⟩)
    go_ret3
    exact ⟨by rw [HH.out, HD.out]; rfl, 0, rfl⟩
  · have HC := Lib.hid (fun w => Tryz.stringslite_Index_one s 58 w)
    rw [hi] at HC
    have hh : cutC s.data.toList = (s.data.toList.take k, s.data.toList.drop (k + 1)) := by
      conv => lhs; rw [hcut]
      exact cutC_of _ _ hnot
    have HH := Lib.hid hh
    have HD := Lib.hid (show decide ((58 : UInt8) ∈ s.data.toList) = true from decide_eq_true (by rw [hcut]; simp))
    have hk0 : k ≤ s.size := by omega
    have hk1 : k + 1 ≤ s.size := by omega
    clear hi hnot hrl hcut hk hh
    go_enter Tryz.func132, Tryz.ntmps132
    go_wp2_with (go_at_call 140; refine (HC.out _).mono ?_; rintro e w' ⟨rfl, rfl⟩)
    go_quiet (fail)
    go_wp2_with fail
    go_ret3
    exact ⟨by rw [HH.out, HD.out, ← cutToT, ← cutFromT]; rfl, _, rfl⟩
set_option maxRecDepth 100000 in
theorem cutC_c (s : ByteArray) (hs : s.size ≤ 140737488355328) (w : World) : Calls Tryz.prog 116 #[.string s, .string ⟨#[58]⟩] w fun e w' =>
    e = .returned (.tuple #[.string ⟨(cutC s.data.toList).1.toArray⟩, .string ⟨(cutC s.data.toList).2.toArray⟩, .bool (decide (58 ∈ s.data.toList))]) ∧ ∃ q, w' = w.drewN q := by
  have HC := fun w => cut1C_c s hs w
  generalize (⟨(cutC s.data.toList).1.toArray⟩ : ByteArray) = A at *
  generalize (⟨(cutC s.data.toList).2.toArray⟩ : ByteArray) = D at *
  generalize decide ((58 : UInt8) ∈ s.data.toList) = b at *
  have HC' := Lib.hid HC
  clear HC
  go_enter Tryz.func116, Tryz.ntmps116
  go_wp2_with (go_at_call 132; refine (HC'.out _).mono ?_; rintro e w' ⟨rfl, q, rfl⟩)
  go_ret3
  exact ⟨rfl, _, rfl⟩
set_option maxRecDepth 100000 in
theorem split_c (w : World) (s : ByteArray) (hs : s.size ≤ 140737488355328) : Calls Tryz.prog 90 #[.string s] w fun e w' =>
    e = .returned (.tuple #[.string ⟨(splM s.data.toList).1.toArray⟩, .string ⟨(splM s.data.toList).2.toArray⟩]) ∧ Below w.heap.size w w' := by
  have HC := Lib.hid (fun w => cutC_c s hs w)
  by_cases h : (58 : UInt8) ∈ s.data.toList
  · have HM := Lib.hid (show splM s.data.toList = cutC s.data.toList from if_pos h)
    rw [decide_eq_true h] at HC
    go_enter Tryz.func90, Tryz.ntmps90
    go_wp2_with (go_at_call 116; refine (HC.out _).mono ?_; rintro e w' ⟨rfl, q, rfl⟩)
    go_ret2
    exact ⟨by rw [HM.out]; rfl, Go.below_drewN (Below.refl _ _) _⟩
  · have HM := Lib.hid (show splM s.data.toList = ([], s.data.toList) from if_neg h)
    rw [decide_eq_false h] at HC
    go_enter Tryz.func90, Tryz.ntmps90
    go_wp2_with (go_at_call 116; refine (HC.out _).mono ?_; rintro e w' ⟨rfl, q, rfl⟩)
    go_ret2
    exact ⟨by rw [HM.out]; rfl, Go.below_drewN (Below.refl _ _) _⟩
/-- Whether an attribute declares, and which prefix. -/
def dclM (l : List UInt8) : List UInt8 × Bool := if l = [120, 109, 108, 110, 115] then ([], true) else (Lib.trimPrefix l [120, 109, 108, 110, 115, 58], Lib.hasPrefix l [120, 109, 108, 110, 115, 58])
set_option maxRecDepth 100000 in
theorem declares_c (w : World) (s : ByteArray) : Calls Tryz.prog 88 #[.string s] w fun e w' =>
    e = .returned (.tuple #[.string ⟨(dclM s.data.toList).1.toArray⟩, .bool (dclM s.data.toList).2]) ∧ w' = w := by
  have HC := Lib.hid (fun w => Tryz.strings_CutPrefix s ⟨#[120, 109, 108, 110, 115, 58]⟩ w)
  have hs : s.toList = s.data.toList := by rw [ByteArray.toList_eq]
  by_cases h : s.data.toList = [120, 109, 108, 110, 115]
  · have HM := Lib.hid (show dclM s.data.toList = ([], true) from if_pos h)
    have he : (s.data.toList == [120, 109, 108, 110, 115]) = true := by rw [beq_iff_eq]; exact h
    clear h
    go_enter Tryz.func88, Tryz.ntmps88
    go_wp2_with fail
    go_ret2
    exact ⟨by rw [HM.out]; rfl, rfl⟩
  · have HM := Lib.hid (show dclM s.data.toList = (Lib.trimPrefix s.data.toList [120, 109, 108, 110, 115, 58], Lib.hasPrefix s.data.toList [120, 109, 108, 110, 115, 58]) from if_neg h)
    have he : (s.data.toList == [120, 109, 108, 110, 115]) = false := by rw [beq_eq_false_iff_ne]; exact h
    clear h
    go_enter Tryz.func88, Tryz.ntmps88
    go_wp2_with (go_at_call 115; refine (HC.out _).mono ?_; rintro e w' ⟨rfl, rfl⟩)
    go_ret2
    exact ⟨by rw [HM.out]; rfl, rfl⟩
end Go.Proofs.YtpcajjbdlfookaaGreatDoor

/- xmltree: no name of an attribute ends in a colon; where Skip fails, Next fails alike. -/
namespace Go.Proofs.YtpcajjbdlfookaaGreatDoor
open Go Go.RowKit Go.Deep
set_option linter.unusedVariables false
set_option linter.unusedSimpArgs false

theorem D_last (xs : List UInt8) {r n : Nat} (h : D xs = (r, n)) (hn : n ≠ 0) : (n = 1 ∧ r = at8 xs 0) ∨ (2 ≤ n ∧ n ≤ xs.length ∧ 128 ≤ at8 xs (n - 1)) := by
  by_cases h0 : xs.length = 0
  · have : xs = [] := List.eq_nil_of_length_eq_zero h0
    subst this
    rw [D_nil] at h
    cases h
    exact absurd rfl hn
  have bad : D xs = (0, 0) → False := fun e => by rw [e] at h; cases h; exact hn rfl
  by_cases h1 : at8 xs 0 < 128
  · rw [D_one xs h0 h1] at h
    cases h
    exact .inl ⟨rfl, rfl⟩
  by_cases h2 : at8 xs 0 < 192
  · exact (bad (D_cont xs h0 (by omega) h2)).elim
  by_cases h3 : at8 xs 0 < 224
  · by_cases hb : xs.length < 2 ∨ at8 xs 1 < 128 ∨ 192 ≤ at8 xs 1
    · exact (bad (D_two_bad xs h0 (by omega) h3 hb)).elim
    · rw [D_two xs (by omega) (by omega) h3 (by omega) (by omega)] at h
      split at h
      · have e := (Prod.mk.inj h).2
        subst e
        exact .inr ⟨by omega, by omega, by show 128 ≤ at8 xs 1; omega⟩
      · exact absurd (Prod.mk.inj h).2.symm hn
  by_cases h4 : at8 xs 0 < 240
  · by_cases hb : xs.length < 3 ∨ (at8 xs 1 < 128 ∨ 192 ≤ at8 xs 1) ∨ at8 xs 2 < 128 ∨ 192 ≤ at8 xs 2
    · exact (bad (D_three_bad xs h0 (by omega) h4 hb)).elim
    · rw [D_three xs (by omega) (by omega) h4 (by omega) (by omega) (by omega) (by omega) _ rfl] at h
      split at h
      · have e := (Prod.mk.inj h).2
        subst e
        exact .inr ⟨by omega, by omega, by show 128 ≤ at8 xs 2; omega⟩
      · exact absurd (Prod.mk.inj h).2.symm hn
  · by_cases hb : xs.length < 4 ∨ (at8 xs 1 < 128 ∨ 192 ≤ at8 xs 1) ∨ (at8 xs 2 < 128 ∨ 192 ≤ at8 xs 2) ∨ at8 xs 3 < 128 ∨ 192 ≤ at8 xs 3
    · exact (bad (D_four_bad xs h0 (by omega) hb)).elim
    · rw [D_four xs (by omega) (by omega) (by omega) (by omega) (by omega) (by omega) (by omega) (by omega) _ rfl] at h
      split at h
      · have e := (Prod.mk.inj h).2
        subst e
        exact .inr ⟨by omega, by omega, by show 128 ≤ at8 xs 3; omega⟩
      · exact absurd (Prod.mk.inj h).2.symm hn
theorem at8_drop (xs : List UInt8) (k j : Nat) : at8 (xs.drop k) j = at8 xs (k + j) := by simp [at8, List.getD, List.getElem?_drop]
/-- The first so many bytes do not end in a colon. -/
def NoC (xs : List UInt8) (k : Nat) : Prop := 0 < k → at8 xs (k - 1) ≠ 58
theorem later58 : laterB 58 = false := by decide
theorem first58 : firstB 58 = false := by decide
theorem noC_step {xs : List UInt8} {k r n : Nat} (hd : D (xs.drop k) = (r, n)) (hn : n ≠ 0) (hr : (r : Int) ≠ 58) : NoC xs (k + n) := by
  intro _
  rcases D_last _ hd hn with ⟨h1, h2⟩ | ⟨h1, h2, h3⟩
  · subst h1
    rw [at8_drop] at h2
    show at8 xs (k + 1 - 1) ≠ 58
    rw [Nat.add_sub_cancel, ← Nat.add_zero k, ← h2]
    omega
  · rw [at8_drop] at h3
    rw [show k + n - 1 = k + (n - 1) by omega]
    omega
theorem noC_later : ∀ (f : Nat) (xs : List UInt8) (k : Nat), NoC xs k → NoC xs (later f xs k)
  | 0, xs, k, h => h
  | f + 1, xs, k, h => by
    unfold later
    by_cases hc : (D (xs.drop k)).2 = 0 ∨ laterB (D (xs.drop k)).1 = false
    · rw [if_pos hc]; exact h
    · rw [if_neg hc]
      refine noC_later f xs _ (noC_step (r := (D (xs.drop k)).1) rfl (fun e => hc (.inl e)) (fun e => hc (.inr ?_)))
      rw [e]
      exact later58
theorem noC_name (xs : List UInt8) : NoC xs (nameAt xs) := by
  unfold nameAt
  by_cases hc : (D xs).2 = 0 ∨ firstB (D xs).1 = false
  · rw [if_pos hc]
    intro h
    omega
  · rw [if_neg hc]
    refine noC_later _ xs _ ?_
    have := noC_step (xs := xs) (k := 0) (r := (D xs).1) (n := (D xs).2) rfl (fun e => hc (.inl e)) (fun e => hc (.inr (by rw [e]; exact first58)))
    rwa [Nat.zero_add] at this
theorem tagP_noC {r : List UInt8} {n : Nat} (h : tagP r = some n) : 0 < n ∧ NoC r n := by
  unfold tagP at h
  by_cases h1 : nameAt r = 0
  · rw [if_pos h1] at h; cases h
  rw [if_neg h1] at h
  by_cases h2 : Lib.hasPrefix (r.drop (nameAt r)) [58] = true
  · rw [if_pos h2] at h
    by_cases h3 : nameAt (r.drop (nameAt r + 1)) = 0
    · rw [if_pos h3] at h; cases h
    · rw [if_neg h3] at h
      cases h
      refine ⟨by omega, fun _ => ?_⟩
      have := noC_name (r.drop (nameAt r + 1)) (by omega)
      rw [at8_drop] at this
      rwa [show nameAt r + 1 + nameAt (r.drop (nameAt r + 1)) - 1 = nameAt r + 1 + (nameAt (r.drop (nameAt r + 1)) - 1) by omega]
  · rw [if_neg h2] at h
    cases h
    exact ⟨by omega, noC_name r⟩
theorem tagP_le {r : List UInt8} {n : Nat} (h : tagP r = some n) : n ≤ r.length := by
  unfold tagP at h
  have h9 := nameAt_le r
  by_cases h1 : nameAt r = 0
  · rw [if_pos h1] at h; cases h
  rw [if_neg h1] at h
  by_cases h2 : Lib.hasPrefix (r.drop (nameAt r)) [58] = true
  · rw [if_pos h2] at h
    by_cases h3 : nameAt (r.drop (nameAt r + 1)) = 0
    · rw [if_pos h3] at h; cases h
    · rw [if_neg h3] at h
      cases h
      have := nameAt_le (r.drop (nameAt r + 1))
      rw [List.length_drop] at this
      omega
  · rw [if_neg h2] at h
    cases h
    exact h9
/-- A name that does not end in a colon. -/
def NmOk (l : List UInt8) : Prop := l.getLast? ≠ some 58
theorem nmOk_take {r : List UInt8} {n : Nat} (h : tagP r = some n) : NmOk (r.take n) := by
  obtain ⟨h0, hc⟩ := tagP_noC h
  have hl := tagP_le h
  intro e
  rw [List.getLast?_eq_getElem?, List.length_take, Nat.min_eq_left hl, List.getElem?_take, if_pos (by omega)] at e
  apply hc h0
  simp [at8, List.getD, e]
/-- No name of an attribute ends in a colon. -/
def AtsOk (l : List (List UInt8 × List UInt8)) : Prop := ∀ x ∈ l, NmOk x.1
theorem attrP_ok {r : List UInt8} {x : List UInt8 × List UInt8} {m : Nat} (h : attrP r = .ok (x, m)) : NmOk x.1 := by
  unfold attrP at h
  cases ht : tagP r with
  | none => rw [ht] at h; cases h
  | some n =>
    rw [ht] at h
    simp only at h
    split at h
    · split at h
      · cases h
      · cases h
        exact nmOk_take ht
    · cases h
theorem opnF_ok : ∀ (f : Nat) (r : List UInt8) (a : Nat) (l l' : List (List UInt8 × List UInt8)) (b : Bool) (m : Nat), AtsOk l → opnF attrP f r a l = .ok ((l', b), m) → AtsOk l'
  | 0, r, a, l, l', b, m, hl, h => by unfold opnF at h; cases h
  | f + 1, r, a, l, l', b, m, hl, h => by
    unfold opnF at h
    split at h
    · cases h; exact hl
    split at h
    · cases h; exact hl
    split at h
    · cases h
    split at h
    · cases h
    · rename_i x k hx
      refine opnF_ok f _ _ _ l' b m ?_ h
      intro y hy
      rcases List.mem_append.1 hy with h1 | h1
      · exact hl y h1
      · obtain rfl : y = x := by simpa using h1
        exact attrP_ok hx
theorem opnP_ok {t : List UInt8} {k : Tk} {m : Nat} (h : opnP t = .ok (k, m)) : AtsOk k.attrs := by
  unfold opnP at h
  split at h
  · cases h
  split at h
  · cases h
  · rename_i l b m' hx
    cases h
    exact opnF_ok _ _ _ _ _ _ _ (fun x hx => by cases hx) hx
theorem tokG_ok {r : List UInt8} {k : Tk} {m : Nat} (h : tokG opnP cloP r = .ok (k, m)) : AtsOk k.attrs := by
  have nil : ∀ {l : List (List UInt8 × List UInt8)}, l = [] → AtsOk l := fun e x hx => by rw [e] at hx; cases hx
  unfold tokG at h
  simp only at h
  split at h
  · split at h
    · cases h
    · cases h; exact nil rfl
  split at h
  · cases h
  split at h
  · split at h
    · cases h
    · rename_i t m' hx
      cases h
      unfold cloP at hx
      split at hx
      · cases hx
      split at hx
      · cases hx; exact nil rfl
      · cases hx
  split at h
  · split at h
    · cases h
    · rename_i t m' hx
      cases h
      exact opnP_ok hx
  · obtain ⟨n, -, hd⟩ := dat_eq r
    rw [hd] at h
    split at h
    · cases h
    split at h
    · cases h
    · cases h; exact nil rfl
theorem nxt_ats {xs : List UInt8} {a : Int} {t : Tk} {k : Nat} (h : nxt insP opnP cloP xs a = (t, k, 0)) : AtsOk t.attrs := by
  unfold nxt at h
  split at h
  · cases h
  split at h
  · cases h
  · split at h
    · cases h
      intro x hx
      cases hx
    · split at h
      · cases h
        intro x hx
        cases hx
      · rename_i t' n hx
        cases h
        exact tokG_ok hx
/-- Where Skip fails, Next fails alike. -/
theorem skp_false (ins : List UInt8 → Option Nat) : ∀ (f : Nat) (r : List UInt8) (a k : Nat), skpF ins f r a = (k, false) → a ≤ k ∧ ∀ g, skpF ins (g + 1) (r.drop (k - a)) k = (k, false)
  | 0, r, a, k, h => by unfold skpF at h; cases h
  | f + 1, r, a, k, h => by
    have h' := h
    unfold skpF at h
    split at h
    · rename_i hp
      split at h
      · rename_i hc
        cases h
        refine ⟨Nat.le_refl _, fun g => ?_⟩
        rw [Nat.sub_self, List.drop_zero]
        unfold skpF
        rw [if_pos hp, hc]
      · rename_i n hc
        obtain ⟨h1, h3⟩ := skp_false ins f _ _ _ h
        refine ⟨by omega, fun g => ?_⟩
        have := h3 g
        rw [List.drop_drop] at this
        rwa [show 4 + n + (k - (a + 4 + n)) = k - a by omega] at this
    · rename_i hp0
      split at h
      · rename_i hp
        split at h
        · rename_i hc
          cases h
          refine ⟨Nat.le_refl _, fun g => ?_⟩
          rw [Nat.sub_self, List.drop_zero]
          unfold skpF
          rw [if_neg hp0, if_pos hp, hc]
        · rename_i n hc
          obtain ⟨h1, h3⟩ := skp_false ins f _ _ _ h
          refine ⟨by omega, fun g => ?_⟩
          have := h3 g
          rw [List.drop_drop] at this
          rwa [show 2 + n + (k - (a + 2 + n)) = k - a by omega] at this
      · cases h
theorem nxt_skip {xs : List UInt8} {a k : Nat} (h : skA insP xs a = (k, 11)) : (nxt insP opnP cloP xs k).2 = (k, 11) := by
  unfold skA at h
  split at h
  · cases h
  rename_i ha
  split at h
  · rename_i k' hs
    cases h
    rw [Int.toNat_natCast] at hs
    obtain ⟨h1, h3⟩ := skp_false insP _ _ _ _ hs
    have hk := h3 xs.length
    rw [List.drop_drop, show a + (k - a) = k by omega] at hk
    have h2 : k < xs.length := by
      apply Classical.byContradiction
      intro hn
      rw [List.drop_of_length_le (by omega)] at hk
      unfold skpF at hk
      simp [Lib.hasPrefix] at hk
    unfold nxt
    rw [if_neg (by omega), Int.toNat_natCast, hk]
  · cases h
end Go.Proofs.YtpcajjbdlfookaaGreatDoor

/-
  DERIVED: THE SHELF's CONTRACTS AT THIS DUMP, IN PLAIN WORDS (tools/lay-plain.mjs out of 'YtpcajjbdlfookaaGreatDoorSi.lean', which tools/lay-shelf.mjs wrote): THE SAME DECLARATIONS UNDER THE SAME NAMES: 'import', 'namespace', 'open', 'def', 'theorem' AND NOTHING ELSE: no command of the shelf's: FOR A HAND-IN. Each laying: the table of numbers ('.._ren') and one theorem, a field a fact of the dump's own or the kernel's comparison; each contract: ONE APPLICATION.
-/
namespace Go.Proofs
open Go.Shelf
def Tryz.lays196_ren : Go.Shelf.Ren := ⟨fun | 196 => 76 | 259 => 102 | n => n, fun | 9 => 9 | 4 => 4 | 3 => 3 | 5 => 5 | 12 => 12 | 119 => 147 | 0 => 0 | 46 => 137 | 139 => 150 | 138 => 149 | 53 => 144 | n => n, fun | 3 => 0 | 4 => 1 | n => n⟩
theorem Tryz.lays196 : Go.Proofs.Lays.n196 Tryz.prog Tryz.lays196_ren := {
  mixed := by kernel_rfl
  f196 := Tryz.func76.trans (congrArg some (by kernel_rfl))
  f259 := Tryz.func102.trans (congrArg some (by kernel_rfl))
  t0 := Tryz.underlying0
  a0 := Tryz.isAgg0
  z0 := Tryz.sizeOf0
  v0 := Tryz.zeroValue0
  t3 := Tryz.underlying3
  a3 := Tryz.isAgg3
  z3 := Tryz.sizeOf3
  v3 := Tryz.zeroValue3
  t4 := Tryz.underlying4
  a4 := Tryz.isAgg4
  z4 := Tryz.sizeOf4
  v4 := Tryz.zeroValue4
  t5 := Tryz.underlying5
  a5 := Tryz.isAgg5
  z5 := Tryz.sizeOf5
  v5 := Tryz.zeroValue5
  t9 := Tryz.underlying9
  a9 := Tryz.isAgg9
  z9 := Tryz.sizeOf9
  v9 := Tryz.zeroValue9
  t12 := Tryz.underlying12
  a12 := Tryz.isAgg12
  z12 := Tryz.sizeOf12
  v12 := Tryz.zeroValue12
  t46 := Tryz.underlying137
  a46 := Tryz.isAgg137
  z46 := Tryz.sizeOf137
  v46 := Tryz.zeroValue137
  t53 := Tryz.underlying144
  a53 := Tryz.isAgg144
  z53 := Tryz.sizeOf144
  v53 := Tryz.zeroValue144
  t119 := Tryz.underlying147
  a119 := Tryz.isAgg147
  z119 := Tryz.sizeOf147
  t138 := Tryz.underlying149
  a138 := Tryz.isAgg149
  z138 := Tryz.sizeOf149
  v138 := Tryz.zeroValue149
  t139 := Tryz.underlying150
  a139 := Tryz.isAgg150
  z139 := Tryz.sizeOf150
  v139 := Tryz.zeroValue150
  g3 := by kernel_rfl
  g4 := by kernel_rfl }
theorem Tryz.utf8_ValidString (s : ByteArray) (w : World) (hs : s.size ≤ 9223372036854775807) (hT : Lib.Utf8Tabs 0 1 w) :
    Calls Tryz.prog 76 #[.string s] w fun e w' => e = .returned (.bool (Lib.validD s.data.toList)) ∧ RowKit.Below w.heap.size w w' := Any.utf8_ValidString Tryz.lays196 s w hs hT
end Go.Proofs
