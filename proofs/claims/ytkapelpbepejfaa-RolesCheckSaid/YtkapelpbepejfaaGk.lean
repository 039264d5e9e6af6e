/- roles: whether a list has a text; Known, stands, open. Written by tools/gengk.py. -/
import Derived.Test.YtkapelpbepejfaaGj
import Derived.Test.YtkapelpbepejfaaFb
namespace Go.Proofs.Ytkapelpbepejfaa
open Go Go.RowKit Go.Deep Go.Shelf
set_option linter.unusedVariables false
set_option linter.unusedSimpArgs false


theorem any_next {l : List ByteArray} {f : ByteArray → Bool} {k : Nat} (h : k < l.length) (ht : (l.take k).any f = false) (hb : f l[k] = false) : (l.take (k + 1)).any f = false := by
  rw [List.take_succ_eq_append_getElem h, List.any_append, ht, List.any_cons, hb]
  rfl
theorem any_hit {l : List ByteArray} {f : ByteArray → Bool} {k : Nat} (h : k < l.length) (hb : f l[k] = true) : l.any f = true := List.any_eq_true.2 ⟨l[k], List.getElem_mem h, hb⟩


set_option maxRecDepth 100000 in
theorem rhas_c0 (w : World) (v : Value) (l : List ByteArray) (h : RdF w v (tcellsF l)) (s : ByteArray) :
    Calls Try.prog 22 #[v, .string s] w fun e w' => e = .returned (.bool (l.any fun x => x.toList == s.toList)) ∧ w' = w := by
  obtain ⟨R, hR⟩ : ∃ R, R = l.any fun x => x.toList == s.toList := ⟨_, rfl⟩
  have HR := Lib.hid hR
  rw [← hR]
  have hlen : (tcellsF l).length = l.length := by simp [tcellsF]
  obtain ⟨a, c, hv, hlc, hcm, -, hx⟩ := h
  rw [hlen] at hv hlc hx
  subst hv
  have HX := Lib.hid hx
  have hn : l.length ≤ 9223372036854775807 := by unfold maxLen at hcm; omega
  clear hR hlen hlc hcm hx
  go_enter Try.func22, Try.ntmps22
  go_wp2_with fail
  go_loopw [9] (fun i wr => ∃ k : Nat, k ≤ l.length ∧ i = .int .i64 k ∧ wr = w ∧ ((l.take k).any fun x => x.toList == s.toList) = false) (fun i _ => l.length - (intOf i).toNat)
  case atStart => exact ⟨0, by omega, rfl, rfl, by simp⟩
  case round =>
    obtain ⟨k, hk, rfl, hwr, hall⟩ := hrel
    have HW := Lib.hid hwr
    have HAL := Lib.hid hall
    clear hall
    by_cases hlt : k < l.length
    · obtain ⟨b, o, ha, hc⟩ := HX.out (by omega)
      subst ha
      obtain ⟨x, hxx⟩ : ∃ x, x = l[k] := ⟨_, rfl⟩
      have c0 : wr.cell? ⟨b, o + k, none⟩ = some (.string x) := by
        rw [hwr, hc k hlt, hxx]
        simp [tcellsF, List.getElem?_eq_getElem hlt]
      have HNX := Lib.hid (fun (hb : (x.toList == s.toList) = false) => any_next (f := fun x => x.toList == s.toList) hlt HAL.out (by rw [← hxx]; exact hb))
      have HHT := Lib.hid (fun (hb : (x.toList == s.toList) = true) => any_hit (f := fun x => x.toList == s.toList) hlt (by rw [← hxx]; exact hb))
      obtain ⟨q, hq⟩ : ∃ q, (x.toList == s.toList) = q := ⟨_, rfl⟩
      rw [hq] at HNX HHT
      clear hxx hc hwr
      cases q
      · have HN := Lib.hid (HNX.out rfl)
        clear HNX HHT
        go_wp2_with fail
        go_roundw
        case rel => exact ⟨k + 1, by omega, by go_num, HW.out, HN.out⟩
        case measure => simp [intOf]; omega
      · have HN := Lib.hid (HR.out.trans (HHT.out rfl))
        clear HNX HHT
        go_wp2_with fail
        go_ret
        exact ⟨by rw [HN.out]; rfl, HW.out⟩
    · have HE := Lib.hid (show R = false from by rw [HR.out]; have := HAL.out; rwa [List.take_of_length_le (by omega)] at this)
      clear hwr
      go_wp2_with fail
      go_ret
      exact ⟨by rw [HE.out]; rfl, HW.out⟩

theorem beq_symL (a b : List UInt8) : (a == b) = (b == a) := by
  rw [Bool.eq_iff_iff, beq_iff_eq, beq_iff_eq]
  exact eq_comm

set_option maxRecDepth 100000 in
theorem sindex_c (w : World) (v : Value) (l : List ByteArray) (h : RdF w v (tcellsF l)) (s : ByteArray) :
    Calls Try.prog 26 #[v, .string s] w fun e w' => (∃ z : Int, e = .returned (.int .i64 z) ∧ decide (0 ≤ z) = (l.any fun x => x.toList == s.toList)) ∧ w' = w := by
  obtain ⟨R, hR⟩ : ∃ R, R = l.any fun x => x.toList == s.toList := ⟨_, rfl⟩
  have HR := Lib.hid hR
  rw [← hR]
  have hlen : (tcellsF l).length = l.length := by simp [tcellsF]
  obtain ⟨a, c, hv, hlc, hcm, -, hx⟩ := h
  rw [hlen] at hv hlc hx
  subst hv
  have HX := Lib.hid hx
  have hn : l.length ≤ 9223372036854775807 := by unfold maxLen at hcm; omega
  clear hR hlen hlc hcm hx
  go_enter Try.func26, Try.ntmps26
  go_wp2_with fail
  go_loopw [8] (fun i wr => ∃ k : Nat, k ≤ l.length ∧ i = .int .i64 k ∧ wr = w ∧ ((l.take k).any fun x => x.toList == s.toList) = false) (fun i _ => l.length - (intOf i).toNat)
  case atStart => exact ⟨0, by omega, rfl, rfl, by simp⟩
  case round =>
    obtain ⟨k, hk, rfl, hwr, hall⟩ := hrel
    have HW := Lib.hid hwr
    have HAL := Lib.hid hall
    clear hall
    by_cases hlt : k < l.length
    · obtain ⟨b, o, ha, hc⟩ := HX.out (by omega)
      subst ha
      obtain ⟨x, hxx⟩ : ∃ x, x = l[k] := ⟨_, rfl⟩
      have c0 : wr.cell? ⟨b, o + k, none⟩ = some (.string x) := by
        rw [hwr, hc k hlt, hxx]
        simp [tcellsF, List.getElem?_eq_getElem hlt]
      have HNX := Lib.hid (fun (hb : (x.toList == s.toList) = false) => any_next (f := fun x => x.toList == s.toList) hlt HAL.out (by rw [← hxx]; exact hb))
      have HHT := Lib.hid (fun (hb : (x.toList == s.toList) = true) => any_hit (f := fun x => x.toList == s.toList) hlt (by rw [← hxx]; exact hb))
      obtain ⟨q, hq⟩ : ∃ q, (x.toList == s.toList) = q := ⟨_, rfl⟩
      rw [hq] at HNX HHT
      have hq2 : (s.toList == x.toList) = q := (beq_symL _ _).trans hq
      clear hxx hc hwr
      cases q
      · have HN := Lib.hid (HNX.out rfl)
        clear HNX HHT
        go_wp2_with fail
        go_roundw
        case rel => exact ⟨k + 1, by omega, by go_num, HW.out, HN.out⟩
        case measure => simp [intOf]; omega
      · have HN := Lib.hid (HR.out.trans (HHT.out rfl))
        clear HNX HHT
        go_wp2_with fail
        go_ret
        exact ⟨⟨(k : Int), rfl, by rw [HN.out]; exact decide_eq_true (by omega)⟩, HW.out⟩
    · have HE := Lib.hid (show R = false from by rw [HR.out]; have := HAL.out; rwa [List.take_of_length_le (by omega)] at this)
      clear hwr
      go_wp2_with fail
      go_ret
      exact ⟨⟨-1, rfl, by rw [HE.out]; rfl⟩, HW.out⟩

set_option maxRecDepth 100000 in
theorem contains_c0 (w : World) (v : Value) (l : List ByteArray) (h : RdF w v (tcellsF l)) (s : ByteArray) :
    Calls Try.prog 16 #[v, .string s] w fun e w' => e = .returned (.bool (l.any fun x => x.toList == s.toList)) ∧ w' = w := by
  have HI := Lib.hid (sindex_c w v l h s)
  obtain ⟨R, hR⟩ : ∃ R, R = l.any fun x => x.toList == s.toList := ⟨_, rfl⟩
  rw [← hR] at HI ⊢
  obtain ⟨a, c, hv, -⟩ := h
  subst hv
  clear hR
  go_enter Try.func16, Try.ntmps16
  go_wp2_with fail
  refine (HI.out).mono ?_
  rintro e w' ⟨⟨z, rfl, hz⟩, rfl⟩
  have HZ := Lib.hid hz
  clear hz
  go_wp2_with fail
  go_ret
  exact ⟨by rw [← HZ.out]; rfl, rfl⟩


/-- A list has a text. -/
def inB (s : ByteArray) (l : List ByteArray) : Bool := l.any fun x => x.toList == s.toList
theorem TextsD.rdf {S : Nat → Prop} {w : World} {v : Value} {l : List ByteArray} (h : TextsD S w v l) : RdF w v (tcellsF l) := by
  obtain ⟨⟨h1, _, a, c, hv, h2, h3, h4, h5⟩, _⟩ := h
  have hl : (tcellsF l).length = l.length := by simp [tcellsF]
  refine ⟨a, c, by rw [hl]; exact hv, by rw [hl]; exact h2, h3, h4, fun hp => ?_⟩
  obtain ⟨b, o, ha, _, hlt, hx⟩ := h5 (by omega)
  refine ⟨b, o, ha, fun i hi => ?_⟩
  have e : (tcellsF l)[i]? = (tcells l)[i]? := rfl
  rw [e]
  rw [hl] at hi
  exact (hx i (.string l[i]) (by simp [tcells, List.getElem?_eq_getElem hi])).trans (by simp [tcells, List.getElem?_eq_getElem hi])
theorem contains_c {S : Nat → Prop} (w : World) (v : Value) (l : List ByteArray) (h : TextsD S w v l) (s : ByteArray) : Calls Try.prog 16 #[v, .string s] w fun e w' => e = .returned (.bool (inB s l)) ∧ w' = w := contains_c0 w v l h.rdf s
theorem rhas_c {S : Nat → Prop} (w : World) (v : Value) (l : List ByteArray) (h : TextsD S w v l) (s : ByteArray) : Calls Try.prog 22 #[v, .string s] w fun e w' => e = .returned (.bool (inB s l)) ∧ w' = w := rhas_c0 w v l h.rdf s

set_option maxRecDepth 100000 in
theorem has1_c {S : Nat → Prop} (w : World) (v : Value) (l : List ByteArray) (h : TextsD S w v l) (s : ByteArray) (b : Nat) (hb : w.heap[b]? = some (.cells #[.string s] 9 (0, 0))) : Calls Try.prog 32 #[v, .pointer (some ⟨b, 0, none⟩)] w fun e w' => e = .returned (.bool (inB s l)) ∧ w' = w := by
  have HC := Lib.hid (contains_c w v l h s)
  obtain ⟨a, c, hv, _⟩ := h.form
  subst hv
  obtain ⟨b0, bz⟩ := one_cellG hb
  clear h hb
  go_enter Try.func32, Try.ntmps32
  go_wp2_with fail
  refine HC.out.mono ?_
  rintro e w' ⟨rfl, rfl⟩
  go_wp2_with fail
  go_ret
  exact ⟨rfl, rfl⟩
set_option maxRecDepth 100000 in
theorem has_p (w : World) (s : ByteArray) : Calls Try.prog 23 #[.string s] w fun e w' => e = .returned (.func (.func 32) #[] #[.pointer (some ⟨w.heap.size, 0, none⟩)]) ∧ w' = w.alloc (.cells #[.string s] 9) := by
  go_enter Try.func23, Try.ntmps23
  go_wp2_with fail
  go_ret
  exact ⟨rfl, rfl⟩
set_option maxRecDepth 100000 in
set_option maxHeartbeats 1000000 in
theorem known_c {S : Nat → Prop} {d : Nat} (w : World) (cs : List Value) (m : MT) (s : ByteArray) (hm : ModelV S w d cs m) : Calls Try.prog 10 #[.agg cs.toArray, .string s] w fun e w' => e = .returned (.bool (inB s m.roles)) ∧ Below w.heap.size w w' := by
  have hE := enters_of Try.func32 (by kernel_rfl) rfl
  obtain ⟨mi, mn, mroles, plan⟩ := m
  obtain ⟨ra, rc, fa, fn, fc, pc, rfl, h1, h2⟩ := hm
  simp only at h1 h2 ⊢
  have HH := Lib.hid (fun (W : World) (b : Nat) (hW : Below w.heap.size w W) (hb : W.heap[b]? = some (.cells #[.string s] 9 (0, 0))) => has1_c W _ mroles (h1.keep hW.size (fun k _ hl => hW.block k hl)) s b hb)
  obtain ⟨i0, i1, i2, a3, n3, q3, a4, n4, q4, i5, i6, i7, i8, i9, i10, a11, n11, q11, a12, n12, q12, a13, n13, q13, rfl⟩ := h2.shape
  generalize mroles.length = rn at *
  clear h1 h2
  simp only [List.cons_append, List.nil_append] at *
  have HP := Lib.hid has_p
  obtain ⟨w0, hw0⟩ : ∃ y, y = w.alloc (.cells #[.string mi, .string mn, .slice ra rn rc, .slice fa fn fc, .string i0, .string i1, .int .i64 i2, .slice a3 n3 q3, .slice a4 n4 q4, .string i5, .string i6, .string i7, .bool i8, .bool i9, .int .i64 i10, .slice a11 n11 q11, .slice a12 n12 q12, .slice a13 n13 q13] 29) := ⟨_, rfl⟩
  have HW0 := Lib.hid hw0
  have HB0 := Lib.hid (show Below w.heap.size w w0 from by rw [hw0]; exact (Below.refl _ _).alloc (Nat.le_refl _) _)
  have c2 : ∀ o, (w0.alloc o).cell? ⟨w.heap.size, 2, none⟩ = some (.slice ra rn rc) ∧ w0.cell? ⟨w.heap.size, 2, none⟩ = some (.slice ra rn rc) := fun o => by
    have h0 : w0.heap[w.heap.size]? = some (.cells #[.string mi, .string mn, .slice ra rn rc, .slice fa fn fc, .string i0, .string i1, .int .i64 i2, .slice a3 n3 q3, .slice a4 n4 q4, .string i5, .string i6, .string i7, .bool i8, .bool i9, .int .i64 i10, .slice a11 n11 q11, .slice a12 n12 q12, .slice a13 n13 q13] 29 (0, 0)) := by rw [hw0]; exact heap_alloc_new w _
    have h1 : (w0.alloc o).heap[w.heap.size]? = some (.cells #[.string mi, .string mn, .slice ra rn rc, .slice fa fn fc, .string i0, .string i1, .int .i64 i2, .slice a3 n3 q3, .slice a4 n4 q4, .string i5, .string i6, .string i7, .bool i8, .bool i9, .int .i64 i10, .slice a11 n11 q11, .slice a12 n12 q12, .slice a13 n13 q13] 29 (0, 0)) := (Below.heap_alloc _ _ _ (Array.getElem?_eq_some_iff.1 h0).1).trans h0
    exact ⟨by simp [World.cell?, h1], by simp [World.cell?, h0]⟩
  have c3 := (c2 (.cells #[.string s] 9)).1
  have c4 := (c2 (.cells #[.string s] 9)).2
  clear c2 hw0
  go_enter Try.func10, Try.ntmps10
  go_wp2_with fail
  rw [← HW0.out]
  go_region_law (first
    | (go_simp; go_at_call 23; refine (HP.out _ _).mono ?_; rintro e w1 ⟨rfl, rfl⟩)
    | (go_simp; go_at_call 32; refine (HH.out _ w0.heap.size (by first | exact HB0.out.alloc HB0.out.size _ | exact (HB0.out.drew).alloc HB0.out.size _ | exact (HB0.out.alloc HB0.out.size _).drew) (by exact heap_alloc_new w0 _)).mono ?_; rintro e w2 ⟨rfl, rfl⟩)
    | fail "no arm")
  all_goals
    go_wp2_with fail
    go_ret
    exact ⟨by rfl, by first | exact HB0.out.alloc HB0.out.size _ | exact (HB0.out.drew).alloc HB0.out.size _ | exact (HB0.out.alloc HB0.out.size _).drew⟩
/-- A whole struct out of a box, behind a guard that is met. -/
theorem wpList_load_rowG {P : Program} {ops : Array Oper} {rest : List Oper} {o : Oper} {a : Act} {w : World} {Q : Exit → Act → World → Prop} (hw : Region.wanted o (yielded ops a.tmps) = true) (ty : TypeId) (x : Operand) (ho : o.op = .load ty x)
    (g : Nat) (hx : a.eval x = .pointer (some ⟨g, 0, none⟩)) (t : TypeId) (cs : Array Value) (fr : Nat × Nat) (d : TypeDesc) (hg : w.heap[g]? = some (.cells cs t fr))
    (hu : P.underlying ty = some d) (hd : (match d with | .struct _ | .array _ _ => true | _ => false) = true) (hi : (P.info? ty).map (·.size) = some cs.size)
    (h : wpList P ops Q rest (a.put o.dst (.agg cs)) w) : wpList P ops Q (o :: rest) a w := by
  show (if Region.wanted o (yielded ops a.tmps) then _ else _)
  rw [if_pos hw]
  exact .inl (wp_load_row ty x ho g hx t cs fr d hg hu hd hi h)
theorem cellsG18 {w : World} {b : Nat} {c0 c1 c2 c3 c4 c5 c6 c7 c8 c9 c10 c11 c12 c13 c14 c15 c16 c17 : Value} {T : TypeId} (h : w.heap[b]? = some (.cells #[c0, c1, c2, c3, c4, c5, c6, c7, c8, c9, c10, c11, c12, c13, c14, c15, c16, c17] T (0, 0))) :
    w.cell? ⟨b, 0, none⟩ = some c0 ∧ w.cell? ⟨b, 1, none⟩ = some c1 ∧ w.cell? ⟨b, 2, none⟩ = some c2 ∧ w.cell? ⟨b, 3, none⟩ = some c3 ∧ w.cell? ⟨b, 4, none⟩ = some c4 ∧ w.cell? ⟨b, 5, none⟩ = some c5 ∧ w.cell? ⟨b, 6, none⟩ = some c6 ∧ w.cell? ⟨b, 7, none⟩ = some c7 ∧ w.cell? ⟨b, 8, none⟩ = some c8 ∧ w.cell? ⟨b, 9, none⟩ = some c9 ∧ w.cell? ⟨b, 10, none⟩ = some c10 ∧ w.cell? ⟨b, 11, none⟩ = some c11 ∧ w.cell? ⟨b, 12, none⟩ = some c12 ∧ w.cell? ⟨b, 13, none⟩ = some c13 ∧ w.cell? ⟨b, 14, none⟩ = some c14 ∧ w.cell? ⟨b, 15, none⟩ = some c15 ∧ w.cell? ⟨b, 16, none⟩ = some c16 ∧ w.cell? ⟨b, 17, none⟩ = some c17 := by
  refine ⟨?_, ?_, ?_, ?_, ?_, ?_, ?_, ?_, ?_, ?_, ?_, ?_, ?_, ?_, ?_, ?_, ?_, ?_⟩ <;> simp [World.cell?, h]
/-- A role that may give commands. -/
def standsB (m : MT) (s : ByteArray) : Bool := s.toList.isEmpty || inB s m.roles
set_option maxRecDepth 100000 in
set_option maxHeartbeats 1000000 in
theorem stands_c {S : Nat → Prop} {d : Nat} (w : World) (cs : List Value) (m : MT) (s : ByteArray) (hm : ModelV S w d cs m) : Calls Try.prog 20 #[.agg cs.toArray, .string s] w fun e w' => e = .returned (.bool (standsB m s)) ∧ Below w.heap.size w w' := by
  have HK := Lib.hid (fun (W : World) (hW : Below w.heap.size w W) => known_c W cs m s (hm.below hW))
  obtain ⟨q, hq⟩ : ∃ q, q = inB s m.roles := ⟨_, rfl⟩
  have HQ := Lib.hid (show ∀ t, s.toList.isEmpty = t → standsB m s = (t || q) from fun t ht => by rw [hq, ← ht]; rfl)
  rw [← hq] at HK
  obtain ⟨mi, mn, mroles, plan⟩ := m
  obtain ⟨ra, rc, fa, fn, fc, pc, rfl, h1, h2⟩ := hm
  simp only at h1 h2 HK HQ ⊢
  obtain ⟨i0, i1, i2, a3, n3, q3, a4, n4, q4, i5, i6, i7, i8, i9, i10, a11, n11, q11, a12, n12, q12, a13, n13, q13, rfl⟩ := h2.shape
  generalize mroles.length = rn at *
  clear h1 h2 hq
  simp only [List.cons_append, List.nil_append] at *
  obtain ⟨w0, hw0⟩ : ∃ y, y = w.alloc (.cells #[.string mi, .string mn, .slice ra rn rc, .slice fa fn fc, .string i0, .string i1, .int .i64 i2, .slice a3 n3 q3, .slice a4 n4 q4, .string i5, .string i6, .string i7, .bool i8, .bool i9, .int .i64 i10, .slice a11 n11 q11, .slice a12 n12 q12, .slice a13 n13 q13] 29) := ⟨_, rfl⟩
  have HW0 := Lib.hid hw0
  have HBA := Lib.hid (show Below w.heap.size w w0 from by rw [hw0]; exact (Below.refl _ _).alloc (Nat.le_refl _) _)
  have h0 : w0.heap[w.heap.size]? = some (.cells #[.string mi, .string mn, .slice ra rn rc, .slice fa fn fc, .string i0, .string i1, .int .i64 i2, .slice a3 n3 q3, .slice a4 n4 q4, .string i5, .string i6, .string i7, .bool i8, .bool i9, .int .i64 i10, .slice a11 n11 q11, .slice a12 n12 q12, .slice a13 n13 q13] 29 (0, 0)) := by rw [hw0]; exact heap_alloc_new w _
  have HQ0 := Lib.hid h0
  have HI := Lib.hid infoGM18
  clear hw0 h0
  by_cases ht : s.toList.isEmpty = true
  · go_enter Try.func20, Try.ntmps20
    go_upto_region 1 with (fail)
    rw [← HW0.out]
    go_wp2_with fail
    go_ret
    exact ⟨by rw [HQ.out true ht]; rfl, HBA.out⟩
  · have ht2 : s.toList.isEmpty = false := by simpa using ht
    clear ht
    go_enter Try.func20, Try.ntmps20
    go_upto_region 1 with (fail)
    rw [← HW0.out]
    go_wp2_with (refine wpList_load_rowG (by rfl) 29 (Operand.tmp 2) rfl w.heap.size rfl 29 _ (0, 0) _ HQ0.out Try.underlying29 rfl HI.out ?_)
    refine (HK.out _ HBA.out).mono ?_
    rintro e w1 ⟨rfl, hb1⟩
    have HB1 := Lib.hid (HBA.out.trans (hb1.mono HBA.out.size))
    clear hb1
    go_wp2_with fail
    go_ret
    exact ⟨by rw [HQ.out false ht2]; rfl, HB1.out⟩
end Go.Proofs.Ytkapelpbepejfaa
