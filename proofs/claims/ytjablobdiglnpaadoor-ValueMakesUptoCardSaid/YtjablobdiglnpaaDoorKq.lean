/- value: what ValueOrders needs on the plain side. -/
import Derived.Test.YtjablobdiglnpaaDoorKw
import Derived.Test.YtjablobdiglnpaaDoorKj
namespace Go.Proofs.YtjablobdiglnpaaDoor
open Go.RowKit
set_option linter.unusedVariables false

theorem keepB {V V' : World} {b : Nat} {o : Obj} (hb : Below V.heap.size V V') (h : V.heap[b]? = some o) : V'.heap[b]? = some o := by
  rcases Nat.lt_or_ge b V.heap.size with hl | hl
  · exact (hb.block b hl).trans h
  · simp [Array.getElem?_eq_none hl] at h
theorem ltB {V : World} {b : Nat} {o : Obj} (h : V.heap[b]? = some o) : b < V.heap.size := by
  rcases Nat.lt_or_ge b V.heap.size with hl | hl
  · exact hl
  · simp [Array.getElem?_eq_none hl] at h
theorem keepA {V : World} {b : Nat} {o : Obj} (h : V.heap[b]? = some o) (o' : Obj) : (V.alloc o').heap[b]? = some o := keepB (box_below V o') h
theorem box8 {w : World} {b : Nat} {c0 c1 c2 c3 c4 c5 c6 c7 : Value} {T : TypeId} (h : w.heap[b]? = some (.cells #[c0, c1, c2, c3, c4, c5, c6, c7] T (0, 0))) :
    w.cell? ⟨b, 0, none⟩ = some c0 ∧ w.cell? ⟨b, 1, none⟩ = some c1 ∧ w.cell? ⟨b, 2, none⟩ = some c2 ∧ w.cell? ⟨b, 3, none⟩ = some c3 ∧ w.cell? ⟨b, 4, none⟩ = some c4 ∧ w.cell? ⟨b, 5, none⟩ = some c5 ∧ w.cell? ⟨b, 6, none⟩ = some c6 ∧ w.cell? ⟨b, 7, none⟩ = some c7 := by
  refine ⟨?_, ?_, ?_, ?_, ?_, ?_, ?_, ?_⟩ <;> simp [World.cell?, h]
theorem box16 {w : World} {b : Nat} {c0 c1 c2 c3 c4 c5 c6 c7 d0 d1 d2 d3 d4 d5 d6 d7 : Value} {T : TypeId} (h : w.heap[b]? = some (.cells #[c0, c1, c2, c3, c4, c5, c6, c7, d0, d1, d2, d3, d4, d5, d6, d7] T (0, 0))) :
    (w.cell? ⟨b, 0, none⟩ = some c0 ∧ w.cell? ⟨b, 1, none⟩ = some c1 ∧ w.cell? ⟨b, 2, none⟩ = some c2 ∧ w.cell? ⟨b, 3, none⟩ = some c3 ∧ w.cell? ⟨b, 4, none⟩ = some c4 ∧ w.cell? ⟨b, 5, none⟩ = some c5 ∧ w.cell? ⟨b, 6, none⟩ = some c6 ∧ w.cell? ⟨b, 7, none⟩ = some c7) ∧
    (w.cell? ⟨b, 8, none⟩ = some d0 ∧ w.cell? ⟨b, 9, none⟩ = some d1 ∧ w.cell? ⟨b, 10, none⟩ = some d2 ∧ w.cell? ⟨b, 11, none⟩ = some d3 ∧ w.cell? ⟨b, 12, none⟩ = some d4 ∧ w.cell? ⟨b, 13, none⟩ = some d5 ∧ w.cell? ⟨b, 14, none⟩ = some d6 ∧ w.cell? ⟨b, 15, none⟩ = some d7) := by
  refine ⟨⟨?_, ?_, ?_, ?_, ?_, ?_, ?_, ?_⟩, ?_, ?_, ?_, ?_, ?_, ?_, ?_, ?_⟩ <;> simp [World.cell?, h]

theorem do_lit (op : Int) (xk xn : Int) (xy : Bool) (xs : ByteArray) (yk yn : Int) (yy : Bool) (ys : ByteArray) (res : Bool) (hx : (⟨xk, xn, xy, xs⟩ : Vl).Ok) (hy : (⟨yk, yn, yy, ys⟩ : Vl).Ok) (h : doF op ⟨xk, xn, xy, xs⟩ ⟨yk, yn, yy, ys⟩ = (boolV res, true)) (w : World) (hT : Tabs w) :
    Calls Tryd.prog 22 #[.int .i64 op, .agg #[.int .i64 xk, .int .i64 xn, .bool xy, .string xs], .agg #[.int .i64 yk, .int .i64 yn, .bool yy, .string ys]] w fun e w' => e = .returned (.tuple #[.agg #[.int .i64 2, .int .i64 0, .bool res, .string ⟨#[]⟩], .bool true]) ∧ Below w.heap.size w w' := by
  have := do_c w hT op ⟨xk, xn, xy, xs⟩ ⟨yk, yn, yy, ys⟩ hx hy
  rw [h] at this
  exact this

theorem compareBytes_zero : ∀ x y : List UInt8, Lib.compareBytes x y = 0 ↔ x = y
  | [], [] => by simp [Lib.compareBytes]
  | [], _ :: _ => by simp [Lib.compareBytes]
  | _ :: _, [] => by simp [Lib.compareBytes]
  | a :: x, b :: y => by
    unfold Lib.compareBytes
    have ih := compareBytes_zero x y
    by_cases h1 : a < b
    · rw [if_pos h1]
      have : a ≠ b := by rintro rfl; exact absurd h1 (UInt8.lt_irrefl _)
      simp [this]
    · rw [if_neg h1]
      by_cases h2 : b < a
      · rw [if_pos h2]
        have : a ≠ b := by rintro rfl; exact h1 h2
        simp [this]
      · rw [if_neg h2, ih]
        have e1 : ¬ a.toNat < b.toNat := h1
        have e2 : ¬ b.toNat < a.toNat := h2
        have : a = b := UInt8.toNat_inj.1 (by omega)
        simp [this]
theorem compareBytes_in : ∀ x y : List UInt8, Lib.compareBytes x y = -1 ∨ Lib.compareBytes x y = 0 ∨ Lib.compareBytes x y = 1
  | [], [] => by simp [Lib.compareBytes]
  | [], _ :: _ => by simp [Lib.compareBytes]
  | _ :: _, [] => by simp [Lib.compareBytes]
  | a :: x, b :: y => by
    unfold Lib.compareBytes
    split
    · simp
    · split
      · simp
      · exact compareBytes_in x y

/-- The five operators at two values of one kind that may be. -/
theorem ords5 (x y : Vl) (hx : canB x = true) (hy : canB y = true) (hk : x.k = y.k) (hk2 : x.k = 1 ∨ x.k = 3) (c : Int) (hc : cmpV x y = c) (hs : sameB x y = decide (c = 0)) :
    doF 12 x y = (boolV (decide (c < 0)), true) ∧ doF 13 x y = (boolV (decide (c ≤ 0)), true) ∧ doF 14 x y = (boolV (decide (0 < c)), true) ∧ doF 15 x y = (boolV (decide (0 ≤ c)), true) ∧ doF 16 x y = (boolV (decide (c = 0)), true) := by
  have h4 : ∀ op, classF op = 4 → (kindF op x.k y.k).2 = true ∧ canB x = true ∧ canB y = true := by
    intro op h
    refine ⟨?_, hx, hy⟩
    unfold kindF kindC
    rw [h, if_neg (by decide), if_neg (by decide), if_neg (by decide), if_pos rfl, if_pos ⟨hk, hk2⟩]
  have h5 : (kindF 16 x.k y.k).2 = true ∧ canB x = true ∧ canB y = true := by
    refine ⟨?_, hx, hy⟩
    unfold kindF kindC
    rw [show classF 16 = 5 from rfl, if_neg (by decide), if_neg (by decide), if_neg (by decide), if_neg (by decide), if_pos rfl, if_pos ⟨hk, by omega⟩]
  unfold doF
  rw [if_pos (h4 12 rfl), if_pos (h4 13 rfl), if_pos (h4 14 rfl), if_pos (h4 15 rfl), if_pos h5]
  have e12 : makeF 12 x y = (boolV (ordB 12 (cmpV x y)), true) := rfl
  have e13 : makeF 13 x y = (boolV (ordB 13 (cmpV x y)), true) := rfl
  have e14 : makeF 14 x y = (boolV (ordB 14 (cmpV x y)), true) := rfl
  have e15 : makeF 15 x y = (boolV (ordB 15 (cmpV x y)), true) := rfl
  have e16 : makeF 16 x y = (boolV (sameB x y == ((16 : Int) == 16)), true) := rfl
  rw [e12, e13, e14, e15, e16, hc, hs]
  refine ⟨rfl, rfl, rfl, rfl, by simp⟩
theorem cmp_int (n m : Int) : (cmpV (intV n) (intV m) = -1 ∨ cmpV (intV n) (intV m) = 0 ∨ cmpV (intV n) (intV m) = 1) ∧ sameB (intV n) (intV m) = decide (cmpV (intV n) (intV m) = 0) := by
  have e : cmpV (intV n) (intV m) = Lib.compareInt n m := rfl
  have h : sameB (intV n) (intV m) = decide (n = m) := by
    by_cases hnm : n = m
    · subst hnm; rw [(sameB_iff _ _).2 rfl]; simp
    · rw [sameB_ne _ _ (by intro h; simp only [intV, Vl.mk.injEq] at h; exact hnm h.2.1)]; simp [hnm]
  rw [e, h]
  rcases (by omega : n < m ∨ m < n ∨ n = m) with h1 | h1 | rfl
  · rw [compareInt_lt _ _ h1]; simp; omega
  · rw [compareInt_gt _ _ h1]; simp; omega
  · rw [compareInt_eq]; simp
theorem cmp_text (s t : ByteArray) : (cmpV (textV s) (textV t) = -1 ∨ cmpV (textV s) (textV t) = 0 ∨ cmpV (textV s) (textV t) = 1) ∧ sameB (textV s) (textV t) = decide (cmpV (textV s) (textV t) = 0) := by
  have e : cmpV (textV s) (textV t) = Lib.compareBytes s.data.toList t.data.toList := rfl
  have h : sameB (textV s) (textV t) = decide (s.data.toList = t.data.toList) := by
    by_cases hst : s = t
    · subst hst; rw [(sameB_iff _ _).2 rfl]; simp
    · rw [sameB_ne _ _ (by intro h; simp only [textV, Vl.mk.injEq] at h; exact hst h.2.2.2)]
      have : ¬ s.data.toList = t.data.toList := by
        intro h
        apply hst
        obtain ⟨⟨x⟩⟩ := s
        obtain ⟨⟨y⟩⟩ := t
        simpa using h
      simp [this]
  rw [e, h]
  refine ⟨compareBytes_in _ _, ?_⟩
  have := compareBytes_zero s.data.toList t.data.toList
  by_cases hh : s.data.toList = t.data.toList
  · rw [this.2 hh]; simp [hh]
  · have h0 : ¬ Lib.compareBytes s.data.toList t.data.toList = 0 := fun h => hh (this.1 h)
    simp [hh, h0]
end Go.Proofs.YtjablobdiglnpaaDoor
