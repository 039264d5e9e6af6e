/- lexer: literal. -/
import Derived.Test.YtjbkepjkmihojaaDoorLb
import Derived.Test.YtjbkepjkmihojaaDoorCv
namespace Go.Proofs.YtjbkepjkmihojaaDoor
open Go.RowKit
set_option linter.unusedVariables false

/-- What is still to come, put behind what there is. -/
def litJ (k : Nat) (T : List UInt8) (r : Option (List UInt8 × Nat)) : Option (List UInt8 × Nat) := r.map fun p => (T ++ p.1, k - 1 + p.2)
theorem litJ_start (r : Option (List UInt8 × Nat)) : litJ 1 [] r = r := by cases r <;> simp [litJ]
theorem litJ_end (k : Nat) (T r : List UInt8) (c : UInt8) (h : c.toNat = 34) (hk : 1 ≤ k) : litJ k T (litU false (c :: r)) = some (T, k) := by
  unfold litU
  rw [if_pos h]
  simp [litJ]
  omega
theorem litJ_nil (k : Nat) (T : List UInt8) (q : Bool) : litJ k T (litU q []) = none := by cases q <;> simp [litU, litJ]
theorem litJ_step (k : Nat) (T r : List UInt8) (c : UInt8) (h1 : c.toNat ≠ 34) (h2 : c.toNat ≠ 92) (hk : 1 ≤ k) : litJ k T (litU false (c :: r)) = litJ (k + 1) (T ++ [c]) (litU false r) := by
  conv => lhs; unfold litU
  rw [if_neg h1, if_neg h2]
  cases litU false r with
  | none => simp [litJ]
  | some p => simp [litJ]; omega
theorem litJ_esc (k : Nat) (T r : List UInt8) (c d : UInt8) (h1 : c.toNat = 92) (h2 : d.toNat = 34 ∨ d.toNat = 92) (hk : 1 ≤ k) : litJ k T (litU false (c :: d :: r)) = litJ (k + 2) (T ++ [d]) (litU false r) := by
  have e : litU false (c :: d :: r) = ((litU false r).map fun p => (d :: p.1, p.2 + 1)).map fun p => (p.1, p.2 + 1) := by
    conv => lhs; unfold litU
    rw [if_neg (by omega), if_pos h1]
    congr 1
    conv => lhs; unfold litU
    rw [if_pos h2]
  rw [e]
  cases litU false r with
  | none => simp [litJ]
  | some p => simp [litJ]; omega
theorem litJ_bad (k : Nat) (T r : List UInt8) (c d : UInt8) (h1 : c.toNat = 92) (h2 : ¬ (d.toNat = 34 ∨ d.toNat = 92)) : litJ k T (litU false (c :: d :: r)) = none := by
  have e : litU false (c :: d :: r) = none := by
    conv => lhs; unfold litU
    rw [if_neg (by omega), if_pos h1]
    conv => lhs; arg 2; unfold litU
    rw [if_neg h2]
    rfl
  rw [e]
  rfl
theorem litJ_last (k : Nat) (T : List UInt8) (c : UInt8) (h1 : c.toNat = 92) : litJ k T (litU false [c]) = none := by
  have e : litU false [c] = none := by
    conv => lhs; unfold litU
    rw [if_neg (by omega), if_pos h1]
    rfl
  rw [e]
  rfl
theorem litF_none {r : List UInt8} (h : litU false r = none) : litF r = (noW, 0) := by unfold litF; rw [h]
theorem litF_some {r t : List UInt8} {n : Nat} (h : litU false r = some (t, n)) : litF r = if t.length ≤ 256 ∧ wrong (t.length + 1) t 0 < 0 then (⟨3, t, 0⟩, n + 1) else (noW, 0) := by unfold litF; rw [h]

theorem infoByte1 : (Tryd.prog.info? 5).map (fun i => (i.zero, i.size, i.bytes)) = some (some (.int .u8 0), 1, 1) := by kernel_rfl
theorem box3_cells {w : World} {b : Nat} {c0 c1 c2 : Value} {T : TypeId} (h : w.heap[b]? = some (.cells #[c0, c1, c2] T (0, 0))) :
    (w.cell? ⟨b, 0, none⟩ = some c0 ∧ w.cell? ⟨b, 1, none⟩ = some c1 ∧ w.cell? ⟨b, 2, none⟩ = some c2) ∧
    w.frozen? ⟨b, 0, none⟩ = false ∧ w.frozen? ⟨b, 1, none⟩ = false ∧ w.frozen? ⟨b, 2, none⟩ = false := by
  refine ⟨⟨?_, ?_, ?_⟩, ?_, ?_, ?_⟩ <;> simp [World.cell?, World.frozen?, h]
theorem below3 {B : Nat} {w w4 : World} (hb : Below B w w4) {b : Nat} (hle : B ≤ b) (v0 v1 v2 : Value) :
    Below B w (((w4.setCell ⟨b, 0, none⟩ v0).setCell ⟨b, 1, none⟩ v1).setCell ⟨b, 2, none⟩ v2) :=
  ((hb.setCell hle _).setCell hle _).setCell hle _
theorem keepB {V V' : World} {b : Nat} {o : Obj} (hb : Below V.heap.size V V') (h : V.heap[b]? = some o) : V'.heap[b]? = some o := by
  rcases Nat.lt_or_ge b V.heap.size with hl | hl
  · exact (hb.block b hl).trans h
  · simp [Array.getElem?_eq_none hl] at h
theorem ltB {V : World} {b : Nat} {o : Obj} (h : V.heap[b]? = some o) : b < V.heap.size := by
  rcases Nat.lt_or_ge b V.heap.size with hl | hl
  · exact hl
  · simp [Array.getElem?_eq_none hl] at h

theorem slice_form {w : World} {base : Nat} {e : TypeId} {v : Value} {n : Nat} {xs : List Value} (h : w.ownsRow base e 1 v n xs) : ∃ p c, v = .slice p n c ∧ n ≤ c := by
  rcases h.2 with ⟨rfl, rfl⟩ | ⟨g, cap, cur, rfl, _, _, hnc, _⟩
  · exact ⟨none, 0, rfl, Nat.le_refl _⟩
  · exact ⟨_, cap, rfl, hnc⟩
end Go.Proofs.YtjbkepjkmihojaaDoor
