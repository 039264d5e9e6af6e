/- journal: the header and the frame of a body. -/
import Derived.Test.YtfljpnfjndjhpaaCrc
import Derived.Test.YtfljpnfjndjhpaaVd
import Derived.Test.YtfljpnfjndjhpaaByA
import Derived.Laws.CopyOwn
namespace Go.Proofs.Ytfljpnfjndjhpaa
open Go.RowKit
set_option linter.unusedVariables false

/-- The i-th of the four bytes of a number. -/
def bt (n i : Nat) : Nat := n / 2 ^ (8 * (3 - i)) % 256
def crcOf (b : List UInt8) : Nat := crcN 4294967295 b ^^^ 4294967295
def hcell (n i : Nat) : Value := .int .u8 (bt n i : Int)
def z8 : Value := .int .u8 0
/-- The header behind k rounds. -/
def hk (n c : Nat) : Nat → Array Value
  | 0 => #[z8, z8, z8, z8, z8, z8, z8, z8]
  | 1 => #[hcell n 0, z8, z8, z8, hcell c 0, z8, z8, z8]
  | 2 => #[hcell n 0, hcell n 1, z8, z8, hcell c 0, hcell c 1, z8, z8]
  | 3 => #[hcell n 0, hcell n 1, hcell n 2, z8, hcell c 0, hcell c 1, hcell c 2, z8]
  | _ => #[hcell n 0, hcell n 1, hcell n 2, hcell n 3, hcell c 0, hcell c 1, hcell c 2, hcell c 3]
/-- .. as bytes. -/
def be4 (n : Nat) : List UInt8 := [UInt8.ofNat (bt n 0), UInt8.ofNat (bt n 1), UInt8.ofNat (bt n 2), UInt8.ofNat (bt n 3)]
def headB (b : List UInt8) : List UInt8 := be4 b.length ++ be4 (crcOf b)
def frameB (b : List UInt8) : List UInt8 := headB b ++ b
def headV (b : List UInt8) : Value := .agg (hk b.length (crcOf b) 4)

theorem crcOf_lt (b : List UInt8) : crcOf b < 4294967296 := by
  have : ∀ (l : List UInt8) (c : Nat), c < 4294967296 → crcN c l < 4294967296 := by
    intro l
    induction l with
    | nil => intro c h; exact h
    | cons x r ih => intro c h; exact ih _ (it_lt 8 _ (xor_lt c x h))
  exact fin_lt _ (this b _ (by omega))
theorem hk_size (n c k : Nat) : (hk n c k).size = 8 := by
  match k with
  | 0 => rfl
  | 1 => rfl
  | 2 => rfl
  | 3 => rfl
  | k + 4 => rfl
theorem headB_cells (b : List UInt8) : (hk b.length (crcOf b) 4).toList = bcells (headB b) := by
  have h : ∀ n i, bt n i < 256 := fun n i => Nat.mod_lt _ (by omega)
  have h0 := h b.length 0
  have h1 := h b.length 1
  have h2 := h b.length 2
  have h3 := h b.length 3
  have k0 := h (crcOf b) 0
  have k1 := h (crcOf b) 1
  have k2 := h (crcOf b) 2
  have k3 := h (crcOf b) 3
  simp [hk, bcells, headB, be4, hcell]
  omega

theorem cells8 {w : World} {b : Nat} {cs : Array Value} {T : TypeId} (h : w.heap[b]? = some (.cells cs T (0, 0))) (hs : cs.size = 8) (i : Nat) (hi : i < 8) : (∃ u, w.cell? ⟨b, i, none⟩ = some u) ∧ w.frozen? ⟨b, i, none⟩ = false := by
  refine ⟨⟨cs[i]'(by omega), ?_⟩, ?_⟩ <;> simp [World.cell?, World.frozen?, h]
theorem cellAt {w : World} {b : Nat} {cs : Array Value} {T : TypeId} (h : w.heap[b]? = some (.cells cs T (0, 0))) (i : Nat) (v : Value) (hv : cs[i]? = some v) : w.cell? ⟨b, i, none⟩ = some v := by simp [World.cell?, h, hv]
theorem frozenAt {w : World} {b : Nat} {cs : Array Value} {T : TypeId} (h : w.heap[b]? = some (.cells cs T (0, 0))) (i : Nat) : w.frozen? ⟨b, i, none⟩ = false := by simp [World.frozen?, h]
theorem setTwo {w : World} {b : Nat} {cs : Array Value} {T : TypeId} (h : w.heap[b]? = some (.cells cs T (0, 0))) (i j : Nat) (u v : Value) : ((w.setCell ⟨b, i, none⟩ u).setCell ⟨b, j, none⟩ v).heap[b]? = some (.cells ((cs.setIfInBounds i u).setIfInBounds j v) T (0, 0)) := heap_mod (heap_mod h)

theorem heap_new {W : World} (X : Nat) (o : Obj) (hX : X = W.heap.size) : (W.alloc o).heap[X]? = some o := by subst hX; exact heap_alloc_new W o

theorem bt0 (n : Nat) (h : n < 4294967296) : bt n 0 = n / 16777216 := by show n / 16777216 % 256 = _; omega
theorem bt1 (n : Nat) : bt n 1 = n / 65536 % 256 := rfl
theorem bt2 (n : Nat) : bt n 2 = n / 256 % 256 := rfl
theorem bt3 (n : Nat) : bt n 3 = n % 256 := by show n / 1 % 256 = _; omega
/-- One round: the two bytes set. -/
theorem rnd {W wr : World} {N C k : Nat} {T : TypeId} (hk4 : k < 4) (hb : wr.heap[W.heap.size + 1]? = some (.cells (hk N C k) T (0, 0))) (hb0 : wr.heap[W.heap.size]? = some (.cells (hk N C 0) T (0, 0))) (hbel : Below W.heap.size W wr) (u v : Value) (hu : u = hcell N k) (hv : v = hcell C k) (j : Nat) (hj : j = 4 + k) :
    ((wr.setCell ⟨W.heap.size + 1, k, none⟩ u).setCell ⟨W.heap.size + 1, j, none⟩ v).heap[W.heap.size + 1]? = some (.cells (hk N C (k + 1)) T (0, 0)) ∧ ((wr.setCell ⟨W.heap.size + 1, k, none⟩ u).setCell ⟨W.heap.size + 1, j, none⟩ v).heap[W.heap.size]? = some (.cells (hk N C 0) T (0, 0)) ∧ Below W.heap.size W ((wr.setCell ⟨W.heap.size + 1, k, none⟩ u).setCell ⟨W.heap.size + 1, j, none⟩ v) := by
  subst hu hv hj
  refine ⟨(setTwo hb _ _ _ _).trans ?_, ?_, ?_⟩
  · rcases (show k = 0 ∨ k = 1 ∨ k = 2 ∨ k = 3 from by omega) with rfl | rfl | rfl | rfl <;> rfl
  · exact (Below.heap_setCell _ _ _ _ (by simp)).trans ((Below.heap_setCell _ _ _ _ (by simp)).trans hb0)
  · exact (hbel.setCell (by simp) _).setCell (by simp) _

set_option maxRecDepth 100000 in
set_option maxHeartbeats 4000000 in
theorem headerOf_c (w : World) (v : Value) (b : List UInt8) (h : Rd w v b) (hl : b.length ≤ 4294967295) :
    Calls Try.prog 40 #[v] w fun e w' => e = .returned (headV b) ∧ Below w.heap.size w w' := by
  have HR := Lib.hid h
  obtain ⟨p, c, rfl, h1, h2, _⟩ := h
  unfold maxLen at h2
  obtain ⟨C, hC⟩ : ∃ C, C = crcOf b := ⟨_, rfl⟩
  have HCC := Lib.hid hC
  have hcl : C < 4294967296 := by rw [hC]; exact crcOf_lt b
  have hN0 : (0 : Int) ≤ (b.length : Int) := by omega
  have hC0 : (0 : Int) ≤ (C : Int) := by omega
  clear hC
  go_enter Try.func40, Try.ntmps40
  go_wp2_with (go_at_call 46; refine (crc_w _ _ b ((HR.out.alloc _).alloc _)).mono ?_; rintro e w' ⟨rfl, rfl⟩; rw [show (crcN 4294967295 b ^^^ 4294967295 : Nat) = C from HCC.out.symm])
  go_loopw [12] (fun i wr => ∃ k : Nat, k ≤ 4 ∧ i = .int .i64 k ∧ wr.heap[w.heap.size + 1]? = some (.cells (hk b.length C k) 71 (0, 0)) ∧ wr.heap[w.heap.size]? = some (.cells (hk b.length C 0) 71 (0, 0)) ∧ Below w.heap.size w wr) (fun i _ => 4 - (intOf i).toNat)
  case atStart => exact ⟨0, by omega, rfl, heap_new (w.heap.size + 1) _ (by simp), (Below.heap_alloc _ _ _ (by simp)).trans (heap_alloc_new w _), ((Below.refl _ _).alloc (Nat.le_refl _) _).alloc (by simp) _⟩
  case round =>
    obtain ⟨k, hk4, rfl, hb, hb0, hbel⟩ := hrel
    have HB := Lib.hid (And.intro hb (And.intro hb0 hbel))
    rcases (show k = 0 ∨ k = 1 ∨ k = 2 ∨ k = 3 ∨ k = 4 from by omega) with rfl | rfl | rfl | rfl | rfl
    · obtain ⟨⟨u, c1⟩, f1⟩ := cells8 hb (hk_size _ _ _) 0 (by omega)
      obtain ⟨⟨v, c2⟩, f2⟩ := cells8 hb (hk_size _ _ _) 4 (by omega)
      clear hk4 hb hb0 hbel
      go_wp2_with fail
      obtain ⟨hb, hb0, hbel⟩ := HB.out
      refine ⟨⟨1, by omega, rfl, rnd (k := 0) (by omega) hb hb0 hbel _ _ ?_ ?_ _ rfl⟩, by simp [intOf]⟩
      · unfold hcell; rw [bt0 _ (by omega)]; simp
      · unfold hcell; rw [bt0 _ (by omega)]; simp
    · obtain ⟨⟨u, c1⟩, f1⟩ := cells8 hb (hk_size _ _ _) 1 (by omega)
      obtain ⟨⟨v, c2⟩, f2⟩ := cells8 hb (hk_size _ _ _) 5 (by omega)
      clear hk4 hb hb0 hbel
      go_wp2_with fail
      obtain ⟨hb, hb0, hbel⟩ := HB.out
      refine ⟨⟨2, by omega, rfl, rnd (k := 1) (by omega) hb hb0 hbel _ _ ?_ ?_ _ rfl⟩, by simp [intOf]⟩
      · unfold hcell; rw [bt1]; simp
      · unfold hcell; rw [bt1]; simp
    · obtain ⟨⟨u, c1⟩, f1⟩ := cells8 hb (hk_size _ _ _) 2 (by omega)
      obtain ⟨⟨v, c2⟩, f2⟩ := cells8 hb (hk_size _ _ _) 6 (by omega)
      clear hk4 hb hb0 hbel
      go_wp2_with fail
      obtain ⟨hb, hb0, hbel⟩ := HB.out
      refine ⟨⟨3, by omega, rfl, rnd (k := 2) (by omega) hb hb0 hbel _ _ ?_ ?_ _ rfl⟩, by simp [intOf]⟩
      · unfold hcell; rw [bt2]; simp
      · unfold hcell; rw [bt2]; simp
    · obtain ⟨⟨u, c1⟩, f1⟩ := cells8 hb (hk_size _ _ _) 3 (by omega)
      obtain ⟨⟨v, c2⟩, f2⟩ := cells8 hb (hk_size _ _ _) 7 (by omega)
      clear hk4 hb hb0 hbel
      go_wp2_with fail
      obtain ⟨hb, hb0, hbel⟩ := HB.out
      refine ⟨⟨4, by omega, rfl, rnd (k := 3) (by omega) hb hb0 hbel _ _ ?_ ?_ _ rfl⟩, by simp [intOf]⟩
      · unfold hcell; rw [bt3]; simp
      · unfold hcell; rw [bt3]; simp
    · obtain ⟨hb, hb0, hbel⟩ := HB.out
      have hst : Sem.run Try.prog (storeCells ⟨w.heap.size, 0, none⟩ (hk b.length C 4).toList) wr = .ok () (wr.setRow w.heap.size (hk b.length C 4)) := by
        have := run_storeCells_from (P := Try.prog) w.heap.size 71 (hk b.length C 4).toList 0 _ wr hb0 (by simp [hk_size]) (by simp [hk, hcell, Value.oneCell'])
        simpa using this
      go_wp2_with (refine wpList_load_row rfl 71 _ rfl (w.heap.size + 1) rfl 71 _ (0, 0) _ hb Try.underlying71 rfl (by kernel_rfl) ?_)
      have hC := HCC.out
      subst hC
      refine bodyPost_ret (v := headV b) ?_ rfl ⟨rfl, below_setRow hbel (Nat.le_refl _) _⟩
      exact results_cell_row Try.results40 _ _ w.heap.size 71 _ (0, 0) _ rfl (setRow_heap _ _ _ _ _ _ hb0) Try.underlying71 rfl (by kernel_rfl)
end Go.Proofs.Ytfljpnfjndjhpaa
