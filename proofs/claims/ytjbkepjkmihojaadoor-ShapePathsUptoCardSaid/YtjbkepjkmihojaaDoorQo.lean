/- shape: the order of two parts, of two lists of parts. -/
import Derived.Test.YtjbkepjkmihojaaDoorQt
import Derived.Deep.RegionHeld3
namespace Go.Proofs.YtjbkepjkmihojaaDoor
open Go Go.RowKit Go.Shelf
set_option linter.unusedVariables false

theorem cells2' {w : World} {b : Nat} {u v : Value} {T : TypeId} (h : w.heap[b]? = some (.cells #[u, v] T (0, 0))) : w.cell? ⟨b, 0, none⟩ = some u ∧ w.cell? ⟨b, 1, none⟩ = some v := by
  constructor <;> simp [World.cell?, h]

def orI (x y : Int) : Int := if x = 0 then y else x

set_option maxRecDepth 100000 in
theorem or2_c (w : World) (b : Nat) (x y : Int) (hx : w.cell? ⟨b, 0, none⟩ = some (.int .i64 x)) (hy : w.cell? ⟨b, 1, none⟩ = some (.int .i64 y)) :
    Calls Tryd.prog 28 #[.slice (some ⟨b, 0, none⟩) 2 2] w fun e w' => e = .returned (.int .i64 (orI x y)) ∧ w = w' := by
  by_cases h1 : x = 0
  · have hb : ((x : Int) != 0) = false := by simp [h1]
    by_cases h2 : y = 0
    · have hb2 : ((y : Int) != 0) = false := by simp [h2]
      have HO := Lib.hid (show orI x y = 0 from by unfold orI; rw [if_pos h1, h2])
      clear h1 h2
      go_enter Tryd.func28, Tryd.ntmps28
      go_wp2_with fail
      refine wp_loop_rounds 4 ?_
      rw [rounds_succ]
      go_wp2_with fail
      rw [rounds_succ]
      go_wp2_with fail
      rw [rounds_succ]
      go_wp2_with fail
      go_ret
      exact ⟨by rw [HO.out]; rfl, rfl⟩
    · have hb2 : ((y : Int) != 0) = true := by simpa using h2
      have HO := Lib.hid (show orI x y = y from by unfold orI; rw [if_pos h1])
      clear h1 h2
      go_enter Tryd.func28, Tryd.ntmps28
      go_wp2_with fail
      refine wp_loop_rounds 4 ?_
      rw [rounds_succ]
      go_wp2_with fail
      rw [rounds_succ]
      go_wp2_with fail
      go_ret
      exact ⟨by rw [HO.out]; rfl, rfl⟩
  · have hb : ((x : Int) != 0) = true := by simpa using h1
    have HO := Lib.hid (show orI x y = x from by unfold orI; rw [if_neg h1])
    clear h1
    go_enter Tryd.func28, Tryd.ntmps28
    go_wp2_with fail
    refine wp_loop_rounds 4 ?_
    rw [rounds_succ]
    go_wp2_with fail
    go_ret
    exact ⟨by rw [HO.out]; rfl, rfl⟩

def pVal (p : PT) : Value := .agg #[.string ⟨p.1.toArray⟩, .int .i64 p.2]
theorem cmpP_or (p q : PT) : orI (Lib.compareBytes p.1 q.1) (Lib.compareInt p.2 q.2) = cmpP p q := by
  unfold orI cmpP cmpI Lib.compareInt
  rfl

set_option maxRecDepth 100000 in
set_option maxHeartbeats 4000000 in
theorem ordP_c (w : World) (p q : PT) : Calls Tryd.prog 27 #[pVal p, pVal q] w fun e w' => e = .returned (.int .i64 (cmpP p q)) ∧ Below w.heap.size w w' := by
  obtain ⟨a, m⟩ := p
  obtain ⟨c, n⟩ := q
  rw [← cmpP_or]
  unfold pVal
  dsimp only
  obtain ⟨A, hA⟩ : ∃ A : ByteArray, A = ⟨a.toArray⟩ := ⟨_, rfl⟩
  obtain ⟨C, hC⟩ : ∃ C : ByteArray, C = ⟨c.toArray⟩ := ⟨_, rfl⟩
  have hA1 : a = A.data.toList := by rw [hA]
  have hC1 : c = C.data.toList := by rw [hC]
  rw [← hA, ← hC, hA1, hC1]
  clear hA hC hA1 hC1
  have HS := Lib.hid (fun w => Tryd.strings_Compare A C w)
  have HI := Lib.hid (fun w => Tryd.cmp_Compare m n w)
  generalize Lib.compareBytes A.data.toList C.data.toList = x at *
  generalize Lib.compareInt m n = y at *
  have HOr := Lib.hid (fun (w : World) (b : Nat) (hx : w.cell? ⟨b, 0, none⟩ = some (.int .i64 x)) (hy : w.cell? ⟨b, 1, none⟩ = some (.int .i64 y)) => or2_c w b x y hx hy)
  generalize orI x y = z at *
  have KP : ∀ w' : World, w'.heap[w.heap.size]? = some (.cells #[.string A, .int .i64 m] 38 (0, 0)) → w'.heap[w.heap.size + 1]? = some (.cells #[.string C, .int .i64 n] 38 (0, 0)) →
      (w'.cell? ⟨w.heap.size, 0, none⟩ = some (.string A) ∧ w'.cell? ⟨w.heap.size, 1, none⟩ = some (.int .i64 m) ∧ w'.cell? ⟨w.heap.size + 1, 0, none⟩ = some (.string C) ∧ w'.cell? ⟨w.heap.size + 1, 1, none⟩ = some (.int .i64 n)) :=
    fun w' h1 h2 => ⟨(cells2' h1).1, (cells2' h1).2, (cells2' h2).1, (cells2' h2).2⟩
  have HKP := Lib.hid KP
  have HB1 := Lib.hid (show ((w.alloc (.cells #[.string A, .int .i64 m] 38)).alloc (.cells #[.string C, .int .i64 n] 38)).heap[w.heap.size]? = some (.cells #[.string A, .int .i64 m] 38 (0, 0)) from by
    rw [Below.heap_alloc _ _ _ (by simp)]; exact heap_alloc_new w _)
  have HB2 := Lib.hid (show ((w.alloc (.cells #[.string A, .int .i64 m] 38)).alloc (.cells #[.string C, .int .i64 n] 38)).heap[w.heap.size + 1]? = some (.cells #[.string C, .int .i64 n] 38 (0, 0)) from by
    have := heap_alloc_new (w.alloc (.cells #[.string A, .int .i64 m] 38)) (.cells #[.string C, .int .i64 n] 38)
    rwa [World.size_alloc] at this)
  obtain ⟨W2, hW2⟩ : ∃ W2, (w.alloc (.cells #[.string A, .int .i64 m] 38)).alloc (.cells #[.string C, .int .i64 n] 38) = W2 := ⟨_, rfl⟩
  have hs2 : W2.heap.size = w.heap.size + 1 + 1 := by rw [← hW2]; simp
  have HNW := Lib.hid (show (W2.alloc (.cells #[.int .i64 x, .int .i64 y] 3)).drew.cell? ⟨w.heap.size + 1 + 1, 0, none⟩ = some (.int .i64 x) ∧ (W2.alloc (.cells #[.int .i64 x, .int .i64 y] 3)).drew.cell? ⟨w.heap.size + 1 + 1, 1, none⟩ = some (.int .i64 y) from
    cells2' (w := (W2.alloc (.cells #[.int .i64 x, .int .i64 y] 3)).drew) (T := 3) (by rw [← hs2]; exact heap_alloc_new W2 _))
  rw [hW2] at HB1 HB2
  have HB1o := Lib.hid (fun o => (show (W2.alloc o).heap[w.heap.size]? = _ from (Below.heap_alloc W2 o _ (by rw [hs2]; omega)).trans HB1.out))
  have HB2o := Lib.hid (fun o => (show (W2.alloc o).heap[w.heap.size + 1]? = _ from (Below.heap_alloc W2 o _ (by rw [hs2]; omega)).trans HB2.out))
  have HBW := Lib.hid (show Below w.heap.size w W2 from by rw [← hW2]; exact ((Below.refl _ w).alloc (Nat.le_refl _) _).alloc (by simp) _)
  have HBWo := Lib.hid (fun o => (show Below w.heap.size w (W2.alloc o) from HBW.out.alloc HBW.out.size _))
  rw [← hW2] at HNW HB1 HB2 HB1o HB2o HBW HBWo
  clear KP hs2 hW2
  go_enter Tryd.func27, Tryd.ntmps27
  go_wp2_with fail
  go_region_held3 (fun w' => w'.cell? ⟨w.heap.size, 0, none⟩ = some (.string A) ∧ w'.cell? ⟨w.heap.size, 1, none⟩ = some (.int .i64 m) ∧ w'.cell? ⟨w.heap.size + 1, 0, none⟩ = some (.string C) ∧ w'.cell? ⟨w.heap.size + 1, 1, none⟩ = some (.int .i64 n))
    (first | exact HKP.out _ HB1.out HB2.out | exact HKP.out _ (HB1o.out _) (HB2o.out _))
    (first
      | (go_at_call 25; refine (HS.out _).mono ?_; rintro e w' ⟨rfl, rfl⟩)
      | (go_at_call 29; refine (HI.out _).mono ?_; rintro e w' ⟨rfl, rfl⟩)
      | (go_at_call 28; refine (HOr.out _ _ HNW.out.1 HNW.out.2).mono ?_; rintro e w' ⟨rfl, rfl⟩)
      | fail "no arm")
  all_goals
    go_wp2_with fail
    go_ret
    exact ⟨rfl, by first | exact HBWo.out _ | exact (HBWo.out _).drew | exact below_drewN (HBWo.out _) _⟩
end Go.Proofs.YtjbkepjkmihojaaDoor
