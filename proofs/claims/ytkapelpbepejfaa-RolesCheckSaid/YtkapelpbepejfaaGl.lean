/- roles: open. Written by tools/gengk.py. -/
import Derived.Test.YtkapelpbepejfaaGk
namespace Go.Proofs.Ytkapelpbepejfaa
open Go Go.RowKit Go.Deep Go.Shelf
set_option linter.unusedVariables false
set_option linter.unusedSimpArgs false

/-- An item that a role may work at. -/
def openB (x : IT) (s : ByteArray) : Bool := (x.roles.length == 0) || inB s x.roles
set_option maxRecDepth 100000 in
set_option maxHeartbeats 1000000 in
theorem open_c {S : Nat → Prop} {d : Nat} (w : World) (cs : List Value) (x : IT) (s : ByteArray) (hx : ItemV S w d cs x) : Calls Try.prog 21 #[.agg cs.toArray, .string s] w fun e w' => e = .returned (.bool (openB x s)) ∧ Below w.heap.size w w' := by
  have hE := enters_of Try.func32 (by kernel_rfl) rfl
  obtain ⟨i0, i1, i2, en, ex, i5, i6, i7, i8, i9, i10, ro, ki, tb⟩ := x
  obtain ⟨hok1, ev, xv, rv, kv, tv, rfl, k1, k2, k3, k4, k5⟩ := hx
  dsimp only [IT.entry, IT.exit, IT.roles, IT.kids, IT.table] at k1 k2 k3 k4 k5
  obtain ⟨a3, q3, rfl, _⟩ := k1.form
  obtain ⟨a4, q4, rfl, _⟩ := k2.form
  obtain ⟨a11, q11, rfl, _, hrm, _⟩ := k3.form
  obtain ⟨a12, q12, rfl, _⟩ := k4.form
  obtain ⟨a13, q13, rfl, _⟩ := k5.form
  have hrl : ro.length ≤ 9223372036854775807 := by have := k3.2; omega
  simp only [item14, IT.id, IT.nm, IT.kind, IT.man, IT.req, IT.rep, IT.auto, IT.free, IT.after]
  have HH := Lib.hid (fun (W : World) (b : Nat) (hW : Below w.heap.size w W) (hb : W.heap[b]? = some (.cells #[.string s] 9 (0, 0))) => has1_c W _ ro (k3.keep hW.size (fun k _ hl => hW.block k hl)) s b hb)
  obtain ⟨q, hq⟩ : ∃ q, q = inB s ro := ⟨_, rfl⟩
  have HQ := Lib.hid (show ∀ t, (((ro.length : Nat) : Int) == 0) = t → openB (.mk i0 i1 i2 en ex i5 i6 i7 i8 i9 i10 ro ki tb) s = (t || q) from fun t ht => by
    rw [hq, ← ht]
    simp only [openB, IT.roles]
    congr 1
    rw [Bool.eq_iff_iff]
    simp only [beq_iff_eq]
    omega)
  rw [← hq] at HH
  clear k1 k2 k3 k4 k5 hq hok1
  generalize en.length = n3 at *
  generalize ex.length = n4 at *
  generalize ro.length = n11 at *
  generalize ki.length = n12 at *
  generalize tb.length = n13 at *
  have HP := Lib.hid has_p
  obtain ⟨w0, hw0⟩ : ∃ y, y = w.alloc (.cells #[.string i0, .string i1, .int .i64 i2, .slice a3 n3 q3, .slice a4 n4 q4, .string i5, .string i6, .string i7, .bool i8, .bool i9, .int .i64 i10, .slice a11 n11 q11, .slice a12 n12 q12, .slice a13 n13 q13] 27) := ⟨_, rfl⟩
  have HW0 := Lib.hid hw0
  have HB0 := Lib.hid (show Below w.heap.size w w0 from by rw [hw0]; exact (Below.refl _ _).alloc (Nat.le_refl _) _)
  have c2 : ∀ o, (w0.alloc o).cell? ⟨w.heap.size, 11, none⟩ = some (.slice a11 n11 q11) ∧ w0.cell? ⟨w.heap.size, 11, none⟩ = some (.slice a11 n11 q11) := fun o => by
    have h0 : w0.heap[w.heap.size]? = some (.cells #[.string i0, .string i1, .int .i64 i2, .slice a3 n3 q3, .slice a4 n4 q4, .string i5, .string i6, .string i7, .bool i8, .bool i9, .int .i64 i10, .slice a11 n11 q11, .slice a12 n12 q12, .slice a13 n13 q13] 27 (0, 0)) := by rw [hw0]; exact heap_alloc_new w _
    have h1 : (w0.alloc o).heap[w.heap.size]? = some (.cells #[.string i0, .string i1, .int .i64 i2, .slice a3 n3 q3, .slice a4 n4 q4, .string i5, .string i6, .string i7, .bool i8, .bool i9, .int .i64 i10, .slice a11 n11 q11, .slice a12 n12 q12, .slice a13 n13 q13] 27 (0, 0)) := (Below.heap_alloc _ _ _ (Array.getElem?_eq_some_iff.1 h0).1).trans h0
    exact ⟨by simp [World.cell?, h1], by simp [World.cell?, h0]⟩
  have c3 := (c2 (.cells #[.string s] 9)).1
  have c4 := (c2 (.cells #[.string s] 9)).2
  clear c2 hw0
  by_cases ht : ((n11 : Int) == 0) = true
  · go_enter Try.func21, Try.ntmps21
    go_wp2_with fail
    rw [← HW0.out]
    go_quiet (fail)
    go_wp2_with fail
    go_ret
    exact ⟨by rw [HQ.out true ht]; rfl, by first | exact HB0.out.drew | exact HB0.out | exact below_drewN HB0.out _⟩
  · have ht2 : ((n11 : Int) == 0) = false := by simpa using ht
    have ht3 : ¬ (n11 = 0) := by
      intro h
      subst h
      exact ht rfl
    clear ht
    go_enter Try.func21, Try.ntmps21
    go_wp2_with fail
    rw [← HW0.out]
    go_region_law (first
      | (go_simp; go_at_call 23; refine (HP.out _ _).mono ?_; rintro e w1 ⟨rfl, rfl⟩)
      | (go_simp; go_at_call 32; refine (HH.out _ w0.heap.size (by first | exact HB0.out.alloc HB0.out.size _ | exact (HB0.out.drew).alloc HB0.out.size _ | exact (HB0.out.alloc HB0.out.size _).drew) (by exact heap_alloc_new w0 _)).mono ?_; rintro e w2 ⟨rfl, rfl⟩)
      | fail "no arm")
    all_goals
      go_wp2_with fail
      go_ret
      exact ⟨by rw [HQ.out false ht2]; rfl, by first | exact HB0.out.alloc HB0.out.size _ | exact (HB0.out.drew).alloc HB0.out.size _ | exact (HB0.out.alloc HB0.out.size _).drew⟩
end Go.Proofs.Ytkapelpbepejfaa
