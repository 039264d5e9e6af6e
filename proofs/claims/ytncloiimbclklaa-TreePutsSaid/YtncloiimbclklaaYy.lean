/- Cases: whether two documents are the same (the program's). Written by tools/genyy.py. -/
import Derived.Test.YtncloiimbclklaaYx
namespace Go.Proofs.Ytncloiimbclklaa
open Go Go.RowKit Go.Shelf
set_option linter.unusedVariables false
set_option linter.unusedSimpArgs false

theorem run_eqlV (w : World) (k k2 n n2 : Int) (b b2 : Bool) (t t2 : ByteArray) : (binOp .eql 46 (.agg #[.int .i64 k, .int .i64 n, .bool b, .string t]) (.agg #[.int .i64 k2, .int .i64 n2, .bool b2, .string t2])).run Try.prog w = .ok (.bool (sameVal k k2 n n2 b b2 t t2)) w := by
  rw [run_eql_struct, run_equalIn_agg _ _ _ _ _ structV heldV]
  have hf := fieldsV
  generalize (Try.prog.fieldsOf 46).toList = fs at hf
  unfold sameVal
  rcases fs with _ | ⟨f0, _ | ⟨f1, _ | ⟨f2, _ | ⟨f3, _ | ⟨f4, r⟩⟩⟩⟩⟩
  · simp at hf
  · simp at hf
  · simp at hf
  · simp at hf
  · simp only [List.map_cons, List.map_nil, List.cons.injEq, Prod.mk.injEq, and_true] at hf
    obtain ⟨⟨n0, t0, o0⟩, ⟨n1, t1, o1⟩, ⟨n2', t2', o2⟩, n3, t3, o3⟩ := hf
    simp only [Op.eqFields, t0, t1, t2', t3, o0, o1, o2, o3]
    simp only [bne_iff_ne] at n0 n1 n2' n3
    rw [if_pos n0, if_pos n1, if_pos n2', if_pos n3]
    obtain ⟨q1, h1⟩ : ∃ q, (k == k2) = q := ⟨_, rfl⟩
    obtain ⟨q2, h2⟩ : ∃ q, (n == n2) = q := ⟨_, rfl⟩
    obtain ⟨q3, h3⟩ : ∃ q, (b == b2) = q := ⟨_, rfl⟩
    obtain ⟨q4, h4⟩ : ∃ q, (t.toList == t2.toList) = q := ⟨_, rfl⟩
    cases q1 <;> cases q2 <;> cases q3 <;> cases q4 <;> simp [go_sem, part, h1, h2, h3, h4]
  · simp at hf

set_option maxRecDepth 100000 in
set_option maxHeartbeats 2000000 in
theorem sameDoc_c (w : World) (x y : DV) (hx : DVok w x) (hy : DVok w y) : Calls Try.prog 43 #[.agg x.cells.toArray, .agg y.cells.toArray] w fun e w' => e = .returned (.bool (sameD x y)) ∧ Below w.heap.size w w' := by
  obtain ⟨R, hR⟩ : ∃ R, R = sameD x y := ⟨_, rfl⟩
  have HR := Lib.hid (show R = ((x.path.toList == y.path.toList) && (sameVal x.vk y.vk x.vi y.vi x.vb y.vb x.vt y.vt && sameT x.rs y.rs)) from hR)
  rw [← hR]
  clear hR
  have HZ := Lib.hid (fun (W : World) (hb : Below w.heap.size w W) => equalT_c W x.rv y.rv x.rs y.rs (hx.rr.below hb) (hy.rr.below hb))
  obtain ⟨pl, cp, hlv⟩ := hx.rr.form
  obtain ⟨pl2, cp2, hlv2⟩ := hy.rr.form
  obtain ⟨path, vk, vi, vb, vt, rv, rs⟩ := x
  obtain ⟨path2, vk2, vi2, vb2, vt2, rv2, rs2⟩ := y
  dsimp only at HR HZ hlv hlv2
  subst hlv hlv2
  unfold DV.cells
  dsimp only
  have HBX := Lib.hid (fun o o2 => (box_bel' w o).alloc (box_bel' w o).size o2)
  have HV := Lib.hid (fun W => run_eqlV W vk vk2 vi vi2 vb vb2 vt vt2)
  obtain ⟨q1, h1⟩ : ∃ q, (path.toList == path2.toList) = q := ⟨_, rfl⟩
  obtain ⟨q2, h2⟩ : ∃ q, sameVal vk vk2 vi vi2 vb vb2 vt vt2 = q := ⟨_, rfl⟩
  obtain ⟨q3, h3⟩ : ∃ q, sameT rs rs2 = q := ⟨_, rfl⟩
  rw [h1, h2, h3] at HR
  simp only [h3] at HZ
  simp only [h2] at HV
  clear hx hy h2 h3
  have hv := HV.out
  cases q1
  · have HE := Lib.hid (show R = false from by rw [HR.out]; simp)
    go_enter Try.func43, Try.ntmps43
    go_wp2_with fail
    go_ret
    exact ⟨by rw [HE.out]; rfl, HBX.out _ _⟩
  · cases q2
    · have HE := Lib.hid (show R = false from by rw [HR.out]; simp)
      go_enter Try.func43, Try.ntmps43
      go_wp2_with fail
      go_ret
      exact ⟨by rw [HE.out]; rfl, HBX.out _ _⟩
    · have HE := Lib.hid (show R = q3 from by rw [HR.out]; simp)
      go_enter Try.func43, Try.ntmps43
      go_wp2_with fail
      refine (HZ.out _ (HBX.out _ _)).mono ?_
      rintro e w1 ⟨rfl, d, hw1⟩
      have HB1 := Lib.hid (show Below w.heap.size w w1 from by rw [hw1]; exact below_drewN (HBX.out _ _) _)
      clear hw1
      go_wp2_with fail
      go_ret
      exact ⟨by rw [HE.out]; rfl, HB1.out⟩
end Go.Proofs.Ytncloiimbclklaa
