/- Instances: whether two are the same (the reference's). Written by tools/genyf.py. -/
import Derived.Test.YtllhlmdhnmdihaaDoorYe
import Derived.Deep.QuietTactic
namespace Go.Proofs.YtllhlmdhnmdihaaDoor
open Go Go.RowKit
set_option linter.unusedVariables false
set_option linter.unusedSimpArgs false

def sameI (x y : IV) : Bool := (x.path.toList == y.path.toList) && ((x.item.toList == y.item.toList) && ((x.st == y.st) && ((x.bf == y.bf) && ((x.due == y.due) && (decide (x.ls.length = y.ls.length) && (x.ls == y.ls))))))
theorem RdV.at {w : World} {p : Option Addr} {n c : Nat} {cs : List Value} (h : RdV w (.slice p n c) cs) {k : Nat} (hk : k < cs.length) {u : Value} (hu : cs[k]? = some u) : ∃ b o, p = some ⟨b, o, none⟩ ∧ b < w.heap.size ∧ w.cell? ⟨b, o + k, none⟩ = some u := by
  obtain ⟨p', c', e, h1, h2, h3, h4⟩ := h
  simp only [Value.slice.injEq] at e
  obtain ⟨rfl, _, rfl⟩ := e
  obtain ⟨b, o, rfl, hx⟩ := h4 (by omega)
  have := hx k hk
  refine ⟨b, o, rfl, World.block_lt_of_cell? w _ this, ?_⟩
  rw [this, ← hu, List.getElem?_eq_getElem hk]

set_option maxRecDepth 100000 in
set_option maxHeartbeats 2000000 in
theorem rsame_c (w : World) (x y : IV) (hx : IVok w x) (hy : IVok w y) : Calls Tryd.prog 15 #[.agg x.cells.toArray, .agg y.cells.toArray] w fun e w' => e = .returned (.bool (sameI x y)) ∧ Below w.heap.size w w' := by
  obtain ⟨R, hR⟩ : ∃ R, R = sameI x y := ⟨_, rfl⟩
  have HR := Lib.hid hR
  rw [← hR]
  clear hR
  obtain ⟨path, item, st, bf, lv, ls, due⟩ := x
  obtain ⟨path2, item2, st2, bf2, lv2, ls2, due2⟩ := y
  unfold sameI at HR
  have hr1 := hx.rl
  have hr2 := hy.rl
  dsimp only at HR hr1 hr2
  obtain ⟨p, cp, hlv⟩ := hr1.form
  obtain ⟨p2, cp2, hlv2⟩ := hr2.form
  subst hlv hlv2
  have hlen : (icells ls).length = ls.length := by simp [icells]
  have hlen2 : (icells ls2).length = ls2.length := by simp [icells]
  rw [hlen] at hr1 ⊢
  rw [hlen2] at hr2 ⊢
  have hn1 : ls.length ≤ 9223372036854775807 := by obtain ⟨p', c', e, h1, h2, _⟩ := hr1; rw [hlen] at h1; unfold maxLen at h2; omega
  have hn2 : ls2.length ≤ 9223372036854775807 := by obtain ⟨p', c', e, h1, h2, _⟩ := hr2; rw [hlen2] at h1; unfold maxLen at h2; omega
  unfold IV.cells
  dsimp only
  have HB2 := Lib.hid (fun o o2 => (box_bel' w o).alloc (box_bel' w o).size o2)
  have HC1 := Lib.hid (fun k (hk : k < ls.length) => hr1.at (k := k) (u := .int .i64 ls[k]) (by rw [hlen]; exact hk) (by simp [icells, hk]))
  have HC2 := Lib.hid (fun k (hk : k < ls2.length) => hr2.at (k := k) (u := .int .i64 ls2[k]) (by rw [hlen2]; exact hk) (by simp [icells, hk]))
  obtain ⟨q1, h1⟩ : ∃ q, (path.toList == path2.toList) = q := ⟨_, rfl⟩
  obtain ⟨q2, h2⟩ : ∃ q, (item.toList == item2.toList) = q := ⟨_, rfl⟩
  obtain ⟨q3, h3⟩ : ∃ q, (st == st2) = q := ⟨_, rfl⟩
  obtain ⟨q4, h4⟩ : ∃ q, (bf == bf2) = q := ⟨_, rfl⟩
  obtain ⟨q5, h5⟩ : ∃ q, (due == due2) = q := ⟨_, rfl⟩
  obtain ⟨q6, h6⟩ : ∃ q, decide (ls.length = ls2.length) = q := ⟨_, rfl⟩
  have h6' : ((ls.length : Int) == (ls2.length : Int)) = q6 := by
    rw [← h6]
    by_cases e : ls.length = ls2.length
    · rw [decide_eq_true e, e]; simp
    · rw [decide_eq_false e, beq_eq_false_iff_ne]; omega
  have h6'' : (ls.length == ls2.length) = q6 := by
    rw [← h6]
    by_cases e : ls.length = ls2.length
    · rw [decide_eq_true e, e]; simp
    · rw [decide_eq_false e, beq_eq_false_iff_ne]; exact e
  rw [h1, h2, h3, h4, h5, h6] at HR
  replace h3 : (st != st2) = !q3 := by rw [bne, h3]
  replace h4 : (bf != bf2) = !q4 := by rw [bne, h4]
  replace h5 : (due != due2) = !q5 := by rw [bne, h5]
  replace h6' : ((ls.length : Int) != (ls2.length : Int)) = !q6 := by rw [bne, h6']
  clear hx hy hr1 hr2 hlen hlen2
  cases q1
  · have HE := Lib.hid (show R = false from by rw [HR.out]; simp)
    clear h2 h3 h4 h5 h6 h6' h6''
    go_enter Tryd.func15, Tryd.ntmps15
    go_wp2_with fail
    go_ret
    exact ⟨by rw [HE.out]; rfl, HB2.out _ _⟩
  · skip
    cases q2
    · have HE := Lib.hid (show R = false from by rw [HR.out]; simp)
      clear h3 h4 h5 h6 h6' h6''
      go_enter Tryd.func15, Tryd.ntmps15
      go_wp2_with fail
      go_ret
      exact ⟨by rw [HE.out]; rfl, HB2.out _ _⟩
    · skip
      cases q3
      · have HE := Lib.hid (show R = false from by rw [HR.out]; simp)
        clear h4 h5 h6 h6' h6''
        go_enter Tryd.func15, Tryd.ntmps15
        go_wp2_with fail
        go_ret
        exact ⟨by rw [HE.out]; rfl, HB2.out _ _⟩
      · skip
        cases q4
        · have HE := Lib.hid (show R = false from by rw [HR.out]; simp)
          clear h5 h6 h6' h6''
          go_enter Tryd.func15, Tryd.ntmps15
          go_wp2_with fail
          go_ret
          exact ⟨by rw [HE.out]; rfl, HB2.out _ _⟩
        · skip
          cases q5
          · have HE := Lib.hid (show R = false from by rw [HR.out]; simp)
            clear h6 h6' h6''
            go_enter Tryd.func15, Tryd.ntmps15
            go_wp2_with fail
            go_ret
            exact ⟨by rw [HE.out]; rfl, HB2.out _ _⟩
          · skip
            cases q6
            · have HE := Lib.hid (show R = false from by rw [HR.out]; simp)
              go_enter Tryd.func15, Tryd.ntmps15
              go_wp2_with fail
              go_ret
              exact ⟨by rw [HE.out]; rfl, HB2.out _ _⟩
            · have hll : ls.length = ls2.length := by simpa using h6
              have HLL := Lib.hid hll
              have h7 : ((ls.length : Int) != (ls2.length : Int)) = false := h6'
              clear h6 h6' h6'' hll hn2
              go_enter Tryd.func15, Tryd.ntmps15
              go_wp2_with fail
              clear h1 h2 h3 h4 h5 h7
              go_loopw [51] (fun i wr => ∃ k d : Nat, k ≤ ls.length ∧ i = .int .i64 k ∧ ls.take k = ls2.take k ∧ wr = ((w.alloc (.cells #[.string path, .string item, .int .i64 st, .int .i64 bf, .slice p ls.length cp, .int .i64 due] 51)).alloc (.cells #[.string path2, .string item2, .int .i64 st2, .int .i64 bf2, .slice p2 ls2.length cp2, .int .i64 due2] 51)).drewN d) (fun i _ => ls.length - (intOf i).toNat)
              case atStart => exact ⟨0, 0, by omega, rfl, by simp, rfl⟩
              case round =>
                obtain ⟨k, d, hk, rfl, ht, rfl⟩ := hrel
                have HT := Lib.hid ht
                clear ht
                by_cases hlt : k < ls.length
                · have hd : decide ((k : Int) < (ls.length : Int)) = true := decide_eq_true (by omega)
                  have hlt2 : k < ls2.length := by rw [← HLL.out]; exact hlt
                  obtain ⟨b1, o1, rfl, hb1, hc1⟩ := HC1.out k hlt
                  obtain ⟨b2, o2, rfl, hb2, hc2⟩ := HC2.out k hlt2
                  have hlt3 : k < ls2.length := hlt2
                  have HG1 := Lib.hid (List.take_succ_eq_append_getElem hlt)
                  have HG2 := Lib.hid (List.take_succ_eq_append_getElem hlt2)
                  obtain ⟨a1, ha1⟩ : ∃ a, ls[k] = a := ⟨_, rfl⟩
                  obtain ⟨a2, ha2⟩ : ∃ a, ls2[k] = a := ⟨_, rfl⟩
                  have HA1 := Lib.hid ha1
                  have HA2 := Lib.hid ha2
                  rw [ha1] at hc1
                  rw [ha2] at hc2
                  clear ha1 ha2
                  have hs1 : ∀ o o2 : Obj, ((w.alloc o).alloc o2).cell? ⟨b1, o1 + k, none⟩ = some (.int .i64 a1) := fun o o2 => by go_simp
                  have hs2 : ∀ x y : Obj, ((w.alloc x).alloc y).cell? ⟨b2, o2 + k, none⟩ = some (.int .i64 a2) := fun x y => by go_simp
                  by_cases he : a1 = a2
                  · have HX := Lib.hid (show ls.take (k + 1) = ls2.take (k + 1) from by rw [HG1.out, HG2.out, HT.out, HA1.out, HA2.out, he])
                    have hq : (a1 != a2) = false := by rw [he]; simp
                    clear he
                    go_wp2_with fail
                    go_quiet (fail)
                    go_wp2_with fail
                    go_roundw
                    case rel => exact ⟨k + 1, _, by omega, by go_num, HX.out, rfl⟩
                    case measure => simp [intOf]; omega
                  · have HE := Lib.hid (show R = false from by
                      rw [HR.out]
                      simp only [Bool.true_and, beq_eq_false_iff_ne]
                      intro e
                      subst e
                      exact he (HA1.out.symm.trans HA2.out))
                    have hq : (a1 != a2) = true := by simpa using he
                    clear he
                    go_wp2_with fail
                    go_quiet (fail)
                    go_wp2_with fail
                    go_ret
                    exact ⟨by rw [HE.out]; rfl, below_drewN (below_drewN (HB2.out _ _) _) _⟩
                · have hd : decide ((k : Int) < (ls.length : Int)) = false := decide_eq_false (by omega)
                  have HE := Lib.hid (show R = true from by
                    rw [HR.out]
                    have h := HT.out
                    rw [show k = ls.length from by omega] at h
                    rw [List.take_length, HLL.out, List.take_length] at h
                    simp [h])
                  go_wp2_with fail
                  go_ret
                  exact ⟨by rw [HE.out]; rfl, below_drewN (HB2.out _ _) _⟩
end Go.Proofs.YtllhlmdhnmdihaaDoor
