/- the reference's disk: set in place; set. -/
import Derived.Test.YtcpldjaoacihlaaRu
namespace Go.Proofs.Ytcpldjaoacihlaa
open Go.RowKit
set_option linter.unusedVariables false

theorem OwnS.set {w : World} {base : Nat} {e : TypeId} {size n c g off : Nat} {xs : List Value} (h : OwnS w base e size (.slice (some ⟨g, off, none⟩) n c) n xs) (j : Nat) (hj : j < xs.length) (u : Value) :
    OwnS (w.setCell ⟨g, off + j, none⟩ u) base e size (.slice (some ⟨g, off, none⟩) n c) n (xs.set j u) := by
  obtain ⟨hl, h⟩ := h
  refine ⟨by simpa using hl, .inr ?_⟩
  rcases h with ⟨hv, _⟩ | ⟨g', off', cap, cur, hv, hb, hc, h1, h2, h3, h4⟩
  · cases hv
  · cases hv
    refine ⟨g, off, c, _, rfl, hb, heap_mod hc, h1, h2, by simpa using h3, ?_⟩
    rw [Array.toList_setIfInBounds, List.drop_set, if_neg (by omega), Nat.add_sub_cancel_left, List.take_set, h4]

section
variable {w : World} {qb : Nat} {s : DS} {lv : Value} {G : Ents}

theorem set_fin_old {g off c : Nat} (h : RC w qb s (.slice (some ⟨g, off, none⟩) G.length c) G) (hq : g ≠ qb) (hbb : ∀ i ∈ bblks G, i ≠ qb ∧ i ≠ g) (n : ByteArray) (bv : Value) (f : Fl) (hrd : Rd w bv f.data) (hbv : ∀ i, f.data.length ≠ 0 → bv.ownBlock = some i → i ≠ qb ∧ i ≠ g)
    {x : Value × Fl} (hx : getA n.data.toList G = some x) (ho : ({ s with fs := putA n.data.toList f s.fs } : DS).Ok) {K : Nat} (hK : K = posA n.data.toList G) {w4 : World} (hB : Below w.heap.size w w4) :
    SetPost w qb s (.slice (some ⟨g, off, none⟩) G.length c) G n.data.toList bv f (((w4.setCell ⟨g, off + K * 3, none⟩ (.string n)).setCell ⟨g, off + K * 3 + 1, none⟩ bv).setCell ⟨g, off + K * 3 + 2, none⟩ (.int .i64 f.sy)) := by
  have hput := putA_old h.risG (bv, f) hx
  obtain ⟨hlt, hsp⟩ := getA_split h.risG hx
  rw [← hK] at hput hlt hsp
  have hlen : (putA n.data.toList (bv, f) G).length = G.length := by
    rw [hput]; simp; omega
  have hA : (flat (G.take K)).length = K * 3 := by rw [flat_length, List.length_take]; congr 1; omega
  have hfl0 : flat G = flat (G.take K) ++ ([.string ⟨n.data.toList.toArray⟩, x.1, .int .i64 x.2.sy] ++ flat (G.drop (K + 1))) := by
    conv => lhs; rw [hsp, flat_app]
    simp [flat, fcells]
  have hfl : flat (putA n.data.toList (bv, f) G) = (((flat G).set (K * 3) (.string n)).set (K * 3 + 1) bv).set (K * 3 + 2) (.int .i64 f.sy) := by
    rw [hput, flat_app, hfl0]
    rw [List.set_append_right _ _ (by omega), List.set_append_right _ _ (by omega), List.set_append_right _ _ (by omega), hA]
    simp [flat, fcells]
  have hfar : ∀ i, i < w.heap.size → i ≠ g → (((w4.setCell ⟨g, off + K * 3, none⟩ (.string n)).setCell ⟨g, off + K * 3 + 1, none⟩ bv).setCell ⟨g, off + K * 3 + 2, none⟩ (.int .i64 f.sy)).heap[i]? = w.heap[i]? := fun i h1 h2 =>
    (Below.heap_setCell _ _ _ _ h2).trans ((Below.heap_setCell _ _ _ _ h2).trans ((Below.heap_setCell _ _ _ _ h2).trans (hB.block i h1)))
  have hrow := (h.below hB).row
  have hl3 : (flat G).length = G.length * 3 := flat_length G
  have e1 := hrow.set (K * 3) (by omega) (.string n)
  have e2 := e1.set (K * 3 + 1) (by simp; omega) bv
  have e3 := e2.set (K * 3 + 2) (by simp; omega) (.int .i64 f.sy)
  rw [← hfl] at e3
  simp only [← Nat.add_assoc] at e3
  refine ⟨_, ⟨(hfar qb h.ltq (Ne.symm hq)).trans h.blk, by rw [hlen]; exact e3, ?_, fun p hp => ?_, ho⟩, .inl rfl, ?_⟩
  · show putA n.data.toList f s.fs = fils (putA n.data.toList (bv, f) G)
    rw [h.fs]
    unfold fils
    exact (mapA_putA (fun b : Value × Fl => b.2) _ (bv, f) _).symm
  · rcases mem_putA.1 hp with rfl | ⟨hp, _⟩
    · exact Rd.keep' hrd fun i h1 h2 => hfar i (Rd.lt hrd (by simp only at h1; omega) i h2) (hbv i h1 h2).2
    · exact Rd.keep' (h.rd p hp) fun i h1 h2 => hfar i (h.ltb i (mem_bblks hp h1 h2)) (hbb i (mem_bblks hp h1 h2)).2
  · have hc : Chg (qb :: (Value.slice (some ⟨g, off, none⟩) G.length c).ownBlock.toList) w w4 := Chg.of_below hB
    exact ((hc.set' _ _ _ (by simp [Value.ownBlock])).set' _ _ _ (by simp [Value.ownBlock])).set' _ _ _ (by simp [Value.ownBlock])

set_option maxRecDepth 100000 in
theorem set_old {g off c : Nat} (h : RC w qb s (.slice (some ⟨g, off, none⟩) G.length c) G) (hq : g ≠ qb) (hbb : ∀ i ∈ bblks G, i ≠ qb ∧ i ≠ g) (n : ByteArray) (hn : n.size ≤ 9223372036854775807) (bp : Option Addr) (bc : Nat) (f : Fl)
    (hrd : Rd w (.slice bp f.data.length bc) f.data) (hbv : ∀ i, f.data.length ≠ 0 → (Value.slice bp f.data.length bc).ownBlock = some i → i ≠ qb ∧ i ≠ g) {x : Value × Fl} (hx : getA n.data.toList G = some x) (ho : ({ s with fs := putA n.data.toList f s.fs } : DS).Ok) :
    Calls Try.prog 59 #[.pointer (some ⟨qb, 0, none⟩), .agg #[.string n, .slice bp f.data.length bc, .int .i64 f.sy]] w fun e w' => e = .returned (.tuple #[]) ∧ SetPost w qb s (.slice (some ⟨g, off, none⟩) G.length c) G n.data.toList (.slice bp f.data.length bc) f w' := by
  have HC := Lib.hid h
  have HN := Lib.hid hn
  have HG := Lib.hid (show (getA n.data.toList G).isSome = true from by rw [hx]; rfl)
  have HF := Lib.hid (And.intro hq (And.intro hbb (And.intro hrd (And.intro hbv (And.intro hx ho)))))
  obtain ⟨c0, c1, c2, c3, cf⟩ := cells4 h.blk
  have hltq := h.ltq
  have hlt := (getA_split h.risG hx).1
  obtain ⟨K, hK⟩ : ∃ K, K = posA n.data.toList G := ⟨_, rfl⟩
  have HK := Lib.hid hK
  rw [← hK] at hlt
  obtain ⟨z1, z2, z3, n1, n2, n3⟩ : ∃ z1 z2 z3, w.cell? ⟨g, off + K * 3, none⟩ = some (.string z1) ∧ w.cell? ⟨g, off + K * 3 + 1, none⟩ = some z2 ∧ w.cell? ⟨g, off + K * 3 + 2, none⟩ = some (.int .i64 z3) := by
    obtain ⟨g', off', c', e, n1, n2, n3⟩ := h.ent hlt
    simp only [Value.slice.injEq, Option.some.injEq, Addr.mk.injEq, and_true, true_and] at e
    obtain ⟨⟨rfl, rfl⟩, rfl⟩ := e
    exact ⟨_, _, _, n1, n2, n3⟩
  have hltg := World.block_lt_of_cell? w _ n1
  obtain ⟨l1, l2⟩ : G.length ≤ c ∧ c ≤ maxLen := by
    obtain ⟨_, _, e, l1, l2, _⟩ := h.row.form
    simp only [Value.slice.injEq, true_and] at e
    omega
  have frz : ∀ o, w.frozen? ⟨g, o, none⟩ = false := by
    rcases h.row.2 with ⟨hv, _⟩ | ⟨g', off', cap, cur, hv, _, hg', _⟩
    · cases hv
    · cases hv
      intro o
      simp [World.frozen?, hg']
  unfold maxLen at l2
  clear h hn hq hbb hrd hbv ho hx hK c1 c2 c3 cf
  go_enter Try.func59, Try.ntmps59
  go_wp2_with fail
  refine (place_r (HC.out.alloc _) n HN.out).mono ?_
  rintro e w' ⟨rfl, kd, rfl⟩
  rw [HG.out, ← HK.out]
  go_wp2_with fail
  refine wp_region_cut (S := (fun w' => w'.cell? ⟨qb, 0, none⟩ = some (.slice (some ⟨g, off, none⟩) G.length c) ∧ w'.cell? ⟨w.heap.size, 0, none⟩ = some (.string n) ∧ w'.cell? ⟨w.heap.size, 1, none⟩ = some (.slice bp f.data.length bc) ∧ w'.cell? ⟨w.heap.size, 2, none⟩ = some (.int .i64 f.sy))) 7 (by kernel_rfl) (by kernel_rfl) ?_ (fun hHeld => ?_)
  · (try dsimp only)
    (refine ⟨?_, ?_, ?_, ?_⟩ <;> go_simp)
  simp only [List.take_succ_cons, List.take_zero]
  (try dsimp only at hHeld)
  all_goals (repeat (first
         | (refine wpAnyH_take (i := 0) (v := ?_) rfl (by decide +kernel) (by decide +kernel) (by decide +kernel) (fun _ _ _ h => h) (Or.inl ⟨by rfl, ?_⟩) (by assumption) ?_; rotate_left 1; (focus (intro w hSw; (try dsimp only at hSw); (try simp only [List.getElem_toArray, List.getElem_cons_zero]); first | (go_simp; done) | (go_simp; with_reducible rfl))); (try simp only [Act.put, List.getElem_toArray, List.getElem_cons_zero, List.setIfInBounds_toArray, List.set_cons_zero, List.set_cons_succ]))
         | (refine wpAnyH_take (i := 1) (v := ?_) rfl (by decide +kernel) (by decide +kernel) (by decide +kernel) (fun _ _ _ h => h) (Or.inl ⟨by rfl, ?_⟩) (by assumption) ?_; rotate_left 1; (focus (intro w hSw; (try dsimp only at hSw); (try simp only [List.getElem_toArray, List.getElem_cons_succ, List.getElem_cons_zero]); first | (go_simp; done) | (go_simp; with_reducible rfl))); (try simp only [Act.put, List.getElem_toArray, List.getElem_cons_succ, List.getElem_cons_zero, List.setIfInBounds_toArray, List.set_cons_zero, List.set_cons_succ]))
         | (refine wpAnyH_take (i := 2) (v := ?_) rfl (by decide +kernel) (by decide +kernel) (by decide +kernel) (fun _ _ _ h => h) (Or.inl ⟨by rfl, ?_⟩) (by assumption) ?_; rotate_left 1; (focus (intro w hSw; (try dsimp only at hSw); (try simp only [List.getElem_toArray, List.getElem_cons_succ, List.getElem_cons_zero]); first | (go_simp; done) | (go_simp; with_reducible rfl))); (try simp only [Act.put, List.getElem_toArray, List.getElem_cons_succ, List.getElem_cons_zero, List.setIfInBounds_toArray, List.set_cons_zero, List.set_cons_succ]))
         | (refine wpAnyH_take (i := 3) (v := ?_) rfl (by decide +kernel) (by decide +kernel) (by decide +kernel) (fun _ _ _ h => h) (Or.inl ⟨by rfl, ?_⟩) (by assumption) ?_; rotate_left 1; (focus (intro w hSw; (try dsimp only at hSw); (try simp only [List.getElem_toArray, List.getElem_cons_succ, List.getElem_cons_zero]); first | (go_simp; done) | (go_simp; with_reducible rfl))); (try simp only [Act.put, List.getElem_toArray, List.getElem_cons_succ, List.getElem_cons_zero, List.setIfInBounds_toArray, List.set_cons_zero, List.set_cons_succ]))
         | (refine wpAnyH_take (i := 4) (v := ?_) rfl (by decide +kernel) (by decide +kernel) (by decide +kernel) (fun _ _ _ h => h) (Or.inl ⟨by rfl, ?_⟩) (by assumption) ?_; rotate_left 1; (focus (intro w hSw; (try dsimp only at hSw); (try simp only [List.getElem_toArray, List.getElem_cons_succ, List.getElem_cons_zero]); first | (go_simp; done) | (go_simp; with_reducible rfl))); (try simp only [Act.put, List.getElem_toArray, List.getElem_cons_succ, List.getElem_cons_zero, List.setIfInBounds_toArray, List.set_cons_zero, List.set_cons_succ]))
         | (refine wpAnyH_take (i := 5) (v := ?_) rfl (by decide +kernel) (by decide +kernel) (by decide +kernel) (fun _ _ _ h => h) (Or.inl ⟨by rfl, ?_⟩) (by assumption) ?_; rotate_left 1; (focus (intro w hSw; (try dsimp only at hSw); (try simp only [List.getElem_toArray, List.getElem_cons_succ, List.getElem_cons_zero]); first | (go_simp; done) | (go_simp; with_reducible rfl))); (try simp only [Act.put, List.getElem_toArray, List.getElem_cons_succ, List.getElem_cons_zero, List.setIfInBounds_toArray, List.set_cons_zero, List.set_cons_succ]))
         | (refine wpAnyH_take (i := 6) (v := ?_) rfl (by decide +kernel) (by decide +kernel) (by decide +kernel) (fun _ _ _ h => h) (Or.inl ⟨by rfl, ?_⟩) (by assumption) ?_; rotate_left 1; (focus (intro w hSw; (try dsimp only at hSw); (try simp only [List.getElem_toArray, List.getElem_cons_succ, List.getElem_cons_zero]); first | (go_simp; done) | (go_simp; with_reducible rfl))); (try simp only [Act.put, List.getElem_toArray, List.getElem_cons_succ, List.getElem_cons_zero, List.setIfInBounds_toArray, List.set_cons_zero, List.set_cons_succ]))
         | fail "nothing to take"))
  all_goals refine wpAnyH_done (by decide +kernel) ?_ _
  all_goals simp only [cutPost, List.drop_succ_cons, List.drop_zero]
  go_wp2_with fail
  refine bodyPost_ret (v := .tuple #[]) (by simp [results, Try.results59, go_sem]) rfl ?_
  exact ⟨rfl, set_fin_old HC.out HF.out.1 HF.out.2.1 n _ f HF.out.2.2.1 HF.out.2.2.2.1 HF.out.2.2.2.2.1 HF.out.2.2.2.2.2 HK.out (below_drewN ((Below.refl _ _).alloc (Nat.le_refl _) _) _)⟩
end
end Go.Proofs.Ytcpldjaoacihlaa
