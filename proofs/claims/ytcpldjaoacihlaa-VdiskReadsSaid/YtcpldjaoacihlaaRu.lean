/- the reference's disk: set, the other cases. -/
import Derived.Test.YtcpldjaoacihlaaRs
namespace Go.Proofs.Ytcpldjaoacihlaa
open Go.RowKit
set_option linter.unusedVariables false

section
variable {w : World} {qb : Nat} {s : DS} {lv : Value} {G : Ents}

set_option maxRecDepth 100000 in
set_option maxHeartbeats 8000000 in
theorem set_new3 (h : RC w qb s (.slice none 0 0) []) (hq : (Value.slice none 0 0).ownBlock ≠ some qb) (hbb : qb ∉ bblks []) (n : ByteArray) (hn : n.size ≤ 9223372036854775807) (bp : Option Addr) (bc : Nat) (f : Fl)
    (hrd : Rd w (.slice bp f.data.length bc) f.data) (hbv : ∀ g, f.data.length ≠ 0 → (Value.slice bp f.data.length bc).ownBlock = some g → g ≠ qb) (hg : getA n.data.toList ([] : Ents) = none) (ho : ({ s with fs := putA n.data.toList f s.fs } : DS).Ok) :
    Calls Try.prog 59 #[.pointer (some ⟨qb, 0, none⟩), .agg #[.string n, .slice bp f.data.length bc, .int .i64 f.sy]] w fun e w' => e = .returned (.tuple #[]) ∧ SetPost w qb s (.slice none 0 0) [] n.data.toList (.slice bp f.data.length bc) f w' := by
  have HC := Lib.hid h
  have HN := Lib.hid hn
  have HG := Lib.hid (show (getA n.data.toList ([] : Ents)).isSome = false from by rw [hg]; rfl)
  have HQ := Lib.hid hq
  have HBV := Lib.hid (And.intro hbb (And.intro hrd (And.intro hbv ho)))
  obtain ⟨i0, hi, hz0, hz1, hz2⟩ := info_parts infoF
  obtain ⟨c0, c1, c2, c3, cf⟩ := cells4 h.blk
  have hltq := h.ltq
  have HK := Lib.hid (show 0 = posA n.data.toList ([] : Ents) from rfl)
  clear h hn hg hq c1 c2 c3 cf hbb hrd hbv ho
  have KEEP : ∀ w', Below (w.heap.size + 1) (w.alloc (.cells #[.string n, .slice bp f.data.length bc, .int .i64 f.sy] 69)) w' →
      w'.cell? ⟨qb, 0, none⟩ = some (.slice none 0 0) ∧ w'.cell? ⟨w.heap.size, 0, none⟩ = some (.string n) ∧ w'.cell? ⟨w.heap.size, 1, none⟩ = some (.slice bp f.data.length bc) ∧ w'.cell? ⟨w.heap.size, 2, none⟩ = some (.int .i64 f.sy) ∧
      Below (w.heap.size + 1) (w.alloc (.cells #[.string n, .slice bp f.data.length bc, .int .i64 f.sy] 69)) w' := fun w' hb => by
    refine ⟨?_, ?_, ?_, ?_, hb⟩
    · rw [hb.cell (by simp; omega), World.cell?_of_block (w := w) (Below.heap_alloc w _ _ hltq)]; exact c0
    · rw [hb.cell (by simp)]; go_simp
    · rw [hb.cell (by simp)]; go_simp
    · rw [hb.cell (by simp)]; go_simp
  have HKP := Lib.hid KEEP
  clear KEEP
  go_enter Try.func59, Try.ntmps59
  go_wp2_with fail
  refine (place_r (HC.out.alloc _) n HN.out).mono ?_
  rintro e w' ⟨rfl, kd, rfl⟩
  rw [HG.out, ← HK.out]
  go_wp2_with fail
  refine wp_region_cut (S := (fun w' => w'.cell? ⟨qb, 0, none⟩ = some (.slice none 0 0) ∧ w'.cell? ⟨w.heap.size, 0, none⟩ = some (.string n) ∧ w'.cell? ⟨w.heap.size, 1, none⟩ = some (.slice bp f.data.length bc) ∧ w'.cell? ⟨w.heap.size, 2, none⟩ = some (.int .i64 f.sy) ∧
      Below (w.heap.size + 1) (w.alloc (.cells #[.string n, .slice bp f.data.length bc, .int .i64 f.sy] 69)) w')) 21 (by kernel_rfl) (by kernel_rfl) ?_ (fun hHeld => ?_)
  · (try dsimp only)
    (first
        | exact HKP.out _ (below_drewN (Below.refl _ _) _)
        | exact HKP.out _ (Below.drew (below_drewN ((Below.refl (w.heap.size + 1) (w.alloc (.cells #[.string n, .slice bp f.data.length bc, .int .i64 f.sy] 69)))) kd))
        | (go_split_ands; refine HKP.out _ (Below.alloc ?_ ?_ _); · assumption
           · first | simp | (have := hB2.size; simp at this; omega) | (have := hB3.size; simp at this; omega))
        | (refine HKP.out _ ?_; assumption))
  simp only [List.take_succ_cons, List.take_zero]
  (try dsimp only at hHeld)
  all_goals (repeat (first
         | (refine wpAnyH_take (i := 0) (v := ?_) rfl (by decide +kernel) (by decide +kernel) (by decide +kernel) (fun _ _ _ h => h) (Or.inl ⟨by rfl, ?_⟩) (by assumption) ?_; rotate_left 1; (focus (intro w hSw; (try dsimp only at hSw); (try simp only [List.getElem_toArray, List.getElem_cons_zero]); first | (go_simp; done) | (go_simp; with_reducible rfl))); (try simp only [Act.put, List.getElem_toArray, List.getElem_cons_zero, List.setIfInBounds_toArray, List.set_cons_zero, List.set_cons_succ]))
         | (refine wpAnyH_take (i := 2) (v := ?_) rfl (by decide +kernel) (by decide +kernel) (by decide +kernel) (fun _ _ _ h => h) (Or.inl ⟨by rfl, ?_⟩) (by assumption) ?_; rotate_left 1; (focus (intro w hSw; (try dsimp only at hSw); (try simp only [List.getElem_toArray, List.getElem_cons_succ, List.getElem_cons_zero]); first | (go_simp; done) | (go_simp; with_reducible rfl))); (try simp only [Act.put, List.getElem_toArray, List.getElem_cons_succ, List.getElem_cons_zero, List.setIfInBounds_toArray, List.set_cons_zero, List.set_cons_succ]))
         | (refine wpAnyH_take (i := 3) (v := ?_) rfl (by decide +kernel) (by decide +kernel) (by decide +kernel) (fun _ _ _ h => h) (Or.inl ⟨by rfl, ?_⟩) (by assumption) ?_; rotate_left 1; (focus (intro w hSw; (try dsimp only at hSw); (try simp only [List.getElem_toArray, List.getElem_cons_succ, List.getElem_cons_zero]); first | (go_simp; done) | (go_simp; with_reducible rfl))); (try simp only [Act.put, List.getElem_toArray, List.getElem_cons_succ, List.getElem_cons_zero, List.setIfInBounds_toArray, List.set_cons_zero, List.set_cons_succ]))
         | (refine wpAnyH_take (i := 4) (v := ?_) rfl (by decide +kernel) (by decide +kernel) (by decide +kernel) (fun _ _ _ h => h) (Or.inl ⟨by rfl, ?_⟩) (by assumption) ?_; rotate_left 1; (focus (intro w hSw; (try dsimp only at hSw); (try simp only [List.getElem_toArray, List.getElem_cons_succ, List.getElem_cons_zero]); first | (go_simp; done) | (go_simp; with_reducible rfl))); (try simp only [Act.put, List.getElem_toArray, List.getElem_cons_succ, List.getElem_cons_zero, List.setIfInBounds_toArray, List.set_cons_zero, List.set_cons_succ]))
         | (refine wpAnyH_take (i := 5) (v := ?_) rfl (by decide +kernel) (by decide +kernel) (by decide +kernel) (fun _ _ _ h => h) (Or.inl ⟨by rfl, ?_⟩) (by assumption) ?_; rotate_left 1; (focus (intro w hSw; (try dsimp only at hSw); (try simp only [List.getElem_toArray, List.getElem_cons_succ, List.getElem_cons_zero]); first | (go_simp; done) | (go_simp; with_reducible rfl))); (try simp only [Act.put, List.getElem_toArray, List.getElem_cons_succ, List.getElem_cons_zero, List.setIfInBounds_toArray, List.set_cons_zero, List.set_cons_succ]))
         | (refine wpAnyH_take (i := 6) (v := ?_) rfl (by decide +kernel) (by decide +kernel) (by decide +kernel) (fun _ _ _ h => h) (Or.inl ⟨by rfl, ?_⟩) (by assumption) ?_; rotate_left 1; (focus (intro w hSw; (try dsimp only at hSw); (try simp only [List.getElem_toArray, List.getElem_cons_succ, List.getElem_cons_zero]); first | (go_simp; done) | (go_simp; with_reducible rfl))); (try simp only [Act.put, List.getElem_toArray, List.getElem_cons_succ, List.getElem_cons_zero, List.setIfInBounds_toArray, List.set_cons_zero, List.set_cons_succ]))
         | (refine wpAnyH_take (i := 7) (v := ?_) rfl (by decide +kernel) (by decide +kernel) (by decide +kernel) (fun _ _ _ h => h) (Or.inl ⟨by rfl, ?_⟩) (by assumption) ?_; rotate_left 1; (focus (intro w hSw; (try dsimp only at hSw); (try simp only [List.getElem_toArray, List.getElem_cons_succ, List.getElem_cons_zero]); first | (go_simp; done) | (go_simp; with_reducible rfl))); (try simp only [Act.put, List.getElem_toArray, List.getElem_cons_succ, List.getElem_cons_zero, List.setIfInBounds_toArray, List.set_cons_zero, List.set_cons_succ]))
         | (refine wpAnyH_take (i := 9) (v := ?_) rfl (by decide +kernel) (by decide +kernel) (by decide +kernel) (fun _ _ _ h => h) (Or.inl ⟨by rfl, ?_⟩) (by assumption) ?_; rotate_left 1; (focus (intro w hSw; (try dsimp only at hSw); (try simp only [List.getElem_toArray, List.getElem_cons_succ, List.getElem_cons_zero]); first | (go_simp; done) | (go_simp; with_reducible rfl))); (try simp only [Act.put, List.getElem_toArray, List.getElem_cons_succ, List.getElem_cons_zero, List.setIfInBounds_toArray, List.set_cons_zero, List.set_cons_succ]))
         | (refine wpAnyH_take (i := 12) (v := ?_) rfl (by decide +kernel) (by decide +kernel) (by decide +kernel) (fun _ _ _ h => h) (Or.inl ⟨by rfl, ?_⟩) (by assumption) ?_; rotate_left 1; (focus (intro w hSw; (try dsimp only at hSw); (try simp only [List.getElem_toArray, List.getElem_cons_succ, List.getElem_cons_zero]); first | (go_simp; done) | (go_simp; with_reducible rfl))); (try simp only [Act.put, List.getElem_toArray, List.getElem_cons_succ, List.getElem_cons_zero, List.setIfInBounds_toArray, List.set_cons_zero, List.set_cons_succ]))
         | (refine wpAnyH_take (i := 13) (v := ?_) rfl (by decide +kernel) (by decide +kernel) (by decide +kernel) (fun _ _ _ h => h) (Or.inl ⟨by rfl, ?_⟩) (by assumption) ?_; rotate_left 1; (focus (intro w hSw; (try dsimp only at hSw); (try simp only [List.getElem_toArray, List.getElem_cons_succ, List.getElem_cons_zero]); first | (go_simp; done) | (go_simp; with_reducible rfl))); (try simp only [Act.put, List.getElem_toArray, List.getElem_cons_succ, List.getElem_cons_zero, List.setIfInBounds_toArray, List.set_cons_zero, List.set_cons_succ]))
         | (refine wpAnyH_take (i := 14) (v := ?_) rfl (by decide +kernel) (by decide +kernel) (by decide +kernel) (fun _ _ _ h => h) (Or.inl ⟨by rfl, ?_⟩) (by assumption) ?_; rotate_left 1; (focus (intro w hSw; (try dsimp only at hSw); (try simp only [List.getElem_toArray, List.getElem_cons_succ, List.getElem_cons_zero]); first | (go_simp; done) | (go_simp; with_reducible rfl))); (try simp only [Act.put, List.getElem_toArray, List.getElem_cons_succ, List.getElem_cons_zero, List.setIfInBounds_toArray, List.set_cons_zero, List.set_cons_succ]))
         | (refine wpAnyH_take (i := 15) (v := ?_) rfl (by decide +kernel) (by decide +kernel) (by decide +kernel) (fun _ _ _ h => h) (Or.inl ⟨by rfl, ?_⟩) (by assumption) ?_; rotate_left 1; (focus (intro w hSw; (try dsimp only at hSw); (try simp only [List.getElem_toArray, List.getElem_cons_succ, List.getElem_cons_zero]); first | (go_simp; done) | (go_simp; with_reducible rfl))); (try simp only [Act.put, List.getElem_toArray, List.getElem_cons_succ, List.getElem_cons_zero, List.setIfInBounds_toArray, List.set_cons_zero, List.set_cons_succ]))
         | (refine wpAnyH_take (i := 16) (v := ?_) rfl (by decide +kernel) (by decide +kernel) (by decide +kernel) (fun _ _ _ h => h) (Or.inl ⟨by rfl, ?_⟩) (by assumption) ?_; rotate_left 1; (focus (intro w hSw; (try dsimp only at hSw); (try simp only [List.getElem_toArray, List.getElem_cons_succ, List.getElem_cons_zero]); first | (go_simp; done) | (go_simp; with_reducible rfl))); (try simp only [Act.put, List.getElem_toArray, List.getElem_cons_succ, List.getElem_cons_zero, List.setIfInBounds_toArray, List.set_cons_zero, List.set_cons_succ]))
         | (refine wpAnyH_take (i := 17) (v := ?_) rfl (by decide +kernel) (by decide +kernel) (by decide +kernel) (fun _ _ _ h => h) (Or.inl ⟨by rfl, ?_⟩) (by assumption) ?_; rotate_left 1; (focus (intro w hSw; (try dsimp only at hSw); (try simp only [List.getElem_toArray, List.getElem_cons_succ, List.getElem_cons_zero]); first | (go_simp; done) | (go_simp; with_reducible rfl))); (try simp only [Act.put, List.getElem_toArray, List.getElem_cons_succ, List.getElem_cons_zero, List.setIfInBounds_toArray, List.set_cons_zero, List.set_cons_succ]))
         | (refine wpAnyH_take (i := 19) (v := ?_) rfl (by decide +kernel) (by decide +kernel) (by decide +kernel) (fun _ _ _ h => h) (Or.inl ⟨by rfl, ?_⟩) (by assumption) ?_; rotate_left 1; (focus (intro w hSw; (try dsimp only at hSw); (try simp only [List.getElem_toArray, List.getElem_cons_succ, List.getElem_cons_zero]); first | (go_simp; done) | (go_simp; with_reducible rfl))); (try simp only [Act.put, List.getElem_toArray, List.getElem_cons_succ, List.getElem_cons_zero, List.setIfInBounds_toArray, List.set_cons_zero, List.set_cons_succ]))
         | (refine wpAnyH_take (i := 20) (v := ?_) rfl (by decide +kernel) (by decide +kernel) (by decide +kernel) (fun _ _ _ h => h) (Or.inl ⟨by rfl, ?_⟩) (by assumption) ?_; rotate_left 1; (focus (intro w hSw; (try dsimp only at hSw); (try simp only [List.getElem_toArray, List.getElem_cons_succ, List.getElem_cons_zero]); first | (go_simp; done) | (go_simp; with_reducible rfl))); (try simp only [Act.put, List.getElem_toArray, List.getElem_cons_succ, List.getElem_cons_zero, List.setIfInBounds_toArray, List.set_cons_zero, List.set_cons_succ]))
         | fail "nothing to take"))
  iterate 5 (all_goals (
    (first
      | (refine wpAnyH_ready (rs := [1, 10]) (by decide +kernel) (by simp) ?_; refine (AllReadyH.cons rfl (fun Kx hKx => ?_) (AllReadyH.cons rfl (fun Kx hKx => ?_) AllReadyH.nil)))
      | (refine wpAnyH_ready (rs := [8, 10]) (by decide +kernel) (by simp) ?_; refine (AllReadyH.cons rfl (fun Kx hKx => ?_) (AllReadyH.cons rfl (fun Kx hKx => ?_) AllReadyH.nil)))
      | (refine wpAnyH_ready (rs := [1]) (by decide +kernel) (by simp) ?_; refine (AllReadyH.cons rfl (fun Kx hKx => ?_) AllReadyH.nil))
      | (refine wpAnyH_ready (rs := [10]) (by decide +kernel) (by simp) ?_; refine (AllReadyH.cons rfl (fun Kx hKx => ?_) AllReadyH.nil))
      | (refine wpAnyH_ready (rs := [8]) (by decide +kernel) (by simp) ?_; refine (AllReadyH.cons rfl (fun Kx hKx => ?_) AllReadyH.nil))
      | (refine wpAnyH_ready (rs := [11]) (by decide +kernel) (by simp) ?_; refine (AllReadyH.cons rfl (fun Kx hKx => ?_) AllReadyH.nil))
      | (refine wpAnyH_ready (rs := [18]) (by decide +kernel) (by simp) ?_; refine (AllReadyH.cons rfl (fun Kx hKx => ?_) AllReadyH.nil)))
    all_goals (
      first
        | (first
          | (go_split_ands
             refine step_append_B (by rfl) (Operand.tmp 22) (Operand.tmp 28) (by rfl) (w.heap.size + 1) (w.alloc (.cells #[.string n, .slice bp f.data.length bc, .int .i64 f.sy] 69)) (Nat.le_of_eq (by simp)) (.slice (some ⟨w.heap.size + 1, 0, none⟩) 0 0) 0 [] (by rfl) (.slice none 0 0) 0 [] (by rfl) ?_ ?_ ?_ ?_ ?_ ?_
             · assumption
             · first | exact own_new _ _ (by simp) _ _ | exact (own_new _ _ (by simp) _ _).alloc _
             · intro g' hg'; simp only [Value.ownBlock, Option.some.injEq] at hg'; omega
             · intro hB1; exact srcNil _ _ _ _ Try.underlying62
             · omega
             intro v2 w2 hown2 hgrow2 hB2 hX2)
          | (go_split_ands
             refine step_append_B (by rfl) (Operand.tmp 22) (Operand.tmp 28) (by rfl) (w.heap.size + 1) (w.alloc (.cells #[.string n, .slice bp f.data.length bc, .int .i64 f.sy] 69)) (Nat.le_of_eq (by simp)) (.slice (some ⟨w.heap.size + 1 + 1, 0, none⟩) 0 0) 0 [] (by rfl) (.slice none 0 0) 0 [] (by rfl) ?_ ?_ ?_ ?_ ?_ ?_
             · assumption
             · first | exact own_new _ _ (by simp) _ _ | exact (own_new _ _ (by simp) _ _).alloc _
             · intro g' hg'; simp only [Value.ownBlock, Option.some.injEq] at hg'; omega
             · intro hB1; exact srcNil _ _ _ _ Try.underlying62
             · omega
             intro v2 w2 hown2 hgrow2 hB2 hX2)
          | (go_split_ands
             refine step_append_B (by rfl) (Operand.tmp 29) (Operand.tmp 31) (by rfl) (w.heap.size + 1) (w.alloc (.cells #[.string n, .slice bp f.data.length bc, .int .i64 f.sy] 69)) (Nat.le_of_eq (by simp)) v2 (0 + 0) ([] ++ []) (by rfl) (.slice (some ⟨w2.heap.size, 0, none⟩) 1 1) 1 [.string n, .slice bp f.data.length bc, .int .i64 f.sy] (by rfl) ?_ ?_ ?_ ?_ ?_ ?_
             · assumption
             · exact hown2.alloc _
             · exact hX2
             · intro hB1; exact src_file (heap_alloc_new w2 _) rfl rfl
             · omega
             intro v3 w3 hown3 hgrow3 hB3 hX3)
          | (go_split_ands
             refine step_append_B (by rfl) (Operand.tmp 29) (Operand.tmp 31) (by rfl) (w.heap.size + 1) (w.alloc (.cells #[.string n, .slice bp f.data.length bc, .int .i64 f.sy] 69)) (Nat.le_of_eq (by simp)) v2 (0 + 0) ([] ++ []) (by rfl) (.slice (some ⟨w.heap.size + 1 + 1, 0, none⟩) 1 1) 1 [.string n, .slice bp f.data.length bc, .int .i64 f.sy] (by rfl) ?_ ?_ ?_ ?_ ?_ ?_
             · assumption
             · exact hown2
             · exact hX2
             · intro hB1; exact src_file ((hgrow2.block _ (by simp) (by simp [Value.ownBlock])).trans (heap_new _ _ (by simp))) rfl rfl
             · omega
             intro v3 w3 hown3 hgrow3 hB3 hX3)
          | (go_split_ands
             refine step_append_B (by rfl) (Operand.tmp 29) (Operand.tmp 31) (by rfl) (w.heap.size + 1) (w.alloc (.cells #[.string n, .slice bp f.data.length bc, .int .i64 f.sy] 69)) (Nat.le_of_eq (by simp)) v2 (0 + 0) ([] ++ []) (by rfl) (.slice (some ⟨w.heap.size + 1, 0, none⟩) 1 1) 1 [.string n, .slice bp f.data.length bc, .int .i64 f.sy] (by rfl) ?_ ?_ ?_ ?_ ?_ ?_
             · assumption
             · exact hown2
             · exact hX2
             · intro hB1; exact src_file ((hgrow2.block _ (by simp) (by simp [Value.ownBlock])).trans ((Below.heap_alloc _ _ _ (by simp)).trans (heap_new _ _ (by simp)))) rfl rfl
             · omega
             intro v3 w3 hown3 hgrow3 hB3 hX3)
          | (go_split_ands
             refine step_append_B (by rfl) (Operand.tmp 32) (Operand.tmp 38) (by rfl) (w.heap.size + 1) (w.alloc (.cells #[.string n, .slice bp f.data.length bc, .int .i64 f.sy] 69)) (Nat.le_of_eq (by simp)) v3 (0 + 0 + 1) ([] ++ [] ++ [.string n, .slice bp f.data.length bc, .int .i64 f.sy]) (by rfl) (.slice none 0 0) 0 [] (by rfl) ?_ ?_ ?_ ?_ ?_ ?_
             · assumption
             · exact hown3
             · exact hX3
             · intro hB1; exact srcNil _ _ _ _ Try.underlying62
             · omega
             intro v4 w4 hown4 hgrow4 hB4 hX4)
          | fail "no arm")
        | ((try simp only [List.getElem_toArray, List.getElem_cons_succ, List.getElem_cons_zero]); go_simp)
      refine hKx.out _ _ ?_ (fun hHeld => ?_)
      · (try dsimp only)
        (first
            | exact HKP.out _ (below_drewN (Below.refl _ _) _)
            | exact HKP.out _ (Below.drew (below_drewN ((Below.refl (w.heap.size + 1) (w.alloc (.cells #[.string n, .slice bp f.data.length bc, .int .i64 f.sy] 69)))) kd))
            | (go_split_ands; refine HKP.out _ (Below.alloc ?_ ?_ _); · assumption
               · first | simp | (have := hB2.size; simp at this; omega) | (have := hB3.size; simp at this; omega))
            | (refine HKP.out _ ?_; assumption))
      (try dsimp only at hHeld)
      clear hKx Kx
      (try simp only [Act.put, List.getElem_toArray, List.getElem_cons_succ, List.getElem_cons_zero, List.setIfInBounds_toArray, List.set_cons_zero, List.set_cons_succ])
      repeat (first
         | (refine wpAnyH_take (i := 0) (v := ?_) rfl (by decide +kernel) (by decide +kernel) (by decide +kernel) (fun _ _ _ h => h) (Or.inl ⟨by rfl, ?_⟩) (by assumption) ?_; rotate_left 1; (focus (intro w hSw; (try dsimp only at hSw); (try simp only [List.getElem_toArray, List.getElem_cons_zero]); first | (go_simp; done) | (go_simp; with_reducible rfl))); (try simp only [Act.put, List.getElem_toArray, List.getElem_cons_zero, List.setIfInBounds_toArray, List.set_cons_zero, List.set_cons_succ]))
         | (refine wpAnyH_take (i := 2) (v := ?_) rfl (by decide +kernel) (by decide +kernel) (by decide +kernel) (fun _ _ _ h => h) (Or.inl ⟨by rfl, ?_⟩) (by assumption) ?_; rotate_left 1; (focus (intro w hSw; (try dsimp only at hSw); (try simp only [List.getElem_toArray, List.getElem_cons_succ, List.getElem_cons_zero]); first | (go_simp; done) | (go_simp; with_reducible rfl))); (try simp only [Act.put, List.getElem_toArray, List.getElem_cons_succ, List.getElem_cons_zero, List.setIfInBounds_toArray, List.set_cons_zero, List.set_cons_succ]))
         | (refine wpAnyH_take (i := 3) (v := ?_) rfl (by decide +kernel) (by decide +kernel) (by decide +kernel) (fun _ _ _ h => h) (Or.inl ⟨by rfl, ?_⟩) (by assumption) ?_; rotate_left 1; (focus (intro w hSw; (try dsimp only at hSw); (try simp only [List.getElem_toArray, List.getElem_cons_succ, List.getElem_cons_zero]); first | (go_simp; done) | (go_simp; with_reducible rfl))); (try simp only [Act.put, List.getElem_toArray, List.getElem_cons_succ, List.getElem_cons_zero, List.setIfInBounds_toArray, List.set_cons_zero, List.set_cons_succ]))
         | (refine wpAnyH_take (i := 4) (v := ?_) rfl (by decide +kernel) (by decide +kernel) (by decide +kernel) (fun _ _ _ h => h) (Or.inl ⟨by rfl, ?_⟩) (by assumption) ?_; rotate_left 1; (focus (intro w hSw; (try dsimp only at hSw); (try simp only [List.getElem_toArray, List.getElem_cons_succ, List.getElem_cons_zero]); first | (go_simp; done) | (go_simp; with_reducible rfl))); (try simp only [Act.put, List.getElem_toArray, List.getElem_cons_succ, List.getElem_cons_zero, List.setIfInBounds_toArray, List.set_cons_zero, List.set_cons_succ]))
         | (refine wpAnyH_take (i := 5) (v := ?_) rfl (by decide +kernel) (by decide +kernel) (by decide +kernel) (fun _ _ _ h => h) (Or.inl ⟨by rfl, ?_⟩) (by assumption) ?_; rotate_left 1; (focus (intro w hSw; (try dsimp only at hSw); (try simp only [List.getElem_toArray, List.getElem_cons_succ, List.getElem_cons_zero]); first | (go_simp; done) | (go_simp; with_reducible rfl))); (try simp only [Act.put, List.getElem_toArray, List.getElem_cons_succ, List.getElem_cons_zero, List.setIfInBounds_toArray, List.set_cons_zero, List.set_cons_succ]))
         | (refine wpAnyH_take (i := 6) (v := ?_) rfl (by decide +kernel) (by decide +kernel) (by decide +kernel) (fun _ _ _ h => h) (Or.inl ⟨by rfl, ?_⟩) (by assumption) ?_; rotate_left 1; (focus (intro w hSw; (try dsimp only at hSw); (try simp only [List.getElem_toArray, List.getElem_cons_succ, List.getElem_cons_zero]); first | (go_simp; done) | (go_simp; with_reducible rfl))); (try simp only [Act.put, List.getElem_toArray, List.getElem_cons_succ, List.getElem_cons_zero, List.setIfInBounds_toArray, List.set_cons_zero, List.set_cons_succ]))
         | (refine wpAnyH_take (i := 7) (v := ?_) rfl (by decide +kernel) (by decide +kernel) (by decide +kernel) (fun _ _ _ h => h) (Or.inl ⟨by rfl, ?_⟩) (by assumption) ?_; rotate_left 1; (focus (intro w hSw; (try dsimp only at hSw); (try simp only [List.getElem_toArray, List.getElem_cons_succ, List.getElem_cons_zero]); first | (go_simp; done) | (go_simp; with_reducible rfl))); (try simp only [Act.put, List.getElem_toArray, List.getElem_cons_succ, List.getElem_cons_zero, List.setIfInBounds_toArray, List.set_cons_zero, List.set_cons_succ]))
         | (refine wpAnyH_take (i := 9) (v := ?_) rfl (by decide +kernel) (by decide +kernel) (by decide +kernel) (fun _ _ _ h => h) (Or.inl ⟨by rfl, ?_⟩) (by assumption) ?_; rotate_left 1; (focus (intro w hSw; (try dsimp only at hSw); (try simp only [List.getElem_toArray, List.getElem_cons_succ, List.getElem_cons_zero]); first | (go_simp; done) | (go_simp; with_reducible rfl))); (try simp only [Act.put, List.getElem_toArray, List.getElem_cons_succ, List.getElem_cons_zero, List.setIfInBounds_toArray, List.set_cons_zero, List.set_cons_succ]))
         | (refine wpAnyH_take (i := 12) (v := ?_) rfl (by decide +kernel) (by decide +kernel) (by decide +kernel) (fun _ _ _ h => h) (Or.inl ⟨by rfl, ?_⟩) (by assumption) ?_; rotate_left 1; (focus (intro w hSw; (try dsimp only at hSw); (try simp only [List.getElem_toArray, List.getElem_cons_succ, List.getElem_cons_zero]); first | (go_simp; done) | (go_simp; with_reducible rfl))); (try simp only [Act.put, List.getElem_toArray, List.getElem_cons_succ, List.getElem_cons_zero, List.setIfInBounds_toArray, List.set_cons_zero, List.set_cons_succ]))
         | (refine wpAnyH_take (i := 13) (v := ?_) rfl (by decide +kernel) (by decide +kernel) (by decide +kernel) (fun _ _ _ h => h) (Or.inl ⟨by rfl, ?_⟩) (by assumption) ?_; rotate_left 1; (focus (intro w hSw; (try dsimp only at hSw); (try simp only [List.getElem_toArray, List.getElem_cons_succ, List.getElem_cons_zero]); first | (go_simp; done) | (go_simp; with_reducible rfl))); (try simp only [Act.put, List.getElem_toArray, List.getElem_cons_succ, List.getElem_cons_zero, List.setIfInBounds_toArray, List.set_cons_zero, List.set_cons_succ]))
         | (refine wpAnyH_take (i := 14) (v := ?_) rfl (by decide +kernel) (by decide +kernel) (by decide +kernel) (fun _ _ _ h => h) (Or.inl ⟨by rfl, ?_⟩) (by assumption) ?_; rotate_left 1; (focus (intro w hSw; (try dsimp only at hSw); (try simp only [List.getElem_toArray, List.getElem_cons_succ, List.getElem_cons_zero]); first | (go_simp; done) | (go_simp; with_reducible rfl))); (try simp only [Act.put, List.getElem_toArray, List.getElem_cons_succ, List.getElem_cons_zero, List.setIfInBounds_toArray, List.set_cons_zero, List.set_cons_succ]))
         | (refine wpAnyH_take (i := 15) (v := ?_) rfl (by decide +kernel) (by decide +kernel) (by decide +kernel) (fun _ _ _ h => h) (Or.inl ⟨by rfl, ?_⟩) (by assumption) ?_; rotate_left 1; (focus (intro w hSw; (try dsimp only at hSw); (try simp only [List.getElem_toArray, List.getElem_cons_succ, List.getElem_cons_zero]); first | (go_simp; done) | (go_simp; with_reducible rfl))); (try simp only [Act.put, List.getElem_toArray, List.getElem_cons_succ, List.getElem_cons_zero, List.setIfInBounds_toArray, List.set_cons_zero, List.set_cons_succ]))
         | (refine wpAnyH_take (i := 16) (v := ?_) rfl (by decide +kernel) (by decide +kernel) (by decide +kernel) (fun _ _ _ h => h) (Or.inl ⟨by rfl, ?_⟩) (by assumption) ?_; rotate_left 1; (focus (intro w hSw; (try dsimp only at hSw); (try simp only [List.getElem_toArray, List.getElem_cons_succ, List.getElem_cons_zero]); first | (go_simp; done) | (go_simp; with_reducible rfl))); (try simp only [Act.put, List.getElem_toArray, List.getElem_cons_succ, List.getElem_cons_zero, List.setIfInBounds_toArray, List.set_cons_zero, List.set_cons_succ]))
         | (refine wpAnyH_take (i := 17) (v := ?_) rfl (by decide +kernel) (by decide +kernel) (by decide +kernel) (fun _ _ _ h => h) (Or.inl ⟨by rfl, ?_⟩) (by assumption) ?_; rotate_left 1; (focus (intro w hSw; (try dsimp only at hSw); (try simp only [List.getElem_toArray, List.getElem_cons_succ, List.getElem_cons_zero]); first | (go_simp; done) | (go_simp; with_reducible rfl))); (try simp only [Act.put, List.getElem_toArray, List.getElem_cons_succ, List.getElem_cons_zero, List.setIfInBounds_toArray, List.set_cons_zero, List.set_cons_succ]))
         | (refine wpAnyH_take (i := 19) (v := ?_) rfl (by decide +kernel) (by decide +kernel) (by decide +kernel) (fun _ _ _ h => h) (Or.inl ⟨by rfl, ?_⟩) (by assumption) ?_; rotate_left 1; (focus (intro w hSw; (try dsimp only at hSw); (try simp only [List.getElem_toArray, List.getElem_cons_succ, List.getElem_cons_zero]); first | (go_simp; done) | (go_simp; with_reducible rfl))); (try simp only [Act.put, List.getElem_toArray, List.getElem_cons_succ, List.getElem_cons_zero, List.setIfInBounds_toArray, List.set_cons_zero, List.set_cons_succ]))
         | (refine wpAnyH_take (i := 20) (v := ?_) rfl (by decide +kernel) (by decide +kernel) (by decide +kernel) (fun _ _ _ h => h) (Or.inl ⟨by rfl, ?_⟩) (by assumption) ?_; rotate_left 1; (focus (intro w hSw; (try dsimp only at hSw); (try simp only [List.getElem_toArray, List.getElem_cons_succ, List.getElem_cons_zero]); first | (go_simp; done) | (go_simp; with_reducible rfl))); (try simp only [Act.put, List.getElem_toArray, List.getElem_cons_succ, List.getElem_cons_zero, List.setIfInBounds_toArray, List.set_cons_zero, List.set_cons_succ]))
         | fail "nothing to take"))))
  all_goals refine wpAnyH_done (by decide +kernel) ?_ _
  all_goals simp only [cutPost, List.drop_succ_cons, List.drop_zero]
  all_goals (
    have hHd := hHeld
    have ho4 := Lib.hid hown4
    obtain ⟨a4, c4, hv4, _⟩ := hown4.form
    have hg4 := (cells4 ((blk_far hltq hB4).trans HC.out.blk)).2.2.2.2 0
    have hc4 := hHd.1
    rw [Nat.zero_add] at hv4
    subst hv4
    clear hHd
    go_wp2_with fail
    refine bodyPost_end (v := .tuple #[]) (by simp [results, Try.results59, go_sem]) rfl ?_
    exact ⟨rfl, set_fin HC.out HBV.out.1 n _ f HBV.out.2.1 HBV.out.2.2.1 HG.out HBV.out.2.2.2 HK.out hB4 ho4.out (by simp <;> omega) (by simp [flat]) hX4⟩)
end
end Go.Proofs.Ytcpldjaoacihlaa
