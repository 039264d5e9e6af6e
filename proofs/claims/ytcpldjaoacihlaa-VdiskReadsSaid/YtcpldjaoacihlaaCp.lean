/- vdisk: Copy. -/
import Derived.Test.YtcpldjaoacihlaaCpm
import Derived.Test.YtcpldjaoacihlaaRs
namespace Go.Proofs.Ytcpldjaoacihlaa
open Go.RowKit
set_option linter.unusedVariables false

theorem run_makeMapN (w : World) (n : Int) : (Instr.makeMap 51 (some (.int .i64 n))).run Try.prog w = .ok (.map (some w.heap.size)) (w.alloc (.map #[] 0)) := by
  simp [Instr.makeMap, run_underlying Try.underlying51, asInt, asIntOf]

section
variable {w : World} {p : Option Addr} {s : DS} {foot : List Nat}

set_option maxRecDepth 100000 in
set_option maxHeartbeats 4000000 in
theorem copy_c (h : Disk w p s foot) (hl : s.fs.length ≤ 1000000000) :
    Calls Try.prog 17 #[.pointer p] w fun e w' => ∃ foot', e = .returned (.pointer (some ⟨w.heap.size, 0, none⟩)) ∧ Disk w' (some ⟨w.heap.size, 0, none⟩) s foot' ∧ (∀ i ∈ foot', w.heap.size ≤ i) ∧ Below w.heap.size w w' := by
  have HD := Lib.hid h
  obtain ⟨pb, mb, E, rfl, hc, hr, rfl, hnd⟩ := h
  have HC := Lib.hid hc
  have HR := Lib.hid hr
  obtain ⟨c0, c1, c2, c3, c4, cf⟩ := cells5 hc.blk
  have hVl : (vals E).length ≤ 1000000000 := by have := hl; rw [hc.fs] at this; simpa [vals, fils, mapA_length] using this
  have hml := hc.map.lt
  have hpl := hc.ltp
  have HRI := Lib.hid (show Ris (fils E) from by have := hc.ok.ris; rwa [hc.fs] at this)
  have HM := Lib.hid hc.map
  have hsz : Maps.size (Dof (vals E)) = (vals E).length := dof_size _
  have hmk := fun (w : World) => run_makeMapN w ((vals E).length : Nat)
  obtain ⟨VL, hVL⟩ : ∃ n, n = (vals E).length := ⟨_, rfl⟩
  rw [← hVL] at hsz hmk
  have HVL := Lib.hid hVL
  have HVM := Lib.hid hVl
  clear hc hr hnd hl hVl hVL cf
  go_enter Try.func17, Try.ntmps17
  go_wp2_with fail
  refine (made_c HC.out).mono ?_
  rintro e w' ⟨rfl, rfl⟩
  go_wp2_with (first
    | (at_len; refine wpList_len_own _ rfl _ 51 rfl 9 71 Try.underlying51 heldR mb _ (Dof (vals E)) rfl (World.ownsMap.alloc HM.out _) ?_; rw [hsz])
    | (at_range; refine wpList_range_own _ rfl _ 51 rfl 9 71 strLaw Try.underlying51 heldR mb (vals E).length (Dof (vals E)) rfl ((World.ownsMap.alloc (World.ownsMap.alloc HM.out _) _)) ?_; intro w0 hrg0 hg0 hs0))
  go_frame
  have e1 : ((w.alloc (.cells #[.int .i64 s.room, .int .i64 (total s.fs), .map (some (w.heap.size + 1)), .int .i64 s.fuse, .bool s.dead] 53)).alloc (.map #[] 0)).heap.size = w.heap.size + 2 := by simp
  rw [e1] at hrg0 hs0 ⊢
  have HI0 := Lib.hid (show CpI w w0 mb w.heap.size (w.heap.size + 1) (w.heap.size + 2) s E (Maps.has (Dof (vals E))) (Maps.size (Dof (vals E))) [] from by
    refine ⟨hrg0, ?_, ?_, by simp, by simp [blocks], by simp [blocks], ?_, ?_⟩
    · have h1 := MapIs.made (w.alloc (.cells #[.int .i64 s.room, .int .i64 (total s.fs), .map (some (w.heap.size + 1)), .int .i64 s.fuse, .bool s.dead] 53))
      rw [show (w.alloc (.cells #[.int .i64 s.room, .int .i64 (total s.fs), .map (some (w.heap.size + 1)), .int .i64 s.fuse, .bool s.dead] 53)).heap.size = w.heap.size + 1 from by simp] at h1
      exact h1.keep (hg0.block _ (by simp) (by simp))
    · refine (done_none fun p hp => ?_).symm
      rw [Go.Proofs.Ytcpldjaoacihlaa.dof_has, has_get]
      rw [getA_of_mem HRI.out (show (p.1, p.2) ∈ fils E from hp)]
      rfl
    · exact (hg0.block _ (by simp; omega) (by simp)).trans ((Below.heap_alloc _ _ _ (by simp)).trans (heap_alloc_new w _))
    · exact ((((Below.refl _ _).alloc (Nat.le_refl _) _).alloc (by simp) _)).grown hg0 (by simp; omega) (fun j hj => by cases hj))
  clear hrg0 hg0 hs0 e1 hsz hmk c0 c1 c2 c3 c4
  go_loopw [4] (fun _ wr => ∃ (left : Lit → Bool) (cnt : Nat) (E' : Ents), CpI w wr mb w.heap.size (w.heap.size + 1) (w.heap.size + 2) s E left cnt E') (fun _ wr => wr.rangeLeft mb (w.heap.size + 2))
  case atStart => exact ⟨_, _, _, HI0.out⟩
  case round =>
    obtain ⟨left, cnt, E', hI⟩ := hrel
    have HI := Lib.hid hI
    clear hI
    go_wp2_with (at_next; refine wpList_next_ranges _ rfl _ rfl 9 strLaw heldR Value.string (fun v : Value => v) (fun key kl hk => by obtain ⟨x, h, _⟩ := keyOf_string_inv Try.underlying9 hk; exact ⟨x, h⟩) (fun v y h => ⟨v, rfl⟩) mb (w.heap.size + 2) _ _ left cnt rfl HI.out.rg ?_ ?_)
    · intro hc0 hl0
      have hI := HI.out
      go_wp2_with fail
      go_ret
      refine ⟨_, rfl, ⟨w.heap.size, w.heap.size + 1, E', rfl, ⟨hI.box, hI.map, ?_, fun p hp => (hI.rows p hp).shape, HC.out.ok⟩, hI.rows, rfl, ?_⟩, fun i hi => ?_, hI.bel⟩
      · rw [HC.out.fs, hI.fs, done_all hl0]
      · simp only [List.nodup_cons, List.mem_cons, not_or]
        exact ⟨⟨by omega, fun hm => by have := hI.bl _ hm; omega⟩, fun hm => by have := hI.bl _ hm; omega, hI.nd⟩
      · simp only [List.mem_cons] at hi
        rcases hi with rfl | rfl | hi
        · exact Nat.le_refl _
        · omega
        · have := hI.bl _ hi; omega
    · intro x c kl y1 y2 w1 cnt1 hkey hlk hv hat hrg1 hlt hg1 hs1 hen
      obtain ⟨x', ex, rfl, hxs⟩ := keyOf_string_inv Try.underlying9 hkey
      cases ex
      obtain ⟨rfl, rfl⟩ : y1 = .held c ∧ y2 = [] := by
        simp only [heldR, Option.some.injEq, Prod.mk.injEq] at hv
        exact ⟨hv.1.symm, hv.2.symm⟩
      have hgc := getA_of_atKey hat
      have hmv := getA_mem hgc
      obtain ⟨q, hq, hqe⟩ := List.mem_map.1 hmv
      obtain ⟨q1, q2, f⟩ := q
      simp only [Prod.mk.injEq] at hqe
      obtain ⟨rfl, rfl⟩ := hqe
      have HMF := Lib.hid (show (x.data.toList, f) ∈ fils E from List.mem_map.2 ⟨_, hq, rfl⟩)
      obtain ⟨a, cc, hcv, u1, u2, u3⟩ := HC.out.shape _ hq
      have hfr := HR.out _ hq
      simp only at hcv u1 hfr
      subst hcv
      have HRD := Lib.hid (FRow.rd (v := .bool true) hfr)
      have HFL := Lib.hid (show f.data.length ≤ 140737488355328 from by have := total_mem HMF.out; rw [← HC.out.fs] at this; have := HC.out.ok.tot; omega)
      have HG := Lib.hid (And.intro hrg1 (And.intro hg1 (And.intro hs1 (And.intro hlk hlt))))
      have hI := HI.out
      have hszr := hI.bel.size
      have hrl := hI.rg.lt
      have hbx1 := (hg1.block w.heap.size (lt_of_block hI.box) (by simp)).trans hI.box
      have hmp1 := hI.map.keep (hg1.block (w.heap.size + 1) hI.map.lt (by simp))
      have HMP := Lib.hid hmp1
      have hszw : w.heap.size < w1.heap.size := by omega
      have HRW := Lib.hid (show ∀ W : World, (∀ g, g < w.heap.size → W.heap[g]? = w1.heap[g]?) → Rd W (.slice a f.data.length cc) f.data from fun W hW => Rd.keep' HRD.out fun g h1 h2 => by
        have hg := Rd.lt HRD.out (by omega) g h2
        exact (hW g hg).trans ((hg1.block g (by omega) (by simp; omega)).trans (hI.bel.block g hg)))
      have KEEP : ∀ w' : World, Below (w1.heap.size + 1) (w1.alloc (.cells #[.slice a f.data.length cc, .int .i64 f.sy] 71)) w' → w'.cell? ⟨w.heap.size, 2, none⟩ = some (.map (some (w.heap.size + 1))) ∧ w'.cell? ⟨w1.heap.size, 0, none⟩ = some (.slice a f.data.length cc) ∧ w'.cell? ⟨w1.heap.size, 1, none⟩ = some (.int .i64 f.sy) ∧ Below (w1.heap.size + 1) (w1.alloc (.cells #[.slice a f.data.length cc, .int .i64 f.sy] 71)) w' := fun w' hb =>
        ⟨(cells5 ((hb.block w.heap.size (by omega)).trans ((Below.heap_alloc _ _ _ hszw).trans hbx1))).2.2.1, (cells2 ((hb.block w1.heap.size (by omega)).trans (heap_alloc_new w1 _))).1, (cells2 ((hb.block w1.heap.size (by omega)).trans (heap_alloc_new w1 _))).2.1, hb⟩
      have HKP := Lib.hid KEEP
      have hxsz : x.size ≤ 9223372036854775807 := by unfold maxLen at hxs; omega
      have HXS := Lib.hid hxs
      clear hkey hv hat hgc hmv hq hfr hrg1 hg1 hs1 hlk hlt hI hbx1 hmp1 KEEP hxs u1 u2 u3 hrl
      go_wp2_with fail
      refine wp_region_cut (S := (fun w' => w'.cell? ⟨w.heap.size, 2, none⟩ = some (.map (some (w.heap.size + 1))) ∧ w'.cell? ⟨w1.heap.size, 0, none⟩ = some (.slice a f.data.length cc) ∧ w'.cell? ⟨w1.heap.size, 1, none⟩ = some (.int .i64 f.sy) ∧ Below (w1.heap.size + 1) (w1.alloc (.cells #[.slice a f.data.length cc, .int .i64 f.sy] 71)) w')) 9 (by kernel_rfl) (by kernel_rfl) ?_ (fun hHeld => ?_)
      · (try dsimp only)
        exact HKP.out _ ((Below.refl _ _).drew)
      simp only [List.take_succ_cons, List.take_zero]
      (try dsimp only at hHeld)
      repeat (first
        | (refine wpAnyH_take (i := 0) (v := ?_) rfl (by decide +kernel) (by decide +kernel) (by decide +kernel) (fun _ _ _ h => h) (Or.inl ⟨by rfl, ?_⟩) (by assumption) ?_; rotate_left 1; (focus (intro w hSw; (try dsimp only at hSw); (try simp only [List.getElem_toArray, List.getElem_cons_zero]); first | (go_simp; done) | (go_simp; with_reducible rfl))); (try simp only [Act.put, List.getElem_toArray, List.getElem_cons_zero, List.setIfInBounds_toArray, List.set_cons_zero, List.set_cons_succ]))
        | (refine wpAnyH_take (i := 1) (v := ?_) rfl (by decide +kernel) (by decide +kernel) (by decide +kernel) (fun _ _ _ h => h) (Or.inl ⟨by rfl, ?_⟩) (by assumption) ?_; rotate_left 1; (focus (intro w hSw; (try dsimp only at hSw); (try simp only [List.getElem_toArray, List.getElem_cons_succ, List.getElem_cons_zero]); first | (go_simp; done) | (go_simp; with_reducible rfl))); (try simp only [Act.put, List.getElem_toArray, List.getElem_cons_succ, List.getElem_cons_zero, List.setIfInBounds_toArray, List.set_cons_zero, List.set_cons_succ]))
        | (refine wpAnyH_take (i := 2) (v := ?_) rfl (by decide +kernel) (by decide +kernel) (by decide +kernel) (fun _ _ _ h => h) (Or.inl ⟨by rfl, ?_⟩) (by assumption) ?_; rotate_left 1; (focus (intro w hSw; (try dsimp only at hSw); (try simp only [List.getElem_toArray, List.getElem_cons_succ, List.getElem_cons_zero]); first | (go_simp; done) | (go_simp; with_reducible rfl))); (try simp only [Act.put, List.getElem_toArray, List.getElem_cons_succ, List.getElem_cons_zero, List.setIfInBounds_toArray, List.set_cons_zero, List.set_cons_succ]))
        | (refine wpAnyH_take (i := 3) (v := ?_) rfl (by decide +kernel) (by decide +kernel) (by decide +kernel) (fun _ _ _ h => h) (Or.inl ⟨by rfl, ?_⟩) (by assumption) ?_; rotate_left 1; (focus (intro w hSw; (try dsimp only at hSw); (try simp only [List.getElem_toArray, List.getElem_cons_succ, List.getElem_cons_zero]); first | (go_simp; done) | (go_simp; with_reducible rfl))); (try simp only [Act.put, List.getElem_toArray, List.getElem_cons_succ, List.getElem_cons_zero, List.setIfInBounds_toArray, List.set_cons_zero, List.set_cons_succ]))
        | (refine wpAnyH_take (i := 4) (v := ?_) rfl (by decide +kernel) (by decide +kernel) (by decide +kernel) (fun _ _ _ h => h) (Or.inl ⟨by rfl, ?_⟩) (by assumption) ?_; rotate_left 1; (focus (intro w hSw; (try dsimp only at hSw); (try simp only [List.getElem_toArray, List.getElem_cons_succ, List.getElem_cons_zero]); first | (go_simp; done) | (go_simp; with_reducible rfl))); (try simp only [Act.put, List.getElem_toArray, List.getElem_cons_succ, List.getElem_cons_zero, List.setIfInBounds_toArray, List.set_cons_zero, List.set_cons_succ]))
        | (refine wpAnyH_take (i := 6) (v := ?_) rfl (by decide +kernel) (by decide +kernel) (by decide +kernel) (fun _ _ _ h => h) (Or.inl ⟨by rfl, ?_⟩) (by assumption) ?_; rotate_left 1; (focus (intro w hSw; (try dsimp only at hSw); (try simp only [List.getElem_toArray, List.getElem_cons_succ, List.getElem_cons_zero]); first | (go_simp; done) | (go_simp; with_reducible rfl))); (try simp only [Act.put, List.getElem_toArray, List.getElem_cons_succ, List.getElem_cons_zero, List.setIfInBounds_toArray, List.set_cons_zero, List.set_cons_succ]))
        | (refine wpAnyH_take (i := 7) (v := ?_) rfl (by decide +kernel) (by decide +kernel) (by decide +kernel) (fun _ _ _ h => h) (Or.inl ⟨by rfl, ?_⟩) (by assumption) ?_; rotate_left 1; (focus (intro w hSw; (try dsimp only at hSw); (try simp only [List.getElem_toArray, List.getElem_cons_succ, List.getElem_cons_zero]); first | (go_simp; done) | (go_simp; with_reducible rfl))); (try simp only [Act.put, List.getElem_toArray, List.getElem_cons_succ, List.getElem_cons_zero, List.setIfInBounds_toArray, List.set_cons_zero, List.set_cons_succ]))
        | (refine wpAnyH_take (i := 8) (v := ?_) rfl (by decide +kernel) (by decide +kernel) (by decide +kernel) (fun _ _ _ h => h) (Or.inl ⟨by rfl, ?_⟩) (by assumption) ?_; rotate_left 1; (focus (intro w hSw; (try dsimp only at hSw); (try simp only [List.getElem_toArray, List.getElem_cons_succ, List.getElem_cons_zero]); first | (go_simp; done) | (go_simp; with_reducible rfl))); (try simp only [Act.put, List.getElem_toArray, List.getElem_cons_succ, List.getElem_cons_zero, List.setIfInBounds_toArray, List.set_cons_zero, List.set_cons_succ]))
        | fail "nothing to take")
      refine wpAnyH_ready (rs := [5]) (by decide +kernel) (by simp) ?_
      refine AllReadyH.cons rfl (fun Kx hKx => ?_) AllReadyH.nil
      (try simp only [List.getElem_toArray, List.getElem_cons_succ, List.getElem_cons_zero])
      go_simp
      go_at_call 32
      refine (clone_c _ _ f.data (HRW.out _ ?_) HFL.out).mono ?_
      · intro g hg
        exact Below.heap_alloc _ _ _ (by omega)
      rintro e w2 ⟨v', rfl, ho, hb2⟩
      obtain ⟨a2, cp2, hv2, _⟩ := own_form ho
      subst hv2
      have HO := Lib.hid ho
      have HB2 := Lib.hid hb2
      have hB2 : Below (w1.heap.size + 1) (w1.alloc (.cells #[.slice a f.data.length cc, .int .i64 f.sy] 71)) w2 := ((Below.refl _ _).drew).trans (hb2.mono (by simp))
      clear ho hb2
      (try go_wp2_with fail)
      refine hKx.out _ _ ?_ (fun hHeld => ?_)
      · (try dsimp only)
        exact HKP.out _ hB2
      (try dsimp only at hHeld)
      clear hKx Kx
      (try simp only [Act.put, List.getElem_toArray, List.getElem_cons_succ, List.getElem_cons_zero, List.setIfInBounds_toArray, List.set_cons_zero, List.set_cons_succ])
      repeat (first
        | (refine wpAnyH_take (i := 0) (v := ?_) rfl (by decide +kernel) (by decide +kernel) (by decide +kernel) (fun _ _ _ h => h) (Or.inl ⟨by rfl, ?_⟩) (by assumption) ?_; rotate_left 1; (focus (intro w hSw; (try dsimp only at hSw); (try simp only [List.getElem_toArray, List.getElem_cons_zero]); first | (go_simp; done) | (go_simp; with_reducible rfl))); (try simp only [Act.put, List.getElem_toArray, List.getElem_cons_zero, List.setIfInBounds_toArray, List.set_cons_zero, List.set_cons_succ]))
        | (refine wpAnyH_take (i := 1) (v := ?_) rfl (by decide +kernel) (by decide +kernel) (by decide +kernel) (fun _ _ _ h => h) (Or.inl ⟨by rfl, ?_⟩) (by assumption) ?_; rotate_left 1; (focus (intro w hSw; (try dsimp only at hSw); (try simp only [List.getElem_toArray, List.getElem_cons_succ, List.getElem_cons_zero]); first | (go_simp; done) | (go_simp; with_reducible rfl))); (try simp only [Act.put, List.getElem_toArray, List.getElem_cons_succ, List.getElem_cons_zero, List.setIfInBounds_toArray, List.set_cons_zero, List.set_cons_succ]))
        | (refine wpAnyH_take (i := 2) (v := ?_) rfl (by decide +kernel) (by decide +kernel) (by decide +kernel) (fun _ _ _ h => h) (Or.inl ⟨by rfl, ?_⟩) (by assumption) ?_; rotate_left 1; (focus (intro w hSw; (try dsimp only at hSw); (try simp only [List.getElem_toArray, List.getElem_cons_succ, List.getElem_cons_zero]); first | (go_simp; done) | (go_simp; with_reducible rfl))); (try simp only [Act.put, List.getElem_toArray, List.getElem_cons_succ, List.getElem_cons_zero, List.setIfInBounds_toArray, List.set_cons_zero, List.set_cons_succ]))
        | (refine wpAnyH_take (i := 3) (v := ?_) rfl (by decide +kernel) (by decide +kernel) (by decide +kernel) (fun _ _ _ h => h) (Or.inl ⟨by rfl, ?_⟩) (by assumption) ?_; rotate_left 1; (focus (intro w hSw; (try dsimp only at hSw); (try simp only [List.getElem_toArray, List.getElem_cons_succ, List.getElem_cons_zero]); first | (go_simp; done) | (go_simp; with_reducible rfl))); (try simp only [Act.put, List.getElem_toArray, List.getElem_cons_succ, List.getElem_cons_zero, List.setIfInBounds_toArray, List.set_cons_zero, List.set_cons_succ]))
        | (refine wpAnyH_take (i := 4) (v := ?_) rfl (by decide +kernel) (by decide +kernel) (by decide +kernel) (fun _ _ _ h => h) (Or.inl ⟨by rfl, ?_⟩) (by assumption) ?_; rotate_left 1; (focus (intro w hSw; (try dsimp only at hSw); (try simp only [List.getElem_toArray, List.getElem_cons_succ, List.getElem_cons_zero]); first | (go_simp; done) | (go_simp; with_reducible rfl))); (try simp only [Act.put, List.getElem_toArray, List.getElem_cons_succ, List.getElem_cons_zero, List.setIfInBounds_toArray, List.set_cons_zero, List.set_cons_succ]))
        | (refine wpAnyH_take (i := 6) (v := ?_) rfl (by decide +kernel) (by decide +kernel) (by decide +kernel) (fun _ _ _ h => h) (Or.inl ⟨by rfl, ?_⟩) (by assumption) ?_; rotate_left 1; (focus (intro w hSw; (try dsimp only at hSw); (try simp only [List.getElem_toArray, List.getElem_cons_succ, List.getElem_cons_zero]); first | (go_simp; done) | (go_simp; with_reducible rfl))); (try simp only [Act.put, List.getElem_toArray, List.getElem_cons_succ, List.getElem_cons_zero, List.setIfInBounds_toArray, List.set_cons_zero, List.set_cons_succ]))
        | (refine wpAnyH_take (i := 7) (v := ?_) rfl (by decide +kernel) (by decide +kernel) (by decide +kernel) (fun _ _ _ h => h) (Or.inl ⟨by rfl, ?_⟩) (by assumption) ?_; rotate_left 1; (focus (intro w hSw; (try dsimp only at hSw); (try simp only [List.getElem_toArray, List.getElem_cons_succ, List.getElem_cons_zero]); first | (go_simp; done) | (go_simp; with_reducible rfl))); (try simp only [Act.put, List.getElem_toArray, List.getElem_cons_succ, List.getElem_cons_zero, List.setIfInBounds_toArray, List.set_cons_zero, List.set_cons_succ]))
        | (refine wpAnyH_take (i := 8) (v := ?_) rfl (by decide +kernel) (by decide +kernel) (by decide +kernel) (fun _ _ _ h => h) (Or.inl ⟨by rfl, ?_⟩) (by assumption) ?_; rotate_left 1; (focus (intro w hSw; (try dsimp only at hSw); (try simp only [List.getElem_toArray, List.getElem_cons_succ, List.getElem_cons_zero]); first | (go_simp; done) | (go_simp; with_reducible rfl))); (try simp only [Act.put, List.getElem_toArray, List.getElem_cons_succ, List.getElem_cons_zero, List.setIfInBounds_toArray, List.set_cons_zero, List.set_cons_succ]))
        | fail "nothing to take")
      refine wpAnyH_done (by decide +kernel) ?_ _
      simp only [cutPost, List.drop_succ_cons, List.drop_zero]
      refine wpList_put rfl (Operand.tmp 30) (Operand.tmp 31) (Operand.tmp 37) 51 71 (by rfl) Try.underlying51 (w.heap.size + 1) (vals E') (by rfl) (HMP.out.keep ?_) ?_ x HXS.out (.agg #[.slice a2 f.data.length cp2, .int .i64 f.sy]) (by rfl) (by rfl) ?_
      · exact (hB2.block _ (by have := HMP.out.lt; omega)).trans (Below.heap_alloc _ _ _ HMP.out.lt)
      · have h1 := congrArg List.length HI.out.fs
        have h2 : (doneE left (fils E)).length ≤ (fils E).length := List.length_filter_le _ _
        have h3 := HVM.out
        simp only [vals, fils, mapA_length] at h1 h2 h3 ⊢
        unfold maxLen
        omega
      intro w3 hm3 hc3
      go_frame
      have HM3 := Lib.hid (And.intro hm3 hc3)
      have HO2 := Lib.hid (own_mono HO.out (show w1.heap.size ≤ _ by simp))
      have HK3 := Lib.hid (show w3.heap[mb]? = w1.heap[mb]? ∧ w3.heap[w.heap.size + 2]? = w1.heap[w.heap.size + 2]? from by
        have h1 := hB2.size
        have h2 := HG.out.1.lt
        simp at h1
        exact ⟨(hc3.block mb (by omega) (by simp; omega)).trans ((hB2.block mb (by omega)).trans (Below.heap_alloc _ _ _ (by omega))), (hc3.block _ (by omega) (by simp)).trans ((hB2.block _ (by omega)).trans (Below.heap_alloc _ _ _ h2))⟩)
      clear hm3 hc3
      go_wp2_with fail
      go_roundw
      case rel =>
        exact ⟨_, _, _, cpI_step HI.out HRI.out hml (Nat.le_refl _) (by omega) (by omega) HMF.out HG.out.2.2.2.1 HG.out.1 HG.out.2.1 HG.out.2.2.1 (((Below.refl _ _).alloc (Nat.le_refl _) _).trans (hB2.mono (by omega))) HO2.out HM3.out.1 HM3.out.2⟩
      case measure =>
        rw [(ranges_keep HG.out.1 (w' := w3) HK3.out.1 HK3.out.2).left_eq, HI.out.rg.left_eq]
        exact HG.out.2.2.2.2
end
end Go.Proofs.Ytcpldjaoacihlaa
