/- journal: what is in the frame with which bytes begin. -/
import Derived.Test.YtfljpnfjndjhpaaJt
import Derived.Test.YtfljpnfjndjhpaaHeldL
import Derived.WalkSpells
namespace Go.Proofs.Ytfljpnfjndjhpaa
open Go Go.RowKit
set_option linter.unusedVariables false
set_option linter.unusedSimpArgs false

/-- What unframe gives: a slice of the bytes at hand. -/
def UnfE (w : World) (v : Value) (r : Option (List UInt8)) (e : Ending) (w' : World) : Prop := Below w.heap.size w w' ∧ match r with
  | none => e = .returned (.tuple #[.slice none 0 0, .bool false])
  | some x => ∃ a c, e = .returned (.tuple #[.slice a x.length c, .bool true]) ∧ Rd w' (.slice a x.length c) x ∧ (∀ g, (Value.slice a x.length c).ownBlock = some g → v.ownBlock = some g)
/-- The bytes from k on, up to n more. -/
theorem Rd.cutAt {w : World} {b : List UInt8} {blk off c : Nat} (h : Rd w (.slice (some ⟨blk, off, none⟩) b.length c) b) (k n d : Nat) (hk : k + n ≤ b.length) (hd : n ≤ d) (hc : d ≤ maxLen) : Rd w (.slice (some ⟨blk, off + k, none⟩) n d) ((b.drop k).take n) := by
  obtain ⟨p, c', hv, h1, h2, h3, h4⟩ := h
  simp only [Value.slice.injEq] at hv
  obtain ⟨rfl, _, rfl⟩ := hv
  have hl : ((b.drop k).take n).length = n := by simp; omega
  refine ⟨some ⟨blk, off + k, none⟩, d, by rw [hl], by rw [hl]; exact hd, hc, by simp, fun hp => ?_⟩
  obtain ⟨b', o', hb, hx⟩ := h4 (by omega)
  simp only [Option.some.injEq, Addr.mk.injEq, and_true] at hb
  obtain ⟨rfl, rfl⟩ := hb
  refine ⟨blk, off + k, rfl, fun i hi => ?_⟩
  rw [hl] at hi
  have := hx (k + i) (by omega)
  rw [Nat.add_assoc]
  rw [this]
  simp

theorem headV_bytes (b : List UInt8) : headV b = .agg (bcells (headB b)).toArray := by
  unfold headV
  rw [← headB_cells]
theorem infoH88 : (Try.prog.info? 71).map (·.size) = some 8 := by kernel_rfl
set_option maxRecDepth 100000 in
set_option maxHeartbeats 4000000 in
theorem unframe_c (w : World) (v : Value) (b : List UInt8) (h : Rd w v b) (hn : b.length ≤ 4294967295) : Calls Try.prog 45 #[v] w (UnfE w v (unfM b)) := by
  have HR := Lib.hid h
  obtain ⟨p, c, rfl, h1, h2, h3, h4⟩ := h
  by_cases h8 : b.length < 8
  · have hu : unfM b = none := by unfold unfM; rw [if_pos h8]
    rw [hu]
    have hd : decide ((b.length : Int) < 8) = true := decide_eq_true (by omega)
    clear h1 h2 h3 h4 hu
    go_enter Try.func45, Try.ntmps45
    go_wp2_with fail
    exact bodyPost_ret (v := .tuple #[.slice none 0 0, .bool false]) (by simp [results, Try.results45, go_sem]) rfl ⟨Below.refl _ _, rfl⟩
  obtain ⟨blk, off, rfl, hx⟩ := h4 (by omega)
  obtain ⟨y0, y1, y2, y3, y4, y5, y6, y7, ht⟩ := eight (show (b.take 8).length = 8 from by simp; omega)
  have hk : ∀ i, (hi : i < 8) → ∀ u, (b.take 8)[i]? = some u → w.cell? ⟨blk, off + i, none⟩ = some (.int .u8 ((u.toNat : Nat) : Int)) := fun i hi u hu => by
    rw [List.getElem?_take, if_pos hi, List.getElem?_eq_getElem (by omega)] at hu
    simp only [Option.some.injEq] at hu
    rw [hx i (by omega), hu]
  rw [ht] at hk
  have k0 := hk 0 (by omega) _ rfl
  have k1 := hk 1 (by omega) _ rfl
  have k2 := hk 2 (by omega) _ rfl
  have k3 := hk 3 (by omega) _ rfl
  have k4 := hk 4 (by omega) _ rfl
  have k5 := hk 5 (by omega) _ rfl
  have k6 := hk 6 (by omega) _ rfl
  have k7 := hk 7 (by omega) _ rfl
  simp only [Nat.add_zero] at k0
  have HS := Lib.hid (fun (W : World) => size_c W [y0, y1, y2, y3, y4, y5, y6, y7] rfl)
  have hnum : num4 [y0, y1, y2, y3, y4, y5, y6, y7] = num4 b := by rw [← ht]; exact num4_take b 8 (by omega)
  rw [hnum] at HS
  obtain ⟨n, hnn⟩ : ∃ n, n = num4 b := ⟨_, rfl⟩
  rw [← hnn] at HS
  obtain ⟨m, hm⟩ : ∃ m, b.length = m + 8 := ⟨b.length - 8, by omega⟩
  obtain ⟨d, rfl⟩ : ∃ d, c = d + 8 := ⟨c - 8, by omega⟩
  have HT := Lib.hid ht
  have HM := Lib.hid hm
  have HNN := Lib.hid hnn
  simp only [bcells, List.map_cons, List.map_nil] at HS
  rw [hm] at h1 ⊢
  have hd : decide ((m : Int) + 8 < 8) = false := decide_eq_false (by omega)
  have harr : ∀ W : World, Sem.run Try.prog (Instr.arrayAt 71 (.slice (some ⟨blk, off, none⟩) (m + 8) (d + 8))) W = .ok (.pointer (some ⟨blk, off, none⟩)) W := fun W => run_arrayAt W _ _ _ _ _ _ Try.underlying71 (by omega)
  have hmd : m ≤ d := by omega
  have i8 : (0 : Int) ≤ 8 := by omega
  clear hk hx ht hnum hnn h4 h3 h1 h8 hm
  rcases Nat.eq_zero_or_pos d with rfl | hd0
  · have hm0 : m = 0 := by omega
    subst hm0
    have HBODY := Lib.hid (fun (W : World) (hW : Below w.heap.size w W) (hnm : n ≤ 0) => (show Rd W (.slice (some ⟨blk, off, none⟩) n 0) ((b.drop 8).take n) from (by have hn0 : n = 0 := (by omega); subst hn0; rw [List.take_zero]; exact ⟨_, 0, rfl, Nat.le_refl _, by unfold maxLen; omega, by simp, fun h => by simp at h⟩)))
    go_enter Try.func45, Try.ntmps45
    go_wp2_with fail
    have HB0 := Lib.hid (show Below w.heap.size w (w.alloc (.cells #[.int .u8 ((y0.toNat : Nat) : Int), .int .u8 ((y1.toNat : Nat) : Int), .int .u8 ((y2.toNat : Nat) : Int), .int .u8 ((y3.toNat : Nat) : Int), .int .u8 ((y4.toNat : Nat) : Int), .int .u8 ((y5.toNat : Nat) : Int), .int .u8 ((y6.toNat : Nat) : Int), .int .u8 ((y7.toNat : Nat) : Int)] 71)) from (Below.refl _ _).alloc (Nat.le_refl _) _)
    have HQ0 := Lib.hid (heap_alloc_new w (.cells #[.int .u8 ((y0.toNat : Nat) : Int), .int .u8 ((y1.toNat : Nat) : Int), .int .u8 ((y2.toNat : Nat) : Int), .int .u8 ((y3.toNat : Nat) : Int), .int .u8 ((y4.toNat : Nat) : Int), .int .u8 ((y5.toNat : Nat) : Int), .int .u8 ((y6.toNat : Nat) : Int), .int .u8 ((y7.toNat : Nat) : Int)] 71))
    refine (HS.out _).mono ?_
    rintro e w1 ⟨rfl, hb1⟩
    have HB1 := Lib.hid (HB0.out.trans (hb1.mono HB0.out.size))
    have HQ1 := Lib.hid ((hb1.block _ (by simp)).trans HQ0.out)
    clear hb1 k0 k1 k2 k3 k4 k5 k6 k7
    by_cases hnm : 0 < n
    · have hg : decide ((0 : Int) < (n : Int)) = true := decide_eq_true (by omega)
      go_wp2_with fail
      refine bodyPost_ret (v := .tuple #[.slice none 0 0, .bool false]) (by simp [results, Try.results45, go_sem]) rfl ⟨HB1.out, ?_⟩
      have hu : unfM b = none := by
        unfold unfM
        rw [if_neg (by have := HM.out; omega), if_pos (by rw [List.length_drop, ← HNN.out]; have := HM.out; omega)]
      rw [hu]
    have hg : decide ((0 : Int) < (n : Int)) = false := decide_eq_false (by omega)
    have hn00 : n = 0 := by omega
    subst hn00
    have hnd : 0 ≤ 0 := by omega
    have hn0 : (0 : Int) ≤ (0 : Int) := by omega
    go_wp2_with (refine wpList_load_row rfl 71 (Operand.tmp 4) rfl w.heap.size rfl 71 _ (0, 0) _ HQ1.out Try.underlying71 rfl infoH88 ?_)
    refine (HS.out _).mono ?_
    rintro e w2 ⟨rfl, hb2⟩
    have HB2 := Lib.hid (HB1.out.trans (hb2.mono HB1.out.size))
    have HQ2 := Lib.hid ((hb2.block _ (Array.getElem?_eq_some_iff.1 HQ1.out).1).trans HQ1.out)
    clear hb2
    obtain ⟨x, hx⟩ : ∃ x, x = (b.drop 8).take 0 := ⟨_, rfl⟩
    have HXL := Lib.hid (show x.length = 0 from by rw [hx, List.length_take, List.length_drop]; have := HM.out; omega)
    have HX := Lib.hid hx
    have HHD := Lib.hid (fun (W : World) (hW : Below w2.heap.size w2 W) => (show Calls Try.prog 40 #[.slice (some ⟨blk, off, none⟩) 0 0] W fun e w' => e = .returned (.agg (bcells (headB x)).toArray) ∧ Below W.heap.size W w' from by
      have := headerOf_c W _ x (by rw [HX.out]; exact HBODY.out W (HB2.out.trans (hW.mono HB2.out.size)) (by omega)) (by have := HM.out; rw [HXL.out]; omega)
      rwa [headV_bytes] at this))
    have hneq : ∀ W : World, (binOp .neq 71 (.agg (bcells (headB x)).toArray) (.agg #[.int .u8 ((y0.toNat : Nat) : Int), .int .u8 ((y1.toNat : Nat) : Int), .int .u8 ((y2.toNat : Nat) : Int), .int .u8 ((y3.toNat : Nat) : Int), .int .u8 ((y4.toNat : Nat) : Int), .int .u8 ((y5.toNat : Nat) : Int), .int .u8 ((y6.toNat : Nat) : Int), .int .u8 ((y7.toNat : Nat) : Int)])).run Try.prog W = .ok (.bool (!(headB x == [y0, y1, y2, y3, y4, y5, y6, y7]))) W := fun W => run_neqH W _ [y0, y1, y2, y3, y4, y5, y6, y7] (headB_length x) rfl
    obtain ⟨q, hq⟩ : ∃ q, q = (headB x == [y0, y1, y2, y3, y4, y5, y6, y7]) := ⟨_, rfl⟩
    rw [← hq] at hneq
    obtain ⟨hbx, hhb⟩ : ∃ y, y = (bcells (headB x)).toArray := ⟨_, rfl⟩
    rw [← hhb] at hneq HHD
    have HQQ := Lib.hid hq
    clear hq hhb hx
    go_wp2_with fail
    refine wp_region_heldS (fun W => Below w2.heap.size w2 W) (n := 4) (by rfl) (by kernel_rfl) ((Below.refl w2.heap.size w2).drew) (fun hHeld => ?_)
    (refine wpAnyH_take (i := 0) (v := ?_) rfl (by decide +kernel) (by decide +kernel) (by decide +kernel) (fun _ _ _ h => h) (Or.inl ⟨by rfl, ?_⟩) (by assumption) ?_; rotate_left 1; (focus (intro w hSw; (try simp only [List.getElem_toArray, List.getElem_cons_zero]); first | (go_simp; done) | (go_simp; with_reducible rfl))); (try simp only [Act.put, List.getElem_toArray, List.getElem_cons_zero, List.setIfInBounds_toArray, List.set_cons_zero, List.set_cons_succ]))
    (refine wpAnyH_take (i := 2) rfl (by decide +kernel) (by decide +kernel) (by decide +kernel) (fun _ _ _ h => h) (yieldsIf_load_row (by rfl) _ (Operand.tmp 4) rfl w.heap.size rfl 71 _ (0, 0) _ (fun W hS => (hS.block _ (Array.getElem?_eq_some_iff.1 HQ2.out).1).trans HQ2.out) Try.underlying71 rfl infoH88) (by assumption) ?_; (try simp only [Act.put, List.getElem_toArray, List.getElem_cons_succ, List.getElem_cons_zero, List.setIfInBounds_toArray, List.set_cons_zero, List.set_cons_succ]))
    refine wpAnyH_ready (rs := [1]) (by decide +kernel) (by simp) ?_
    refine (AllReadyH.cons rfl (fun Kx hKx => ?_) AllReadyH.nil)
    go_simp
    go_at_call 40
    refine (HHD.out _ ((Below.refl w2.heap.size w2).drew)).mono ?_
    rintro e w3 ⟨rfl, hb3⟩
    have hC3 : Below w2.heap.size w2 w3 := ((Below.refl w2.heap.size w2).drew).trans (hb3.mono ((Below.refl w2.heap.size w2).drew).size)
    refine hKx.out _ _ ?_ (fun hHeld => ?_)
    · exact hC3
    clear hKx Kx
    (try simp only [Act.put, List.getElem_toArray, List.getElem_cons_succ, List.getElem_cons_zero, List.setIfInBounds_toArray, List.set_cons_zero, List.set_cons_succ])
    (refine wpAnyH_take (i := 3) (v := ?_) rfl (by decide +kernel) (by decide +kernel) (by decide +kernel) (fun _ _ _ h => h) (Or.inl ⟨by rfl, ?_⟩) (by assumption) ?_; rotate_left 1; (focus (intro w hSw; (try simp only [List.getElem_toArray, List.getElem_cons_succ, List.getElem_cons_zero]); first | (go_simp; done) | (go_simp; with_reducible rfl))); (try simp only [Act.put, List.getElem_toArray, List.getElem_cons_succ, List.getElem_cons_zero, List.setIfInBounds_toArray, List.set_cons_zero, List.set_cons_succ]))
    refine wpAnyH_done (by decide +kernel) ?_ _
    cases q with
    | false =>
      go_wp2_with fail
      refine bodyPost_ret (v := .tuple #[.slice none 0 0, .bool false]) (by simp [results, Try.results45, go_sem]) rfl ⟨HB2.out.trans (hC3.mono HB2.out.size), ?_⟩
      have hu : unfM b = none := by
        unfold unfM
        rw [if_neg (by have := HM.out; omega), if_neg (by rw [List.length_drop, ← HNN.out]; have := HM.out; omega), ← HNN.out, ← HX.out, HT.out, if_neg (by have := HQQ.out; simpa using this.symm)]
      rw [hu]
    | true =>
      go_wp2_with fail
      refine bodyPost_ret (v := .tuple #[.slice (some ⟨blk, off, none⟩) 0 0, .bool true]) (by simp [results, Try.results45, go_sem]) rfl ⟨HB2.out.trans (hC3.mono HB2.out.size), ?_⟩
      have hu : unfM b = some x := by
        unfold unfM
        rw [if_neg (by have := HM.out; omega), if_neg (by rw [List.length_drop, ← HNN.out]; have := HM.out; omega), ← HNN.out, ← HX.out, HT.out, if_pos (by have := HQQ.out; simpa using this.symm)]
      rw [hu]
      refine ⟨some ⟨blk, off, none⟩, 0, by rw [HXL.out], ?_, fun g hg => by simpa [Value.ownBlock] using hg⟩
      rw [HXL.out, HX.out]
      exact HBODY.out _ (HB2.out.trans (hC3.mono HB2.out.size)) (by omega)
  · have HBODY := Lib.hid (fun (W : World) (hW : Below w.heap.size w W) (hnm : n ≤ m) => (show Rd W (.slice (some ⟨blk, off + 8, none⟩) n d) ((b.drop 8).take n) from (by have := (HR.out.below hW); rw [HM.out] at this; exact Rd.cutAt (by rw [HM.out]; exact this) 8 n d (by rw [HM.out]; omega) (by omega) (by omega))))
    go_enter Try.func45, Try.ntmps45
    go_wp2_with fail
    have HB0 := Lib.hid (show Below w.heap.size w (w.alloc (.cells #[.int .u8 ((y0.toNat : Nat) : Int), .int .u8 ((y1.toNat : Nat) : Int), .int .u8 ((y2.toNat : Nat) : Int), .int .u8 ((y3.toNat : Nat) : Int), .int .u8 ((y4.toNat : Nat) : Int), .int .u8 ((y5.toNat : Nat) : Int), .int .u8 ((y6.toNat : Nat) : Int), .int .u8 ((y7.toNat : Nat) : Int)] 71)) from (Below.refl _ _).alloc (Nat.le_refl _) _)
    have HQ0 := Lib.hid (heap_alloc_new w (.cells #[.int .u8 ((y0.toNat : Nat) : Int), .int .u8 ((y1.toNat : Nat) : Int), .int .u8 ((y2.toNat : Nat) : Int), .int .u8 ((y3.toNat : Nat) : Int), .int .u8 ((y4.toNat : Nat) : Int), .int .u8 ((y5.toNat : Nat) : Int), .int .u8 ((y6.toNat : Nat) : Int), .int .u8 ((y7.toNat : Nat) : Int)] 71))
    refine (HS.out _).mono ?_
    rintro e w1 ⟨rfl, hb1⟩
    have HB1 := Lib.hid (HB0.out.trans (hb1.mono HB0.out.size))
    have HQ1 := Lib.hid ((hb1.block _ (by simp)).trans HQ0.out)
    clear hb1 k0 k1 k2 k3 k4 k5 k6 k7
    by_cases hnm : m < n
    · have hg : decide ((m : Int) < (n : Int)) = true := decide_eq_true (by omega)
      go_wp2_with fail
      refine bodyPost_ret (v := .tuple #[.slice none 0 0, .bool false]) (by simp [results, Try.results45, go_sem]) rfl ⟨HB1.out, ?_⟩
      have hu : unfM b = none := by
        unfold unfM
        rw [if_neg (by have := HM.out; omega), if_pos (by rw [List.length_drop, ← HNN.out]; have := HM.out; omega)]
      rw [hu]
    have hg : decide ((m : Int) < (n : Int)) = false := decide_eq_false (by omega)
    have hnd : n ≤ d := by omega
    have hn0 : (0 : Int) ≤ (n : Int) := by omega
    go_wp2_with (refine wpList_load_row rfl 71 (Operand.tmp 4) rfl w.heap.size rfl 71 _ (0, 0) _ HQ1.out Try.underlying71 rfl infoH88 ?_)
    refine (HS.out _).mono ?_
    rintro e w2 ⟨rfl, hb2⟩
    have HB2 := Lib.hid (HB1.out.trans (hb2.mono HB1.out.size))
    have HQ2 := Lib.hid ((hb2.block _ (Array.getElem?_eq_some_iff.1 HQ1.out).1).trans HQ1.out)
    clear hb2
    obtain ⟨x, hx⟩ : ∃ x, x = (b.drop 8).take n := ⟨_, rfl⟩
    have HXL := Lib.hid (show x.length = n from by rw [hx, List.length_take, List.length_drop]; have := HM.out; omega)
    have HX := Lib.hid hx
    have HHD := Lib.hid (fun (W : World) (hW : Below w2.heap.size w2 W) => (show Calls Try.prog 40 #[.slice (some ⟨blk, off + 8, none⟩) n d] W fun e w' => e = .returned (.agg (bcells (headB x)).toArray) ∧ Below W.heap.size W w' from by
      have := headerOf_c W _ x (by rw [HX.out]; exact HBODY.out W (HB2.out.trans (hW.mono HB2.out.size)) (by omega)) (by have := HM.out; rw [HXL.out]; omega)
      rwa [headV_bytes] at this))
    have hneq : ∀ W : World, (binOp .neq 71 (.agg (bcells (headB x)).toArray) (.agg #[.int .u8 ((y0.toNat : Nat) : Int), .int .u8 ((y1.toNat : Nat) : Int), .int .u8 ((y2.toNat : Nat) : Int), .int .u8 ((y3.toNat : Nat) : Int), .int .u8 ((y4.toNat : Nat) : Int), .int .u8 ((y5.toNat : Nat) : Int), .int .u8 ((y6.toNat : Nat) : Int), .int .u8 ((y7.toNat : Nat) : Int)])).run Try.prog W = .ok (.bool (!(headB x == [y0, y1, y2, y3, y4, y5, y6, y7]))) W := fun W => run_neqH W _ [y0, y1, y2, y3, y4, y5, y6, y7] (headB_length x) rfl
    obtain ⟨q, hq⟩ : ∃ q, q = (headB x == [y0, y1, y2, y3, y4, y5, y6, y7]) := ⟨_, rfl⟩
    rw [← hq] at hneq
    obtain ⟨hbx, hhb⟩ : ∃ y, y = (bcells (headB x)).toArray := ⟨_, rfl⟩
    rw [← hhb] at hneq HHD
    have HQQ := Lib.hid hq
    clear hq hhb hx
    go_wp2_with fail
    refine wp_region_heldS (fun W => Below w2.heap.size w2 W) (n := 4) (by rfl) (by kernel_rfl) ((Below.refl w2.heap.size w2).drew) (fun hHeld => ?_)
    (refine wpAnyH_take (i := 0) (v := ?_) rfl (by decide +kernel) (by decide +kernel) (by decide +kernel) (fun _ _ _ h => h) (Or.inl ⟨by rfl, ?_⟩) (by assumption) ?_; rotate_left 1; (focus (intro w hSw; (try simp only [List.getElem_toArray, List.getElem_cons_zero]); first | (go_simp; done) | (go_simp; with_reducible rfl))); (try simp only [Act.put, List.getElem_toArray, List.getElem_cons_zero, List.setIfInBounds_toArray, List.set_cons_zero, List.set_cons_succ]))
    (refine wpAnyH_take (i := 2) rfl (by decide +kernel) (by decide +kernel) (by decide +kernel) (fun _ _ _ h => h) (yieldsIf_load_row (by rfl) _ (Operand.tmp 4) rfl w.heap.size rfl 71 _ (0, 0) _ (fun W hS => (hS.block _ (Array.getElem?_eq_some_iff.1 HQ2.out).1).trans HQ2.out) Try.underlying71 rfl infoH88) (by assumption) ?_; (try simp only [Act.put, List.getElem_toArray, List.getElem_cons_succ, List.getElem_cons_zero, List.setIfInBounds_toArray, List.set_cons_zero, List.set_cons_succ]))
    refine wpAnyH_ready (rs := [1]) (by decide +kernel) (by simp) ?_
    refine (AllReadyH.cons rfl (fun Kx hKx => ?_) AllReadyH.nil)
    go_simp
    go_at_call 40
    refine (HHD.out _ ((Below.refl w2.heap.size w2).drew)).mono ?_
    rintro e w3 ⟨rfl, hb3⟩
    have hC3 : Below w2.heap.size w2 w3 := ((Below.refl w2.heap.size w2).drew).trans (hb3.mono ((Below.refl w2.heap.size w2).drew).size)
    refine hKx.out _ _ ?_ (fun hHeld => ?_)
    · exact hC3
    clear hKx Kx
    (try simp only [Act.put, List.getElem_toArray, List.getElem_cons_succ, List.getElem_cons_zero, List.setIfInBounds_toArray, List.set_cons_zero, List.set_cons_succ])
    (refine wpAnyH_take (i := 3) (v := ?_) rfl (by decide +kernel) (by decide +kernel) (by decide +kernel) (fun _ _ _ h => h) (Or.inl ⟨by rfl, ?_⟩) (by assumption) ?_; rotate_left 1; (focus (intro w hSw; (try simp only [List.getElem_toArray, List.getElem_cons_succ, List.getElem_cons_zero]); first | (go_simp; done) | (go_simp; with_reducible rfl))); (try simp only [Act.put, List.getElem_toArray, List.getElem_cons_succ, List.getElem_cons_zero, List.setIfInBounds_toArray, List.set_cons_zero, List.set_cons_succ]))
    refine wpAnyH_done (by decide +kernel) ?_ _
    cases q with
    | false =>
      go_wp2_with fail
      refine bodyPost_ret (v := .tuple #[.slice none 0 0, .bool false]) (by simp [results, Try.results45, go_sem]) rfl ⟨HB2.out.trans (hC3.mono HB2.out.size), ?_⟩
      have hu : unfM b = none := by
        unfold unfM
        rw [if_neg (by have := HM.out; omega), if_neg (by rw [List.length_drop, ← HNN.out]; have := HM.out; omega), ← HNN.out, ← HX.out, HT.out, if_neg (by have := HQQ.out; simpa using this.symm)]
      rw [hu]
    | true =>
      go_wp2_with fail
      refine bodyPost_ret (v := .tuple #[.slice (some ⟨blk, off + 8, none⟩) n d, .bool true]) (by simp [results, Try.results45, go_sem]) rfl ⟨HB2.out.trans (hC3.mono HB2.out.size), ?_⟩
      have hu : unfM b = some x := by
        unfold unfM
        rw [if_neg (by have := HM.out; omega), if_neg (by rw [List.length_drop, ← HNN.out]; have := HM.out; omega), ← HNN.out, ← HX.out, HT.out, if_pos (by have := HQQ.out; simpa using this.symm)]
      rw [hu]
      refine ⟨some ⟨blk, off + 8, none⟩, d, by rw [HXL.out], ?_, fun g hg => by simpa [Value.ownBlock] using hg⟩
      rw [HXL.out, HX.out]
      exact HBODY.out _ (HB2.out.trans (hC3.mono HB2.out.size)) (by omega)
end Go.Proofs.Ytfljpnfjndjhpaa
