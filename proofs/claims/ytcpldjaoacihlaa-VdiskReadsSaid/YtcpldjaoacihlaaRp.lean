/- the reference's disk: place, burn, there. -/
import Derived.Test.YtcpldjaoacihlaaRd
import Derived.Deep.QuietTactic
import Derived.BigQuiet
namespace Go.Proofs.Ytcpldjaoacihlaa
open Go.RowKit
set_option linter.unusedVariables false

theorem bl_list : ∀ (a b : List UInt8), Op.bytesLess a b = bytesBefore a b
  | [], [] => rfl
  | [], _ :: _ => rfl
  | _ :: _, [] => rfl
  | x :: a, y :: b => by
    simp only [Op.bytesLess, bytesBefore, bl_list a b]
theorem bl_eq (a b : ByteArray) : Op.bytesLess a.toList b.toList = bytesBefore a.data.toList b.data.toList := by rw [bl_list, Lib.toList_data, Lib.toList_data]

section
variable {w : World} {qb : Nat} {s : DS} {lv : Value} {G : Ents}

set_option maxRecDepth 100000 in
theorem place_r (h : RC w qb s lv G) (n : ByteArray) (hn : n.size ≤ 9223372036854775807) :
    Calls Try.prog 58 #[.pointer (some ⟨qb, 0, none⟩), .string n] w fun e w' => e = .returned (.tuple #[.int .i64 (posA n.data.toList G), .bool (getA n.data.toList G).isSome]) ∧ ∃ k, w.drewN k = w' := by
  have HC := Lib.hid h
  have hr : Ris G := by have := h.ok.ris; rw [h.fs] at this; exact (mapA_ris _ _).1 this
  have HRI := Lib.hid hr
  obtain ⟨c0, c1, c2, c3, cf⟩ := cells4 h.blk
  obtain ⟨a, c, rfl, l1, l2, _⟩ := h.row.form
  unfold maxLen at l2
  clear h hr c1 c2 c3 cf hn
  go_enter Try.func58, Try.ntmps58
  go_wp2_with fail
  go_loop [6] (fun i => ∃ k : Nat, k ≤ posA n.data.toList G ∧ i = .int .i64 k) (fun i => G.length - (intOf i).toNat)
  case atStart => exact ⟨0, Nat.zero_le _, rfl⟩
  case round =>
    obtain ⟨k, hk, rfl⟩ := hrel
    have hkl : k ≤ G.length := Nat.le_trans hk posA_le
    by_cases hlt : k < G.length
    · obtain ⟨g, off, c', e1, n1, n2, n3⟩ := HC.out.ent hlt
      simp only [Value.slice.injEq, true_and] at e1
      obtain ⟨e1, rfl⟩ := e1
      subst e1
      obtain ⟨nm, hnm⟩ : ∃ nm : ByteArray, nm = ⟨(G[k].1).toArray⟩ := ⟨_, rfl⟩
      rw [← hnm] at n1
      have HK := Lib.hid (And.intro hnm hk)
      clear n2 n3 hnm hk
      have hbl : Op.bytesLess nm.toList n.toList = bytesBefore G[k].1 n.data.toList := by rw [bl_eq, HK.out.1]
      by_cases hb : bytesBefore G[k].1 n.data.toList = true
      · rw [hb] at hbl
        have HP := Lib.hid ((posA_mono HRI.out hlt).2 hb)
        clear hb
        go_wp2_with fail
        go_round
        case rel => exact ⟨k + 1, HP.out, by go_num⟩
        case measure => simp [intOf]; omega
      · have hbf : bytesBefore G[k].1 n.data.toList = false := by simpa using hb
        rw [hbf] at hbl
        have hpk : posA n.data.toList G = k := by
          have h1 := HK.out.2
          have h2 : ¬ k < posA n.data.toList G := fun h => hb ((posA_mono HRI.out hlt).1 h)
          omega
        have HP := Lib.hid hpk
        have HF := Lib.hid (posA_found HRI.out hlt hpk)
        have heq : (nm.toList == n.toList) = (G[k].1 == n.data.toList) := by rw [Lib.toList_data, Lib.toList_data, HK.out.1]
        generalize (G[k].1 == n.data.toList) = fd at *
        clear hb hbf hpk
        go_wp2_with fail
        go_quiet (fail)
        go_wp2_with fail
        go_ret2
        exact ⟨by rw [HP.out, HF.out]; rfl, _, rfl⟩
    · have hkk : k = G.length := by omega
      have hpk : posA n.data.toList G = G.length := by have := posA_le (n := n.data.toList) (l := G); omega
      have HP := Lib.hid hpk
      have HF := Lib.hid (posA_end HRI.out hpk)
      have hgk : G.length ≤ k := by omega
      have HX := Lib.hid hkk
      clear hpk hkk hlt
      go_wp2_with fail
      go_quiet (fail)
      go_wp2_with fail
      go_ret2
      exact ⟨by rw [HP.out, HF.out, ← HX.out]; rfl, _, rfl⟩

theorem RC.mk' {w' : World} (h : RC w qb s lv G) (s' : DS) (hb : w'.heap[qb]? = some (.cells #[lv, .int .i64 s'.room, .int .i64 s'.fuse, .bool s'.dead] 64 (0, 0))) (hm : ∀ i, i < w.heap.size → i ≠ qb → w'.heap[i]? = w.heap[i]?) (hq : lv.ownBlock ≠ some qb) (hbb : qb ∉ bblks G) (hf : s'.fs = s.fs) (ho : s'.Ok) : RC w' qb s' lv G := by
  refine ⟨hb, h.row.keep fun g hg => hm g (h.row.lt g hg) (fun e => hq (by rw [← e]; exact hg)), hf.trans h.fs, fun p hp => ?_, ho⟩
  obtain ⟨a, c, hv, k1, k2, k3, k4⟩ := h.rd p hp
  refine ⟨a, c, hv, k1, k2, k3, fun h0 => ?_⟩
  obtain ⟨b, o, rfl, hx⟩ := k4 h0
  have hmm : b ∈ bblks G := by
    unfold bblks
    rw [List.mem_filterMap]
    exact ⟨p, hp, by rw [if_neg (by omega), hv]; rfl⟩
  exact ⟨b, o, rfl, fun i hi => by rw [World.cell?_of_block (w := w) (hm b (h.ltb b hmm) (fun e => hbb (by rw [← e]; exact hmm)))]; exact hx i hi⟩

theorem burn_r (h : RC w qb s lv G) (hq : lv.ownBlock ≠ some qb) (hbb : qb ∉ bblks G) :
    Calls Try.prog 57 #[.pointer (some ⟨qb, 0, none⟩)] w fun e w' => e = .returned (.int .i64 (if s.fuse = 0 then 70 else 0)) ∧ RC w' qb s.burn lv G ∧ Chg [qb] w w' := by
  obtain ⟨c0, c1, c2, c3, cf⟩ := cells4 h.blk
  have cf2 := cf 2
  have cf3 := cf 3
  have HC := Lib.hid h
  have HQ := Lib.hid (And.intro hq hbb)
  have f0 := h.ok.fuse0
  have f1 := h.ok.fuse1
  have HB := Lib.hid (h.ok.burn)
  obtain ⟨a, c, rfl, _⟩ := h.row.form
  clear h c0 c1 cf hq hbb
  by_cases h0 : s.fuse = 0
  · have HX := Lib.hid (show s.burn = { s with dead := true } from by simp [DS.burn, h0])
    have HF := Lib.hid h0
    have t : (s.fuse == 0) = true := by simp [h0]
    rw [if_pos h0]
    clear h0
    go_enter Try.func57, Try.ntmps57
    go_wp2
    go_ret
    refine ⟨rfl, ?_, (Chg.refl _ _).set' _ _ _ (by simp)⟩
    rw [HX.out]
    exact HC.out.mk' _ ((heap_mod HC.out.blk).trans rfl) (fun i _ hi => Below.heap_setCell _ _ _ _ hi) HQ.out.1 HQ.out.2 rfl (by have := HB.out; rwa [HX.out] at this)
  · rw [if_neg h0]
    by_cases h1 : s.fuse = -1
    · have HX := Lib.hid (show s.burn = s from by simp [DS.burn, h1])
      have HF := Lib.hid h1
      have t : (s.fuse == 0) = false := by simp [h1]
      have t2 : decide (0 < s.fuse) = false := by simp; omega
      have t3 : s.fuse < 0 := by omega
      clear h0 h1
      go_enter Try.func57, Try.ntmps57
      go_wp2
      go_ret
      rw [HX.out]
      exact ⟨rfl, HC.out, Chg.refl _ _⟩
    · have HX := Lib.hid (show s.burn = { s with fuse := s.fuse - 1 } from by simp [DS.burn, h0, h1])
      have HF := Lib.hid h0
      have t : (s.fuse == 0) = false := by simp [h0]
      have f2 : 0 < s.fuse := by omega
      have f3 : 0 ≤ s.fuse - 1 := by omega
      clear h0 h1
      go_enter Try.func57, Try.ntmps57
      go_wp2
      go_ret
      refine ⟨rfl, ?_, (Chg.refl _ _).set' _ _ _ (by simp)⟩
      rw [HX.out]
      exact HC.out.mk' _ ((heap_mod HC.out.blk).trans rfl) (fun i _ hi => Below.heap_setCell _ _ _ _ hi) HQ.out.1 HQ.out.2 rfl (by have := HB.out; rwa [HX.out] at this)
end
end Go.Proofs.Ytcpldjaoacihlaa
