/- Same: both disks at one state are the same. -/
import Derived.Test.YtcpldjaoacihlaaSp
namespace Go.Proofs.Ytcpldjaoacihlaa
open Go.RowKit
set_option linter.unusedVariables false

theorem RdV.heap {w w' : World} {v : Value} {cs : List Value} (h : RdV w v cs) (hb : ∀ g, g < w.heap.size → w'.heap[g]? = w.heap[g]?) : RdV w' v cs := by
  obtain ⟨p, c, rfl, h1, h2, h3, h4⟩ := h
  refine ⟨p, c, rfl, h1, h2, h3, fun hp => ?_⟩
  obtain ⟨b, o, rfl, hx⟩ := h4 hp
  refine ⟨b, o, rfl, fun i hi => ?_⟩
  have := hx i hi
  rw [World.cell?_of_block (w := w) (hb b (World.block_lt_of_cell? w _ this))]
  exact this

set_option maxRecDepth 100000 in
set_option maxHeartbeats 1000000 in
theorem sequal_c (w : World) (v1 v2 : Value) (ns : List ByteArray) (h1 : RdV w v1 (ns.map Value.string)) (h2 : RdV w v2 (ns.map Value.string)) (hn : ns.length ≤ 1000000000) :
    Calls Try.prog 41 #[v1, v2] w fun e w' => e = .returned (.bool true) ∧ ∃ k, w.drewN k = w' := by
  have H1 := Lib.hid h1
  have H2 := Lib.hid h2
  obtain ⟨p1, c1, rfl, a1, a2, _⟩ := h1
  obtain ⟨p2, c2, rfl, b1, b2, _⟩ := h2
  rw [show (ns.map Value.string).length = ns.length from by simp] at *
  unfold maxLen at a2 b2
  go_enter Try.func41, Try.ntmps41
  go_wp2_with fail
  go_loopw [13] (fun i wr => ∃ k d : Nat, k ≤ ns.length ∧ i = .int .i64 k ∧ wr = w.drewN d) (fun i _ => ns.length - (intOf i).toNat)
  case atStart => exact ⟨0, 0, Nat.zero_le _, rfl, rfl⟩
  case round =>
    obtain ⟨k, d, hk, rfl, rfl⟩ := hrel
    by_cases hlt : k < ns.length
    · obtain ⟨q1, d1, e1, _, _, _, x1⟩ := H1.out
      obtain ⟨q2, d2, e2, _, _, _, x2⟩ := H2.out
      rw [show (ns.map Value.string).length = ns.length from by simp] at e1 e2
      simp only [Value.slice.injEq, true_and] at e1 e2
      obtain ⟨rfl, _⟩ := e1
      obtain ⟨rfl, _⟩ := e2
      obtain ⟨g1, o1, rfl, y1⟩ := x1 (by simp; omega)
      obtain ⟨g2, o2, rfl, y2⟩ := x2 (by simp; omega)
      have z1 := y1 k (by simpa using hlt)
      have z2 := y2 k (by simpa using hlt)
      obtain ⟨nm, hnm⟩ : ∃ nm, nm = ns[k] := ⟨_, rfl⟩
      rw [show (ns.map Value.string)[k]'(by simpa using hlt) = Value.string nm from by simp [hnm]] at z1 z2
      have i1 : (0 : Int) ≤ (k : Int) := by omega
      have i2 : (k : Int) < (ns.length : Int) := by omega
      clear x1 x2 y1 y2 hnm
      go_wp2_with fail
      go_quiet (fail)
      go_wp2_with fail
      go_roundw
      case rel => exact ⟨k + 1, _, by omega, by go_num, rfl⟩
      case measure => simp [intOf]; omega
    · go_wp2_with fail
      go_ret
      exact ⟨rfl, _, rfl⟩

section
variable {w0 w : World} {p q : Option Addr} {s : DS} {foot m bb : List Nat}

theorem RDisk.used (h : RDisk w q s m bb) : Calls Try.prog 43 #[.pointer q] w fun e w' => e = .returned (.int .i64 (total s.fs)) ∧ Below w.heap.size w w' := by
  obtain ⟨qb, lv, G, rfl, hc, _⟩ := h.parts
  exact used_r hc

def strs (s : DS) : List ByteArray := s.fs.map fun p => ⟨p.1.toArray⟩
theorem strs_enc (s : DS) : (s.fs.map (·.1)).map Go.Proofs.encStr = (strs s).map Value.string := by
  unfold strs
  rw [List.map_map, List.map_map]
  rfl

set_option maxRecDepth 100000 in
set_option maxHeartbeats 4000000 in
theorem same_c (h : TwF w0 w p q s s foot m bb) (hl : s.fs.length ≤ 1000000) :
    Calls Try.prog 12 #[.pointer p, .pointer q] w fun e w' => e = .returned (.bool true) ∧ Below w.heap.size w w' := by
  have HT := Lib.hid h
  have hl2 : s.fs.length ≤ 1000000000 := by omega
  have HL := Lib.hid (And.intro hl hl2)
  obtain ⟨qb, lv, G, rfl, hc, _⟩ := h.r.parts
  have HC := Lib.hid hc
  have HLN := Lib.hid hc.len
  have HOK := Lib.hid hc.ok
  obtain ⟨c0, c1, c2, c3, cf⟩ := cells4 hc.blk
  have hltq := hc.ltq
  obtain ⟨a, c, rfl, l1, l2, _⟩ := hc.row.form
  unfold maxLen at l2
  have KEEP : ∀ w' : World, Below w.heap.size w w' → w'.cell? ⟨qb, 3, none⟩ = some (.bool s.dead) ∧ Below w.heap.size w w' := fun w' hb => ⟨by rw [hb.cell (by simp; omega)]; exact c3, hb⟩
  have HKP := Lib.hid KEEP
  obtain ⟨DD, hDD⟩ : ∃ x, x = s.dead := ⟨_, rfl⟩
  have hlG : G.length ≤ 1000000 := by rw [← hc.len]; exact hl
  clear h hc hl hl2 c1 c2 cf KEEP
  go_enter Try.func12, Try.ntmps12
  go_wp2_with fail
  go_cut [32] (fun c wx => c = .bool false ∧ Below w.heap.size w wx)
  case first =>
    go_region_held3 (fun w' => w'.cell? ⟨qb, 3, none⟩ = some (.bool s.dead) ∧ Below w.heap.size w w')
      (first
        | exact HKP.out _ (Below.refl _ _)
        | exact HKP.out _ ((Below.refl _ _).drew)
        | (refine HKP.out _ ?_; assumption)
        | (refine HKP.out _ (Below.drew ?_); assumption)
        | (refine HKP.out _ (below_drewN ?_ _); assumption))
      (first
        | (go_split_ands; go_at_call 30; refine (names_c (TwF.below HT.out ?_).d HL.out.2).mono ?_
           · assumption
           rintro e w2 ⟨v1, rfl, hr1, hb1⟩
           rw [strs_enc] at hr1
           have HR1 := Lib.hid (RdV.of_own hr1)
           have hB2 : Below w.heap.size w w2 := Below.trans (by assumption) (hb1.mono (Below.size (by assumption)))
           clear hr1 hb1)
        | (go_split_ands; go_at_call 42; refine (names_r (TwF.below HT.out ?_).r HL.out.1).mono ?_
           · assumption
           rintro e w3 ⟨v2, rfl, hr2, hb2⟩
           rw [strs_enc] at hr2
           have HR2 := Lib.hid (RdV.of_own hr2)
           have HR3 := Lib.hid (RdV.heap HR1.out fun g hg => hb2.block g hg)
           have hB3 : Below w.heap.size w w3 := Below.trans (by assumption) (hb2.mono (Below.size (by assumption)))
           clear hr2 hb2)
        | (go_split_ands; go_at_call 41; refine (sequal_c _ _ _ (strs s) (RdV.heap HR3.out fun _ _ => rfl) (RdV.heap HR2.out fun _ _ => rfl) (by unfold strs; rw [List.length_map]; exact HL.out.2)).mono ?_; rintro e w' ⟨rfl, kd, rfl⟩)
        | (go_split_ands; go_at_call 23; refine (used_c (TwF.below HT.out ?_).d).mono ?_
           · first | assumption | (refine below_drewN ?_ _; assumption)
           rintro e w' ⟨rfl, rfl⟩)
        | (go_split_ands; go_at_call 43; refine ((TwF.below HT.out ?_).r.used).mono ?_
           · first | assumption | (refine below_drewN ?_ _; assumption)
           rintro e w5 ⟨rfl, hb5⟩
           have hB5 : Below w.heap.size w w5 := Below.trans (by assumption) (hb5.mono (Below.size (by assumption)))
           clear hb5)
        | (go_split_ands; go_at_call 29; refine (dead_c (TwF.below HT.out ?_).d).mono ?_
           · assumption
           rintro e w' ⟨rfl, rfl⟩)
        | fail "no arm")
    all_goals
      go_wp2_with fail
      go_meet
      exact ⟨by simp, by assumption⟩
  case rest =>
  obtain ⟨rfl, hB⟩ := hcut
  have HB := Lib.hid hB
  have hsz := hB.size
  obtain ⟨d0, _, _, _, _⟩ := cells4 (HC.out.below hB).blk
  clear hB
  go_wp2_with fail
  go_loopw [38] (fun i wr => ∃ k : Nat, k ≤ G.length ∧ i = .int .i64 k ∧ Below w.heap.size w wr) (fun i _ => G.length - (intOf i).toNat)
  case atStart => exact ⟨0, Nat.zero_le _, rfl, HB.out⟩
  case round =>
    obtain ⟨k, hk, rfl, hb⟩ := hrel
    have HBr := Lib.hid hb
    have HR := Lib.hid (HC.out.below hb)
    have hszr := hb.size
    clear hb
    by_cases hlt : k < G.length
    · obtain ⟨g, off, c', e1, n1, n2, n3⟩ := HR.out.ent hlt
      simp only [Value.slice.injEq, true_and] at e1
      obtain ⟨e1, rfl⟩ := e1
      subst e1
      obtain ⟨hk', hfk⟩ := HC.out.fileAt hlt
      obtain ⟨bp, bc, hbv, b1, b2, b3⟩ := HC.out.rd _ (List.getElem_mem hlt)
      rw [hbv] at n2
      obtain ⟨nm, hnm⟩ : ∃ nm : ByteArray, nm = ⟨(G[k].1).toArray⟩ := ⟨_, rfl⟩
      rw [← hnm] at n1
      have HNM := Lib.hid (show nm.size ≤ 9223372036854775807 from by
        have h1 := HOK.out.nm _ (List.getElem_mem hk')
        rw [hfk] at h1
        rw [hnm]
        simp only [ByteArray.size, List.size_toArray] at h1 ⊢
        omega)
      have HTr := Lib.hid (HT.out.below (HBr.out.alloc hszr (.cells #[.string nm, .slice bp G[k].2.2.data.length bc, .int .i64 G[k].2.2.sy] 69)))
      clear b1 b2 b3 hbv hnm hfk
      obtain ⟨rd, hrd⟩ : ∃ rd, rd = s.read nm.data.toList := ⟨_, rfl⟩
      have HRD := Lib.hid hrd
      clear hrd
      go_wp2_with fail
      refine (read_c HTr.out.d nm HNM.out).mono ?_
      rw [← HRD.out]
      rintro e w2 ⟨v1, rfl, ho1, hb1⟩
      have hB2 : Below w.heap.size w w2 := (HBr.out.alloc hszr _).trans (hb1.mono (by simp; omega))
      have HB2 := Lib.hid hB2
      have HO1 := Lib.hid (Rd.of_own ho1)
      have HT2 := Lib.hid (HTr.out.below hb1)
      have hbx := (hb1.block wr.heap.size (by simp)).trans (heap_alloc_new wr _)
      obtain ⟨x0, x1, x2, xf⟩ := cells3 hbx
      obtain ⟨f1, g1, hf1, _⟩ := Rd.of_own ho1
      subst hf1
      clear ho1 hb1 hB2 hbx
      go_wp2_with fail
      refine (read_r HT2.out.r nm HNM.out).mono ?_
      rw [← HRD.out]
      rintro e w3 ⟨v2, rfl, ho2, hb2⟩
      have hB3 : Below w.heap.size w w3 := HB2.out.trans (hb2.mono HB2.out.size)
      have HB3 := Lib.hid hB3
      have HO2 := Lib.hid (Rd.of_own ho2)
      have HO3 := Lib.hid (HO1.out.below hb2)
      obtain ⟨f2, g2, hf2, _⟩ := Rd.of_own ho2
      subst hf2
      clear ho2 hb2 hB3 x0 x1 x2 xf
      go_wp2_with (go_at_call 15; refine (equal_c _ _ _ rd.1 rd.1 HO3.out HO2.out).mono ?_; rintro e w' ⟨rfl, rfl⟩; rw [beq_self_eq_true])
      go_roundw
      case rel => exact ⟨k + 1, by omega, by go_num, HB3.out⟩
      case measure => simp [intOf]; omega
    · go_wp2_with fail
      go_ret
      exact ⟨rfl, HBr.out⟩
end
end Go.Proofs.Ytcpldjaoacihlaa
