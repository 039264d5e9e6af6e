/- the reference's disk: Names. -/
import Derived.Test.YtcpldjaoacihlaaRtr
namespace Go.Proofs.Ytcpldjaoacihlaa
open Go.RowKit
set_option linter.unusedVariables false

theorem infoS : (Try.prog.info? 9).map (fun i => (i.zero, i.size, i.bytes)) = some (some (.string ⟨#[]⟩), 1, 16) := by kernel_rfl

theorem names_take {l : Fs} {k : Nat} (hk : k < l.length) : ((l.take (k + 1)).map (·.1)).map Go.Proofs.encStr = ((l.take k).map (·.1)).map Go.Proofs.encStr ++ [Value.string ⟨(l[k].1).toArray⟩] := by
  rw [List.take_succ_eq_append_getElem hk, List.map_append, List.map_append]
  rfl

/-- One cell, in a block of its own. -/
theorem src_cell {t e' : TypeId} (ht : Try.prog.underlying t = some (.slice e')) {W : World} {X : Nat} {u : Value} {e : TypeId} (h : W.heap[X]? = some (.cells #[u] e (0, 0))) (h1 : u.oneCell' = true) :
    Src Try.prog 1 t (.slice (some ⟨X, 0, none⟩) 1 1) 1 [u] W := by
  refine Src.ofSlice W ht _ 1 1 _ rfl (fun j x hj => ?_) (by simpa using h1)
  rw [Addr.add_lit, cell_of_row W X (0 + j) _ _ (0, 0) h]
  simpa using hj

set_option maxRecDepth 100000 in
set_option maxHeartbeats 1000000 in
theorem names_r {w : World} {q : Option Addr} {s : DS} {m bb : List Nat} (h : RDisk w q s m bb) (hl : s.fs.length ≤ 1000000) :
    Calls Try.prog 42 #[.pointer q] w fun e w' => ∃ v, e = .returned v ∧ w'.ownsRow w.heap.size 9 1 v s.fs.length ((s.fs.map (·.1)).map Go.Proofs.encStr) ∧ Below w.heap.size w w' := by
  obtain ⟨qb, lv, G, rfl, hc, rfl, rfl, hq, hbb⟩ := h.parts
  have HC := Lib.hid hc
  have hlG : G.length ≤ 1000000 := by rw [← hc.len]; exact hl
  have HLN := Lib.hid hc.len
  obtain ⟨c0, c1, c2, c3, cf⟩ := cells4 hc.blk
  obtain ⟨a, c, rfl, l1, l2, _⟩ := hc.row.form
  unfold maxLen at l2
  obtain ⟨i0, hi, hz0, hz1, hz2⟩ := info_parts infoS
  clear h hc hq hbb hl c1 c2 c3 cf
  go_enter Try.func42, Try.ntmps42
  go_wp2_with fail
  go_loopw [3, 11] (fun o i wr => ∃ k : Nat, k ≤ G.length ∧ i = .int .i64 k ∧ wr.ownsRow w.heap.size 9 1 o k (((s.fs.take k).map (·.1)).map Go.Proofs.encStr) ∧ Below w.heap.size w wr) (fun _ i _ => G.length - (intOf i).toNat)
  case atStart => exact ⟨0, Nat.zero_le _, rfl, ⟨rfl, .inl ⟨rfl, rfl⟩⟩, Below.refl _ _⟩
  case round =>
    obtain ⟨k, hk, rfl, ho, hb⟩ := hrel
    have HB := Lib.hid hb
    have HO := Lib.hid ho
    have HR := Lib.hid (HC.out.below hb)
    have hsz := hb.size
    clear hb ho
    by_cases hlt : k < G.length
    · obtain ⟨g, off, c', e1, n1, n2, n3⟩ := HR.out.ent hlt
      simp only [Value.slice.injEq, true_and] at e1
      obtain ⟨e1, rfl⟩ := e1
      subst e1
      obtain ⟨hk', hfk⟩ := HC.out.fileAt hlt
      obtain ⟨bp, bc, hbv, b1, b2, b3⟩ := HC.out.rd _ (List.getElem_mem hlt)
      rw [hbv] at n2
      obtain ⟨nm, hnm⟩ : ∃ nm : ByteArray, nm = ⟨(G[k].1).toArray⟩ := ⟨_, rfl⟩
      rw [← hnm] at n1
      have HS := Lib.hid (show ((s.fs.take (k + 1)).map (·.1)).map Go.Proofs.encStr = ((s.fs.take k).map (·.1)).map Go.Proofs.encStr ++ [Value.string nm] from by
        rw [names_take hk', hnm, hfk])
      clear b1 b2 b3 hbv hnm hfk
      go_wp2_with (at_builtin; go_must (refine wpList_append_src rfl _ _ 58 58 rfl w.heap.size 9 i0 (.string ⟨#[]⟩) 16 Try.underlying58 hi hz0 hz1 hz2 rfl _ k _ rfl ((HO.out.alloc _).alloc _) (.slice (some ⟨wr.heap.size + 1, 0, none⟩) 1 1) 1 [.string nm] (by rfl) (src_cell Try.underlying58 (heap_new _ _ (by simp)) rfl) (by unfold maxLen; omega) (by omega) (by simp; omega) ?_); intro v' w2 hown2 hgrow2; rw [← HS.out] at hown2; have HO2 := Lib.hid hown2; have HG := Lib.hid hgrow2; clear hown2 hgrow2)
      go_roundw
      case rel => exact ⟨k + 1, by omega, by go_num, HO2.out, ((HB.out.alloc hsz _).alloc (by simp; omega) _).trans (below_own HG.out ((HO.out.alloc _).alloc _) (by simp; omega))⟩
      case measure => simp [intOf]; omega
    · have hkk : k = G.length := by omega
      have HX := Lib.hid hkk
      have hkl : G.length ≤ k := by omega
      clear hkk hlt
      go_wp2_with fail
      go_ret
      have ho := HO.out
      rw [HX.out, ← HLN.out, List.take_length] at ho
      exact ⟨_, rfl, ho, HB.out⟩
end Go.Proofs.Ytcpldjaoacihlaa
