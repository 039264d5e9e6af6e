/- the reference's disk: Read. -/
import Derived.Test.YtcpldjaoacihlaaRm
namespace Go.Proofs.Ytcpldjaoacihlaa
open Go.RowKit
set_option linter.unusedVariables false

set_option maxRecDepth 100000 in
set_option maxHeartbeats 1000000 in
theorem read_r {w : World} {q : Option Addr} {s : DS} {m bb : List Nat} (h : RDisk w q s m bb) (n : ByteArray) (hn : n.size ≤ 9223372036854775807) :
    Calls Try.prog 14 #[.pointer q, .string n] w fun e w' => ∃ v, e = .returned (.tuple #[v, .int .i64 (s.read n.data.toList).2]) ∧ w'.ownsRow w.heap.size 5 1 v (s.read n.data.toList).1.length (bcells (s.read n.data.toList).1) ∧ Below w.heap.size w w' := by
  have HD := Lib.hid h
  obtain ⟨qb, lv, G, rfl, hc, rfl, rfl, hq, hbb⟩ := h.parts
  have HN := Lib.hid hn
  have HC := Lib.hid hc
  have hltq := hc.ltq
  by_cases h0 : s.fnd n.data.toList true = 0
  · obtain ⟨hd, f, hf⟩ := fnd0 h0
    obtain ⟨v, hx⟩ := hc.getG hf
    have hmem := getA_mem hx
    have hrd := hc.rd _ hmem
    obtain ⟨bp, bc, hv, r1, r2, r3, r4⟩ := id hrd
    simp only at hv r1 r2
    subst hv
    have HX := Lib.hid (show s.read n.data.toList = (f.data, 0) from by unfold DS.read; simp [h0, fileA, hf])
    have HI := Lib.hid (And.intro hd hx)
    have HR := Lib.hid hrd
    have HB := Lib.hid (show f.data.length ≤ 140737488355328 from by have := total_mem (getA_mem hf); have := hc.ok.tot; omega)
    obtain ⟨i0, hi, hz0, hz1, hz2⟩ := info_parts infoU8
    rw [HX.out]
    clear h hc hq hbb hn h0 hd hf hx hmem hrd r1 r2 r3 r4
    go_enter Try.func14, Try.ntmps14
    go_wp2_with fail
    refine (there_ok HC.out n HN.out HI.out.1 HI.out.2).mono ?_
    rintro e w1 ⟨rfl, hB1⟩
    have HB1 := Lib.hid hB1
    have hsz1 := hB1.size
    clear hB1
    have hb2 : w.heap.size ≤ (w1.alloc (.cells #[.string n, .slice bp f.data.length bc, .int .i64 f.sy] 69)).heap.size := by simp; omega
    have hm := World.ownsRow_made (w1.alloc (.cells #[.string n, .slice bp f.data.length bc, .int .i64 f.sy] 69)) #[] 0 (base := w.heap.size) (e := 5) (size := 1) hb2 (by unfold maxLen; omega) rfl
    rw [show (w1.alloc (.cells #[.string n, .slice bp f.data.length bc, .int .i64 f.sy] 69)).heap.size = w1.heap.size + 1 from by simp] at hm
    have HM := Lib.hid hm
    clear hm
    have HB2 := Lib.hid hb2
    clear hb2
    go_wp2_with (at_builtin; refine wpList_append_src rfl _ _ 31 31 rfl w.heap.size 5 i0 (.int .u8 0) 1 Try.underlying31 hi hz0 hz1 hz2 rfl _ 0 [] rfl HM.out _ f.data.length (bcells f.data) rfl (((HR.out.below HB1.out).alloc _).alloc _ |>.src Try.underlying31) (by have := HB.out; unfold maxLen; omega) (by have := HB.out; omega) (by simp; omega) ?_; intro v' w2 hown2 hgrow2; have HO := Lib.hid hown2; have HG := Lib.hid hgrow2; clear hown2 hgrow2)
    go_ret2
    have h2 := HO.out
    rw [Nat.zero_add, List.nil_append] at h2
    exact ⟨_, rfl, h2, ((HB1.out.alloc HB1.out.size _).alloc HB2.out _).trans (below_own HG.out HM.out (by simp; omega))⟩
  · have HX := Lib.hid (show s.read n.data.toList = ([], s.fnd n.data.toList true) from by unfold DS.read; simp [h0])
    have HI := Lib.hid h0
    obtain ⟨E, hE⟩ : ∃ E, E = s.fnd n.data.toList true := ⟨_, rfl⟩
    have HE := Lib.hid hE
    have t : (E == 0) = false := by rw [hE]; simp [h0]
    rw [HX.out]
    clear h hc hq hbb hn h0 hE
    go_enter Try.func14, Try.ntmps14
    go_wp2_with fail
    refine (there_no HC.out n HN.out HI.out).mono ?_
    rintro e w1 ⟨rfl, hB1⟩
    rw [← HE.out]
    go_wp2_with fail
    go_ret2
    exact ⟨_, by rw [HE.out]; rfl, ⟨rfl, .inl ⟨rfl, rfl⟩⟩, hB1.alloc hB1.size _⟩
end Go.Proofs.Ytcpldjaoacihlaa
