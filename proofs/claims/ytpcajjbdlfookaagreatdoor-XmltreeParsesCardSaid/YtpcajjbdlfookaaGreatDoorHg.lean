/- bytes.Replace where something is replaced. -/
import Derived.Test.YtpcajjbdlfookaaGreatDoorHf
namespace Go.Proofs.YtpcajjbdlfookaaGreatDoor
open Go.RowKit
set_option linter.unusedVariables false

/-- The loop of bytes.Replace: so many instances are laid, from there on. -/
def RepI (w1 : World) (xs old : List UInt8) (K N : Nat) (R : List UInt8) (i st : Nat) (acc : List UInt8) (wr : World) : Prop :=
  i ≤ K ∧ st ≤ xs.length ∧ Lib.count (xs.drop st) old = K - i ∧ acc ++ Lib.replaceK old [10] (K - i) (xs.drop st) = R ∧ Lib.Buf w1 wr w1.heap.size N acc

set_option maxRecDepth 100000 in
set_option maxHeartbeats 2000000 in
theorem replace_some (w : World) (b o c : Nat) (uo un : Value) (xs old : List UInt8) (h : Rd w (.slice (some ⟨b, o, none⟩) xs.length c) xs) (ho : Rd w uo old) (hn : Rd w un [10]) (hm : MX w) (hl : xs.length ≤ 8388608) (hol : old.length = 1 ∨ old.length = 2) (hc : 1 ≤ Lib.count xs old) :
    Calls Tryz.prog 136 #[.slice (some ⟨b, o, none⟩) xs.length c, uo, un, .int .i64 (-1)] w fun e w' => ∃ v', e = .returned v' ∧ OwnB w.heap.size w' v' (Lib.replaceK old [10] (Lib.count xs old) xs) ∧ Below w.heap.size w w' := by
  obtain ⟨i0, hi, hz0, hz1, hz2⟩ := info_parts info8
  have mixed : Tryz.prog.follows .mixedOrders = true := by kernel_rfl
  have HC := Lib.hid (count_c w _ uo xs old h ho hm (by omega) (by omega) (by omega))
  obtain ⟨_, _, _, _, hxc, hcm⟩ := rd_in h
  obtain ⟨p2, c2, rfl⟩ := rd_form ho
  obtain ⟨p3, c3, rfl⟩ := rd_form hn
  have HR := Lib.hid h
  have HO := Lib.hid ho
  have HN := Lib.hid hn
  have HM := Lib.hid hm
  have HL := Lib.hid hl
  have hne : old ≠ [] := by intro e; rw [e] at hol; simp at hol
  have hrl := repl_len old [10] (by omega) (Lib.count xs old) xs (Nat.le_refl _)
  obtain ⟨R, hR⟩ : ∃ R, R = Lib.replaceK old [10] (Lib.count xs old) xs := ⟨_, rfl⟩
  rw [← hR] at hrl ⊢
  obtain ⟨K, hK⟩ : ∃ K, K = Lib.count xs old := ⟨_, rfl⟩
  rw [← hK] at hrl hR HC hc
  have HRR := Lib.hid hR
  have HK := Lib.hid hK
  have hKl : K ≤ xs.length + 1 := by rw [hK]; exact Lib.count_le _ _
  obtain ⟨ko, hko⟩ : ∃ ko, ko = old.length := ⟨_, rfl⟩
  have HKO := Lib.hid hko
  rw [← hko] at hol HC ⊢
  obtain ⟨N, hN⟩ : ∃ N, N = R.length := ⟨_, rfl⟩
  have HNN := Lib.hid hN
  have hNb : N ≤ 16777216 ∧ (xs.length : Int) + K * (1 - (ko : Int)) = N := by
    rw [← hN, ← hko] at hrl
    simp only [List.length_singleton] at hrl
    have : ((1 : Nat) : Int) = 1 := rfl
    rcases hol with e | e <;> rw [e] at hrl ⊢ <;> push_cast at hrl ⊢ <;> omega
  obtain ⟨hNb, hNe⟩ := hNb
  have HOL := Lib.hid hol
  have HNE := Lib.hid hne
  have hK0 : ((K : Int) == 0) = false := beq_eq_false_iff_ne.2 (by omega)
  unfold maxLen at hcm
  clear h ho hn hm hK hR hrl hko hN hne hl
  rcases hol with rfl | rfl
  all_goals
    go_enter Tryz.func136, Tryz.ntmps136
    go_wp2_with fail
    refine HC.out.mono ?_
    rintro e w1 ⟨rfl, q, hw⟩
    have HB := Lib.hid (show Below w.heap.size w w1 from hw ▸ below_drewN (Below.refl _ _) q)
    clear hw
    go_wp2_with (at_make; refine wpList_make_full w1 rfl _ _ 22 rfl w1.heap.size 5 i0 (.int .u8 0) 1 Tryz.underlying22 hi hz0 hz1 .i64 .i64 _ _ N rfl rfl (by omega) (by omega) (by rw [hz2]; omega) (by unfold maxLen; omega) (Nat.le_refl _) ?_; intro w2 hown2 hgrow2; have HBF := Lib.hid (Buf_made hown2 hgrow2); clear hown2 hgrow2)
    have HRI := Lib.hid (show RepI w1 xs old K N R 0 0 [] w2 from ⟨by omega, by omega, by rw [List.drop_zero, Nat.sub_zero]; exact HK.out.symm, by rw [List.drop_zero, Nat.sub_zero, HRR.out]; rfl, HBF.out⟩)
    have HR1 := Lib.hid (HR.out.below HB.out)
    have HO1 := Lib.hid (HO.out.below HB.out)
    have HN1 := Lib.hid (HN.out.below HB.out)
    have HM1 := Lib.hid (HM.out.below HB.out)
    clear HBF HC HR HO HN HM
    go_loopw [11, 12, 49] (fun s11 s12 s49 wr => ∃ (i st : Nat) (acc : List UInt8), s49 = .int .i64 i ∧ s12 = .int .i64 st ∧ s11 = .int .i64 acc.length ∧ RepI w1 xs old K N R i st acc wr) (fun _ _ s49 _ => K - (intOf s49).toNat)
    case atStart => exact ⟨0, 0, [], rfl, rfl, rfl, HRI.out⟩
    case round =>
      obtain ⟨i, st, acc, rfl, rfl, rfl, hri⟩ := hrel
      obtain ⟨hik, hst, hcnt, hacc, hbuf⟩ := hri
      by_cases hlt : i < K
      · obtain ⟨j0, hj0⟩ := Lib.index_of_count (s := xs.drop st) (old := old) (by omega)
        have hroom := Lib.index_room (xs.drop st) old (by omega)
        have hko := HKO.out
        have hchit := Lib.count_hit HNE.out hj0
        obtain ⟨k', hk'⟩ : ∃ k', K - i = k' + 1 := ⟨K - i - 1, by omega⟩
        have hrk := Lib.replaceK_hit old [10] k' (xs.drop st) j0 hj0
        rw [hk'] at hcnt hacc
        rw [hrk] at hacc
        have hdl : (xs.drop st).length = xs.length - st := List.length_drop ..
        rw [hdl, hj0] at hroom
        have hls := congrArg List.length hacc
        simp only [List.length_append, List.length_take, List.length_singleton, hdl, ← HNN.out] at hls
        have hsz := hbuf.below.size
        have hbw : Below w1.heap.size w1 wr := hbuf.below
        obtain ⟨p', m', c', hs1, hr1⟩ := slice_from (HR1.out.below hbw) st hst
        obtain ⟨p4, m4, c4, hs2, hr2⟩ := slice_mid (HR1.out.below (Below.refl _ _)) st (st + j0) (by omega) (by omega)
        rw [show st + j0 - st = j0 by omega] at hr2
        have hm4 := hr2.len
        have hm' := hr1.len
        rw [List.length_take, hdl] at hm4
        obtain rfl : m4 = j0 := by omega
        rw [show ((st + m4 : Nat) : Int) = (st : Int) + (m4 : Int) by omega] at hs2
        have hIX := index_c wr _ _ _ old hr1 (HO1.out.below hbw) (HM1.out.below hbw) (by rw [hdl]; have := HL.out; omega) (by omega) (by rw [hdl]; omega) (by omega)
        rw [hj0, ← hko] at hIX
        have HIX := Lib.hid hIX
        have hsl1 : ∀ W, (Instr.slice 22 (.slice (some ⟨w1.heap.size, 0, none⟩) N N) (some (.int .i64 (acc.length : Int))) none none).run Tryz.prog W = .ok (Lib.tailV w1.heap.size N acc.length) W := fun W => Lib.run_slice_tailV W 22 5 Tryz.underlying22 sizeRun8 _ N acc.length (by omega)
        have hsl2 : ∀ W, (Instr.slice 22 (.slice (some ⟨w1.heap.size, 0, none⟩) N N) (some (.int .i64 ((acc.length : Int) + (m4 : Int)))) none none).run Tryz.prog W = .ok (Lib.tailV w1.heap.size N (acc.length + m4)) W := fun W => by
          have := Lib.run_slice_tailV (P := Tryz.prog) W 22 5 Tryz.underlying22 sizeRun8 w1.heap.size N (acc.length + m4) (by omega)
          rwa [show ((acc.length + m4 : Nat) : Int) = (acc.length : Int) + (m4 : Int) by omega] at this
        have hln : ((xs.drop st).take m4).length = m4 := by rw [List.length_take, hdl]; omega
        have HC1 := Lib.hid (fun (wx : World) (hb : Lib.Buf w1 wx w1.heap.size N acc) => Lib.copy_part (P := Tryz.prog) w1 wx w1.heap.size N acc ((xs.drop st).take m4) (.slice p4 m4 c4) 22 3 5 Tryz.underlying22 size8 (Nat.le_refl _) hb (rd_holds hr2) (by rw [hln]; omega))
        rw [hln] at HC1
        have HC2 := Lib.hid (fun (wx : World) (hb : Lib.Buf w1 wx w1.heap.size N (acc ++ (xs.drop st).take m4)) => Lib.copy_part (P := Tryz.prog) w1 wx w1.heap.size N (acc ++ (xs.drop st).take m4) [10] (.slice p3 1 c3) 22 3 5 Tryz.underlying22 size8 (Nat.le_refl _) hb (rd_holds HN1.out) (by rw [List.length_append, hln]; simp; omega))
        rw [List.length_append, hln] at HC2
        have hdd : xs.drop (st + m4 + old.length) = (xs.drop st).drop (m4 + old.length) := by rw [List.drop_drop, Nat.add_assoc]
        have HNX := Lib.hid (fun (wx : World) (hb : Lib.Buf w1 wx w1.heap.size N (acc ++ (xs.drop st).take m4 ++ [10])) => show RepI w1 xs old K N R (i + 1) (st + m4 + old.length) (acc ++ (xs.drop st).take m4 ++ [10]) wx from
          ⟨by omega, by omega, by rw [hdd]; omega, by rw [← hacc, show K - (i + 1) = k' by omega, hdd]; simp only [List.append_assoc], hb⟩)
        rw [← hko] at HNX
        have HAL := Lib.hid (show (acc ++ (xs.drop st).take m4 ++ [10]).length = acc.length + m4 + 1 by rw [List.length_append, List.length_append, hln]; rfl)
        have HBUF := Lib.hid hbuf
        have hlt' : (i : Int) < (K : Int) := by omega
        have hb1 : st + m4 ≤ 16777216 := by have := HL.out; omega
        have hb2 : acc.length + m4 + 1 ≤ 16777216 := by omega
        have hb3 : i ≤ 16777216 := by have := HL.out; omega
        clear hdd hj0 hroom hko hchit hk' hrk hcnt hacc hls hsz hbw hr1 hr2 hm4 hm' hIX hln hbuf hdl hst hik
        go_wp2_with fail
        refine HIX.out.mono ?_
        rintro e w3 ⟨rfl, q3, hw3⟩
        have HB3 := Lib.hid (show Lib.Buf w1 w3 w1.heap.size N acc from hw3 ▸ Buf_drewN HBUF.out q3)
        clear hw3 HBUF HIX
        obtain ⟨w4, hr4, hb4⟩ := HC1.out _ (Buf_drew HB3.out)
        obtain ⟨w5, hr5, hb5⟩ := HC2.out _ hb4
        have HR4 := Lib.hid hr4
        have HR5 := Lib.hid hr5
        have HB5 := Lib.hid hb5
        clear hr4 hr5 hb4 hb5 HC1 HC2
        go_wp2_with fail
        go_region_law_o (refine step_copy_runJ rfl _ _ 22 22 rfl (Lib.tailV w1.heap.size N acc.length) (.slice p4 m4 c4) (by simp [Act.eval, Act.put]) (by simp [Act.eval, Act.put]) HR4.out ?_)
        go_wp2_with ((with_reducible show wpList _ _ _ ({ dst := _, op := Op.call { callee := Callee.builtin Builtin.copy, args := _, argTypes := _ }, type := _, pos := _, after := _, guard := _ } :: _) _ _); refine wpList_copy_runJ _ rfl _ _ 22 22 rfl _ _ rfl rfl HR5.out ?_)
        go_roundw
        case rel => exact ⟨i + 1, _, _, by go_num, by go_num, by rw [HAL.out]; go_num, HNX.out _ HB5.out⟩
        case measure => simp [intOf]; omega
      · obtain rfl : i = K := by omega
        have hz : Lib.replaceK old [10] (i - i) (xs.drop st) = xs.drop st := by rw [Nat.sub_self]; rfl
        rw [hz] at hacc
        have hdl : (xs.drop st).length = xs.length - st := List.length_drop ..
        have hls := congrArg List.length hacc
        rw [List.length_append, hdl, ← HNN.out] at hls
        have hbw : Below w1.heap.size w1 wr := hbuf.below
        obtain ⟨p', m', c', hs1, hr1⟩ := slice_from (HR1.out.below (Below.refl _ _)) st hst
        have hm' := hr1.len
        rw [hdl] at hm'
        have hsl1 : ∀ W, (Instr.slice 22 (.slice (some ⟨w1.heap.size, 0, none⟩) N N) (some (.int .i64 (acc.length : Int))) none none).run Tryz.prog W = .ok (Lib.tailV w1.heap.size N acc.length) W := fun W => Lib.run_slice_tailV W 22 5 Tryz.underlying22 sizeRun8 _ N acc.length (by omega)
        obtain ⟨w4, hr4, hb4⟩ := Lib.copy_part (P := Tryz.prog) w1 wr.drew w1.heap.size N acc (xs.drop st) (.slice p' m' c') 22 3 5 Tryz.underlying22 size8 (Nat.le_refl _) (Buf_drew hbuf) (rd_holds hr1) (by rw [hdl]; omega)
        rw [hdl, hm'] at hr4
        have HR4 := Lib.hid hr4
        have HB4 := Lib.hid hb4
        have HOW := Lib.hid (Buf_own hb4 (by rw [List.length_append, hdl]; omega) (by unfold maxLen; omega))
        have HAC := Lib.hid hacc
        have hN0 : (acc.length : Int) + (m' : Int) = (N : Int) := by omega
        have hNN := Lib.hid hN0
        have hlt' : ¬ ((i : Int) < (i : Int)) := by omega
        have hb2 : acc.length + m' ≤ 16777216 := by omega
        have hsh := fun W => slice_head w1.heap.size N ((acc.length : Int) + (m' : Int)) hN0 W
        clear hz hcnt hacc hls hbw hr1 hm' hbuf hdl hik hr4 hb4 hN0
        go_wp2_with fail
        go_region_law_o (refine step_copy_runJ rfl _ _ 22 22 rfl (Lib.tailV w1.heap.size N acc.length) (.slice p' m' c') (by simp [Act.eval, Act.put]) (by simp [Act.eval, Act.put]) HR4.out ?_)
        go_wp2_with fail
        go_ret
        exact ⟨_, rfl, by rw [← HAC.out]; exact HOW.out.mono HB.out.size, HB.out.trans (HB4.out.below.mono HB.out.size)⟩
end Go.Proofs.YtpcajjbdlfookaaGreatDoor
