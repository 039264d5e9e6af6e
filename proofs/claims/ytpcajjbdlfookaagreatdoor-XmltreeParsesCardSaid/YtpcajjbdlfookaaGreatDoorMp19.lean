/- xmltree: the reference: halves; names; twice. -/
import Derived.Test.YtpcajjbdlfookaaGreatDoorMp18
import Derived.Test.YtpcajjbdlfookaaGreatDoorMp12
import Derived.Deep.AppendLies
import Derived.Deep.RegionLaw
import Derived.RegionDies
namespace Go.Proofs.YtpcajjbdlfookaaGreatDoor
open Go Go.RowKit Go.Deep Go.Shelf
set_option linter.unusedVariables false
set_option linter.unusedSimpArgs false

theorem splM_at {s : ByteArray} {k : Nat} (h : k < s.size) (hn : (58 : UInt8) ∉ s.data.toList.take k) (hx : s[k]'h = 58) : splM s.data.toList = (s.data.toList.take k, s.data.toList.drop (k + 1)) := by
  have hk : k < s.data.toList.length := by rw [size_data]; exact h
  have hc : s.data.toList = s.data.toList.take k ++ 58 :: s.data.toList.drop (k + 1) := by
    conv => lhs; rw [← List.take_append_drop k s.data.toList]
    rw [List.drop_eq_getElem_cons hk, data_at h, hx]
  have hm : (58 : UInt8) ∈ s.data.toList := by rw [hc]; simp
  unfold splM
  rw [if_pos hm]
  conv => lhs; rw [hc]
  exact cutC_of _ _ hn
theorem splM_go {s : ByteArray} {k : Nat} (h : k < s.size) (hn : (58 : UInt8) ∉ s.data.toList.take k) (hx : ¬ s[k]'h = 58) : (58 : UInt8) ∉ s.data.toList.take (k + 1) := by
  have hk : k < s.data.toList.length := by rw [size_data]; exact h
  rw [List.take_succ_eq_append_getElem hk, data_at h]
  simp only [List.mem_append, List.mem_singleton, not_or]
  exact ⟨hn, fun e => hx e.symm⟩
theorem splM_no {s : ByteArray} {k : Nat} (h : ¬ k < s.size) (hn : (58 : UInt8) ∉ s.data.toList.take k) : splM s.data.toList = ([], s.data.toList) := by
  rw [List.take_of_length_le (by rw [size_data]; omega)] at hn
  exact if_neg hn
set_option maxRecDepth 100000 in
set_option maxHeartbeats 1000000 in
theorem halves_c (w : World) (s : ByteArray) (hs : s.size ≤ 140737488355328) : Calls Tryz.prog 72 #[.string s] w fun e w' =>
    e = .returned (.tuple #[.string ⟨(splM s.data.toList).1.toArray⟩, .string ⟨(splM s.data.toList).2.toArray⟩]) ∧ Below w.heap.size w w' := by
  go_enter Tryz.func72, Tryz.ntmps72
  go_wp2_with fail
  go_loopw [7] (fun i wr => ∃ k : Nat, k ≤ s.size ∧ i = .int .i64 k ∧ wr = w ∧ Hid ((58 : UInt8) ∉ s.data.toList.take k)) (fun i _ => s.size - (intOf i).toNat)
  case atStart => exact ⟨0, by omega, rfl, rfl, Lib.hid (by simp)⟩
  case round =>
    obtain ⟨k, hk, rfl, rfl, HN⟩ := hrel
    by_cases hlt : k < s.size
    · have HA := Lib.hid (fun hx => splM_at hlt HN.out hx)
      have HG := Lib.hid (fun hx => splM_go hlt HN.out hx)
      obtain ⟨x, hx⟩ : ∃ x, s[k]'hlt = x := ⟨_, rfl⟩
      rw [hx] at HA HG
      have hk1 : k + 1 ≤ s.size := by omega
      by_cases h58 : x = 58
      · subst h58
        have HE := Lib.hid (HA.out rfl)
        have t1 : (((58 : UInt8).toNat : Int) == 58) = true := by decide
        clear HA HG
        go_wp2_with fail
        go_quiet (fail)
        all_goals
          go_wp2_with fail
          go_ret2
          exact ⟨by rw [HE.out, ← cutToT, ← cutFromT]; rfl, by first | exact Below.refl _ _ | exact Go.below_drewN (Below.refl _ _) _ | exact (Below.refl _ _).drew⟩
      · have HE := Lib.hid (HG.out h58)
        have t1 : ((x.toNat : Int) == 58) = false := by
          rw [beq_eq_false_iff_ne]
          intro e
          exact h58 (UInt8.toNat_inj.1 (by simpa using (by omega : x.toNat = 58)))
        clear HA HG
        go_wp2_with fail
        go_roundw
        case rel => exact ⟨k + 1, by omega, by go_num, by first | trivial | rfl, HE⟩
        case measure => simp [intOf]; omega
    · have HE := Lib.hid (splM_no hlt HN.out)
      go_wp2_with fail
      go_ret2
      exact ⟨by rw [HE.out]; rfl, Below.refl _ _⟩
/-- The reference's declarations, as they read. -/
def RB (w : World) (v : Value) (L : BS) : Prop := OwnS w 0 142 2 v L.length (dcells L)
theorem RB.form {w : World} {v : Value} {L : BS} (h : RB w v L) : ∃ p c, v = .slice p L.length c ∧ L.length ≤ c ∧ c ≤ maxLen := by
  obtain ⟨p, c, h1, h2, h3, _⟩ := OwnS.form h
  exact ⟨p, c, h1, h2, h3⟩
theorem RB.below {w w' : World} {v : Value} {L : BS} (h : RB w v L) (hb : Below w.heap.size w w') : RB w' v L := OwnS.keep h fun g hg => hb.block g (OwnS.lt h g hg)
theorem RB.nil (w : World) : RB w (.slice none 0 0) [] := OwnS.nil _ _ _ _
theorem RB.at {w : World} {v : Value} {L : BS} (h : RB w v L) {k : Nat} (hk : k < L.length) : ∃ b o c, v = .slice (some ⟨b, o, none⟩) L.length c ∧ L.length ≤ c ∧ c ≤ maxLen ∧ b < w.heap.size ∧ w.cell? ⟨b, o + k * 2, none⟩ = some (.string (ba L[k].1)) ∧ w.cell? ⟨b, o + k * 2 + 1, none⟩ = some (.string (ba L[k].2)) := by
  have ho : OwnS w 0 142 2 v L.length (dcells L) := h
  obtain ⟨p, c, hv, h1, h2, h3⟩ := ho.form
  rcases ho.2 with ⟨_, h0⟩ | ⟨g, off, cap, cur, hv2, hbg, hg, _⟩
  · omega
  · rw [hv] at hv2
    cases hv2
    have hf : ∀ j, j < 2 → (dcells L)[k * 2 + j]? = [Value.string (ba L[k].1), Value.string (ba L[k].2)][j]? := fun j hj => flat_at (f := fun d : List UInt8 × List UInt8 => [Value.string (ba d.1), Value.string (ba d.2)]) (fun x => rfl) L k j hk hj
    have c0 := ho.cell hv (k * 2 + 0) _ (hf 0 (by omega))
    have c1 := ho.cell hv (k * 2 + 1) _ (hf 1 (by omega))
    refine ⟨g, off, c, hv, h1, h2, (Array.getElem?_eq_some_iff.1 hg).1, ?_, ?_⟩
    · simpa using c0
    · simpa [Nat.add_assoc] using c1
/-- How names answers. -/
def NmE (w : World) (R : Option (List UInt8)) (e : Ending) (w' : World) : Prop := e = .returned (.tuple #[.string (ba (R.getD [])), .bool R.isSome]) ∧ w' = w
set_option maxRecDepth 100000 in
set_option maxHeartbeats 4000000 in
theorem rnames_c {w : World} {sv : Value} {L : BS} (h : RB w sv L) (hL : L.length ≤ 1000000) (P : ByteArray) :
    Calls Tryz.prog 73 #[sv, .string P] w (NmE w (spcM L P.data.toList)) := by
  have HX := Lib.hid h
  obtain ⟨pv, cv, rfl, hcl0, hcm0⟩ := h.form
  have eP : P.toList = P.data.toList := ByteArray.toList_eq _
  obtain ⟨N, hN⟩ : ∃ N, N = L.length := ⟨_, rfl⟩
  have HN := Lib.hid hN
  rw [← hN] at hL ⊢
  by_cases h1 : P.data.toList = [120, 109, 108]
  · have t1 : (P.toList == [120, 109, 108]) = true := by rw [eP, h1]; decide
    have HR := Lib.hid (show spcM L P.data.toList = some nsX from if_pos h1)
    clear h eP h1 hN hcl0 hcm0
    go_enter Tryz.func73, Tryz.ntmps73
    go_wp2_with fail
    go_ret2
    rw [HR.out]
    exact ⟨rfl, by first | trivial | rfl⟩
  have t1 : (P.toList == [120, 109, 108]) = false := by rw [eP, beq_eq_false_iff_ne]; exact h1
  have HR := Lib.hid (show spcM L P.data.toList = match fndB L L.length P.data.toList with | some s => some s | none => if P.data.toList = [] then some [] else none from if_neg h1)
  have HEP := Lib.hid eP
  have hw1 : IntKind.i64.wrap ((N : Int) - 1) = (N : Int) - 1 := by rw [IntKind.wrap_i64]; omega
  clear h eP h1 hN hcl0 hcm0
  go_enter Tryz.func73, Tryz.ntmps73
  go_wp2_with fail
  go_loopw [6] (fun i wr => ∃ k : Nat, k ≤ N ∧ i = .int .i64 ((k : Int) - 1) ∧ Hid (fndB L L.length P.data.toList = fndB L k P.data.toList) ∧ wr = w) (fun i _ => (intOf i + 1).toNat)
  case atStart => exact ⟨N, by omega, rfl, Lib.hid (by rw [HN.out]), rfl⟩
  case round =>
    obtain ⟨k, hk, rfl, HF, rfl⟩ := hrel
    by_cases hlt : 0 < k
    · obtain ⟨k, rfl⟩ : ∃ k', k = k' + 1 := ⟨k - 1, by omega⟩
      have hkl : k < L.length := by rw [← HN.out]; omega
      obtain ⟨b, ob, c, hv, hcl, hcm, hbl, g0, g1⟩ := HX.out.at hkl
      rw [← HN.out] at hv
      cases hv
      have e1 : ((k + 1 : Nat) : Int) - 1 = (k : Int) := by omega
      have hge : decide ((0 : Int) ≤ (k : Int)) = true := decide_eq_true (by omega)
      have HHIT := Lib.hid (fun hh => fndB_hit (p := P.data.toList) hkl hh)
      have HMIS := Lib.hid (fun hh => fndB_miss (p := P.data.toList) hkl hh)
      rw [e1]
      obtain ⟨x, hx⟩ : ∃ x, L[k] = x := ⟨_, rfl⟩
      rw [hx] at g0 g1 HHIT HMIS
      obtain ⟨x1, x2⟩ := x
      dsimp only at g0 g1 HHIT HMIS
      obtain ⟨X1, hX1⟩ : ∃ X, X = ba x1 := ⟨_, rfl⟩
      obtain ⟨X2, hX2⟩ : ∃ X, X = ba x2 := ⟨_, rfl⟩
      rw [← hX1] at g0
      rw [← hX2] at g1
      have eX : X1.toList = x1 := by rw [ByteArray.toList_eq, hX1, ba_toList]
      have HX2 := Lib.hid hX2
      have hkN : k < N := by omega
      by_cases heq : x1 = P.data.toList
      · have t2 : (X1.toList == P.toList) = true := by rw [eX, HEP.out, heq]; exact beq_self_eq_true _
        have HE := Lib.hid (show spcM L P.data.toList = some x2 from by rw [HR.out, HF.out, HHIT.out heq])
        clear heq eX hX1 hX2 hx hkl
        go_wp2_with fail
        go_ret2
        rw [HE.out]
        exact ⟨by rw [HX2.out]; rfl, by first | trivial | rfl⟩
      · have t2 : (X1.toList == P.toList) = false := by rw [eX, HEP.out, beq_eq_false_iff_ne]; exact heq
        have HE := Lib.hid (show fndB L L.length P.data.toList = fndB L k P.data.toList from by rw [HF.out, HMIS.out heq])
        clear heq eX hX1 hX2 hx hkl
        have hw2 : IntKind.i64.wrap ((k : Int) - 1) = (k : Int) - 1 := by rw [IntKind.wrap_i64]; omega
        go_wp2_with fail
        go_roundw
        case rel => exact ⟨k, by omega, by go_num, HE, by first | trivial | rfl⟩
        case measure => simp [intOf]
    · obtain rfl : k = 0 := by omega
      have hge : decide ((0 : Int) ≤ ((0 : Nat) : Int) - 1) = false := by decide
      have HF2 := Lib.hid (show spcM L P.data.toList = if P.data.toList = [] then some [] else none from by rw [HR.out, HF.out]; rfl)
      by_cases hp : P.data.toList = []
      · have t3 : P.toList.isEmpty = true := by rw [HEP.out, hp]; rfl
        have HE := Lib.hid (show spcM L P.data.toList = some [] from by rw [HF2.out, if_pos hp])
        clear hp
        go_wp2_with fail
        go_ret2
        rw [HE.out]
        exact ⟨rfl, by first | trivial | rfl⟩
      · have t3 : P.toList.isEmpty = false := by rw [HEP.out, ← Bool.not_eq_true, List.isEmpty_iff]; exact hp
        have HE := Lib.hid (show spcM L P.data.toList = none from by rw [HF2.out, if_neg hp])
        clear hp
        go_wp2_with fail
        go_ret2
        rw [HE.out]
        exact ⟨rfl, by first | trivial | rfl⟩
/-- One of them has that name. -/
def nmIn (l : List (List UInt8 × List UInt8)) (m : List UInt8) : Bool := l.any fun x => m == x.1
theorem nmIn_next {l : List (List UInt8 × List UInt8)} {j : Nat} {m : List UInt8} (h : j < l.length) (ht : nmIn (l.take j) m = false) (hx : ¬ m = l[j].1) : nmIn (l.take (j + 1)) m = false := by
  unfold nmIn at ht ⊢
  rw [List.take_succ_eq_append_getElem h, List.any_append, ht, List.any_cons, beq_eq_false_iff_ne.2 hx]
  rfl
theorem ba_inj {a b : List UInt8} (h : ba a = ba b) : a = b := by
  rw [← ba_toList a, ← ba_toList b, h]
theorem nm_next {l : List (List UInt8 × List UInt8)} {k : Nat} (h : k < l.length) (hn : ((l.take k).map fun a => ba a.1).Nodup) (hx : nmIn (l.take k) l[k].1 = false) : ((l.take (k + 1)).map fun a => ba a.1).Nodup := by
  rw [List.take_succ_eq_append_getElem h, List.map_append, List.nodup_append]
  refine ⟨hn, by simp, fun a h2 b h3 => ?_⟩
  obtain rfl : b = ba l[k].1 := by simpa using h3
  rintro rfl
  obtain ⟨y, hy, he⟩ := List.mem_map.1 h2
  have : nmIn (l.take k) l[k].1 = true := by
    unfold nmIn
    rw [List.any_eq_true]
    exact ⟨y, hy, by rw [ba_inj he]; exact beq_self_eq_true _⟩
  rw [hx] at this
  cases this
theorem nm_bad {l : List (List UInt8 × List UInt8)} {j k : Nat} (h : k < l.length) (hj : j < k) (hx : l[k].1 = l[j].1) : decide ((l.map fun a => ba a.1).Nodup) = false := by
  refine decide_eq_false fun hn => ?_
  have hp := List.pairwise_iff_getElem.1 hn j k (by simp; omega) (by simp; omega) hj
  apply hp
  simp only [List.getElem_map]
  rw [hx]
end Go.Proofs.YtpcajjbdlfookaaGreatDoor

/- xmltree: the reference: twice. -/
namespace Go.Proofs.YtpcajjbdlfookaaGreatDoor
open Go Go.RowKit Go.Deep Go.Shelf
set_option linter.unusedVariables false
set_option linter.unusedSimpArgs false

theorem box2b {w wr : World} {b : Nat} {c0 c1 : Value} {T : TypeId} (h0 : w.heap[b]? = some (.cells #[c0, c1] T (0, 0))) (hb : Below w.heap.size w wr) :
    wr.cell? ⟨b, 0, none⟩ = some c0 ∧ wr.cell? ⟨b, 1, none⟩ = some c1 ∧ (∀ o, wr.frozen? ⟨b, o, none⟩ = false) := by
  have h : wr.heap[b]? = some (.cells #[c0, c1] T (0, 0)) := (hb.block _ (Array.getElem?_eq_some_iff.1 h0).1).trans h0
  refine ⟨?_, ?_, fun o => ?_⟩ <;> simp [World.cell?, World.frozen?, h]
set_option maxRecDepth 100000 in
set_option maxHeartbeats 8000000 in
theorem rtwice_c (w : World) (s : Value) (l : List (List UInt8 × List UInt8)) (h : AtsIs w s l) :
    Calls Tryz.prog 70 #[s] w fun e w' => e = .returned (.bool (!decide ((l.map fun a => ba a.1).Nodup))) ∧ Below w.heap.size w w' := by
  obtain ⟨pa, ca, hav, hla, hma⟩ := h.form
  have H1 := Lib.hid h
  subst hav
  obtain ⟨N, hN⟩ : ∃ N, N = l.length := ⟨_, rfl⟩
  rw [← hN] at hla H1 ⊢
  have HN := Lib.hid hN
  have HCA := Lib.hid (show N ≤ ca ∧ ca ≤ 9223372036854775807 from ⟨hla, by unfold maxLen at hma; omega⟩)
  have hN63 : N ≤ 9223372036854775807 := by have := HCA.out; omega
  clear h hN hma hla
  go_enter Tryz.func70, Tryz.ntmps70
  go_wp2_with fail
  go_loopw [9] (fun i wr => ∃ k : Nat, k ≤ N ∧ i = .int .i64 k ∧ Hid (((l.take k).map fun a => ba a.1).Nodup) ∧ Below w.heap.size w wr) (fun i _ => N - (intOf i).toNat)
  case atStart => exact ⟨0, by omega, rfl, Lib.hid (by simp), Below.refl _ _⟩
  case round =>
    obtain ⟨wo, hwo⟩ : ∃ wo, wo = wr := ⟨_, rfl⟩
    subst hwo
    obtain ⟨k, hk, rfl, HI, hbr⟩ := hrel
    have HBR := Lib.hid hbr
    clear hbr
    by_cases hlt : k < N
    · have hkl : k < l.length := by rw [← HN.out]; exact hlt
      obtain ⟨b, o, cc, hv2, hbl, c0, c1⟩ := H1.out.at hkl
      rw [← HN.out] at hv2
      cases hv2
      have e0 := (HBR.out.cell (p := ⟨b, o + k * 2, none⟩) hbl).trans c0
      have e1 := (HBR.out.cell (p := ⟨b, o + k * 2 + 1, none⟩) hbl).trans c1
      obtain ⟨m, hm⟩ : ∃ m, l[k].1 = m := ⟨_, rfl⟩
      have HM := Lib.hid hm
      obtain ⟨u1, hu1⟩ : ∃ u : ByteArray, u = ba m := ⟨_, rfl⟩
      obtain ⟨u2, hu2⟩ : ∃ u : ByteArray, u = ⟨l[k].2.toArray⟩ := ⟨_, rfl⟩
      rw [show strLx l[k].1 = .string u1 from by rw [hm, hu1]; rfl] at e0
      rw [show strLx l[k].2 = .string u2 from by rw [hu2]] at e1
      have HU1 := Lib.hid (show u1.toList = m from by rw [ByteArray.toList_eq, hu1, ba_toList])
      have HX3 := Lib.hid (heap_alloc_new wo (.cells #[.string u1, .string u2] 114))
      have HZ := Lib.hid (box_belT wo (.cells #[.string u1, .string u2] 114))
      have hkc : k ≤ ca := by have := HCA.out.1; omega
      have hcm : ca ≤ 9223372036854775807 := HCA.out.2
      have HKL := Lib.hid hkl
      clear c0 c1 hm hu1 hu2
      go_wp2_with fail
      clear e0 e1
      go_loopw [18] (fun i wr => ∃ j : Nat, j ≤ k ∧ i = .int .i64 j ∧ Hid (nmIn (l.take j) m = false) ∧ Below (wo.alloc (.cells #[.string u1, .string u2] 114)).heap.size (wo.alloc (.cells #[.string u1, .string u2] 114)) wr) (fun i _ => k - (intOf i).toNat)
      case atStart => exact ⟨0, by omega, rfl, Lib.hid (by simp [nmIn]), Below.refl _ _⟩
      case round =>
        obtain ⟨j, hj, rfl, HKI, hb⟩ := hrel
        have HB4 := Lib.hid hb
        have HW4 := Lib.hid (HBR.out.trans ((HZ.out.trans (hb.mono HZ.out.size)).mono HBR.out.size))
        obtain ⟨c0, c1, cz⟩ := box2b HX3.out hb
        have hlb : wo.heap.size < wr.heap.size := by have := hb.size; rw [World.size_alloc] at this; omega
        clear hb
        by_cases hlj : j < k
        · have hjl : j < l.length := by rw [← HN.out]; omega
          obtain ⟨b', o', cc', hv3, hbl', g0, g1⟩ := H1.out.at hjl
          rw [← HN.out] at hv3
          cases hv3
          have e0 := (HW4.out.cell (p := ⟨b, o + j * 2, none⟩) hbl').trans g0
          have e1 := (HW4.out.cell (p := ⟨b, o + j * 2 + 1, none⟩) hbl').trans g1
          have HNX := Lib.hid (fun hx => nmIn_next hjl HKI.out hx)
          have HBD := Lib.hid (fun hx => nm_bad HKL.out hlj (HM.out.trans hx))
          obtain ⟨y, hy⟩ : ∃ y, l[j] = y := ⟨_, rfl⟩
          rw [hy] at e0 e1 HNX HBD
          obtain ⟨y1, y2⟩ := y
          dsimp only at e0 e1 HNX HBD
          obtain ⟨v1, hv1⟩ : ∃ u : ByteArray, u = ba y1 := ⟨_, rfl⟩
          obtain ⟨v2, hv2⟩ : ∃ u : ByteArray, u = ba y2 := ⟨_, rfl⟩
          rw [show strLx y1 = .string v1 from by rw [hv1]; rfl] at e0
          rw [show strLx y2 = .string v2 from by rw [hv2]; rfl] at e1
          have ev : v1.toList = y1 := by rw [ByteArray.toList_eq, hv1, ba_toList]
          have HB5 := Lib.hid (HB4.out.alloc HB4.out.size (.cells #[.string v1, .string v2] 114))
          by_cases heq : m = y1
          · have t8 : (u1.toList == v1.toList) = true := by rw [HU1.out, ev, heq]; exact beq_self_eq_true _
            have HE := Lib.hid (HBD.out heq)
            clear g0 g1 hy hv1 hv2 ev heq hjl
            go_wp2_with fail
            go_ret
            exact ⟨by rw [HE.out]; rfl, HBR.out.trans ((HZ.out.trans (HB5.out.mono HZ.out.size)).mono HBR.out.size)⟩
          · have t8 : (u1.toList == v1.toList) = false := by rw [HU1.out, ev, beq_eq_false_iff_ne]; exact heq
            have HE := Lib.hid (HNX.out heq)
            clear g0 g1 hy hv1 hv2 ev heq hjl
            go_wp2_with fail
            go_roundw
            case rel => exact ⟨j + 1, by omega, by go_num, HE, HB5.out⟩
            case measure => simp [intOf]; omega
        · have HND := Lib.hid (nm_next HKL.out HI.out (by have := HKI.out; rw [show j = k by omega] at this; rw [HM.out]; exact this))
          go_wp2_with fail
          go_roundw
          case rel => exact ⟨k + 1, by omega, by go_num, HND, HW4.out⟩
          case measure => simp [intOf]; omega
    · have HE := Lib.hid (show decide ((l.map fun a => ba a.1).Nodup) = true from decide_eq_true (by
        have := HI.out
        rwa [List.take_of_length_le (by rw [← HN.out]; omega)] at this))
      go_wp2_with fail
      go_ret
      exact ⟨by rw [HE.out]; rfl, HBR.out⟩
end Go.Proofs.YtpcajjbdlfookaaGreatDoor

/- xmltree: the reference: declared: the mathematics. -/
namespace Go.Proofs.YtpcajjbdlfookaaGreatDoor
open Go Go.RowKit Go.Deep Go.Shelf
set_option linter.unusedVariables false
set_option linter.unusedSimpArgs false

abbrev xmlnsL : List UInt8 := [120, 109, 108, 110, 115]
theorem cutC_mem : ∀ {l : List UInt8}, (58 : UInt8) ∈ l → l = (cutC l).1 ++ 58 :: (cutC l).2 ∧ (58 : UInt8) ∉ (cutC l).1
  | [], h => by cases h
  | c :: r, h => by
    unfold cutC
    by_cases hc : c = 58
    · subst hc
      simp
    · have hr : (58 : UInt8) ∈ r := by
        rcases List.mem_cons.1 h with h1 | h1
        · exact absurd h1.symm hc
        · exact h1
      obtain ⟨h1, h2⟩ := cutC_mem hr
      rw [if_neg hc]
      dsimp only
      refine ⟨?_, ?_⟩
      · conv => lhs; rw [h1]
        rfl
      · simp only [List.mem_cons, not_or]
        exact ⟨fun e => hc e.symm, h2⟩
theorem spl_cases (l : List UInt8) : ((58 : UInt8) ∉ l ∧ splM l = ([], l)) ∨ ((58 : UInt8) ∈ l ∧ l = (splM l).1 ++ 58 :: (splM l).2 ∧ (58 : UInt8) ∉ (splM l).1) := by
  by_cases h : (58 : UInt8) ∈ l
  · right
    obtain ⟨h1, h2⟩ := cutC_mem h
    have e : splM l = cutC l := if_pos h
    rw [e]
    exact ⟨h, h1, h2⟩
  · exact .inl ⟨h, if_neg h⟩
theorem dcl_of {l : List UInt8} (hn : NmOk l) : (l = xmlnsL ∧ (splM l).1 ≠ xmlnsL ∧ dclM l = ([], true)) ∨ (l ≠ xmlnsL ∧ (splM l).1 = xmlnsL ∧ dclM l = ((splM l).2, true) ∧ (splM l).2 ≠ []) ∨ (l ≠ xmlnsL ∧ (splM l).1 ≠ xmlnsL ∧ (dclM l).2 = false) := by
  by_cases h1 : l = xmlnsL
  · subst h1
    exact .inl ⟨rfl, by decide, rfl⟩
  right
  rcases spl_cases l with ⟨h2, h3⟩ | ⟨h2, h3, h4⟩
  · right
    refine ⟨h1, by rw [h3]; simp, ?_⟩
    unfold dclM
    rw [if_neg h1]
    dsimp only
    unfold Lib.hasPrefix
    rw [← Bool.not_eq_true, List.isPrefixOf_iff_prefix]
    rintro ⟨t, rfl⟩
    exact h2 (by simp)
  · by_cases h5 : (splM l).1 = xmlnsL
    · left
      rw [h5] at h3
      obtain ⟨r, hr⟩ : ∃ r, (splM l).2 = r := ⟨_, rfl⟩
      rw [hr] at h3 ⊢
      refine ⟨h1, h5, ?_, ?_⟩
      · unfold dclM
        rw [if_neg h1, h3]
        unfold Lib.trimPrefix Lib.hasPrefix
        simp [List.isPrefixOf]
      · rintro rfl
        apply hn
        rw [h3]
        decide
    · right
      refine ⟨h1, h5, ?_⟩
      unfold dclM
      rw [if_neg h1]
      dsimp only
      unfold Lib.hasPrefix
      rw [← Bool.not_eq_true, List.isPrefixOf_iff_prefix]
      rintro ⟨t, rfl⟩
      apply h5
      rw [show splM ([120, 109, 108, 110, 115, 58] ++ t) = cutC (xmlnsL ++ 58 :: t) from if_pos (by simp), cutC_of _ _ (by decide)]
/-- One attribute of a tag. -/
theorem declM_at {L : BS} {l : List (List UInt8 × List UInt8)} {k : Nat} (hk : k < l.length) : declM L (l.drop k) = if (dclM l[k].1).2 = true then (if badD (dclM l[k].1).1 l[k].2 then none else declM (L ++ [((dclM l[k].1).1, l[k].2)]) (l.drop (k + 1))) else declM L (l.drop (k + 1)) := by
  rw [List.drop_eq_getElem_cons hk, declM]
theorem rdM_a {L : BS} {l : List (List UInt8 × List UInt8)} {k : Nat} (hk : k < l.length) (h : dclM l[k].1 = ([], true)) : declM L (l.drop k) = declM (L ++ [([], l[k].2)]) (l.drop (k + 1)) := by
  rw [declM_at hk, h]
  simp [badD]
theorem rdM_no {L : BS} {l : List (List UInt8 × List UInt8)} {k : Nat} (hk : k < l.length) (h : (dclM l[k].1).2 = false) : declM L (l.drop k) = declM L (l.drop (k + 1)) := by
  rw [declM_at hk, h]
  simp
theorem rdM_bad {L : BS} {l : List (List UInt8 × List UInt8)} {k : Nat} {n : List UInt8} (hk : k < l.length) (h : dclM l[k].1 = (n, true)) (hn : n ≠ []) (hb : l[k].2 = [] ∨ n = [120, 109, 108] ∨ n = xmlnsL) : declM L (l.drop k) = none := by
  rw [declM_at hk, h]
  dsimp only
  rw [if_pos rfl, if_pos]
  rcases hb with h1 | h1 | h1
  · exact .inr (.inr ⟨hn, h1⟩)
  · exact .inl h1
  · exact .inr (.inl h1)
theorem rdM_b {L : BS} {l : List (List UInt8 × List UInt8)} {k : Nat} {n : List UInt8} (hk : k < l.length) (h : dclM l[k].1 = (n, true)) (hb : ¬ l[k].2 = [] ∧ ¬ n = [120, 109, 108] ∧ ¬ n = xmlnsL) : declM L (l.drop k) = declM (L ++ [(n, l[k].2)]) (l.drop (k + 1)) := by
  rw [declM_at hk, h]
  dsimp only
  rw [if_pos rfl, if_neg]
  rintro (h1 | h1 | ⟨_, h1⟩)
  · exact hb.2.1 h1
  · exact hb.2.2 h1
  · exact hb.1 h1
end Go.Proofs.YtpcajjbdlfookaaGreatDoor

/- xmltree: the reference: declared. -/
namespace Go.Proofs.YtpcajjbdlfookaaGreatDoor
open Go Go.RowKit Go.Deep Go.Shelf
set_option linter.unusedVariables false
set_option linter.unusedSimpArgs false

theorem infoBd : (Tryz.prog.info? 142).map (fun i => (i.zero, i.size, i.bytes)) = some (some (.agg #[.string ⟨#[]⟩, .string ⟨#[]⟩]), 2, 32) := by kernel_rfl
theorem infoBdX : ∃ i0, Tryz.prog.info? 142 = some i0 ∧ i0.zero = some (.agg #[.string ⟨#[]⟩, .string ⟨#[]⟩]) ∧ i0.size = 2 ∧ i0.bytes = 32 := by
  have h := infoBd
  cases hx : Tryz.prog.info? 142 with
  | none => rw [hx] at h; cases h
  | some i =>
    rw [hx] at h
    simp only [Option.map_some, Option.some.injEq, Prod.mk.injEq] at h
    exact ⟨i, rfl, h.1, h.2.1, h.2.2⟩
theorem OwnS.mono {w : World} {base base' : Nat} {e : TypeId} {size : Nat} {v : Value} {n : Nat} {xs : List Value} (h : OwnS w base e size v n xs) (hb : base' ≤ base) : OwnS w base' e size v n xs := by
  refine ⟨h.1, h.2.imp id ?_⟩
  rintro ⟨g, off, cap, cur, rfl, h2, h3⟩
  exact ⟨g, off, cap, cur, rfl, Nat.le_trans hb h2, h3⟩
theorem OwnS.low {w : World} {base : Nat} {e : TypeId} {size : Nat} {v : Value} {n : Nat} {xs : List Value} (h : OwnS w base e size v n xs) : ∀ g, v.ownBlock = some g → base ≤ g := by
  intro k hk
  rcases h.2 with ⟨rfl, _⟩ | ⟨g, off, cap, cur, rfl, h2, hg, _⟩
  · simp [Value.ownBlock] at hk
  · simp [Value.ownBlock] at hk
    subst hk
    exact h2
theorem RB.src {w : World} {v : Value} {L : BS} (h : RB w v L) : Src Tryz.prog 2 76 v L.length (dcells L) w := by
  have ho : OwnS w 0 142 2 v L.length (dcells L) := h
  have hone : ∀ u ∈ dcells L, u.oneCell' = true := by
    intro u hu
    obtain ⟨x, _, hx⟩ := List.mem_flatMap.1 hu
    simp at hx
    rcases hx with rfl | rfl <;> rfl
  rcases ho.2 with ⟨rfl, h0⟩ | ⟨g, off, cap, cur, rfl, hbg, hg, _⟩
  · obtain rfl := List.eq_nil_of_length_eq_zero h0
    exact Src.ofNil w Tryz.underlying76 0
  · exact Src.ofSlice w Tryz.underlying76 ⟨g, off, none⟩ L.length cap (dcells L) ho.1 (fun j u hu => by
      have h9 := ho.cell (g := g) (off := off) rfl j u hu
      by_cases hj : j = 0
      · subst hj
        simpa [Addr.add] using h9
      · simpa [Addr.add, hj] using h9) hone
/-- How declared ends. -/
def DcR (w : World) (R : Option BS) (e : Ending) (w' : World) : Prop := match R with
  | none => e = .returned (.tuple #[.slice none 0 0, .bool false]) ∧ Below w.heap.size w w'
  | some L => ∃ v, e = .returned (.tuple #[v, .bool true]) ∧ RB w' v L ∧ Below w.heap.size w w'
/-- A declaration is added. -/
theorem bd_push {W0 wr w2 W w6 : World} {Lk : BS} {v v' : Value} {n : Nat} (hb : Below W0.heap.size W0 wr) (h2 : Below wr.heap.size wr w2) (h3 : Below w2.heap.size w2 W) (h : OwnS wr W0.heap.size 142 2 v Lk.length (dcells Lk)) (p q : List UInt8) (ho : OwnS w6 W0.heap.size 142 2 v' n (dcells Lk ++ [.string (ba p), .string (ba q)])) (hn : n = Lk.length + 1) (hg : W.grownBy w6 v.ownBlock) :
    OwnS w6 W0.heap.size 142 2 v' (Lk ++ [(p, q)]).length (dcells (Lk ++ [(p, q)])) ∧ Below W0.heap.size W0 w6 := by
  subst hn
  have hbw := hb.trans ((h2.trans (h3.mono h2.size)).mono hb.size)
  refine ⟨?_, hbw.grown hg hbw.size (fun b e => h.low b e)⟩
  rw [List.length_append, show dcells (Lk ++ [(p, q)]) = dcells Lk ++ [.string (ba p), .string (ba q)] from by unfold dcells; rw [List.flatMap_append]; rfl]
  exact ho
set_option maxRecDepth 100000 in
set_option maxHeartbeats 8000000 in
theorem rdeclared_c (w : World) (k0 t0 m0 x0 : Value) (s v : Value) (l : List (List UInt8 × List UInt8)) (h : AtsIs w s l) (hok : AtsOk l) (hnl : ∀ x ∈ l, x.1.length ≤ 1048576) (hl : l.length ≤ 1048576) (L : BS) (hb : RB w v L) (hL : L.length ≤ 1000000) :
    Calls Tryz.prog 71 #[.agg #[k0, t0, s, m0, x0], v] w (DcR w (declM L l)) := by
  obtain ⟨i0, hi, hz0, hz1, hz2⟩ := infoBdX
  obtain ⟨pa, ca, hav, hla, hma⟩ := h.form
  obtain ⟨pb, cb, hbv, hlb, hmb⟩ := hb.form
  have H1 := Lib.hid h
  subst hav
  subst hbv
  obtain ⟨N, hN⟩ : ∃ N, N = l.length := ⟨_, rfl⟩
  obtain ⟨M, hM⟩ : ∃ M, M = L.length := ⟨_, rfl⟩
  rw [← hN] at hl H1 ⊢
  rw [← hM] at hL hb ⊢
  have HN := Lib.hid hN
  have HM := Lib.hid hM
  obtain ⟨W0, hW0⟩ : ∃ W0, W0 = w.alloc (.cells #[k0, t0, .slice pa N ca, m0, x0] 52) := ⟨_, rfl⟩
  have hb0 : Below w.heap.size w W0 := hW0 ▸ box_belT w _
  have HSP := Lib.hid (fun o => show Src Tryz.prog 2 76 (.slice pb M cb) M (dcells L) (W0.alloc o) from by rw [hM]; exact ((hM ▸ hb : RB w (.slice pb L.length cb) L).below (hb0.trans ((box_belT W0 o).mono hb0.size))).src)
  have HB0 := Lib.hid hb0
  obtain ⟨R, hR⟩ : ∃ R, declM L l = R := ⟨_, rfl⟩
  rw [hR]
  have HR := Lib.hid hR
  have HOK := Lib.hid hok
  have HNL := Lib.hid hnl
  obtain ⟨z0, z1, z2, z3, z4, zz⟩ := cellsX5 (heap_alloc_new w (.cells #[k0, t0, .slice pa N ca, m0, x0] 52))
  rw [← hW0] at z0 z1 z2 z3 z4 zz
  have HTK := Lib.hid (show W0.heap[w.heap.size]? = some (.cells #[k0, t0, .slice pa N ca, m0, x0] 52 (0, 0)) from hW0 ▸ heap_alloc_new w _)
  have hw0l : W0.heap.size = w.heap.size + 1 := by rw [hW0]; simp
  have HZ := Lib.hid hw0l
  clear h hb hla hma hlb hmb hN hM hok hnl hR hb0
  go_enter Tryz.func71, Tryz.ntmps71
  go_upto_region 1 with (fail)
  rw [← hW0]
  clear hW0 hw0l
  go_wp2_with (at_builtin; refine wpList_append_S rfl _ _ 76 76 rfl W0.heap.size 142 i0 _ 2 32 Tryz.underlying76 hi hz0 hz1 hz2 rfl (Nat.succ_pos _) (.slice (some ⟨W0.heap.size, 0, none⟩) 0 0) 0 [] rfl (emptyT_own _ _ _) _ M (dcells L) rfl (HSP.out _) ?c1 ?c2 ?c3 ?_)
  case c1 => unfold maxLen; omega
  case c2 => omega
  case c3 => simp
  intro v1 w1 hown1 hgrow1 hl1
  have hb01 : Below W0.heap.size W0 w1 := ((Below.refl _ _).alloc (Nat.le_refl _) _).grown hgrow1 (by simp) (fun k ek => by
    have : W0.heap.size = k := Option.some.inj ek
    omega)
  have HI0 := Lib.hid (show OwnS w1 W0.heap.size 142 2 v1 L.length (dcells L) from by
    rw [← HM.out]
    simpa using hown1)
  have HB01 := Lib.hid hb01
  obtain ⟨p1, c1, hv1, -⟩ := HI0.out.form
  rw [← HM.out] at hv1
  subst hv1
  have HZB := Lib.hid (fun (W : World) (hb : Below W0.heap.size W0 W) => cellsX5 ((hb.block w.heap.size (by have := HZ.out; omega)).trans (show W0.heap[w.heap.size]? = some (.cells #[k0, t0, .slice pa N ca, m0, x0] 52 (0, 0)) from HTK.out)))
  clear hown1 hgrow1 hl1 hb01 z0 z1 z2 z3 z4 zz
  obtain ⟨z0, z1, z2, z3, z4, zz⟩ := HZB.out _ HB01.out
  go_wp2_with fail
  clear z0 z1 z2 z3 z4 zz
  go_loopw [6, 17] (fun v i wr => ∃ (k : Nat) (Lk : BS), k ≤ N ∧ i = .int .i64 k ∧ Hid (OwnS wr W0.heap.size 142 2 v Lk.length (dcells Lk)) ∧ Hid (declM L l = declM Lk (l.drop k) ∧ Lk.length ≤ L.length + k) ∧ Below W0.heap.size W0 wr) (fun _ i _ => N - (intOf i).toNat)
  case atStart => exact ⟨0, L, by omega, rfl, HI0, Lib.hid ⟨by simp, by omega⟩, HB01.out⟩
  case round =>
    obtain ⟨k, Lk, hk, rfl, HO, HD, hbr⟩ := hrel
    have HBR := Lib.hid hbr
    have hB := HB0.out.trans (hbr.mono HB0.out.size)
    have HBW := Lib.hid hB
    obtain ⟨pv, cv, hv, hvl, hvc, -⟩ := HO.out.form
    obtain ⟨ML, hML⟩ : ∃ ML, ML = Lk.length := ⟨_, rfl⟩
    rw [← hML] at hv hvl
    subst hv
    have HML := Lib.hid hML
    have hmb : ML ≤ 2100000 := by have := HD.out.2; have := HM.out; omega
    by_cases hlt : k < N
    · have hkl : k < l.length := by rw [← HN.out]; exact hlt
      obtain ⟨b, o, cc, hv2, hbl, c0, c1⟩ := H1.out.at hkl
      rw [← HN.out] at hv2
      cases hv2
      have e0 := (hB.cell (p := ⟨b, o + k * 2, none⟩) hbl).trans c0
      have e1 := (hB.cell (p := ⟨b, o + k * 2 + 1, none⟩) hbl).trans c1
      obtain ⟨m, hm⟩ : ∃ m, l[k].1 = m := ⟨_, rfl⟩
      obtain ⟨vl, hvl2⟩ : ∃ m, l[k].2 = m := ⟨_, rfl⟩
      have hnm : NmOk m := hm ▸ HOK.out _ (List.getElem_mem hkl)
      have hml : m.length ≤ 1048576 := hm ▸ HNL.out _ (List.getElem_mem hkl)
      obtain ⟨u1, hu1⟩ : ∃ u : ByteArray, u = ba m := ⟨_, rfl⟩
      obtain ⟨u2, hu2⟩ : ∃ u : ByteArray, u = ba vl := ⟨_, rfl⟩
      rw [show strLx l[k].1 = .string u1 from by rw [hm, hu1]; rfl] at e0
      rw [show strLx l[k].2 = .string u2 from by rw [hvl2, hu2]; rfl] at e1
      have hd1 : u1.data.toList = m := by rw [hu1, ba_toList]
      have hd2 : u2.data.toList = vl := by rw [hu2, ba_toList]
      have HA := Lib.hid (box_belT wr (.cells #[.string u1, .string u2] 114))
      have HAB := Lib.hid (heap_alloc_new wr (.cells #[.string u1, .string u2] 114))
      have HHV := Lib.hid (fun (W : World) => halves_c W u1 (by
        have := size_data u1
        rw [hd1] at this
        omega))
      rw [hd1] at HHV
      obtain ⟨P, hP⟩ : ∃ P : ByteArray, P = ⟨(splM m).1.toArray⟩ := ⟨_, rfl⟩
      obtain ⟨Q, hQ⟩ : ∃ P : ByteArray, P = ⟨(splM m).2.toArray⟩ := ⟨_, rfl⟩
      rw [← hP, ← hQ] at HHV
      have tl1 : u1.toList = m := by rw [ByteArray.toList_eq, hd1]
      have tl2 : u2.toList = vl := by rw [ByteArray.toList_eq, hd2]
      have tlP : P.toList = (splM m).1 := by rw [ByteArray.toList_eq, hP]
      have tlQ : Q.toList = (splM m).2 := by rw [ByteArray.toList_eq, hQ]
      have HM1 := Lib.hid hm
      have HV1 := Lib.hid hvl2
      have HKL := Lib.hid hkl
      have HU2 := Lib.hid hu2
      have hQb : Q = ba (splM m).2 := hQ
      have HQB := Lib.hid hQb
      have hwl : w.heap.size < wr.heap.size := Nat.lt_of_lt_of_le (by have := HZ.out; omega) hbr.size
      rcases dcl_of hnm with ⟨h1, h2, h3⟩ | ⟨h1, h2, h3, h4⟩ | ⟨h1, h2, h3⟩
      · have q1 : (u1.toList == [120, 109, 108, 110, 115]) = true := by rw [tl1, h1]; exact beq_self_eq_true _
        have q2 : (P.toList == [120, 109, 108, 110, 115]) = false := by rw [tlP, beq_eq_false_iff_ne]; exact h2
        clear hbr hB c0 c1 hm hvl2 hnm hml hu1 hu2 hd1 hd2 hP hQ tl1 tl2 tlP tlQ h1 h2 hQb hML
        go_wp2_with fail
        refine (HHV.out _).mono ?_
        rintro e w2 ⟨rfl, hb2⟩
        have HB2 := Lib.hid (HA.out.trans (hb2.mono HA.out.size))
        obtain ⟨a0, a1, az⟩ := box2b HAB.out hb2
        have hal2 : wr.heap.size < w2.heap.size := by have := hb2.size; rw [World.size_alloc] at this; omega
        have HOA := Lib.hid (fun (ob : Obj) => show OwnS (w2.alloc ob) W0.heap.size 142 2 (.slice pv ML cv) ML (dcells Lk) from by
          have h9 := OwnS.keep HO.out fun g hg => (HB2.out.trans ((box_belT w2 ob).mono HB2.out.size)).block g (OwnS.lt HO.out g hg)
          rw [← HML.out] at h9
          exact h9)
        clear hb2
        go_wp2_with (at_builtin; refine wpList_append_S rfl _ _ 76 76 rfl W0.heap.size 142 i0 _ 2 32 Tryz.underlying76 hi hz0 hz1 hz2 rfl (Nat.succ_pos _) (.slice pv ML cv) ML (dcells Lk) rfl (HOA.out _) _ 1 [.string ⟨#[]⟩, .string u2] rfl (Src.ofSlice _ Tryz.underlying76 ⟨w2.heap.size, 0, none⟩ 1 1 [.string ⟨#[]⟩, .string u2] rfl (World.news_of_block (heap_alloc_new w2 _)) (by simp [Value.oneCell'])) ?c1 ?c2 ?c3 ?_)
        case c1 => unfold maxLen; omega
        case c2 => omega
        case c3 => have := HBR.out.size; rw [World.size_alloc]; omega
        intro v6 w6 hown6 hgrow6 hat6
        have hpu := bd_push (v := .slice pv ML cv) HBR.out HB2.out (box_belT w2 _) HO.out ([] : List UInt8) vl (n := ML + 1) (w6 := w6) (by rw [← HU2.out]; exact hown6) (by rw [HML.out]) hgrow6
        have HPU := Lib.hid hpu
        have HEQ := Lib.hid (show declM L l = declM (Lk ++ [(([] : List UInt8), vl)]) (l.drop (k + 1)) ∧ (Lk ++ [(([] : List UInt8), vl)]).length ≤ L.length + (k + 1) from ⟨by rw [HD.out.1, rdM_a HKL.out (by rw [HM1.out]; exact h3), HV1.out], by rw [List.length_append]; have := HD.out.2; simp; omega⟩)
        obtain ⟨p6, c6, hv6, -⟩ := hown6.form
        subst hv6
        clear hown6 hgrow6 hat6 hpu a0 a1 az
        go_wp2_with fail
        go_roundw
        case rel => exact ⟨k + 1, _, by omega, by go_num, Lib.hid HPU.out.1, HEQ, HPU.out.2⟩
        case measure => simp [intOf]; omega
      · have q1 : (u1.toList == [120, 109, 108, 110, 115]) = false := by rw [tl1, beq_eq_false_iff_ne]; exact h1
        have q2 : (P.toList == [120, 109, 108, 110, 115]) = true := by rw [tlP, h2]; exact beq_self_eq_true _
        have q5 : (vl = [] ∧ u2.toList.isEmpty = true) ∨ (vl ≠ [] ∧ u2.toList.isEmpty = false) := by
          rw [tl2]
          cases vl <;> simp
        have q6 : ((splM m).2 = [120, 109, 108] ∧ (Q.toList == [120, 109, 108]) = true) ∨ ((splM m).2 ≠ [120, 109, 108] ∧ (Q.toList == [120, 109, 108]) = false) := by
          rw [tlQ]
          by_cases h9 : (splM m).2 = [120, 109, 108]
          · exact .inl ⟨h9, beq_iff_eq.2 h9⟩
          · exact .inr ⟨h9, beq_eq_false_iff_ne.2 h9⟩
        have q7 : ((splM m).2 = xmlnsL ∧ (Q.toList == [120, 109, 108, 110, 115]) = true) ∨ ((splM m).2 ≠ xmlnsL ∧ (Q.toList == [120, 109, 108, 110, 115]) = false) := by
          rw [tlQ]
          by_cases h9 : (splM m).2 = xmlnsL
          · exact .inl ⟨h9, beq_iff_eq.2 h9⟩
          · exact .inr ⟨h9, beq_eq_false_iff_ne.2 h9⟩
        have HBAD := Lib.hid (fun hbad => (HD.out.1.trans (rdM_bad (n := (splM m).2) (L := Lk) HKL.out (by rw [HM1.out]; exact h3) h4 (by rw [HV1.out]; exact hbad))))
        have HOKB := Lib.hid (fun hgood => (HD.out.1.trans (rdM_b (n := (splM m).2) (L := Lk) HKL.out (by rw [HM1.out]; exact h3) (by rw [HV1.out]; exact hgood))))
        clear hbr hB c0 c1 hm hvl2 hnm hml hu1 hu2 hd1 hd2 hP hQ tl1 tl2 tlP tlQ h1 h2 h3 h4 hQb hML
        rcases q5 with ⟨g5, q5⟩ | ⟨g5, q5⟩
        · have HE := Lib.hid (show R = none from by rw [← HR.out, HBAD.out (.inl g5)])
          clear q6 q7 g5 HBAD HOKB
          go_wp2_with fail
          refine (HHV.out _).mono ?_
          rintro e w2 ⟨rfl, hb2⟩
          have HB2 := Lib.hid (HA.out.trans (hb2.mono HA.out.size))
          obtain ⟨a0, a1, az⟩ := box2b HAB.out hb2
          have hal2 : wr.heap.size < w2.heap.size := by have := hb2.size; rw [World.size_alloc] at this; omega
          clear hb2
          go_wp2_with fail
          go_ret2
          rw [HE.out]
          exact ⟨rfl, HBW.out.trans (HB2.out.mono HBW.out.size)⟩
        rcases q6 with ⟨g6, q6⟩ | ⟨g6, q6⟩
        · have HE := Lib.hid (show R = none from by rw [← HR.out, HBAD.out (.inr (.inl g6))])
          clear q7 g5 g6 HBAD HOKB
          go_wp2_with fail
          refine (HHV.out _).mono ?_
          rintro e w2 ⟨rfl, hb2⟩
          have HB2 := Lib.hid (HA.out.trans (hb2.mono HA.out.size))
          obtain ⟨a0, a1, az⟩ := box2b HAB.out hb2
          have hal2 : wr.heap.size < w2.heap.size := by have := hb2.size; rw [World.size_alloc] at this; omega
          clear hb2
          go_wp2_with fail
          go_ret2
          rw [HE.out]
          exact ⟨rfl, HBW.out.trans (HB2.out.mono HBW.out.size)⟩
        rcases q7 with ⟨g7, q7⟩ | ⟨g7, q7⟩
        · have HE := Lib.hid (show R = none from by rw [← HR.out, HBAD.out (.inr (.inr g7))])
          clear g5 g6 g7 HBAD HOKB
          go_wp2_with fail
          refine (HHV.out _).mono ?_
          rintro e w2 ⟨rfl, hb2⟩
          have HB2 := Lib.hid (HA.out.trans (hb2.mono HA.out.size))
          obtain ⟨a0, a1, az⟩ := box2b HAB.out hb2
          have hal2 : wr.heap.size < w2.heap.size := by have := hb2.size; rw [World.size_alloc] at this; omega
          clear hb2
          go_wp2_with fail
          go_ret2
          rw [HE.out]
          exact ⟨rfl, HBW.out.trans (HB2.out.mono HBW.out.size)⟩
        have HDE := Lib.hid (HOKB.out ⟨g5, g6, g7⟩)
        clear g5 g6 g7 HBAD HOKB
        go_wp2_with fail
        refine (HHV.out _).mono ?_
        rintro e w2 ⟨rfl, hb2⟩
        have HB2 := Lib.hid (HA.out.trans (hb2.mono HA.out.size))
        obtain ⟨a0, a1, az⟩ := box2b HAB.out hb2
        have hal2 : wr.heap.size < w2.heap.size := by have := hb2.size; rw [World.size_alloc] at this; omega
        have HOA := Lib.hid (fun (ob : Obj) => show OwnS (w2.alloc ob) W0.heap.size 142 2 (.slice pv ML cv) ML (dcells Lk) from by
          have h9 := OwnS.keep HO.out fun g hg => (HB2.out.trans ((box_belT w2 ob).mono HB2.out.size)).block g (OwnS.lt HO.out g hg)
          rw [← HML.out] at h9
          exact h9)
        clear hb2
        go_wp2_with (at_builtin; refine wpList_append_S rfl _ _ 76 76 rfl W0.heap.size 142 i0 _ 2 32 Tryz.underlying76 hi hz0 hz1 hz2 rfl (Nat.succ_pos _) (.slice pv ML cv) ML (dcells Lk) rfl (HOA.out _) _ 1 [.string Q, .string u2] rfl (Src.ofSlice _ Tryz.underlying76 ⟨w2.heap.size, 0, none⟩ 1 1 [.string Q, .string u2] rfl (World.news_of_block (heap_alloc_new w2 _)) (by simp [Value.oneCell'])) ?c1 ?c2 ?c3 ?_)
        case c1 => unfold maxLen; omega
        case c2 => omega
        case c3 => have := HBR.out.size; rw [World.size_alloc]; omega
        intro v6 w6 hown6 hgrow6 hat6
        have hpu := bd_push (v := .slice pv ML cv) HBR.out HB2.out (box_belT w2 _) HO.out (splM m).2 vl (n := ML + 1) (w6 := w6) (by rw [← HU2.out, ← HQB.out]; exact hown6) (by rw [HML.out]) hgrow6
        have HPU := Lib.hid hpu
        have HEQ := Lib.hid (show declM L l = declM (Lk ++ [((splM m).2, vl)]) (l.drop (k + 1)) ∧ (Lk ++ [((splM m).2, vl)]).length ≤ L.length + (k + 1) from ⟨by rw [HDE.out, HV1.out], by rw [List.length_append]; have := HD.out.2; simp; omega⟩)
        obtain ⟨p6, c6, hv6, -⟩ := hown6.form
        subst hv6
        clear hown6 hgrow6 hat6 hpu a0 a1 az
        go_wp2_with fail
        go_roundw
        case rel => exact ⟨k + 1, _, by omega, by go_num, Lib.hid HPU.out.1, HEQ, HPU.out.2⟩
        case measure => simp [intOf]; omega
      · have q1 : (u1.toList == [120, 109, 108, 110, 115]) = false := by rw [tl1, beq_eq_false_iff_ne]; exact h1
        have q2 : (P.toList == [120, 109, 108, 110, 115]) = false := by rw [tlP, beq_eq_false_iff_ne]; exact h2
        clear hbr hB c0 c1 hm hvl2 hnm hml hu1 hu2 hd1 hd2 hP hQ tl1 tl2 tlP tlQ h1 h2 hQb hML
        go_wp2_with fail
        refine (HHV.out _).mono ?_
        rintro e w2 ⟨rfl, hb2⟩
        have HB2 := Lib.hid (HA.out.trans (hb2.mono HA.out.size))
        obtain ⟨a0, a1, az⟩ := box2b HAB.out hb2
        have hal2 : wr.heap.size < w2.heap.size := by have := hb2.size; rw [World.size_alloc] at this; omega
        have HOA := Lib.hid (fun (ob : Obj) => show OwnS (w2.alloc ob) W0.heap.size 142 2 (.slice pv ML cv) ML (dcells Lk) from by
          have h9 := OwnS.keep HO.out fun g hg => (HB2.out.trans ((box_belT w2 ob).mono HB2.out.size)).block g (OwnS.lt HO.out g hg)
          rw [← HML.out] at h9
          exact h9)
        clear hb2
        have HEQ := Lib.hid (show declM L l = declM Lk (l.drop (k + 1)) ∧ Lk.length ≤ L.length + (k + 1) from ⟨by rw [HD.out.1, rdM_no HKL.out (by rw [HM1.out]; exact h3)], by have := HD.out.2; omega⟩)
        have HOB := Lib.hid (OwnS.keep HO.out fun g hg => HB2.out.block g (OwnS.lt HO.out g hg))
        have HBB := Lib.hid (HBR.out.trans (HB2.out.mono HBR.out.size))
        go_wp2_with fail
        go_roundw
        case rel => exact ⟨k + 1, Lk, by omega, by go_num, HOB, HEQ, HBB.out⟩
        case measure => simp [intOf]; omega
    · have HE := Lib.hid (show R = some Lk from by rw [← HR.out, HD.out.1, List.drop_of_length_le (by rw [← HN.out]; omega)]; rfl)
      have HRB := Lib.hid (show RB wr (.slice pv ML cv) Lk from OwnS.mono HO.out (Nat.zero_le _))
      go_wp2_with fail
      go_ret2
      rw [HE.out]
      exact ⟨_, rfl, HRB.out, HBW.out⟩
end Go.Proofs.YtpcajjbdlfookaaGreatDoor
