/- xmltree: whether attributes can be written: the reference. -/
import Derived.Test.YtpcajjbdlfookaaGreatDoorMw34
namespace Go.Proofs.YtpcajjbdlfookaaGreatDoor
open Go Go.RowKit Go.Deep
set_option linter.unusedVariables false
set_option linter.unusedSimpArgs false

theorem box3b {w wr : World} {b : Nat} {c0 c1 c2 : Value} {T : TypeId} (h0 : w.heap[b]? = some (.cells #[c0, c1, c2] T (0, 0))) (hb : Below w.heap.size w wr) :
    wr.cell? ⟨b, 0, none⟩ = some c0 ∧ wr.cell? ⟨b, 1, none⟩ = some c1 ∧ wr.cell? ⟨b, 2, none⟩ = some c2 ∧ (∀ o, wr.frozen? ⟨b, o, none⟩ = false) := by
  have h : wr.heap[b]? = some (.cells #[c0, c1, c2] T (0, 0)) := (hb.block _ (Array.getElem?_eq_some_iff.1 h0).1).trans h0
  refine ⟨?_, ?_, ?_, fun o => ?_⟩ <;> simp [World.cell?, World.frozen?, h]
/-- One of them has that key. -/
def keyIn (l : List PT) (m1 m2 : ByteArray) : Bool := l.any fun x => m1.toList == x.1.toList && m2.toList == x.2.1.toList
theorem keyIn_iff (l : List PT) (m1 m2 : ByteArray) : keyIn l m1 m2 = true ↔ (m1, m2) ∈ keysL l := by
  unfold keyIn keysL
  rw [List.any_eq_true, List.mem_map]
  constructor
  · rintro ⟨x, h1, h2⟩
    rw [Bool.and_eq_true] at h2
    exact ⟨x, h1, by rw [toList_inj (beq_iff_eq.1 h2.1), toList_inj (beq_iff_eq.1 h2.2)]⟩
  · rintro ⟨x, h1, h2⟩
    cases h2
    exact ⟨x, h1, by simp⟩
theorem nd_next {l : List PT} {k : Nat} {m1 m2 : ByteArray} (h : k < l.length) (hk : l[k].1 = m1 ∧ l[k].2.1 = m2) (hn : (keysL (l.take k)).Nodup) (hx : keyIn (l.take k) m1 m2 = false) : (keysL (l.take (k + 1))).Nodup := by
  have e : keysL (l.take (k + 1)) = keysL (l.take k) ++ [(m1, m2)] := by
    unfold keysL
    rw [List.take_succ_eq_append_getElem h, List.map_append, ← hk.1, ← hk.2]
    rfl
  rw [e, List.nodup_append]
  refine ⟨hn, by simp, fun a h2 b h3 => ?_⟩
  obtain rfl : b = (m1, m2) := by simpa using h3
  rintro rfl
  have := (keyIn_iff _ _ _).2 h2
  rw [hx] at this
  cases this
theorem nd_bad {l : List PT} {j k : Nat} {m1 m2 : ByteArray} (h : k < l.length) (hj : j < k) (hk : l[k].1 = m1 ∧ l[k].2.1 = m2) (hx : (m1.toList == l[j].1.toList && m2.toList == l[j].2.1.toList) = true) : decide ((keysL l).Nodup) = false := by
  refine decide_eq_false fun hn => ?_
  rw [Bool.and_eq_true] at hx
  have e1 := toList_inj (beq_iff_eq.1 hx.1)
  have e2 := toList_inj (beq_iff_eq.1 hx.2)
  have hp := List.pairwise_iff_getElem.1 hn j k (by unfold keysL; simp; omega) (by unfold keysL; simp; omega) hj
  apply hp
  unfold keysL
  simp only [List.getElem_map]
  rw [hk.1, hk.2, e1, e2]
theorem keyIn_next {l : List PT} {j : Nat} {m1 m2 : ByteArray} (h : j < l.length) (ht : keyIn (l.take j) m1 m2 = false) (hx : (m1.toList == l[j].1.toList && m2.toList == l[j].2.1.toList) = false) : keyIn (l.take (j + 1)) m1 m2 = false := by
  unfold keyIn at ht ⊢
  rw [List.take_succ_eq_append_getElem h, List.any_append, ht, List.any_cons, hx]
  rfl

set_option maxRecDepth 100000 in
set_option maxHeartbeats 8000000 in
theorem rattrs_c {ok : Nat → Prop} (w : World) (v : Value) (l : List PT) (h : PairsR ok w v l) (hs : ∀ k (h : k < l.length), smA l[k]) :
    Calls Tryz.prog 55 #[v] w fun e w' => e = .returned (.bool (decide (l.length ≤ 100) && l.all attrB && decide ((keysL l).Nodup))) ∧ Below w.heap.size w w' := by
  obtain ⟨pa, ca, hav, hla, hma⟩ := h.form
  have H1 := Lib.hid h
  have HSM := Lib.hid hs
  subst hav
  obtain ⟨N, hN⟩ : ∃ N, N = l.length := ⟨_, rfl⟩
  rw [← hN] at hla H1 ⊢
  have HN := Lib.hid hN
  have hnN : N ≤ 9223372036854775807 := by unfold maxLen at hma; omega
  have HCA := Lib.hid (show N ≤ ca ∧ ca ≤ 9223372036854775807 from ⟨hla, by unfold maxLen at hma; omega⟩)
  clear h hs hN hma hla
  by_cases h1 : 100 < N
  · have hq : decide ((100 : Int) < (N : Int)) = true := decide_eq_true (by omega)
    have HE := Lib.hid (show decide (N ≤ 100) = false from decide_eq_false (by omega))
    go_enter Tryz.func55, Tryz.ntmps55
    go_wp2_with fail
    go_ret
    exact ⟨by rw [HE.out]; rfl, Below.refl _ _⟩
  have hq : decide ((100 : Int) < (N : Int)) = false := decide_eq_false (by omega)
  have HE0 := Lib.hid (show decide (N ≤ 100) = true from decide_eq_true (by omega))
  go_enter Tryz.func55, Tryz.ntmps55
  go_wp2_with fail
  go_loopw [12] (fun i wr => ∃ k : Nat, k ≤ N ∧ i = .int .i64 k ∧ Hid ((l.take k).all attrB = true ∧ (keysL (l.take k)).Nodup) ∧ Below w.heap.size w wr) (fun i _ => N - (intOf i).toNat)
  case atStart => exact ⟨0, by omega, rfl, Lib.hid ⟨by simp, by simp [keysL]⟩, Below.refl _ _⟩
  case round =>
    obtain ⟨k, hk, rfl, HI, hbr⟩ := hrel
    have HBR := Lib.hid hbr
    clear hbr
    by_cases hlt : k < N
    · have hkl : k < l.length := by rw [← HN.out]; exact hlt
      obtain ⟨b, o, cc, hv2, hbl, -, c0, c1, c2⟩ := H1.out.at' hkl
      rw [← HN.out] at hv2
      cases hv2
      have e0 := (HBR.out.cell (p := ⟨b, o + k * 3, none⟩) hbl).trans c0
      have e1 := (HBR.out.cell (p := ⟨b, o + k * 3 + 1, none⟩) hbl).trans c1
      have e2 := (HBR.out.cell (p := ⟨b, o + k * 3 + 2, none⟩) hbl).trans c2
      have HSMK := Lib.hid (HSM.out k hkl)
      have HALL := Lib.hid (fun hb => all_next hkl HI.out.1 hb)
      have HBAD := Lib.hid (fun hb => all_bad (p := attrB) hkl hb)
      obtain ⟨x, hx⟩ : ∃ x, l[k] = x := ⟨_, rfl⟩
      rw [hx] at e0 e1 e2 HSMK HALL HBAD
      obtain ⟨m1, m2, m3⟩ := x
      dsimp only at e0 e1 e2
      have HKX := Lib.hid (show l[k].1 = m1 ∧ l[k].2.1 = m2 from by rw [hx]; exact ⟨rfl, rfl⟩)
      obtain ⟨s1, s2, s3⟩ := HSMK.out
      dsimp only at s1 s2 s3
      have HNM := Lib.hid (fun (W : World) => rnameN_c W m2 (by omega))
      have HC1 := Lib.hid (fun (W : World) => rclean_c W m1 (by omega))
      have HC3 := Lib.hid (fun (W : World) => rclean_c W m3 (by omega))
      have HA := Lib.hid (show attrB (m1, m2, m3) = (!(m1.toList.isEmpty && (m2.toList == [120, 109, 108, 110, 115])) && nameB m2.data.toList && cleanB m1 && cleanB m3 && !(m1.toList == [104, 116, 116, 112, 58, 47, 47, 119, 119, 119, 46, 119, 51, 46, 111, 114, 103, 47, 50, 48, 48, 48, 47, 120, 109, 108, 110, 115, 47])) from rfl)
      obtain ⟨qn, hqn⟩ : ∃ q, nameB m2.data.toList = q := ⟨_, rfl⟩
      obtain ⟨qs, hqs⟩ : ∃ q, cleanB m1 = q := ⟨_, rfl⟩
      obtain ⟨qv, hqv⟩ : ∃ q, cleanB m3 = q := ⟨_, rfl⟩
      obtain ⟨b1, t1⟩ : ∃ b, m1.toList.isEmpty = b := ⟨_, rfl⟩
      obtain ⟨b2, t2⟩ : ∃ b, (m2.toList == [120, 109, 108, 110, 115]) = b := ⟨_, rfl⟩
      obtain ⟨b3, t3⟩ : ∃ b, (m1.toList == [104, 116, 116, 112, 58, 47, 47, 119, 119, 119, 46, 119, 51, 46, 111, 114, 103, 47, 50, 48, 48, 48, 47, 120, 109, 108, 110, 115, 47]) = b := ⟨_, rfl⟩
      rw [hqn] at HNM HA
      rw [hqs] at HC1 HA
      rw [hqv] at HC3 HA
      rw [t1, t2, t3] at HA
      obtain ⟨Z, hZ⟩ : ∃ Z, Z = wr.alloc (.cells #[.string m1, .string m2, .string m3] 58) := ⟨_, rfl⟩
      have HBZ := Lib.hid (show Below w.heap.size w Z from HBR.out.trans ((hZ ▸ box_belT wr _ : Below wr.heap.size wr Z).mono HBR.out.size))
      have HB0 := Lib.hid (Below.refl Z.heap.size Z)
      clear c0 c1 c2 hx hqn hqs hqv s1 s2 s3
      subst hZ
      go_wp2_with fail
      refine (HNM.out _).mono ?_
      rintro e w1 ⟨rfl, hb⟩
      have HB1 := Lib.hid hb
      obtain ⟨c0, c1, c2, cz⟩ := box3 hb
      clear hb e0 e1 e2
      cases qn
      · have HE := Lib.hid (HBAD.out (by rw [HA.out]; simp))
        go_wp2_with fail
        go_ret
        exact ⟨by rw [HE.out]; simp, HBZ.out.trans (HB1.out.mono HBZ.out.size)⟩
      go_wp2_with fail
      refine (HC1.out _).mono ?_
      rintro e w2 ⟨rfl, hb⟩
      have hb := HB1.out.trans (hb.mono HB1.out.size)
      have HB2 := Lib.hid hb
      clear c0 c1 c2 cz
      obtain ⟨c0, c1, c2, cz⟩ := box3 hb
      clear hb
      cases qs
      · have HE := Lib.hid (HBAD.out (by rw [HA.out]; simp))
        go_wp2_with fail
        go_ret
        exact ⟨by rw [HE.out]; simp, HBZ.out.trans (HB2.out.mono HBZ.out.size)⟩
      go_wp2_with fail
      refine (HC3.out _).mono ?_
      rintro e w3 ⟨rfl, hb⟩
      have hb := HB2.out.trans (hb.mono HB2.out.size)
      have HB3 := Lib.hid hb
      clear c0 c1 c2 cz
      obtain ⟨c0, c1, c2, cz⟩ := box3 hb
      clear hb
      cases qv
      · have HE := Lib.hid (HBAD.out (by rw [HA.out]; simp))
        go_wp2_with fail
        go_ret
        exact ⟨by rw [HE.out]; simp, HBZ.out.trans (HB3.out.mono HBZ.out.size)⟩
      cases b3
      rotate_left
      · have HE := Lib.hid (HBAD.out (by rw [HA.out]; simp))
        go_wp2_with fail
        go_ret
        exact ⟨by rw [HE.out]; simp, HBZ.out.trans (HB3.out.mono HBZ.out.size)⟩
      by_cases hbb : b1 = true ∧ b2 = true
      · obtain ⟨rfl, rfl⟩ := hbb
        have HE := Lib.hid (HBAD.out (by rw [HA.out]; simp))
        go_wp2_with fail
        go_ret
        exact ⟨by rw [HE.out]; simp, HBZ.out.trans (HB3.out.mono HBZ.out.size)⟩
      have HBB := Lib.hid hbb
      have HAT := Lib.hid (HALL.out (by rw [HA.out]; cases b1 <;> cases b2 <;> simp_all))
      clear hbb
      have hkc : k ≤ ca := by have := HCA.out.1; omega
      have hcm : ca ≤ 9223372036854775807 := HCA.out.2
      -- REST
      have HX3 := Lib.hid ((HB3.out.block wr.heap.size (by simp)).trans (heap_alloc_new wr _))
      have HKB := Lib.hid (show wr.heap.size < w3.heap.size from (Array.getElem?_eq_some_iff.1 HX3.out).1)
      have HW3 := Lib.hid (HBZ.out.trans (HB3.out.mono HBZ.out.size))
      have HKL := Lib.hid hkl
      cases b1
      · skip
        go_wp2_with fail
        clear c0 c1 c2 cz
        go_loopw [52] (fun i wr2 => ∃ j : Nat, j ≤ k ∧ i = .int .i64 j ∧ Hid (keyIn (l.take j) m1 m2 = false) ∧ Below w3.heap.size w3 wr2) (fun i _ => k - (intOf i).toNat)
        case atStart => exact ⟨0, by omega, rfl, Lib.hid (by simp [keyIn]), Below.refl _ _⟩
        case round =>
          obtain ⟨j, hj, rfl, HKI, hb⟩ := hrel
          have HB4 := Lib.hid hb
          have HW4 := Lib.hid (HW3.out.trans (hb.mono HW3.out.size))
          obtain ⟨c0, c1, c2, cz⟩ := box3b HX3.out hb
          clear hb
          by_cases hlj : j < k
          · have hjl : j < l.length := by rw [← HN.out]; omega
            obtain ⟨b', o', cc', hv3, hbl', -, g0, g1, g2⟩ := H1.out.at' hjl
            rw [← HN.out] at hv3
            cases hv3
            have e0 := (HW4.out.cell (p := ⟨b, o + j * 3, none⟩) hbl').trans g0
            have e1 := (HW4.out.cell (p := ⟨b, o + j * 3 + 1, none⟩) hbl').trans g1
            have e2 := (HW4.out.cell (p := ⟨b, o + j * 3 + 2, none⟩) hbl').trans g2
            have HNX := Lib.hid (fun hx => keyIn_next hjl HKI.out hx)
            have HBD := Lib.hid (fun hx => nd_bad HKL.out hlj HKX.out hx)
            clear g0 g1 g2
            obtain ⟨y, hy⟩ : ∃ y, l[j] = y := ⟨_, rfl⟩
            rw [hy] at e0 e1 e2 HNX HBD
            obtain ⟨y1, y2, y3⟩ := y
            dsimp only at e0 e1 e2 HNX HBD
            obtain ⟨b8, t8⟩ : ∃ b, (m1.toList == y1.toList) = b := ⟨_, rfl⟩
            obtain ⟨b9, t9⟩ : ∃ b, (m2.toList == y2.toList) = b := ⟨_, rfl⟩
            rw [t8, t9] at HNX HBD
            have HB5 := Lib.hid (show Below w3.heap.size w3 (wr.alloc (.cells #[.string y1, .string y2, .string y3] 58)) from HB4.out.alloc HB4.out.size _)
            clear hy hjl
            have hlb := Nat.lt_of_lt_of_le HKB.out HB4.out.size
            cases b8
            · have HE := Lib.hid (HNX.out rfl)
              go_wp2_with fail
              go_roundw
              case rel => exact ⟨j + 1, by omega, by go_num, HE, HB5.out⟩
              case measure => simp [intOf]; omega
            · cases b9
              · have HE := Lib.hid (HNX.out rfl)
                go_wp2_with fail
                go_roundw
                case rel => exact ⟨j + 1, by omega, by go_num, HE, HB5.out⟩
                case measure => simp [intOf]; omega
              · have HE := Lib.hid (HBD.out rfl)
                go_wp2_with fail
                go_ret
                exact ⟨by rw [HE.out]; simp, HW3.out.trans (HB5.out.mono HW3.out.size)⟩
          · have HND := Lib.hid (nd_next HKL.out HKX.out HI.out.2 (by have := HKI.out; rwa [show j = k by omega] at this))
            go_wp2_with fail
            go_roundw
            case rel => exact ⟨k + 1, by omega, by go_num, Lib.hid ⟨HAT.out, HND.out⟩, HW4.out⟩
            case measure => simp [intOf]; omega
      cases b2
      · skip
        go_wp2_with fail
        clear c0 c1 c2 cz
        go_loopw [52] (fun i wr2 => ∃ j : Nat, j ≤ k ∧ i = .int .i64 j ∧ Hid (keyIn (l.take j) m1 m2 = false) ∧ Below w3.heap.size w3 wr2) (fun i _ => k - (intOf i).toNat)
        case atStart => exact ⟨0, by omega, rfl, Lib.hid (by simp [keyIn]), Below.refl _ _⟩
        case round =>
          obtain ⟨j, hj, rfl, HKI, hb⟩ := hrel
          have HB4 := Lib.hid hb
          have HW4 := Lib.hid (HW3.out.trans (hb.mono HW3.out.size))
          obtain ⟨c0, c1, c2, cz⟩ := box3b HX3.out hb
          clear hb
          by_cases hlj : j < k
          · have hjl : j < l.length := by rw [← HN.out]; omega
            obtain ⟨b', o', cc', hv3, hbl', -, g0, g1, g2⟩ := H1.out.at' hjl
            rw [← HN.out] at hv3
            cases hv3
            have e0 := (HW4.out.cell (p := ⟨b, o + j * 3, none⟩) hbl').trans g0
            have e1 := (HW4.out.cell (p := ⟨b, o + j * 3 + 1, none⟩) hbl').trans g1
            have e2 := (HW4.out.cell (p := ⟨b, o + j * 3 + 2, none⟩) hbl').trans g2
            have HNX := Lib.hid (fun hx => keyIn_next hjl HKI.out hx)
            have HBD := Lib.hid (fun hx => nd_bad HKL.out hlj HKX.out hx)
            clear g0 g1 g2
            obtain ⟨y, hy⟩ : ∃ y, l[j] = y := ⟨_, rfl⟩
            rw [hy] at e0 e1 e2 HNX HBD
            obtain ⟨y1, y2, y3⟩ := y
            dsimp only at e0 e1 e2 HNX HBD
            obtain ⟨b8, t8⟩ : ∃ b, (m1.toList == y1.toList) = b := ⟨_, rfl⟩
            obtain ⟨b9, t9⟩ : ∃ b, (m2.toList == y2.toList) = b := ⟨_, rfl⟩
            rw [t8, t9] at HNX HBD
            have HB5 := Lib.hid (show Below w3.heap.size w3 (wr.alloc (.cells #[.string y1, .string y2, .string y3] 58)) from HB4.out.alloc HB4.out.size _)
            clear hy hjl
            have hlb := Nat.lt_of_lt_of_le HKB.out HB4.out.size
            cases b8
            · have HE := Lib.hid (HNX.out rfl)
              go_wp2_with fail
              go_roundw
              case rel => exact ⟨j + 1, by omega, by go_num, HE, HB5.out⟩
              case measure => simp [intOf]; omega
            · cases b9
              · have HE := Lib.hid (HNX.out rfl)
                go_wp2_with fail
                go_roundw
                case rel => exact ⟨j + 1, by omega, by go_num, HE, HB5.out⟩
                case measure => simp [intOf]; omega
              · have HE := Lib.hid (HBD.out rfl)
                go_wp2_with fail
                go_ret
                exact ⟨by rw [HE.out]; simp, HW3.out.trans (HB5.out.mono HW3.out.size)⟩
          · have HND := Lib.hid (nd_next HKL.out HKX.out HI.out.2 (by have := HKI.out; rwa [show j = k by omega] at this))
            go_wp2_with fail
            go_roundw
            case rel => exact ⟨k + 1, by omega, by go_num, Lib.hid ⟨HAT.out, HND.out⟩, HW4.out⟩
            case measure => simp [intOf]; omega
      · exact absurd ⟨rfl, rfl⟩ HBB.out
    · have HE1 := Lib.hid (show l.all attrB = true from all_end (by rw [← HN.out]; omega) HI.out.1)
      have HE2 := Lib.hid (show decide ((keysL l).Nodup) = true from decide_eq_true (by
        have := HI.out.2
        rwa [List.take_of_length_le (by rw [← HN.out]; omega)] at this))
      go_wp2_with fail
      go_ret
      exact ⟨by rw [HE0.out, HE1.out, HE2.out]; rfl, HBR.out⟩
end Go.Proofs.YtpcajjbdlfookaaGreatDoor
