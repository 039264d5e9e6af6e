/- xmltree: whether attributes can be written: the reference. -/
import Derived.Test.YtpcajjbdlfookaaGreatDoorMp20
import Derived.Test.YtpcajjbdlfookaaGreatDoorMp10
import Derived.Test.YtpcajjbdlfookaaGreatDoorMp05
import Derived.Test.YtpcajjbdlfookaaGreatDoorMp18
namespace Go.Proofs.YtpcajjbdlfookaaGreatDoor
open Go Go.RowKit Go.Deep
set_option linter.unusedVariables false
set_option linter.unusedSimpArgs false

theorem box3b {w wr : World} {b : Nat} {c0 c1 c2 : Value} {T : TypeId} (h0 : w.heap[b]? = some (.cells #[c0, c1, c2] T (0, 0))) (hb : Below w.heap.size w wr) :
    wr.cell? ⟨b, 0, none⟩ = some c0 ∧ wr.cell? ⟨b, 1, none⟩ = some c1 ∧ wr.cell? ⟨b, 2, none⟩ = some c2 ∧ (∀ o, wr.frozen? ⟨b, o, none⟩ = false) := by
  have h : wr.heap[b]? = some (.cells #[c0, c1, c2] T (0, 0)) := (hb.block _ (Array.getElem?_eq_some_iff.1 h0).1).trans h0
  refine ⟨?_, ?_, ?_, fun o => ?_⟩ <;> simp [World.cell?, World.frozen?, h]
/-- One of them has that key. -/
def keyIn (l : List PT) (m1 m2 : ByteArray) : Bool := l.any fun x => m1.toList == x.1.toList && m2.toList == x.2.1.toList
theorem keyIn_iff (l : List PT) (m1 m2 : ByteArray) : keyIn l m1 m2 = true ↔ (m1, m2) ∈ keysL l := by
  unfold keyIn keysL
  rw [List.any_eq_true, List.mem_map]
  constructor
  · rintro ⟨x, h1, h2⟩
    rw [Bool.and_eq_true] at h2
    exact ⟨x, h1, by rw [toList_inj (beq_iff_eq.1 h2.1), toList_inj (beq_iff_eq.1 h2.2)]⟩
  · rintro ⟨x, h1, h2⟩
    cases h2
    exact ⟨x, h1, by simp⟩
theorem nd_next {l : List PT} {k : Nat} {m1 m2 : ByteArray} (h : k < l.length) (hk : l[k].1 = m1 ∧ l[k].2.1 = m2) (hn : (keysL (l.take k)).Nodup) (hx : keyIn (l.take k) m1 m2 = false) : (keysL (l.take (k + 1))).Nodup := by
  have e : keysL (l.take (k + 1)) = keysL (l.take k) ++ [(m1, m2)] := by
    unfold keysL
    rw [List.take_succ_eq_append_getElem h, List.map_append, ← hk.1, ← hk.2]
    rfl
  rw [e, List.nodup_append]
  refine ⟨hn, by simp, fun a h2 b h3 => ?_⟩
  obtain rfl : b = (m1, m2) := by simpa using h3
  rintro rfl
  have := (keyIn_iff _ _ _).2 h2
  rw [hx] at this
  cases this
theorem nd_bad {l : List PT} {j k : Nat} {m1 m2 : ByteArray} (h : k < l.length) (hj : j < k) (hk : l[k].1 = m1 ∧ l[k].2.1 = m2) (hx : (m1.toList == l[j].1.toList && m2.toList == l[j].2.1.toList) = true) : decide ((keysL l).Nodup) = false := by
  refine decide_eq_false fun hn => ?_
  rw [Bool.and_eq_true] at hx
  have e1 := toList_inj (beq_iff_eq.1 hx.1)
  have e2 := toList_inj (beq_iff_eq.1 hx.2)
  have hp := List.pairwise_iff_getElem.1 hn j k (by unfold keysL; simp; omega) (by unfold keysL; simp; omega) hj
  apply hp
  unfold keysL
  simp only [List.getElem_map]
  rw [hk.1, hk.2, e1, e2]
theorem keyIn_next {l : List PT} {j : Nat} {m1 m2 : ByteArray} (h : j < l.length) (ht : keyIn (l.take j) m1 m2 = false) (hx : (m1.toList == l[j].1.toList && m2.toList == l[j].2.1.toList) = false) : keyIn (l.take (j + 1)) m1 m2 = false := by
  unfold keyIn at ht ⊢
  rw [List.take_succ_eq_append_getElem h, List.any_append, ht, List.any_cons, hx]
  rfl

set_option maxRecDepth 100000 in
set_option maxHeartbeats 8000000 in
theorem rattrs_c {ok : Nat → Prop} (w : World) (v : Value) (l : List PT) (h : PairsR ok w v l) (hs : ∀ k (h : k < l.length), smA l[k]) :
    Calls Tryz.prog 55 #[v] w fun e w' => e = .returned (.bool (decide (l.length ≤ 100) && l.all attrB && decide ((keysL l).Nodup))) ∧ Below w.heap.size w w' := by
  obtain ⟨pa, ca, hav, hla, hma⟩ := h.form
  have H1 := Lib.hid h
  have HSM := Lib.hid hs
  subst hav
  obtain ⟨N, hN⟩ : ∃ N, N = l.length := ⟨_, rfl⟩
  rw [← hN] at hla H1 ⊢
  have HN := Lib.hid hN
  have hnN : N ≤ 9223372036854775807 := by unfold maxLen at hma; omega
  have HCA := Lib.hid (show N ≤ ca ∧ ca ≤ 9223372036854775807 from ⟨hla, by unfold maxLen at hma; omega⟩)
  clear h hs hN hma hla
  by_cases h1 : 100 < N
  · have hq : decide ((100 : Int) < (N : Int)) = true := decide_eq_true (by omega)
    have HE := Lib.hid (show decide (N ≤ 100) = false from decide_eq_false (by omega))
    go_enter Tryz.func55, Tryz.ntmps55
    go_wp2_with fail
    go_ret
    exact ⟨by rw [HE.out]; rfl, Below.refl _ _⟩
  have hq : decide ((100 : Int) < (N : Int)) = false := decide_eq_false (by omega)
  have HE0 := Lib.hid (show decide (N ≤ 100) = true from decide_eq_true (by omega))
  go_enter Tryz.func55, Tryz.ntmps55
  go_wp2_with fail
  go_loopw [12] (fun i wr => ∃ k : Nat, k ≤ N ∧ i = .int .i64 k ∧ Hid ((l.take k).all attrB = true ∧ (keysL (l.take k)).Nodup) ∧ Below w.heap.size w wr) (fun i _ => N - (intOf i).toNat)
  case atStart => exact ⟨0, by omega, rfl, Lib.hid ⟨by simp, by simp [keysL]⟩, Below.refl _ _⟩
  case round =>
    obtain ⟨k, hk, rfl, HI, hbr⟩ := hrel
    have HBR := Lib.hid hbr
    clear hbr
    by_cases hlt : k < N
    · have hkl : k < l.length := by rw [← HN.out]; exact hlt
      obtain ⟨b, o, cc, hv2, hbl, -, c0, c1, c2⟩ := H1.out.at' hkl
      rw [← HN.out] at hv2
      cases hv2
      have e0 := (HBR.out.cell (p := ⟨b, o + k * 3, none⟩) hbl).trans c0
      have e1 := (HBR.out.cell (p := ⟨b, o + k * 3 + 1, none⟩) hbl).trans c1
      have e2 := (HBR.out.cell (p := ⟨b, o + k * 3 + 2, none⟩) hbl).trans c2
      have HSMK := Lib.hid (HSM.out k hkl)
      have HALL := Lib.hid (fun hb => all_next hkl HI.out.1 hb)
      have HBAD := Lib.hid (fun hb => all_bad (p := attrB) hkl hb)
      obtain ⟨x, hx⟩ : ∃ x, l[k] = x := ⟨_, rfl⟩
      rw [hx] at e0 e1 e2 HSMK HALL HBAD
      obtain ⟨m1, m2, m3⟩ := x
      dsimp only at e0 e1 e2
      have HKX := Lib.hid (show l[k].1 = m1 ∧ l[k].2.1 = m2 from by rw [hx]; exact ⟨rfl, rfl⟩)
      obtain ⟨s1, s2, s3⟩ := HSMK.out
      dsimp only at s1 s2 s3
      have HNM := Lib.hid (fun (W : World) => rnameN_c W m2 (by omega))
      have HC1 := Lib.hid (fun (W : World) => rclean_c W m1 (by omega))
      have HC3 := Lib.hid (fun (W : World) => rclean_c W m3 (by omega))
      have HA := Lib.hid (show attrB (m1, m2, m3) = (!(m1.toList.isEmpty && (m2.toList == [120, 109, 108, 110, 115])) && nameB m2.data.toList && cleanB m1 && cleanB m3 && !(m1.toList == [104, 116, 116, 112, 58, 47, 47, 119, 119, 119, 46, 119, 51, 46, 111, 114, 103, 47, 50, 48, 48, 48, 47, 120, 109, 108, 110, 115, 47])) from rfl)
      obtain ⟨qn, hqn⟩ : ∃ q, nameB m2.data.toList = q := ⟨_, rfl⟩
      obtain ⟨qs, hqs⟩ : ∃ q, cleanB m1 = q := ⟨_, rfl⟩
      obtain ⟨qv, hqv⟩ : ∃ q, cleanB m3 = q := ⟨_, rfl⟩
      obtain ⟨b1, t1⟩ : ∃ b, m1.toList.isEmpty = b := ⟨_, rfl⟩
      obtain ⟨b2, t2⟩ : ∃ b, (m2.toList == [120, 109, 108, 110, 115]) = b := ⟨_, rfl⟩
      obtain ⟨b3, t3⟩ : ∃ b, (m1.toList == [104, 116, 116, 112, 58, 47, 47, 119, 119, 119, 46, 119, 51, 46, 111, 114, 103, 47, 50, 48, 48, 48, 47, 120, 109, 108, 110, 115, 47]) = b := ⟨_, rfl⟩
      rw [hqn] at HNM HA
      rw [hqs] at HC1 HA
      rw [hqv] at HC3 HA
      rw [t1, t2, t3] at HA
      obtain ⟨Z, hZ⟩ : ∃ Z, Z = wr.alloc (.cells #[.string m1, .string m2, .string m3] 58) := ⟨_, rfl⟩
      have HBZ := Lib.hid (show Below w.heap.size w Z from HBR.out.trans ((hZ ▸ box_belT wr _ : Below wr.heap.size wr Z).mono HBR.out.size))
      have HB0 := Lib.hid (Below.refl Z.heap.size Z)
      clear c0 c1 c2 hx hqn hqs hqv s1 s2 s3
      subst hZ
      go_wp2_with fail
      refine (HNM.out _).mono ?_
      rintro e w1 ⟨rfl, hb⟩
      have HB1 := Lib.hid hb
      obtain ⟨c0, c1, c2, cz⟩ := box3 hb
      clear hb e0 e1 e2
      cases qn
      · have HE := Lib.hid (HBAD.out (by rw [HA.out]; simp))
        go_wp2_with fail
        go_ret
        exact ⟨by rw [HE.out]; simp, HBZ.out.trans (HB1.out.mono HBZ.out.size)⟩
      go_wp2_with fail
      refine (HC1.out _).mono ?_
      rintro e w2 ⟨rfl, hb⟩
      have hb := HB1.out.trans (hb.mono HB1.out.size)
      have HB2 := Lib.hid hb
      clear c0 c1 c2 cz
      obtain ⟨c0, c1, c2, cz⟩ := box3 hb
      clear hb
      cases qs
      · have HE := Lib.hid (HBAD.out (by rw [HA.out]; simp))
        go_wp2_with fail
        go_ret
        exact ⟨by rw [HE.out]; simp, HBZ.out.trans (HB2.out.mono HBZ.out.size)⟩
      go_wp2_with fail
      refine (HC3.out _).mono ?_
      rintro e w3 ⟨rfl, hb⟩
      have hb := HB2.out.trans (hb.mono HB2.out.size)
      have HB3 := Lib.hid hb
      clear c0 c1 c2 cz
      obtain ⟨c0, c1, c2, cz⟩ := box3 hb
      clear hb
      cases qv
      · have HE := Lib.hid (HBAD.out (by rw [HA.out]; simp))
        go_wp2_with fail
        go_ret
        exact ⟨by rw [HE.out]; simp, HBZ.out.trans (HB3.out.mono HBZ.out.size)⟩
      cases b3
      rotate_left
      · have HE := Lib.hid (HBAD.out (by rw [HA.out]; simp))
        go_wp2_with fail
        go_ret
        exact ⟨by rw [HE.out]; simp, HBZ.out.trans (HB3.out.mono HBZ.out.size)⟩
      by_cases hbb : b1 = true ∧ b2 = true
      · obtain ⟨rfl, rfl⟩ := hbb
        have HE := Lib.hid (HBAD.out (by rw [HA.out]; simp))
        go_wp2_with fail
        go_ret
        exact ⟨by rw [HE.out]; simp, HBZ.out.trans (HB3.out.mono HBZ.out.size)⟩
      have HBB := Lib.hid hbb
      have HAT := Lib.hid (HALL.out (by rw [HA.out]; cases b1 <;> cases b2 <;> simp_all))
      clear hbb
      have hkc : k ≤ ca := by have := HCA.out.1; omega
      have hcm : ca ≤ 9223372036854775807 := HCA.out.2
      -- REST
      have HX3 := Lib.hid ((HB3.out.block wr.heap.size (by simp)).trans (heap_alloc_new wr _))
      have HKB := Lib.hid (show wr.heap.size < w3.heap.size from (Array.getElem?_eq_some_iff.1 HX3.out).1)
      have HW3 := Lib.hid (HBZ.out.trans (HB3.out.mono HBZ.out.size))
      have HKL := Lib.hid hkl
      cases b1
      · skip
        go_wp2_with fail
        clear c0 c1 c2 cz
        go_loopw [52] (fun i wr2 => ∃ j : Nat, j ≤ k ∧ i = .int .i64 j ∧ Hid (keyIn (l.take j) m1 m2 = false) ∧ Below w3.heap.size w3 wr2) (fun i _ => k - (intOf i).toNat)
        case atStart => exact ⟨0, by omega, rfl, Lib.hid (by simp [keyIn]), Below.refl _ _⟩
        case round =>
          obtain ⟨j, hj, rfl, HKI, hb⟩ := hrel
          have HB4 := Lib.hid hb
          have HW4 := Lib.hid (HW3.out.trans (hb.mono HW3.out.size))
          obtain ⟨c0, c1, c2, cz⟩ := box3b HX3.out hb
          clear hb
          by_cases hlj : j < k
          · have hjl : j < l.length := by rw [← HN.out]; omega
            obtain ⟨b', o', cc', hv3, hbl', -, g0, g1, g2⟩ := H1.out.at' hjl
            rw [← HN.out] at hv3
            cases hv3
            have e0 := (HW4.out.cell (p := ⟨b, o + j * 3, none⟩) hbl').trans g0
            have e1 := (HW4.out.cell (p := ⟨b, o + j * 3 + 1, none⟩) hbl').trans g1
            have e2 := (HW4.out.cell (p := ⟨b, o + j * 3 + 2, none⟩) hbl').trans g2
            have HNX := Lib.hid (fun hx => keyIn_next hjl HKI.out hx)
            have HBD := Lib.hid (fun hx => nd_bad HKL.out hlj HKX.out hx)
            clear g0 g1 g2
            obtain ⟨y, hy⟩ : ∃ y, l[j] = y := ⟨_, rfl⟩
            rw [hy] at e0 e1 e2 HNX HBD
            obtain ⟨y1, y2, y3⟩ := y
            dsimp only at e0 e1 e2 HNX HBD
            obtain ⟨b8, t8⟩ : ∃ b, (m1.toList == y1.toList) = b := ⟨_, rfl⟩
            obtain ⟨b9, t9⟩ : ∃ b, (m2.toList == y2.toList) = b := ⟨_, rfl⟩
            rw [t8, t9] at HNX HBD
            have HB5 := Lib.hid (show Below w3.heap.size w3 (wr.alloc (.cells #[.string y1, .string y2, .string y3] 58)) from HB4.out.alloc HB4.out.size _)
            clear hy hjl
            have hlb := Nat.lt_of_lt_of_le HKB.out HB4.out.size
            cases b8
            · have HE := Lib.hid (HNX.out rfl)
              go_wp2_with fail
              go_roundw
              case rel => exact ⟨j + 1, by omega, by go_num, HE, HB5.out⟩
              case measure => simp [intOf]; omega
            · cases b9
              · have HE := Lib.hid (HNX.out rfl)
                go_wp2_with fail
                go_roundw
                case rel => exact ⟨j + 1, by omega, by go_num, HE, HB5.out⟩
                case measure => simp [intOf]; omega
              · have HE := Lib.hid (HBD.out rfl)
                go_wp2_with fail
                go_ret
                exact ⟨by rw [HE.out]; simp, HW3.out.trans (HB5.out.mono HW3.out.size)⟩
          · have HND := Lib.hid (nd_next HKL.out HKX.out HI.out.2 (by have := HKI.out; rwa [show j = k by omega] at this))
            go_wp2_with fail
            go_roundw
            case rel => exact ⟨k + 1, by omega, by go_num, Lib.hid ⟨HAT.out, HND.out⟩, HW4.out⟩
            case measure => simp [intOf]; omega
      cases b2
      · skip
        go_wp2_with fail
        clear c0 c1 c2 cz
        go_loopw [52] (fun i wr2 => ∃ j : Nat, j ≤ k ∧ i = .int .i64 j ∧ Hid (keyIn (l.take j) m1 m2 = false) ∧ Below w3.heap.size w3 wr2) (fun i _ => k - (intOf i).toNat)
        case atStart => exact ⟨0, by omega, rfl, Lib.hid (by simp [keyIn]), Below.refl _ _⟩
        case round =>
          obtain ⟨j, hj, rfl, HKI, hb⟩ := hrel
          have HB4 := Lib.hid hb
          have HW4 := Lib.hid (HW3.out.trans (hb.mono HW3.out.size))
          obtain ⟨c0, c1, c2, cz⟩ := box3b HX3.out hb
          clear hb
          by_cases hlj : j < k
          · have hjl : j < l.length := by rw [← HN.out]; omega
            obtain ⟨b', o', cc', hv3, hbl', -, g0, g1, g2⟩ := H1.out.at' hjl
            rw [← HN.out] at hv3
            cases hv3
            have e0 := (HW4.out.cell (p := ⟨b, o + j * 3, none⟩) hbl').trans g0
            have e1 := (HW4.out.cell (p := ⟨b, o + j * 3 + 1, none⟩) hbl').trans g1
            have e2 := (HW4.out.cell (p := ⟨b, o + j * 3 + 2, none⟩) hbl').trans g2
            have HNX := Lib.hid (fun hx => keyIn_next hjl HKI.out hx)
            have HBD := Lib.hid (fun hx => nd_bad HKL.out hlj HKX.out hx)
            clear g0 g1 g2
            obtain ⟨y, hy⟩ : ∃ y, l[j] = y := ⟨_, rfl⟩
            rw [hy] at e0 e1 e2 HNX HBD
            obtain ⟨y1, y2, y3⟩ := y
            dsimp only at e0 e1 e2 HNX HBD
            obtain ⟨b8, t8⟩ : ∃ b, (m1.toList == y1.toList) = b := ⟨_, rfl⟩
            obtain ⟨b9, t9⟩ : ∃ b, (m2.toList == y2.toList) = b := ⟨_, rfl⟩
            rw [t8, t9] at HNX HBD
            have HB5 := Lib.hid (show Below w3.heap.size w3 (wr.alloc (.cells #[.string y1, .string y2, .string y3] 58)) from HB4.out.alloc HB4.out.size _)
            clear hy hjl
            have hlb := Nat.lt_of_lt_of_le HKB.out HB4.out.size
            cases b8
            · have HE := Lib.hid (HNX.out rfl)
              go_wp2_with fail
              go_roundw
              case rel => exact ⟨j + 1, by omega, by go_num, HE, HB5.out⟩
              case measure => simp [intOf]; omega
            · cases b9
              · have HE := Lib.hid (HNX.out rfl)
                go_wp2_with fail
                go_roundw
                case rel => exact ⟨j + 1, by omega, by go_num, HE, HB5.out⟩
                case measure => simp [intOf]; omega
              · have HE := Lib.hid (HBD.out rfl)
                go_wp2_with fail
                go_ret
                exact ⟨by rw [HE.out]; simp, HW3.out.trans (HB5.out.mono HW3.out.size)⟩
          · have HND := Lib.hid (nd_next HKL.out HKX.out HI.out.2 (by have := HKI.out; rwa [show j = k by omega] at this))
            go_wp2_with fail
            go_roundw
            case rel => exact ⟨k + 1, by omega, by go_num, Lib.hid ⟨HAT.out, HND.out⟩, HW4.out⟩
            case measure => simp [intOf]; omega
      · exact absurd ⟨rfl, rfl⟩ HBB.out
    · have HE1 := Lib.hid (show l.all attrB = true from all_end (by rw [← HN.out]; omega) HI.out.1)
      have HE2 := Lib.hid (show decide ((keysL l).Nodup) = true from decide_eq_true (by
        have := HI.out.2
        rwa [List.take_of_length_le (by rw [← HN.out]; omega)] at this))
      go_wp2_with fail
      go_ret
      exact ⟨by rw [HE0.out, HE1.out, HE2.out]; rfl, HBR.out⟩
end Go.Proofs.YtpcajjbdlfookaaGreatDoor

/- xmltree: clone: a copy with memory of its own. -/
namespace Go.Proofs.YtpcajjbdlfookaaGreatDoor
open Go Go.RowKit Go.Deep
set_option linter.unusedVariables false
set_option linter.unusedSimpArgs false

theorem ecells_set : ∀ (L : List EV) (k : Nat) (hk : k < L.length) (x : EV), (((((ecells L).set (k * 5) (.string x.1.space)).set (k * 5 + 1) (.string x.1.name)).set (k * 5 + 2) x.2.1).set (k * 5 + 3) x.2.2).set (k * 5 + 4) (.string x.1.text) = ecells (L.set k x)
  | [], k, hk, x => by simp at hk
  | y :: t, 0, hk, x => rfl
  | y :: t, k + 1, hk, x => by
    have ih := ecells_set t k (by simpa using hk) x
    have e : ecells (y :: t) = .string y.1.space :: .string y.1.name :: y.2.1 :: y.2.2 :: .string y.1.text :: ecells t := rfl
    have e2 : ecells ((y :: t).set (k + 1) x) = .string y.1.space :: .string y.1.name :: y.2.1 :: y.2.2 :: .string y.1.text :: ecells (t.set k x) := rfl
    rw [e2, ← ih, e, show (k + 1) * 5 = k * 5 + 5 by omega, show k * 5 + 5 + 1 = k * 5 + 1 + 5 by omega, show k * 5 + 5 + 2 = k * 5 + 2 + 5 by omega, show k * 5 + 5 + 3 = k * 5 + 3 + 5 by omega, show k * 5 + 5 + 4 = k * 5 + 4 + 5 by omega]
    simp only [List.set_cons_succ]
/-- A store of a whole element into a row. -/
abbrev putE (w : World) (g o : Nat) (c0 c1 c2 c3 c4 : Value) : World := ((((w.setCell ⟨g, o, none⟩ c0).setCell ⟨g, o + 1, none⟩ c1).setCell ⟨g, o + 2, none⟩ c2).setCell ⟨g, o + 3, none⟩ c3).setCell ⟨g, o + 4, none⟩ c4
theorem Own1.put {w : World} {g off n c : Nat} {E : TypeId} {L : List EV} (h : Own1 w g off E n 5 c (ecells L)) (k : Nat) (hk : k < L.length) (x : EV) : Own1 (putE w g (off + k * 5) (.string x.1.space) (.string x.1.name) x.2.1 x.2.2 (.string x.1.text)) g off E n 5 c (ecells (L.set k x)) := by
  have hl : (ecells L).length = L.length * 5 := flat_len ecell_len L
  have h1 := h.set (k * 5) (by omega) (.string x.1.space)
  have h2 := h1.set (k * 5 + 1) (by simp only [List.length_set]; omega) (.string x.1.name)
  have h3 := h2.set (k * 5 + 2) (by simp only [List.length_set]; omega) x.2.1
  have h4 := h3.set (k * 5 + 3) (by simp only [List.length_set]; omega) x.2.2
  have h5 := h4.set (k * 5 + 4) (by simp only [List.length_set]; omega) (.string x.1.text)
  rw [ecells_set L k hk x] at h5
  exact h5
theorem putE_chg (w : World) (g o : Nat) (c0 c1 c2 c3 c4 : Value) : Chg [g] w (putE w g o c0 c1 c2 c3 c4) := ((((((Chg.refl [g] w).set' _ _ _ (.inl (by simp))).set' _ _ _ (.inl (by simp))).set' _ _ _ (.inl (by simp))).set' _ _ _ (.inl (by simp))).set' _ _ _ (.inl (by simp)))
theorem KidsD.ofOwn1 {ok : Nat → Prop} {w : World} {d g off c n : Nat} {L : List EV} (h : Own1 w g off 27 n 5 c (ecells L)) (hn : n = L.length) (hok : ok g) (hk : KidsV ok w d L) : KidsD ok w (d + 1) (.slice (some ⟨g, off, none⟩) n c) (L.map (·.1)) := by
  subst hn
  have h' := h
  obtain ⟨cur, hg, hl, h1, h2, hx⟩ := h
  refine ⟨_, c, by rw [List.length_map], by rw [List.length_map]; exact h1, h2, by simp, fun hp => ?_⟩
  refine ⟨g, off, rfl, (Array.getElem?_eq_some_iff.1 hg).1, hok, fun k hk2 => ?_⟩
  rw [List.length_map] at hk2
  have hc := fun j (hj : j < 5) u (hu : (ecell L[k])[j]? = some u) => h'.cell (k * 5 + j) u (by unfold ecells; rw [flat_at ecell_len L k j hk2 hj]; exact hu)
  obtain ⟨hp1, hk1⟩ := hk _ (List.getElem_mem hk2)
  rw [List.getElem_map]
  exact ⟨L[k].2.1, L[k].2.2, ⟨hc 0 (by omega) _ rfl, by rw [Nat.add_assoc]; exact hc 1 (by omega) _ rfl, by rw [Nat.add_assoc]; exact hc 2 (by omega) _ rfl, by rw [Nat.add_assoc]; exact hc 3 (by omega) _ rfl, by rw [Nat.add_assoc]; exact hc 4 (by omega) _ rfl⟩, hp1, hk1⟩
theorem infoE5 : (Tryz.prog.info? 27).map (·.size) = some 5 := by kernel_rfl
abbrev ZE : Obj := .cells #[.string ⟨#[]⟩, .string ⟨#[]⟩, .slice none 0 0, .slice none 0 0, .string ⟨#[]⟩] 27
/-- Blocks that neither the two boxes nor the row are. -/
def okC (ok : Nat → Prop) (B g : Nat) : Nat → Prop := fun b => ok b ∧ b ≠ B ∧ b ≠ B + 1 ∧ b ≠ g
/-- While the kids are copied. -/
def ClI (ok : Nat → Prop) (w : World) (S1 S2 S3 : ByteArray) (p1 : Option Addr) (N c1 g off M c2 d : Nat) (la : List PT) (lk : List ET) (wr : World) : Prop :=
  ∃ L : List EV, L.map (·.1) = lk ∧ Own1 wr g off 27 M 5 c2 (ecells L) ∧ KidsV (okC ok w.heap.size g) wr d L ∧ wr.heap[w.heap.size]? = some (.cells #[.string S1, .string S2, .slice p1 N c1, .slice (some ⟨g, off, none⟩) M c2, .string S3] 27 (0, 0)) ∧ wr.heap[w.heap.size + 1]? = some ZE ∧ PairsR (okC ok w.heap.size g) wr (.slice p1 N c1) la ∧ Below w.heap.size w wr ∧ w.heap.size + 2 ≤ g
theorem ClI.put {ok : Nat → Prop} {w wr w3 : World} {S1 S2 S3 : ByteArray} {p1 : Option Addr} {N c1 g off M c2 d : Nat} {la : List PT} {lk : List ET} (h : ClI ok w S1 S2 S3 p1 N c1 g off M c2 d la lk wr) (hb3 : Below wr.heap.size wr w3) {k : Nat} {x : ET} (hk : k < lk.length) (hx : lk[k] = x) {av kv : Value} (hE : PairsR (okC ok w.heap.size g) w3 av x.attrs ∧ KidsD (okC ok w.heap.size g) w3 d kv x.kids) :
    ClI ok w S1 S2 S3 p1 N c1 g off M c2 d la lk (putE w3 g (off + k * 5) (.string x.space) (.string x.name) av kv (.string x.text)) := by
  obtain ⟨L, hL, hown, hLV, hx0, hx1, hp, hb, hg⟩ := h
  have hLl : L.length = lk.length := by rw [← hL, List.length_map]
  have hc := putE_chg w3 g (off + k * 5) (.string x.space) (.string x.name) av kv (.string x.text)
  obtain ⟨cur, hgl, _⟩ := id hown
  have hglt := (Array.getElem?_eq_some_iff.1 hgl).1
  have hkeep : ∀ b, okC ok w.heap.size g b → b < w3.heap.size → (putE w3 g (off + k * 5) (.string x.space) (.string x.name) av kv (.string x.text)).heap[b]? = w3.heap[b]? ∧ okC ok w.heap.size g b := fun b ho hl => ⟨hc.block b hl (by simpa using ho.2.2.2), ho⟩
  have hblk : ∀ b, b < wr.heap.size → b ≠ g → (putE w3 g (off + k * 5) (.string x.space) (.string x.name) av kv (.string x.text)).heap[b]? = wr.heap[b]? := fun b hl hn => (hc.block b (Nat.lt_of_lt_of_le hl hb3.size) (by simpa using hn)).trans (hb3.block b hl)
  refine ⟨L.set k (x, av, kv), ?_, (hown.keep (hb3.block g hglt)).put k (by omega) (x, av, kv), ?_, (hblk _ (Array.getElem?_eq_some_iff.1 hx0).1 (by omega)).trans hx0, (hblk _ (Array.getElem?_eq_some_iff.1 hx1).1 (by omega)).trans hx1, (hp.below hb3).keep hc.size hkeep, ?_, hg⟩
  · rw [List.map_set, hL, ← hx]
    exact List.set_getElem_self ..
  · intro y hy
    rcases List.mem_or_eq_of_mem_set hy with h1 | rfl
    · have := (hLV.below hb3).keep hc.size hkeep
      exact this y h1
    · exact ⟨hE.1.keep hc.size hkeep, hE.2.keep hc.size hkeep⟩
  · exact ((Chg.of_below (S := []) (hb.trans (hb3.mono hb.size))).then hc (fun i hi => by simp at hi; subst hi; exact .inr (by omega))).below (Nat.le_refl _) (by simp)
def okB (ok : Nat → Prop) (B : Nat) : Nat → Prop := fun b => ok b ∧ b ≠ B ∧ b ≠ B + 1
/-- A copy is handed out. -/
theorem clone_end {ok : Nat → Prop} {w wr : World} {d : Nat} {S1 S2 S3 : ByteArray} {p1 p2 : Option Addr} {N c1 M c2 : Nat} {lp : List PT} {lk : List ET} (hx1 : wr.heap[w.heap.size + 1]? = some ZE) (hp : PairsR (okB ok w.heap.size) wr (.slice p1 N c1) lp) (hk : KidsD (okB ok w.heap.size) wr d (.slice p2 M c2) lk) (hb : Below w.heap.size w wr) :
    (put5 wr (w.heap.size + 1) (.string S1) (.string S2) (.slice p1 N c1) (.slice p2 M c2) (.string S3)).heap[w.heap.size + 1]? = some (.cells #[.string S1, .string S2, .slice p1 N c1, .slice p2 M c2, .string S3] 27 (0, 0)) ∧
    ElemD ok (put5 wr (w.heap.size + 1) (.string S1) (.string S2) (.slice p1 N c1) (.slice p2 M c2) (.string S3)) d (.agg #[.string S1, .string S2, .slice p1 N c1, .slice p2 M c2, .string S3]) (.mk S1 S2 lp lk S3) ∧
    Below w.heap.size w (put5 wr (w.heap.size + 1) (.string S1) (.string S2) (.slice p1 N c1) (.slice p2 M c2) (.string S3)) := by
  have hc := put5_chg wr (w.heap.size + 1) (.string S1) (.string S2) (.slice p1 N c1) (.slice p2 M c2) (.string S3)
  have hk1 : ∀ b, okB ok w.heap.size b → b < wr.heap.size → (put5 wr (w.heap.size + 1) (.string S1) (.string S2) (.slice p1 N c1) (.slice p2 M c2) (.string S3)).heap[b]? = wr.heap[b]? ∧ ok b := fun b ho hl => ⟨hc.block b hl (by simpa using ho.2.2), ho.1⟩
  refine ⟨put5_at hx1 _ _ _ _ _, ⟨_, _, rfl, hp.keep hc.size hk1, hk.keep hc.size hk1⟩, ?_⟩
  exact ((Chg.of_below (S := []) hb).then hc (fun i hi => by simp at hi; subst hi; exact .inr (by omega))).below (Nat.le_refl _) (by simp)

end Go.Proofs.YtpcajjbdlfookaaGreatDoor

/- xmltree: an element's beginning, of a tag without attributes and without a prefix, where nothing is declared. -/
namespace Go.Proofs.YtpcajjbdlfookaaGreatDoor
open Go Go.RowKit Go.Deep Go.Shelf
set_option linter.unusedVariables false
set_option linter.unusedSimpArgs false

set_option maxRecDepth 100000 in
set_option maxHeartbeats 2000000 in
theorem space0_c {w0 w : World} {pb : Nat} {p : Option Addr} {n c a : Nat} (h : PS w0 pb (.slice p n c) (.slice none 0 0) a w) (k0 t0 m0 x0 f0 s : Value) :
    Calls Tryz.prog 91 #[.pointer (some ⟨pb, 0, none⟩), .agg #[k0, t0, s, m0, x0, f0], .string ⟨#[]⟩] w fun e w' => e = .returned (.string ⟨#[]⟩) ∧ Below w.heap.size w w' := by
  have hpl := h.lt
  obtain ⟨y0, y1, y2, yz⟩ := cellsP3 h.box
  have HB := Lib.hid (box_belT w (.cells #[k0, t0, s, m0, x0, f0] 69))
  clear h
  go_enter Tryz.func91, Tryz.ntmps91
  go_wp2_with fail
  refine wp_loop_rounds 1 ?_
  rw [rounds_succ]
  go_wp2_with fail
  go_ret
  exact ⟨rfl, HB.out⟩
theorem twE_false {P : Prop} {e : Ending} (h : TwE P e) (hn : ¬ P) : e = .returned (.bool false) := by
  rcases h with ⟨h1, _⟩ | ⟨_, h2⟩
  · exact absurd h1 hn
  · exact h2
set_option maxRecDepth 100000 in
set_option maxHeartbeats 4000000 in
theorem begin0_c {w0 w : World} {pb : Nat} {p : Option Addr} {n c a : Nat} (h : PS w0 pb (.slice p n c) (.slice none 0 0) a w) (k0 m0 x0 f0 s : Value) (nm : List UInt8) (hnm : (58 : UInt8) ∉ nm) (hnl : nm.length ≤ 1048576) (hs : AtsIs w s []) :
    Calls Tryz.prog 61 #[.pointer (some ⟨pb, 0, none⟩), .agg #[k0, .string ⟨nm.toArray⟩, s, m0, x0, f0]] w fun e w' => e = .returned (.agg #[.string ⟨#[]⟩, .string ⟨nm.toArray⟩, .slice none 0 0, .slice none 0 0, .string ⟨#[]⟩]) ∧ Below w.heap.size w w' := by
  obtain ⟨ps, cs, hsv, -⟩ := hs.form
  subst hsv
  obtain ⟨S, hS⟩ : ∃ S : ByteArray, S = ⟨nm.toArray⟩ := ⟨_, rfl⟩
  have hSd : S.data.toList = nm := by rw [hS]
  have hSs : S.size ≤ 140737488355328 := by
    have : S.data.toList.length = S.size := Array.length_toList
    rw [hSd] at this
    omega
  have HSP := Lib.hid (fun W => split_c W S hSs)
  rw [hSd, show splM nm = ([], nm) from if_neg hnm] at HSP
  dsimp only at HSP
  rw [← hS] at HSP ⊢
  have hb1 := box_belT w (.cells #[k0, .string S, .slice ps 0 cs, m0, x0, f0] 69)
  have hb2 := hb1.trans ((box_belT (w.alloc (.cells #[k0, .string S, .slice ps 0 cs, m0, x0, f0] 69)) ZE).mono hb1.size)
  obtain ⟨W0, hW0⟩ : ∃ W0, W0 = (w.alloc (.cells #[k0, .string S, .slice ps 0 cs, m0, x0, f0] 69)).alloc ZE := ⟨_, rfl⟩
  have ht0 : W0.heap[w.heap.size]? = some (.cells #[k0, .string S, .slice ps 0 cs, m0, x0, f0] 69 (0, 0)) := hW0 ▸ ((box_belT _ ZE).block _ (by simp)).trans (heap_alloc_new w _)
  have hz0 : W0.heap[w.heap.size + 1]? = some ZE := by
    have := heap_alloc_new (w.alloc (.cells #[k0, .string S, .slice ps 0 cs, m0, x0, f0] 69)) ZE
    rw [World.size_alloc] at this
    rw [hW0]
    exact this
  rw [← hW0] at hb2
  have hsz0 : W0.heap.size = w.heap.size + 2 := by rw [hW0]; simp
  have HSZ0 := Lib.hid hsz0
  have HT0 := Lib.hid ht0
  have HZ0 := Lib.hid hz0
  have HB2 := Lib.hid hb2
  have HS := Lib.hid hs
  have HP := Lib.hid h
  have HWR := Lib.hid (fun (W : World) (hb : Below W0.heap.size W0 W) => written_c W k0 (.string S) m0 x0 f0 (.slice ps 0 cs) [] (hs.below (hb2.trans (hb.mono hb2.size))) (by simp))
  have HW0 := Lib.hid hW0
  obtain ⟨t0, t1, t2, t3, t4, t5, tz⟩ := cellsE6 ht0
  clear hS hSd hSs hb1 hb2 ht0 hz0 hs h hW0 hsz0
  go_enter Tryz.func61, Tryz.ntmps61
  go_wp2_with fail
  rw [← HW0.out]
  refine (HWR.out _ (Below.refl _ _)).mono ?_
  rintro e w1 ⟨v1, rfl, hown1, hb1⟩
  have hrd := RdS.ofRow (l := []) hown1
  clear t0 t1 t2 t3 t4 t5 tz
  obtain ⟨a1, c1, hv1, -⟩ := id hrd
  have HTW := Lib.hid (twiceS_c w1 v1 [] hrd)
  have HB1 := Lib.hid hb1
  clear hown1 hb1 hrd
  subst hv1
  go_wp2_with fail
  refine HTW.out.mono ?_
  rintro e w2 ⟨htw, hb2⟩
  obtain rfl := twE_false htw (by simp)
  have HB02 := Lib.hid (HB1.out.trans (hb2.mono HB1.out.size))
  obtain ⟨t0, t1, t2, t3, t4, t5, tz⟩ := cellsE6 ((HB02.out.block w.heap.size (by have := HSZ0.out; omega)).trans HT0.out)
  clear htw hb2
  go_wp2_with fail
  refine wp_loop_rounds 1 ?_
  rw [rounds_succ]
  go_wp2_with fail
  refine (HSP.out _).mono ?_
  rintro e w3 ⟨rfl, hb3⟩
  have HB03 := Lib.hid (HB02.out.trans (hb3.mono HB02.out.size))
  have HSC := Lib.hid (space0_c (HP.out.below (HB2.out.trans (HB03.out.mono HB2.out.size))) k0 (.string S) m0 x0 f0 (.slice ps 0 cs))
  clear hb3 t0 t1 t2 t3 t4 t5 tz
  obtain ⟨t0, t1, t2, t3, t4, t5, tz⟩ := cellsE6 ((HB03.out.block w.heap.size (by have := HSZ0.out; omega)).trans HT0.out)
  go_wp2_with fail
  refine HSC.out.mono ?_
  rintro e w4 ⟨rfl, hb4⟩
  have HB04 := Lib.hid (HB03.out.trans (hb4.mono HB03.out.size))
  clear hb4 t0 t1 t2 t3 t4 t5 tz
  obtain ⟨t0, t1, t2, t3, t4, t5, tz⟩ := cellsE6 ((HB04.out.block w.heap.size (by have := HSZ0.out; omega)).trans HT0.out)
  have hlt4 : w.heap.size < w4.heap.size := by have := HB04.out.size; have := HSZ0.out; omega
  have hbe := box_belT w4 (.cells #[.string ⟨#[]⟩, .string S, .slice none 0 0, .slice none 0 0, .string ⟨#[]⟩] 27)
  have HE0 := Lib.hid (heap_alloc_new w4 (.cells #[.string ⟨#[]⟩, .string S, .slice none 0 0, .slice none 0 0, .string ⟨#[]⟩] 27))
  have HBE := Lib.hid hbe
  obtain ⟨r0, r1, r2, r3, r4, rz⟩ := cellsE5 HE0.out
  have HKY := Lib.hid (keys_c (w4.alloc (.cells #[.string ⟨#[]⟩, .string S, .slice none 0 0, .slice none 0 0, .string ⟨#[]⟩] 27)) _ [] (PairsR.nil Any _) (by simp))
  clear hbe
  go_wp2_with fail
  refine wp_loop_rounds 1 ?_
  rw [rounds_succ]
  go_wp2_with fail
  refine HKY.out.mono ?_
  rintro e w5 ⟨v5, rfl, hown5, hb5⟩
  have hrd := RdK.ofRow (l := []) hown5
  obtain ⟨a5, c5, hv5, -⟩ := id hrd
  have HTK := Lib.hid (twiceK_c w5 v5 [] hrd)
  have HB5 := Lib.hid hb5
  clear hown5 hb5 hrd t0 t1 t2 t3 t4 t5 tz r0 r1 r2 r3 r4 rz
  subst hv5
  go_wp2_with fail
  refine HTK.out.mono ?_
  rintro e w6 ⟨htw, hb6⟩
  obtain rfl := twE_false htw (by simp)
  have HB6 := Lib.hid (HB5.out.trans (hb6.mono HB5.out.size))
  have HB06 := Lib.hid (HB04.out.trans ((HBE.out.trans (HB6.out.mono HBE.out.size)).mono HB04.out.size))
  obtain ⟨r0, r1, r2, r3, r4, rz⟩ := cellsE5 ((HB6.out.block w4.heap.size (by simp)).trans HE0.out)
  have hz6 := (HB06.out.block (w.heap.size + 1) (by have := HSZ0.out; omega)).trans HZ0.out
  obtain ⟨z0, z1, z2, z3, z4, zz⟩ := cellsE5 hz6
  have HEND := Lib.hid (put5_at hz6 (.string ⟨#[]⟩) (.string S) (.slice none 0 0) (.slice none 0 0) (.string ⟨#[]⟩))
  have HBN := Lib.hid ((put5_chg w6 (w.heap.size + 1) (.string ⟨#[]⟩) (.string S) (.slice none 0 0) (.slice none 0 0) (.string ⟨#[]⟩)))
  clear htw hb6 hz6
  go_wp2_with fail
  refine bodyPost_ret (results_cell_row Tryz.results61 _ _ (w.heap.size + 1) 27 _ (0, 0) _ rfl HEND.out Tryz.underlying27 rfl infoE5) rfl ?_
  exact ⟨rfl, ((Chg.of_below (S := []) (HB2.out.trans (HB06.out.mono HB2.out.size))).then HBN.out (fun i hi => by simp at hi; subst hi; exact .inr (by omega))).below (Nat.le_refl _) (by simp)⟩
end Go.Proofs.YtpcajjbdlfookaaGreatDoor

/- xmltree: pair. -/
namespace Go.Proofs.YtpcajjbdlfookaaGreatDoor
open Go Go.RowKit Go.Deep Go.Shelf
set_option linter.unusedVariables false
set_option linter.unusedSimpArgs false

theorem infoPr3 : (Tryz.prog.info? 58).map (·.size) = some 3 := by kernel_rfl
abbrev put3 (w : World) (b : Nat) (c0 c1 c2 : Value) : World := ((w.setCell ⟨b, 0, none⟩ c0).setCell ⟨b, 1, none⟩ c1).setCell ⟨b, 2, none⟩ c2
theorem put3_at {w : World} {b : Nat} {z0 z1 z2 : Value} {T : TypeId} (h : w.heap[b]? = some (.cells #[z0, z1, z2] T (0, 0))) (c0 c1 c2 : Value) : (put3 w b c0 c1 c2).heap[b]? = some (.cells #[c0, c1, c2] T (0, 0)) := by
  have h0 : (w.setCell ⟨b, 0, none⟩ c0).heap[b]? = some (.cells #[c0, z1, z2] T (0, 0)) := by rw [block_set _ _ _ _ _ _ _ h]; rfl
  have h1 : ((w.setCell ⟨b, 0, none⟩ c0).setCell ⟨b, 1, none⟩ c1).heap[b]? = some (.cells #[c0, c1, z2] T (0, 0)) := by rw [block_set _ _ _ _ _ _ _ h0]; rfl
  rw [block_set _ _ _ _ _ _ _ h1]; rfl
theorem put3_below {B : Nat} {w0 w : World} {b : Nat} (h : Below B w0 w) (hb : B ≤ b) (c0 c1 c2 : Value) : Below B w0 (put3 w b c0 c1 c2) := ((h.setCell (p := ⟨b, 0, none⟩) hb _).setCell (p := ⟨b, 1, none⟩) hb _).setCell (p := ⟨b, 2, none⟩) hb _
theorem cells3v {w : World} {b : Nat} {c0 c1 c2 : Value} {T : TypeId} (h : w.heap[b]? = some (.cells #[c0, c1, c2] T (0, 0))) : w.cell? ⟨b, 0, none⟩ = some c0 ∧ w.cell? ⟨b, 1, none⟩ = some c1 ∧ w.cell? ⟨b, 2, none⟩ = some c2 ∧ (∀ o, w.frozen? ⟨b, o, none⟩ = false) := by
  refine ⟨?_, ?_, ?_, fun o => ?_⟩ <;> simp [World.cell?, World.frozen?, h]
abbrev ptV (p : PT) : Value := .agg #[.string p.1, .string p.2.1, .string p.2.2]
def PairE (w : World) (q : Nat) (R : Option PT) (e : Ending) (w' : World) : Prop := (match R with
  | none => Boom6 q 16 e
  | some p => e = .returned (ptV p)) ∧ Below w.heap.size w w'
abbrev ZPr : Obj := .cells #[.string ⟨#[]⟩, .string ⟨#[]⟩, .string ⟨#[]⟩] 58
set_option maxRecDepth 100000 in
set_option maxHeartbeats 4000000 in
theorem pair_c {w0 w : World} {pb : Nat} {bv sv : Value} {L : BS} {a : Nat} (h : PX w0 pb bv sv L a w) (hL : L.length ≤ 1000000) (k0 t0 s m0 x0 : Value) (q : Nat) (A1 A2 : ByteArray) (hA : A1.size ≤ 140737488355328) :
    Calls Tryz.prog 92 #[.pointer (some ⟨pb, 0, none⟩), .agg #[k0, t0, s, m0, x0, .int .i64 (q : Nat)], .agg #[.string A1, .string A2]] w (PairE w q (pairM L (A1.data.toList, A2.data.toList))) := by
  obtain ⟨W3, hW3⟩ : ∃ W3, W3 = ((w.alloc (.cells #[k0, t0, s, m0, x0, .int .i64 (q : Nat)] 69)).alloc (.cells #[.string A1, .string A2] 114)).alloc ZPr := ⟨_, rfl⟩
  have hb3 : Below w.heap.size w W3 := hW3 ▸ ((box_belT w _).trans ((box_belT _ _).mono (by simp))).trans ((box_belT _ _).mono (by simp; omega))
  have ht : W3.heap[w.heap.size]? = some (.cells #[k0, t0, s, m0, x0, .int .i64 (q : Nat)] 69 (0, 0)) := hW3 ▸ ((box_belT _ ZPr).block _ (by simp; omega)).trans (((box_belT _ _).block _ (by simp)).trans (heap_alloc_new w _))
  have ha : W3.heap[w.heap.size + 1]? = some (.cells #[.string A1, .string A2] 114 (0, 0)) := by
    have h1 := heap_alloc_new (w.alloc (.cells #[k0, t0, s, m0, x0, .int .i64 (q : Nat)] 69)) (.cells #[.string A1, .string A2] 114)
    rw [World.size_alloc] at h1
    exact hW3 ▸ ((box_belT _ ZPr).block _ (by simp)).trans h1
  have hr : W3.heap[w.heap.size + 1 + 1]? = some (.cells #[.string ⟨#[]⟩, .string ⟨#[]⟩, .string ⟨#[]⟩] 58 (0, 0)) := by
    have h1 := heap_alloc_new ((w.alloc (.cells #[k0, t0, s, m0, x0, .int .i64 (q : Nat)] 69)).alloc (.cells #[.string A1, .string A2] 114)) ZPr
    rw [World.size_alloc, World.size_alloc] at h1
    exact hW3 ▸ h1
  have HB3 := Lib.hid hb3
  have HT := Lib.hid ht
  have HA := Lib.hid ha
  have HR := Lib.hid hr
  have HSP := Lib.hid (split_c W3 A1 hA)
  obtain ⟨P, hP⟩ : ∃ P : ByteArray, P = ⟨(splM A1.data.toList).1.toArray⟩ := ⟨_, rfl⟩
  obtain ⟨U, hU⟩ : ∃ U : ByteArray, U = ⟨(splM A1.data.toList).2.toArray⟩ := ⟨_, rfl⟩
  rw [← hP, ← hU] at HSP
  have hPd : P.data.toList = (splM A1.data.toList).1 := by rw [hP]
  have eP : P.toList = P.data.toList := ByteArray.toList_eq _
  have HSC := Lib.hid (fun (W : World) (hb : Below w.heap.size w W) => space_c' (h.below hb) hL k0 t0 s m0 x0 q P)
  rw [hPd] at HSC
  unfold PairE
  by_cases hp : (splM A1.data.toList).1 = []
  · have t1 : P.toList.isEmpty = true := by rw [eP, hPd, hp]; rfl
    have HE := Lib.hid (show pairM L (A1.data.toList, A2.data.toList) = some (⟨#[]⟩, U, A2) from by
      unfold pairM
      rw [if_pos hp, hU]
      simp only [ba_data]
      rfl)
    clear h hb3 ht ha hr hP hU hPd eP HSC hp
    rw [HE.out]
    subst hW3
    go_enter Tryz.func92, Tryz.ntmps92
    go_wp2_with fail
    refine (HSP.out).mono ?_
    rintro e w1 ⟨rfl, hb⟩
    have HB1 := Lib.hid (HB3.out.trans (hb.mono HB3.out.size))
    have ha1 := (hb.block _ (Array.getElem?_eq_some_iff.1 HA.out).1).trans HA.out
    have hr1 := (hb.block _ (Array.getElem?_eq_some_iff.1 HR.out).1).trans HR.out
    obtain ⟨a0, a1, az⟩ := cells2 ha1
    obtain ⟨r0, r1, r2, rz⟩ := cells3v hr1
    have HR1 := Lib.hid hr1
    clear hb ha1 hr1
    go_wp2_with fail
    refine bodyPost_ret (results_cell_row Tryz.results92 _ _ (w.heap.size + 1 + 1) 58 _ (0, 0) _ rfl (put3_at HR1.out (.string ⟨#[]⟩) (.string U) (.string A2)) Tryz.underlying58 rfl infoPr3) rfl ?_
    exact ⟨rfl, put3_below HB1.out (by omega) _ _ _⟩
  · have t1 : P.toList.isEmpty = false := by rw [eP, hPd, ← Bool.not_eq_true, List.isEmpty_iff]; exact hp
    obtain ⟨R, hR⟩ : ∃ R, spcM L (splM A1.data.toList).1 = R := ⟨_, rfl⟩
    have HE := Lib.hid (show pairM L (A1.data.toList, A2.data.toList) = R.map (fun s => (ba s, U, A2)) from by
      unfold pairM
      rw [if_neg hp, hR, hU]
      cases R with
      | none => rfl
      | some r => simp only [ba_data, Option.map]; rfl)
    rw [hR] at HSC
    clear h hb3 ht ha hr hP hU hPd eP hp hR
    subst hW3
    cases R with
    | none =>
      rw [show pairM L (A1.data.toList, A2.data.toList) = none from HE.out]
      go_enter Tryz.func92, Tryz.ntmps92
      go_wp2_with fail
      refine (HSP.out).mono ?_
      rintro e w1 ⟨rfl, hb⟩
      have HB1 := Lib.hid (HB3.out.trans (hb.mono HB3.out.size))
      have ht1 := (hb.block _ (Array.getElem?_eq_some_iff.1 HT.out).1).trans HT.out
      have ha1 := (hb.block _ (Array.getElem?_eq_some_iff.1 HA.out).1).trans HA.out
      obtain ⟨a0, a1, az⟩ := cells2 ha1
      obtain ⟨u0, u1, u2, u3, u4, u5, uz⟩ := cellsE6 ht1
      clear hb ha1 ht1
      go_wp2_with fail
      go_region_dies
      all_goals
        refine (HSC.out _ (by first | exact HB1.out | exact HB1.out.drew | exact HB1.out.drew.drew | exact Go.below_drewN HB1.out _)).mono ?_
        rintro e w2 ⟨he, hb⟩
        have hb' : Below w1.heap.size w1 w2 := by first | exact hb | exact ((Below.refl _ _).drew).trans hb | exact (Go.below_drewN (Below.refl _ _) _).trans hb
        dsimp only at he
        unfold Boom6 at he
        subst he
        exact ⟨rfl, rfl, HB1.out.trans (hb'.mono HB1.out.size)⟩
    | some r =>
      rw [show pairM L (A1.data.toList, A2.data.toList) = some (ba r, U, A2) from HE.out]
      go_enter Tryz.func92, Tryz.ntmps92
      go_wp2_with fail
      refine (HSP.out).mono ?_
      rintro e w1 ⟨rfl, hb⟩
      have HB1 := Lib.hid (HB3.out.trans (hb.mono HB3.out.size))
      have ht1 := (hb.block _ (Array.getElem?_eq_some_iff.1 HT.out).1).trans HT.out
      have ha1 := (hb.block _ (Array.getElem?_eq_some_iff.1 HA.out).1).trans HA.out
      have hr1 := (hb.block _ (Array.getElem?_eq_some_iff.1 HR.out).1).trans HR.out
      obtain ⟨a0, a1, az⟩ := cells2 ha1
      obtain ⟨u0, u1, u2, u3, u4, u5, uz⟩ := cellsE6 ht1
      have HA1 := Lib.hid ha1
      have HR1 := Lib.hid hr1
      obtain ⟨S, hS⟩ : ∃ S, S = ba r := ⟨_, rfl⟩
      have HS := Lib.hid hS
      clear hb ha1 ht1 hr1 hS
      go_wp2_with fail
      go_region_with (go_at_call 91; refine (HSC.out _ (by first | exact HB1.out | exact HB1.out.drew | exact HB1.out.drew.drew | exact Go.below_drewN HB1.out _)).mono ?_; rintro e w2 ⟨he, hb⟩; have hb' : Below w1.heap.size w1 w2 := (by first | exact hb | exact ((Below.refl _ _).drew).trans hb | exact (Go.below_drewN (Below.refl _ _) _).trans hb); dsimp only at he; rw [← HS.out] at he; subst he; have HB2 := Lib.hid (HB1.out.trans (hb'.mono HB1.out.size)); have hr2 := (hb'.block _ (Array.getElem?_eq_some_iff.1 HR1.out).1).trans HR1.out; obtain ⟨d0, d1, dz⟩ := cells2 ((hb'.block _ (Array.getElem?_eq_some_iff.1 HA1.out).1).trans HA1.out); obtain ⟨r0, r1, r2, rz⟩ := cells3v hr2; have HR2 := Lib.hid hr2; clear hb hb' hr2)
      all_goals
        go_wp2_with fail
        refine bodyPost_ret (results_cell_row Tryz.results92 _ _ (w.heap.size + 1 + 1) 58 _ (0, 0) _ rfl (put3_at HR2.out (.string S) (.string U) (.string A2)) Tryz.underlying58 rfl infoPr3) rfl ?_
        exact ⟨by rw [HS.out], put3_below HB2.out (by omega) _ _ _⟩
end Go.Proofs.YtpcajjbdlfookaaGreatDoor
