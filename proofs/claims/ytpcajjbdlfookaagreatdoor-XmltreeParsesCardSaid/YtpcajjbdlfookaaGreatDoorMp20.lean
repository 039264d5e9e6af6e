/- xmltree: whether an element can be written: the program. -/
import Derived.Test.YtpcajjbdlfookaaGreatDoorMp12
namespace Go.Proofs.YtpcajjbdlfookaaGreatDoor
open Go Go.RowKit Go.Deep
set_option linter.unusedVariables false
set_option linter.unusedSimpArgs false

/-- The cells of a box that was laid. -/
theorem box5 {w wr : World} {c0 c1 c2 c3 c4 : Value} {T : TypeId} (hb : Below (w.alloc (.cells #[c0, c1, c2, c3, c4] T)).heap.size (w.alloc (.cells #[c0, c1, c2, c3, c4] T)) wr) :
    wr.cell? ⟨w.heap.size, 0, none⟩ = some c0 ∧ wr.cell? ⟨w.heap.size, 1, none⟩ = some c1 ∧ wr.cell? ⟨w.heap.size, 2, none⟩ = some c2 ∧ wr.cell? ⟨w.heap.size, 3, none⟩ = some c3 ∧ wr.cell? ⟨w.heap.size, 4, none⟩ = some c4 ∧ (∀ o, wr.frozen? ⟨w.heap.size, o, none⟩ = false) := by
  have h : wr.heap[w.heap.size]? = some (.cells #[c0, c1, c2, c3, c4] T (0, 0)) := (hb.block _ (by simp)).trans (heap_alloc_new w _)
  refine ⟨?_, ?_, ?_, ?_, ?_, fun o => ?_⟩ <;> simp [World.cell?, World.frozen?, h]
theorem box5b {w wr : World} {b : Nat} {c0 c1 c2 c3 c4 : Value} {T : TypeId} (h0 : w.heap[b]? = some (.cells #[c0, c1, c2, c3, c4] T (0, 0))) (hb : Below w.heap.size w wr) :
    wr.cell? ⟨b, 0, none⟩ = some c0 ∧ wr.cell? ⟨b, 1, none⟩ = some c1 ∧ wr.cell? ⟨b, 2, none⟩ = some c2 ∧ wr.cell? ⟨b, 3, none⟩ = some c3 ∧ wr.cell? ⟨b, 4, none⟩ = some c4 ∧ (∀ o, wr.frozen? ⟨b, o, none⟩ = false) := by
  have h : wr.heap[b]? = some (.cells #[c0, c1, c2, c3, c4] T (0, 0)) := (hb.block _ (Array.getElem?_eq_some_iff.1 h0).1).trans h0
  refine ⟨?_, ?_, ?_, ?_, ?_, fun o => ?_⟩ <;> simp [World.cell?, World.frozen?, h]
theorem kcells_eq (l : List PT) : kcells l = (keysL l).flatMap fun p => [Value.string p.1, Value.string p.2] := by
  unfold kcells keysL
  rw [List.flatMap_map]
theorem all_next {α : Type} {l : List α} {p : α → Bool} {k : Nat} (h : k < l.length) (ht : (l.take k).all p = true) (hb : p l[k] = true) : (l.take (k + 1)).all p = true := by
  rw [List.take_succ_eq_append_getElem h, List.all_append, ht, List.all_cons, List.all_nil, hb]
  rfl
theorem all_bad {α : Type} {l : List α} {p : α → Bool} {k : Nat} (h : k < l.length) (hb : p l[k] = false) : l.all p = false := by
  rw [← Bool.not_eq_true, List.all_eq_true]
  intro hall
  rw [hall _ (List.getElem_mem h)] at hb
  cases hb
theorem all_end {α : Type} {l : List α} {p : α → Bool} {k : Nat} (h : l.length ≤ k) (ht : (l.take k).all p = true) : l.all p = true := by
  rwa [List.take_of_length_le h] at ht

set_option maxRecDepth 100000 in
set_option maxHeartbeats 8000000 in
theorem writable_c (W0 : World) (hW0 : BW W0) : ∀ (D : Nat) (w : World) (v : Value) (t : ET) (dep : Nat), ElemD Any W0 D v t → smK D t → Below W0.heap.size W0 w → dep ≤ 24 →
    Calls Tryz.prog 26 #[v, .int .i64 dep] w fun e w' => e = .returned (.bool (canK (24 - dep) t)) ∧ Below w.heap.size w w' := by
  intro D
  induction D with
  | zero => rintro w v t dep ⟨av, kv, _, _, h⟩; exact h.elim
  | succ D ih =>
    intro w v t dep h hsm hb0 hdep
    have HIH := Lib.hid ih
    have HW := Lib.hid hW0
    obtain ⟨av, kv, rfl, hpr, hkd⟩ := h
    obtain ⟨pa, ca, hav, hla0, hcm0⟩ := hpr.form
    obtain ⟨N, hN⟩ : ∃ N, N = t.attrs.length := ⟨_, rfl⟩
    rw [← hN] at hav
    subst hav
    rw [hN] at hpr
    obtain ⟨ka, kc, hkv, hlk0, hckm, -, hrows⟩ := hkd
    obtain ⟨M, hM⟩ : ∃ M, M = t.kids.length := ⟨_, rfl⟩
    rw [← hM] at hkv
    subst hkv
    rw [← hN] at hpr
    have HPR := Lib.hid hpr
    have HROW := Lib.hid hrows
    have HN := Lib.hid hN
    have HM := Lib.hid hM
    have hnM : M ≤ 9223372036854775807 := by unfold maxLen at hckm; omega
    have hnN : N ≤ 9223372036854775807 := by unfold maxLen at hcm0; omega
    obtain ⟨S1, hS1⟩ : ∃ S, S = t.space := ⟨_, rfl⟩
    obtain ⟨S2, hS2⟩ : ∃ S, S = t.name := ⟨_, rfl⟩
    obtain ⟨S3, hS3⟩ : ∃ S, S = t.text := ⟨_, rfl⟩
    rw [← hS1, ← hS2, ← hS3]
    obtain ⟨m1, m2, m3, m4, m5⟩ := hsm
    have HSA := Lib.hid m4
    have HSK := Lib.hid m5
    rw [← hS1] at m1
    rw [← hS2] at m2
    rw [← hS3] at m3
    obtain ⟨Z, hZ⟩ : ∃ Z, Z = w.alloc (.cells #[.string S1, .string S2, .slice pa N ca, .slice ka M kc, .string S3] 27) := ⟨_, rfl⟩
    have hwZ : Below w.heap.size w Z := hZ ▸ box_belT w _
    have HWZ := Lib.hid hwZ
    have H0Z := Lib.hid (hb0.trans (hwZ.mono hb0.size))
    have hb0' := H0Z.out
    have HNM := Lib.hid (fun (W : World) (hb : Below Z.heap.size Z W) => name_c W (hW0.below (hb0'.trans (hb.mono hb0'.size))).tab S2 (by omega))
    have HC1 := Lib.hid (fun (W : World) (hb : Below Z.heap.size Z W) => clean_c W (hW0.below (hb0'.trans (hb.mono hb0'.size))) S1 (by omega))
    have HC3 := Lib.hid (fun (W : World) (hb : Below Z.heap.size Z W) => clean_c W (hW0.below (hb0'.trans (hb.mono hb0'.size))) S3 (by omega))
    have HBL := Lib.hid (fun (W : World) => blank_c W S3 (by omega))
    have HKY := Lib.hid (fun (W : World) (hb : Below Z.heap.size Z W) (hx : t.attrs.length ≤ 1048576) => keys_c W _ _ (hpr.below (hb0'.trans (hb.mono hb0'.size))) hx)
    obtain ⟨qn, hqn⟩ : ∃ q, nameB S2.data.toList = q := ⟨_, rfl⟩
    obtain ⟨qs, hqs⟩ : ∃ q, cleanB S1 = q := ⟨_, rfl⟩
    obtain ⟨qt, hqt⟩ : ∃ q, cleanB S3 = q := ⟨_, rfl⟩
    obtain ⟨qb, hqb⟩ : ∃ q, blankB S3 = q := ⟨_, rfl⟩
    obtain ⟨b5, t5⟩ : ∃ b, (S1.toList == [104, 116, 116, 112, 58, 47, 47, 119, 119, 119, 46, 119, 51, 46, 111, 114, 103, 47, 88, 77, 76, 47, 49, 57, 57, 56, 47, 110, 97, 109, 101, 115, 112, 97, 99, 101]) = b := ⟨_, rfl⟩
    obtain ⟨b6, t6⟩ : ∃ b, (S1.toList == [104, 116, 116, 112, 58, 47, 47, 119, 119, 119, 46, 119, 51, 46, 111, 114, 103, 47, 50, 48, 48, 48, 47, 120, 109, 108, 110, 115, 47]) = b := ⟨_, rfl⟩
    obtain ⟨b7, t7⟩ : ∃ b, S3.toList.isEmpty = b := ⟨_, rfl⟩
    have HA := Lib.hid (show ∀ d, canK (d + 1) t = (decide (M ≤ 100) && decide (N ≤ 100) && qn && qs && qt && !b5 && !b6 && !(decide (0 < M) && !b7 && qb) && t.attrs.all attrB && decide ((keysL t.attrs).Nodup) && t.kids.all (canK d)) from by
      intro d
      unfold canK
      rw [← hS1, ← hS2, ← hS3, ← hM, ← hN, hqn, hqs, hqt, hqb, show (S1.toList == nsX) = b5 from t5, show (S1.toList == nsN) = b6 from t6, t7])
    rw [hqn] at HNM
    rw [hqs] at HC1
    rw [hqt] at HC3
    rw [hqb] at HBL
    have HB0 := Lib.hid (Below.refl Z.heap.size Z)
    clear ih hW0 hb0 hb0' hla0 hcm0 hlk0 hckm hrows hpr hN hM hS1 hS2 hS3 m1 m2 m3 m4 m5 hwZ hqn hqs hqt hqb
    obtain ⟨R, hR⟩ : ∃ R, canK (24 - dep) t = R := ⟨_, rfl⟩
    rw [hR]
    have HR := Lib.hid hR
    clear hR
    by_cases h24 : 24 ≤ dep
    · have hq : decide ((24 : Int) ≤ (dep : Int)) = true := decide_eq_true (by omega)
      have HE := Lib.hid (show R = false from by rw [← HR.out, show 24 - dep = 0 by omega]; rfl)
      subst hZ
      go_enter Tryz.func26, Tryz.ntmps26
      go_wp2_with fail
      go_ret
      exact ⟨by rw [HE.out]; rfl, HWZ.out⟩
    have hq : decide ((24 : Int) ≤ (dep : Int)) = false := decide_eq_false (by omega)
    obtain ⟨E, hE⟩ : ∃ E, E = 23 - dep := ⟨_, rfl⟩
    have HDE := Lib.hid (show dep + 1 ≤ 24 ∧ 24 - (dep + 1) = E from by omega)
    have HA2 := Lib.hid (HA.out E)
    rw [show E + 1 = 24 - dep by omega, HR.out] at HA2
    clear HA hE
    by_cases hk : 100 < M
    · have hqk : decide ((100 : Int) < (M : Int)) = true := decide_eq_true (by omega)
      have HE := Lib.hid (show R = false from by rw [HA2.out, show decide (M ≤ 100) = false from decide_eq_false (by omega)]; simp)
      subst hZ
      go_enter Tryz.func26, Tryz.ntmps26
      go_wp2_with fail
      go_ret
      exact ⟨by rw [HE.out]; rfl, HWZ.out⟩
    have hqk : decide ((100 : Int) < (M : Int)) = false := decide_eq_false (by omega)
    by_cases ha : 100 < N
    · have hqa : decide ((100 : Int) < (N : Int)) = true := decide_eq_true (by omega)
      have HE := Lib.hid (show R = false from by rw [HA2.out, show decide (N ≤ 100) = false from decide_eq_false (by omega)]; simp)
      subst hZ
      go_enter Tryz.func26, Tryz.ntmps26
      go_wp2_with fail
      go_ret
      exact ⟨by rw [HE.out]; rfl, HWZ.out⟩
    have hqa : decide ((100 : Int) < (N : Int)) = false := decide_eq_false (by omega)
    rw [show decide (M ≤ 100) = true from decide_eq_true (by omega), show decide (N ≤ 100) = true from decide_eq_true (by omega)] at HA2
    subst hZ
    go_enter Tryz.func26, Tryz.ntmps26
    go_wp2_with fail
    refine (HNM.out _ HB0.out).mono ?_
    rintro e w1 ⟨rfl, hb⟩
    have HB1 := Lib.hid hb
    obtain ⟨c0, c1, c2, c3, c4, cz⟩ := box5 hb
    clear hb
    cases qn
    · have HE := Lib.hid (show R = false from by rw [HA2.out]; simp)
      go_wp2_with fail
      go_ret
      exact ⟨by rw [HE.out]; rfl, HWZ.out.trans (HB1.out.mono HWZ.out.size)⟩
    go_wp2_with fail
    refine (HC1.out _ HB1.out).mono ?_
    rintro e w2 ⟨rfl, hb⟩
    have hb := HB1.out.trans (hb.mono HB1.out.size)
    have HB2 := Lib.hid hb
    clear c0 c1 c2 c3 c4 cz
    obtain ⟨c0, c1, c2, c3, c4, cz⟩ := box5 hb
    clear hb
    cases qs
    · have HE := Lib.hid (show R = false from by rw [HA2.out]; simp)
      go_wp2_with fail
      go_ret
      exact ⟨by rw [HE.out]; rfl, HWZ.out.trans (HB2.out.mono HWZ.out.size)⟩
    go_wp2_with fail
    refine (HC3.out _ HB2.out).mono ?_
    rintro e w3 ⟨rfl, hb⟩
    have hb := HB2.out.trans (hb.mono HB2.out.size)
    have HB3 := Lib.hid hb
    clear c0 c1 c2 c3 c4 cz
    obtain ⟨c0, c1, c2, c3, c4, cz⟩ := box5 hb
    clear hb
    cases qt
    · have HE := Lib.hid (show R = false from by rw [HA2.out]; simp)
      go_wp2_with fail
      go_ret
      exact ⟨by rw [HE.out]; rfl, HWZ.out.trans (HB3.out.mono HWZ.out.size)⟩
    cases b5
    rotate_left
    · have HE := Lib.hid (show R = false from by rw [HA2.out]; simp)
      go_wp2_with fail
      go_ret
      exact ⟨by rw [HE.out]; rfl, HWZ.out.trans (HB3.out.mono HWZ.out.size)⟩
    cases b6
    rotate_left
    · have HE := Lib.hid (show R = false from by rw [HA2.out]; simp)
      go_wp2_with fail
      go_ret
      exact ⟨by rw [HE.out]; rfl, HWZ.out.trans (HB3.out.mono HWZ.out.size)⟩
    -- REST
    have HX3 := Lib.hid ((HB3.out.block w.heap.size (by simp)).trans (heap_alloc_new w _))
    have HW3 := Lib.hid (HWZ.out.trans (HB3.out.mono HWZ.out.size))
    have H03 := Lib.hid (H0Z.out.trans (HB3.out.mono H0Z.out.size))
    by_cases hm0 : 0 < M
    · have hqm : decide ((0 : Int) < (M : Int)) = true := decide_eq_true (by omega)
      have hqm2 : decide (0 < M) = true := decide_eq_true hm0
      have HM0 := Lib.hid hqm2
      cases b7
      · go_wp2_with fail
        refine (HBL.out _).mono ?_
        rintro e w4 ⟨rfl, rfl⟩
        cases qb
        · have HTX := Lib.hid (show (!(decide (0 < M) && !false && false)) = true from by simp)
          go_wp2_with fail
          clear c0 c1 c2 c3 c4 cz
          go_loopw [66] (fun i wr => ∃ k : Nat, k ≤ N ∧ i = .int .i64 k ∧ Hid ((t.attrs.take k).all attrB = true) ∧ Below w3.heap.size w3 wr) (fun i _ => N - (intOf i).toNat)
          case atStart => exact ⟨0, by omega, rfl, Lib.hid (by simp), Below.refl _ _⟩
          case round =>
            obtain ⟨k, hk, rfl, HAL, hbr⟩ := hrel
            have HBR := Lib.hid hbr
            have HB0R := Lib.hid (H03.out.trans (hbr.mono H03.out.size))
            obtain ⟨c0, c1, c2, c3, c4, cz⟩ := box5b HX3.out hbr
            clear hbr
            by_cases hlt : k < N
            · have hkl : k < t.attrs.length := by rw [← HN.out]; exact hlt
              obtain ⟨b, o, cc, hv2, hbl, -, g0, g1, g2⟩ := HPR.out.at' hkl
              rw [← HN.out] at hv2
              cases hv2
              have e0 := (HB0R.out.cell (p := ⟨b, o + k * 3, none⟩) hbl).trans g0
              have e1 := (HB0R.out.cell (p := ⟨b, o + k * 3 + 1, none⟩) hbl).trans g1
              have e2 := (HB0R.out.cell (p := ⟨b, o + k * 3 + 2, none⟩) hbl).trans g2
              have HNX := Lib.hid (fun hb => all_next hkl HAL.out hb)
              have HBD := Lib.hid (fun hb => all_bad (p := attrB) hkl hb)
              have HSX := Lib.hid (HSA.out k hkl)
              generalize t.attrs[k] = x at *
              obtain ⟨u1, u2, u3⟩ := x
              dsimp only at e0 e1 e2
              clear g0 g1 g2 hkl
              have HWA := Lib.hid (fun (W : World) (hb : Below wr.heap.size wr W) => wattr_c W (HW.out.below (HB0R.out.trans (hb.mono HB0R.out.size))) u1 u2 u3 HSX.out)
              obtain ⟨q, hq1⟩ : ∃ q, attrB (u1, u2, u3) = q := ⟨_, rfl⟩
              rw [hq1] at HWA HNX HBD
              have HBA := Lib.hid (box_belT wr (.cells #[.string u1, .string u2, .string u3] 58))
              clear hq1
              go_wp2_with fail
              refine (HWA.out _ HBA.out).mono ?_
              rintro e w4 ⟨rfl, hb⟩
              have HB4 := Lib.hid (HBR.out.trans ((HBA.out.trans (hb.mono HBA.out.size)).mono HBR.out.size))
              clear hb e0 e1 e2 c0 c1 c2 c3 c4 cz
              cases q
              · have HE := Lib.hid (show R = false from by rw [HA2.out, HBD.out rfl]; simp)
                go_wp2_with fail
                go_ret
                exact ⟨by rw [HE.out]; rfl, HW3.out.trans (HB4.out.mono HW3.out.size)⟩
              · have HE := Lib.hid (HNX.out rfl)
                go_wp2_with fail
                go_roundw
                case rel => exact ⟨k + 1, by omega, by go_num, HE, HB4.out⟩
                case measure => simp [intOf]; omega
            · have HAT := Lib.hid (all_end (l := t.attrs) (p := attrB) (by rw [← HN.out]; omega) HAL.out)
              have HKY2 := Lib.hid (HKY.out wr (HB3.out.trans (HBR.out.mono HB3.out.size)) (by rw [← HN.out]; omega))
              go_wp2_with fail
              refine (HKY2.out).mono ?_
              rintro e w5 ⟨v5, rfl, hown5, hb⟩
              have HB5 := Lib.hid (HBR.out.trans (hb.mono HBR.out.size))
              have HRD := Lib.hid (RdK.ofRow (l := keysL t.attrs) (by rw [show (keysL t.attrs).length = t.attrs.length by simp [keysL], ← kcells_eq]; exact hown5))
              clear hb hown5 c0 c1 c2 c3 c4 cz
              go_wp2_with fail
              refine (twiceK_c _ _ _ HRD.out).mono ?_
              rintro e w6 ⟨htw, hb⟩
              have hb := HB5.out.trans (hb.mono HB5.out.size)
              have HB6 := Lib.hid hb
              obtain ⟨c0, c1, c2, c3, c4, cz⟩ := box5b HX3.out hb
              clear hb
              rcases htw with ⟨hd, rfl⟩ | ⟨hd, rfl⟩
              · have HE := Lib.hid (show R = false from by rw [HA2.out, decide_eq_false hd]; simp)
                go_wp2_with fail
                go_ret
                exact ⟨by rw [HE.out]; rfl, HW3.out.trans (HB6.out.mono HW3.out.size)⟩
              have HND := Lib.hid (show decide ((keysL t.attrs).Nodup) = true from decide_eq_true (Classical.not_not.1 hd))
              clear hd
              go_wp2_with fail
              clear c0 c1 c2 c3 c4 cz
              go_loopw [81] (fun i wr => ∃ k : Nat, k ≤ M ∧ i = .int .i64 k ∧ Hid ((t.kids.take k).all (canK E) = true) ∧ Below w3.heap.size w3 wr) (fun i _ => M - (intOf i).toNat)
              case atStart => exact ⟨0, by omega, rfl, Lib.hid (by simp), HB6.out⟩
              case round =>
                obtain ⟨k, hk, rfl, HALK, hbr⟩ := hrel
                have HBR := Lib.hid hbr
                have HB0R := Lib.hid (H03.out.trans (hbr.mono H03.out.size))
                clear hbr
                by_cases hlt : k < M
                · obtain ⟨g, o, ha, hgl, -, hx⟩ := HROW.out (by rw [← HM.out]; omega)
                  have hkl : k < t.kids.length := by rw [← HM.out]; exact hlt
                  obtain ⟨av, kv, ⟨g0, g1, g2, g3, g4⟩, hpr, hkd⟩ := hx k hkl
                  subst ha
                  obtain ⟨ka, kc, hkv, -⟩ := hkd.form
                  obtain ⟨ra, rc, hrv, -⟩ := hpr.form
                  have HED := Lib.hid (show ElemD Any W0 D (.agg #[.string t.kids[k].space, .string t.kids[k].name, av, kv, .string t.kids[k].text]) t.kids[k] from ⟨av, kv, rfl, hpr, hkd⟩)
                  rw [hrv, hkv] at HED
                  rw [hkv] at g3
                  rw [hrv] at g2
                  have e0 := (HB0R.out.cell (p := ⟨g, o + k * 5, none⟩) hgl).trans g0
                  have e1 := (HB0R.out.cell (p := ⟨g, o + k * 5 + 1, none⟩) hgl).trans g1
                  have e2 := (HB0R.out.cell (p := ⟨g, o + k * 5 + 2, none⟩) hgl).trans g2
                  have e3 := (HB0R.out.cell (p := ⟨g, o + k * 5 + 3, none⟩) hgl).trans g3
                  have e4 := (HB0R.out.cell (p := ⟨g, o + k * 5 + 4, none⟩) hgl).trans g4
                  have HNX := Lib.hid (fun hb => all_next hkl HALK.out hb)
                  have HBD := Lib.hid (fun hb => all_bad (p := canK E) hkl hb)
                  have HSX := Lib.hid (HSK.out k hkl)
                  generalize t.kids[k] = x at *
                  obtain ⟨sp, nm, at2, ki, tx⟩ := x
                  dsimp only [ET.space, ET.name, ET.text, ET.attrs, ET.kids] at e0 e1 e2 e3 e4 HED
                  generalize hkn : ki.length = kn at *
                  generalize hrn : at2.length = rn at *
                  have HBA := Lib.hid (box_belT wr (.cells #[.string sp, .string nm, .slice ra rn rc, .slice ka kn kc, .string tx] 27))
                  obtain ⟨q, hq1⟩ : ∃ q, canK E (.mk sp nm at2 ki tx) = q := ⟨_, rfl⟩
                  have HREC := Lib.hid (HIH.out (wr.alloc (.cells #[.string sp, .string nm, .slice ra rn rc, .slice ka kn kc, .string tx] 27)) _ _ (dep + 1) HED.out HSX.out (HB0R.out.trans (HBA.out.mono HB0R.out.size)) HDE.out.1)
                  rw [show (((dep + 1 : Nat) : Int)) = (dep : Int) + 1 by omega, HDE.out.2, hq1] at HREC
                  rw [hq1] at HNX HBD
                  have hw1 : IntKind.i64.wrap ((dep : Int) + 1) = (dep : Int) + 1 := by rw [IntKind.wrap_i64]; omega
                  clear hx g0 g1 g2 g3 g4 hkd hpr hkv hrv hkn hrn hkl hq1
                  go_wp2_with fail
                  refine (HREC.out).mono ?_
                  rintro e w4 ⟨rfl, hb⟩
                  have HB4 := Lib.hid (HBR.out.trans ((HBA.out.trans (hb.mono HBA.out.size)).mono HBR.out.size))
                  clear hb e0 e1 e2 e3 e4
                  cases q
                  · have HE := Lib.hid (show R = false from by rw [HA2.out, HBD.out rfl]; simp)
                    go_wp2_with fail
                    go_ret
                    exact ⟨by rw [HE.out]; rfl, HW3.out.trans (HB4.out.mono HW3.out.size)⟩
                  · have HE := Lib.hid (HNX.out rfl)
                    go_wp2_with fail
                    go_roundw
                    case rel => exact ⟨k + 1, by omega, by go_num, HE, HB4.out⟩
                    case measure => simp [intOf]; omega
                · have HKT := Lib.hid (all_end (l := t.kids) (p := canK E) (by rw [← HM.out]; omega) HALK.out)
                  have HE := Lib.hid (show R = true from by rw [HA2.out, HAT.out, HND.out, HKT.out, HTX.out]; simp)
                  go_wp2_with fail
                  go_ret
                  exact ⟨by rw [HE.out]; rfl, HW3.out.trans (HBR.out.mono HW3.out.size)⟩
        · have HE := Lib.hid (show R = false from by rw [HA2.out, HM0.out]; simp)
          go_wp2_with fail
          go_ret
          exact ⟨by rw [HE.out]; rfl, HW3.out⟩
      · have HTX := Lib.hid (show (!(decide (0 < M) && !true && qb)) = true from by simp)
        go_wp2_with fail
        clear c0 c1 c2 c3 c4 cz
        go_loopw [66] (fun i wr => ∃ k : Nat, k ≤ N ∧ i = .int .i64 k ∧ Hid ((t.attrs.take k).all attrB = true) ∧ Below w3.heap.size w3 wr) (fun i _ => N - (intOf i).toNat)
        case atStart => exact ⟨0, by omega, rfl, Lib.hid (by simp), Below.refl _ _⟩
        case round =>
          obtain ⟨k, hk, rfl, HAL, hbr⟩ := hrel
          have HBR := Lib.hid hbr
          have HB0R := Lib.hid (H03.out.trans (hbr.mono H03.out.size))
          obtain ⟨c0, c1, c2, c3, c4, cz⟩ := box5b HX3.out hbr
          clear hbr
          by_cases hlt : k < N
          · have hkl : k < t.attrs.length := by rw [← HN.out]; exact hlt
            obtain ⟨b, o, cc, hv2, hbl, -, g0, g1, g2⟩ := HPR.out.at' hkl
            rw [← HN.out] at hv2
            cases hv2
            have e0 := (HB0R.out.cell (p := ⟨b, o + k * 3, none⟩) hbl).trans g0
            have e1 := (HB0R.out.cell (p := ⟨b, o + k * 3 + 1, none⟩) hbl).trans g1
            have e2 := (HB0R.out.cell (p := ⟨b, o + k * 3 + 2, none⟩) hbl).trans g2
            have HNX := Lib.hid (fun hb => all_next hkl HAL.out hb)
            have HBD := Lib.hid (fun hb => all_bad (p := attrB) hkl hb)
            have HSX := Lib.hid (HSA.out k hkl)
            generalize t.attrs[k] = x at *
            obtain ⟨u1, u2, u3⟩ := x
            dsimp only at e0 e1 e2
            clear g0 g1 g2 hkl
            have HWA := Lib.hid (fun (W : World) (hb : Below wr.heap.size wr W) => wattr_c W (HW.out.below (HB0R.out.trans (hb.mono HB0R.out.size))) u1 u2 u3 HSX.out)
            obtain ⟨q, hq1⟩ : ∃ q, attrB (u1, u2, u3) = q := ⟨_, rfl⟩
            rw [hq1] at HWA HNX HBD
            have HBA := Lib.hid (box_belT wr (.cells #[.string u1, .string u2, .string u3] 58))
            clear hq1
            go_wp2_with fail
            refine (HWA.out _ HBA.out).mono ?_
            rintro e w4 ⟨rfl, hb⟩
            have HB4 := Lib.hid (HBR.out.trans ((HBA.out.trans (hb.mono HBA.out.size)).mono HBR.out.size))
            clear hb e0 e1 e2 c0 c1 c2 c3 c4 cz
            cases q
            · have HE := Lib.hid (show R = false from by rw [HA2.out, HBD.out rfl]; simp)
              go_wp2_with fail
              go_ret
              exact ⟨by rw [HE.out]; rfl, HW3.out.trans (HB4.out.mono HW3.out.size)⟩
            · have HE := Lib.hid (HNX.out rfl)
              go_wp2_with fail
              go_roundw
              case rel => exact ⟨k + 1, by omega, by go_num, HE, HB4.out⟩
              case measure => simp [intOf]; omega
          · have HAT := Lib.hid (all_end (l := t.attrs) (p := attrB) (by rw [← HN.out]; omega) HAL.out)
            have HKY2 := Lib.hid (HKY.out wr (HB3.out.trans (HBR.out.mono HB3.out.size)) (by rw [← HN.out]; omega))
            go_wp2_with fail
            refine (HKY2.out).mono ?_
            rintro e w5 ⟨v5, rfl, hown5, hb⟩
            have HB5 := Lib.hid (HBR.out.trans (hb.mono HBR.out.size))
            have HRD := Lib.hid (RdK.ofRow (l := keysL t.attrs) (by rw [show (keysL t.attrs).length = t.attrs.length by simp [keysL], ← kcells_eq]; exact hown5))
            clear hb hown5 c0 c1 c2 c3 c4 cz
            go_wp2_with fail
            refine (twiceK_c _ _ _ HRD.out).mono ?_
            rintro e w6 ⟨htw, hb⟩
            have hb := HB5.out.trans (hb.mono HB5.out.size)
            have HB6 := Lib.hid hb
            obtain ⟨c0, c1, c2, c3, c4, cz⟩ := box5b HX3.out hb
            clear hb
            rcases htw with ⟨hd, rfl⟩ | ⟨hd, rfl⟩
            · have HE := Lib.hid (show R = false from by rw [HA2.out, decide_eq_false hd]; simp)
              go_wp2_with fail
              go_ret
              exact ⟨by rw [HE.out]; rfl, HW3.out.trans (HB6.out.mono HW3.out.size)⟩
            have HND := Lib.hid (show decide ((keysL t.attrs).Nodup) = true from decide_eq_true (Classical.not_not.1 hd))
            clear hd
            go_wp2_with fail
            clear c0 c1 c2 c3 c4 cz
            go_loopw [81] (fun i wr => ∃ k : Nat, k ≤ M ∧ i = .int .i64 k ∧ Hid ((t.kids.take k).all (canK E) = true) ∧ Below w3.heap.size w3 wr) (fun i _ => M - (intOf i).toNat)
            case atStart => exact ⟨0, by omega, rfl, Lib.hid (by simp), HB6.out⟩
            case round =>
              obtain ⟨k, hk, rfl, HALK, hbr⟩ := hrel
              have HBR := Lib.hid hbr
              have HB0R := Lib.hid (H03.out.trans (hbr.mono H03.out.size))
              clear hbr
              by_cases hlt : k < M
              · obtain ⟨g, o, ha, hgl, -, hx⟩ := HROW.out (by rw [← HM.out]; omega)
                have hkl : k < t.kids.length := by rw [← HM.out]; exact hlt
                obtain ⟨av, kv, ⟨g0, g1, g2, g3, g4⟩, hpr, hkd⟩ := hx k hkl
                subst ha
                obtain ⟨ka, kc, hkv, -⟩ := hkd.form
                obtain ⟨ra, rc, hrv, -⟩ := hpr.form
                have HED := Lib.hid (show ElemD Any W0 D (.agg #[.string t.kids[k].space, .string t.kids[k].name, av, kv, .string t.kids[k].text]) t.kids[k] from ⟨av, kv, rfl, hpr, hkd⟩)
                rw [hrv, hkv] at HED
                rw [hkv] at g3
                rw [hrv] at g2
                have e0 := (HB0R.out.cell (p := ⟨g, o + k * 5, none⟩) hgl).trans g0
                have e1 := (HB0R.out.cell (p := ⟨g, o + k * 5 + 1, none⟩) hgl).trans g1
                have e2 := (HB0R.out.cell (p := ⟨g, o + k * 5 + 2, none⟩) hgl).trans g2
                have e3 := (HB0R.out.cell (p := ⟨g, o + k * 5 + 3, none⟩) hgl).trans g3
                have e4 := (HB0R.out.cell (p := ⟨g, o + k * 5 + 4, none⟩) hgl).trans g4
                have HNX := Lib.hid (fun hb => all_next hkl HALK.out hb)
                have HBD := Lib.hid (fun hb => all_bad (p := canK E) hkl hb)
                have HSX := Lib.hid (HSK.out k hkl)
                generalize t.kids[k] = x at *
                obtain ⟨sp, nm, at2, ki, tx⟩ := x
                dsimp only [ET.space, ET.name, ET.text, ET.attrs, ET.kids] at e0 e1 e2 e3 e4 HED
                generalize hkn : ki.length = kn at *
                generalize hrn : at2.length = rn at *
                have HBA := Lib.hid (box_belT wr (.cells #[.string sp, .string nm, .slice ra rn rc, .slice ka kn kc, .string tx] 27))
                obtain ⟨q, hq1⟩ : ∃ q, canK E (.mk sp nm at2 ki tx) = q := ⟨_, rfl⟩
                have HREC := Lib.hid (HIH.out (wr.alloc (.cells #[.string sp, .string nm, .slice ra rn rc, .slice ka kn kc, .string tx] 27)) _ _ (dep + 1) HED.out HSX.out (HB0R.out.trans (HBA.out.mono HB0R.out.size)) HDE.out.1)
                rw [show (((dep + 1 : Nat) : Int)) = (dep : Int) + 1 by omega, HDE.out.2, hq1] at HREC
                rw [hq1] at HNX HBD
                have hw1 : IntKind.i64.wrap ((dep : Int) + 1) = (dep : Int) + 1 := by rw [IntKind.wrap_i64]; omega
                clear hx g0 g1 g2 g3 g4 hkd hpr hkv hrv hkn hrn hkl hq1
                go_wp2_with fail
                refine (HREC.out).mono ?_
                rintro e w4 ⟨rfl, hb⟩
                have HB4 := Lib.hid (HBR.out.trans ((HBA.out.trans (hb.mono HBA.out.size)).mono HBR.out.size))
                clear hb e0 e1 e2 e3 e4
                cases q
                · have HE := Lib.hid (show R = false from by rw [HA2.out, HBD.out rfl]; simp)
                  go_wp2_with fail
                  go_ret
                  exact ⟨by rw [HE.out]; rfl, HW3.out.trans (HB4.out.mono HW3.out.size)⟩
                · have HE := Lib.hid (HNX.out rfl)
                  go_wp2_with fail
                  go_roundw
                  case rel => exact ⟨k + 1, by omega, by go_num, HE, HB4.out⟩
                  case measure => simp [intOf]; omega
              · have HKT := Lib.hid (all_end (l := t.kids) (p := canK E) (by rw [← HM.out]; omega) HALK.out)
                have HE := Lib.hid (show R = true from by rw [HA2.out, HAT.out, HND.out, HKT.out, HTX.out]; simp)
                go_wp2_with fail
                go_ret
                exact ⟨by rw [HE.out]; rfl, HW3.out.trans (HBR.out.mono HW3.out.size)⟩
    · have hqm : decide ((0 : Int) < (M : Int)) = false := decide_eq_false (by omega)
      have HTX := Lib.hid (show (!(decide (0 < M) && !b7 && qb)) = true from by rw [show decide (0 < M) = false from decide_eq_false hm0]; simp)
      have hqm2 : decide (0 < M) = false := decide_eq_false hm0
      go_wp2_with fail
      clear c0 c1 c2 c3 c4 cz
      go_loopw [66] (fun i wr => ∃ k : Nat, k ≤ N ∧ i = .int .i64 k ∧ Hid ((t.attrs.take k).all attrB = true) ∧ Below w3.heap.size w3 wr) (fun i _ => N - (intOf i).toNat)
      case atStart => exact ⟨0, by omega, rfl, Lib.hid (by simp), Below.refl _ _⟩
      case round =>
        obtain ⟨k, hk, rfl, HAL, hbr⟩ := hrel
        have HBR := Lib.hid hbr
        have HB0R := Lib.hid (H03.out.trans (hbr.mono H03.out.size))
        obtain ⟨c0, c1, c2, c3, c4, cz⟩ := box5b HX3.out hbr
        clear hbr
        by_cases hlt : k < N
        · have hkl : k < t.attrs.length := by rw [← HN.out]; exact hlt
          obtain ⟨b, o, cc, hv2, hbl, -, g0, g1, g2⟩ := HPR.out.at' hkl
          rw [← HN.out] at hv2
          cases hv2
          have e0 := (HB0R.out.cell (p := ⟨b, o + k * 3, none⟩) hbl).trans g0
          have e1 := (HB0R.out.cell (p := ⟨b, o + k * 3 + 1, none⟩) hbl).trans g1
          have e2 := (HB0R.out.cell (p := ⟨b, o + k * 3 + 2, none⟩) hbl).trans g2
          have HNX := Lib.hid (fun hb => all_next hkl HAL.out hb)
          have HBD := Lib.hid (fun hb => all_bad (p := attrB) hkl hb)
          have HSX := Lib.hid (HSA.out k hkl)
          generalize t.attrs[k] = x at *
          obtain ⟨u1, u2, u3⟩ := x
          dsimp only at e0 e1 e2
          clear g0 g1 g2 hkl
          have HWA := Lib.hid (fun (W : World) (hb : Below wr.heap.size wr W) => wattr_c W (HW.out.below (HB0R.out.trans (hb.mono HB0R.out.size))) u1 u2 u3 HSX.out)
          obtain ⟨q, hq1⟩ : ∃ q, attrB (u1, u2, u3) = q := ⟨_, rfl⟩
          rw [hq1] at HWA HNX HBD
          have HBA := Lib.hid (box_belT wr (.cells #[.string u1, .string u2, .string u3] 58))
          clear hq1
          go_wp2_with fail
          refine (HWA.out _ HBA.out).mono ?_
          rintro e w4 ⟨rfl, hb⟩
          have HB4 := Lib.hid (HBR.out.trans ((HBA.out.trans (hb.mono HBA.out.size)).mono HBR.out.size))
          clear hb e0 e1 e2 c0 c1 c2 c3 c4 cz
          cases q
          · have HE := Lib.hid (show R = false from by rw [HA2.out, HBD.out rfl]; simp)
            go_wp2_with fail
            go_ret
            exact ⟨by rw [HE.out]; rfl, HW3.out.trans (HB4.out.mono HW3.out.size)⟩
          · have HE := Lib.hid (HNX.out rfl)
            go_wp2_with fail
            go_roundw
            case rel => exact ⟨k + 1, by omega, by go_num, HE, HB4.out⟩
            case measure => simp [intOf]; omega
        · have HAT := Lib.hid (all_end (l := t.attrs) (p := attrB) (by rw [← HN.out]; omega) HAL.out)
          have HKY2 := Lib.hid (HKY.out wr (HB3.out.trans (HBR.out.mono HB3.out.size)) (by rw [← HN.out]; omega))
          go_wp2_with fail
          refine (HKY2.out).mono ?_
          rintro e w5 ⟨v5, rfl, hown5, hb⟩
          have HB5 := Lib.hid (HBR.out.trans (hb.mono HBR.out.size))
          have HRD := Lib.hid (RdK.ofRow (l := keysL t.attrs) (by rw [show (keysL t.attrs).length = t.attrs.length by simp [keysL], ← kcells_eq]; exact hown5))
          clear hb hown5 c0 c1 c2 c3 c4 cz
          go_wp2_with fail
          refine (twiceK_c _ _ _ HRD.out).mono ?_
          rintro e w6 ⟨htw, hb⟩
          have hb := HB5.out.trans (hb.mono HB5.out.size)
          have HB6 := Lib.hid hb
          obtain ⟨c0, c1, c2, c3, c4, cz⟩ := box5b HX3.out hb
          clear hb
          rcases htw with ⟨hd, rfl⟩ | ⟨hd, rfl⟩
          · have HE := Lib.hid (show R = false from by rw [HA2.out, decide_eq_false hd]; simp)
            go_wp2_with fail
            go_ret
            exact ⟨by rw [HE.out]; rfl, HW3.out.trans (HB6.out.mono HW3.out.size)⟩
          have HND := Lib.hid (show decide ((keysL t.attrs).Nodup) = true from decide_eq_true (Classical.not_not.1 hd))
          clear hd
          go_wp2_with fail
          clear c0 c1 c2 c3 c4 cz
          go_loopw [81] (fun i wr => ∃ k : Nat, k ≤ M ∧ i = .int .i64 k ∧ Hid ((t.kids.take k).all (canK E) = true) ∧ Below w3.heap.size w3 wr) (fun i _ => M - (intOf i).toNat)
          case atStart => exact ⟨0, by omega, rfl, Lib.hid (by simp), HB6.out⟩
          case round =>
            obtain ⟨k, hk, rfl, HALK, hbr⟩ := hrel
            have HBR := Lib.hid hbr
            have HB0R := Lib.hid (H03.out.trans (hbr.mono H03.out.size))
            clear hbr
            by_cases hlt : k < M
            · exact absurd (show 0 < M by omega) hm0
            · have HKT := Lib.hid (all_end (l := t.kids) (p := canK E) (by rw [← HM.out]; omega) HALK.out)
              have HE := Lib.hid (show R = true from by rw [HA2.out, HAT.out, HND.out, HKT.out, HTX.out]; simp)
              go_wp2_with fail
              go_ret
              exact ⟨by rw [HE.out]; rfl, HW3.out.trans (HBR.out.mono HW3.out.size)⟩
end Go.Proofs.YtpcajjbdlfookaaGreatDoor
