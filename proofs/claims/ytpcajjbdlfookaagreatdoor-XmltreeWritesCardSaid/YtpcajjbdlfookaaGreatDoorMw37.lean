/- xmltree: Can and Write. -/
import Derived.Test.YtpcajjbdlfookaaGreatDoorMw36
import Derived.Test.YtpcajjbdlfookaaGreatDoorMw35
namespace Go.Proofs.YtpcajjbdlfookaaGreatDoor
open Go Go.RowKit Go.Deep
set_option linter.unusedVariables false
set_option linter.unusedSimpArgs false

/-- What Write gives: the error, and the document. -/
def wrCode (D : Nat) (t : ET) : Int := if canK 24 t = true then if (docT D t ⟨#[]⟩).length ≤ 65536 then 0 else 4 else 1
def wrDoc (D : Nat) (t : ET) : List UInt8 := if canK 24 t = true then if (docT D t ⟨#[]⟩).length ≤ 65536 then docT D t ⟨#[]⟩ else [] else []
def WrE (D : Nat) (t : ET) (e : Ending) (w' : World) : Prop := ∃ p n c, e = .returned (.tuple #[.slice p n c, .int .i64 (wrCode D t)]) ∧ Rd w' (.slice p n c) (wrDoc D t)

set_option maxRecDepth 100000 in
set_option maxHeartbeats 4000000 in
theorem can_c (W0 : World) (hW0 : BW W0) (D : Nat) (w : World) (v : Value) (t : ET) (h : ElemD Any W0 D v t) (hs : smK D t) (hb : Below W0.heap.size W0 w) : Calls Tryz.prog 14 #[v] w fun e w' => e = .returned (.bool (canK 24 t)) ∧ Below w.heap.size w w' := by
  have h' := h
  obtain ⟨av, kv, rfl, hpr, hkd⟩ := h
  obtain ⟨pa, ca, hav, -⟩ := hpr.form
  obtain ⟨ka, kc, hkv, -⟩ := hkd.form
  subst hav hkv
  obtain ⟨N, hN⟩ : ∃ N, N = t.attrs.length := ⟨_, rfl⟩
  obtain ⟨M, hM⟩ : ∃ M, M = t.kids.length := ⟨_, rfl⟩
  obtain ⟨S1, hS1⟩ : ∃ S, S = t.space := ⟨_, rfl⟩
  obtain ⟨S2, hS2⟩ : ∃ S, S = t.name := ⟨_, rfl⟩
  obtain ⟨S3, hS3⟩ : ∃ S, S = t.text := ⟨_, rfl⟩
  rw [← hN, ← hM, ← hS1, ← hS2, ← hS3] at h' ⊢
  have HZ := Lib.hid (box_belT w (.cells #[.string S1, .string S2, .slice pa N ca, .slice ka M kc, .string S3] 27))
  have HC := Lib.hid (writable_c W0 hW0 D _ _ t 0 h' hs (hb.trans (HZ.out.mono hb.size)) (by omega))
  rw [show ((0 : Nat) : Int) = 0 from rfl, show 24 - 0 = 24 from rfl] at HC
  obtain ⟨q, hq⟩ : ∃ q, canK 24 t = q := ⟨_, rfl⟩
  rw [hq] at HC ⊢
  clear h' hs hb hq hW0 hpr hkd hN hM hS1 hS2 hS3
  go_enter Tryz.func14, Tryz.ntmps14
  go_wp2_with fail
  refine (HC.out).mono ?_
  rintro e w1 ⟨rfl, hb⟩
  have HB := Lib.hid (HZ.out.trans (hb.mono HZ.out.size))
  clear hb
  go_wp2_with fail
  go_ret
  exact ⟨rfl, HB.out⟩

set_option maxRecDepth 100000 in
set_option maxHeartbeats 4000000 in
theorem xwrite_c (w : World) (hw : BW w) (D : Nat) (v : Value) (t : ET) (h : ElemD Any w D v t) (hs : smK D t) : Calls Tryz.prog 12 #[v] w fun e w' => WrE D t e w' ∧ Below w.heap.size w w' := by
  have h' := h
  obtain ⟨av, kv, rfl, hpr, hkd⟩ := h
  obtain ⟨pa, ca, hav, -⟩ := hpr.form
  obtain ⟨ka, kc, hkv, -⟩ := hkd.form
  subst hav hkv
  obtain ⟨N, hN⟩ : ∃ N, N = t.attrs.length := ⟨_, rfl⟩
  obtain ⟨M, hM⟩ : ∃ M, M = t.kids.length := ⟨_, rfl⟩
  obtain ⟨S1, hS1⟩ : ∃ S, S = t.space := ⟨_, rfl⟩
  obtain ⟨S2, hS2⟩ : ∃ S, S = t.name := ⟨_, rfl⟩
  obtain ⟨S3, hS3⟩ : ∃ S, S = t.text := ⟨_, rfl⟩
  rw [← hN, ← hM, ← hS1, ← hS2, ← hS3] at h' ⊢
  have HZ := Lib.hid (box_belT w (.cells #[.string S1, .string S2, .slice pa N ca, .slice ka M kc, .string S3] 27))
  have HC := Lib.hid (can_c w hw D _ _ t h' hs HZ.out)
  have HEL := Lib.hid (fun (Y : World) (wb : Nat) (hc : canK 24 t = true) (hp : PutE w wb Y [] Y) => welement_c w D Y Y _ t ⟨#[]⟩ wb [] 24 h' hs hc hp)
  obtain ⟨LD, hLD⟩ : ∃ LD, docT D t ⟨#[]⟩ = LD := ⟨_, rfl⟩
  obtain ⟨q, hq⟩ : ∃ q, canK 24 t = q := ⟨_, rfl⟩
  have HW1 := Lib.hid (show wrCode D t = if q = true then if LD.length ≤ 65536 then 0 else 4 else 1 from by unfold wrCode; rw [hLD, hq])
  have HW2 := Lib.hid (show wrDoc D t = if q = true then if LD.length ≤ 65536 then LD else [] else [] from by unfold wrDoc; rw [hLD, hq])
  rw [hq] at HC HEL
  rw [hLD] at HEL
  clear h' hs hw hpr hkd hN hM hS1 hS2 hS3 hLD hq
  unfold WrE
  obtain ⟨RC, hRC⟩ : ∃ R, wrCode D t = R := ⟨_, rfl⟩
  obtain ⟨RD, hRD⟩ : ∃ R, wrDoc D t = R := ⟨_, rfl⟩
  rw [hRC] at HW1 ⊢
  rw [hRD] at HW2 ⊢
  clear hRC hRD
  go_enter Tryz.func12, Tryz.ntmps12
  go_wp2_with fail
  refine (HC.out).mono ?_
  rintro e w1 ⟨rfl, hb⟩
  have HB1 := Lib.hid (HZ.out.trans (hb.mono HZ.out.size))
  obtain ⟨c0, c1, c2, c3, c4, cz⟩ := box5 hb
  have hwl : w.heap.size < w1.heap.size := by have := hb.size; simp at this; omega
  clear hb
  cases q
  · have HE1 := Lib.hid (show RC = 1 from HW1.out)
    have HE2 := Lib.hid (show RD = [] from HW2.out)
    go_wp2_with fail
    go_ret2
    exact ⟨⟨none, 0, 0, by rw [HE1.out]; rfl, by rw [HE2.out]; exact Rd.nil _⟩, HB1.out⟩
  have HP0 := Lib.hid (show PutE w w1.heap.size (w1.alloc (.cells #[.slice none 0 0, .bool false] 62)) [] (w1.alloc (.cells #[.slice none 0 0, .bool false] 62)) from
    ⟨⟨[], .slice none 0 0, false, HB1.out.size, heap_alloc_new w1 _, World.ownsRow_nil _ _ _ _, by simp, fun _ => rfl, fun e => (by cases e)⟩, Kp.refl _ _, HB1.out.alloc HB1.out.size _⟩)
  go_wp2_with fail
  refine (HEL.out _ _ trivial HP0.out).mono ?_
  rintro e w2 ⟨rfl, ⟨xs, vv, f, hx⟩, hk, hb2⟩
  obtain ⟨p, c, rfl⟩ := rowT_form hx.own
  obtain ⟨x0, x1, xz⟩ := hx.cells
  have HB2 := Lib.hid hb2
  have HX := Lib.hid hx
  obtain ⟨n, hn⟩ : ∃ n, n = xs.length := ⟨_, rfl⟩
  have HN := Lib.hid hn
  rw [← hn] at x0 HX
  clear hx hk hb2 c0 c1 c2 c3 c4 cz hn
  cases f
  · have hle : LD.length ≤ 65536 := by have h1 := HX.out.len; rw [HX.out.eq rfl] at h1; simpa using h1
    have HE1 := Lib.hid (show RC = 0 from by rw [HW1.out, if_pos trivial, if_pos hle])
    have HE2 := Lib.hid (show RD = xs from by rw [HW2.out, if_pos trivial, if_pos hle, HX.out.eq rfl]; rfl)
    clear hle
    go_wp2_with fail
    go_ret2
    exact ⟨⟨_, _, _, by rw [HE1.out]; rfl, by rw [HE2.out]; have := HX.out.own; rw [← HN.out] at this; exact Rd.of_own this⟩, HB2.out⟩
  · have hgt : ¬ LD.length ≤ 65536 := by have h1 := HX.out.full rfl; simp only [List.nil_append] at h1; omega
    have HE1 := Lib.hid (show RC = 4 from by rw [HW1.out, if_pos trivial, if_neg hgt])
    have HE2 := Lib.hid (show RD = [] from by rw [HW2.out, if_pos trivial, if_neg hgt])
    clear hgt
    go_wp2_with fail
    go_ret2
    exact ⟨⟨none, 0, 0, by rw [HE1.out]; rfl, by rw [HE2.out]; exact Rd.nil _⟩, HB2.out⟩
end Go.Proofs.YtpcajjbdlfookaaGreatDoor

/- xmltree: whether an element can be written: the reference. Written by tools/genuj.py. -/
namespace Go.Proofs.YtpcajjbdlfookaaGreatDoor
open Go Go.RowKit Go.Deep
set_option linter.unusedVariables false
set_option linter.unusedSimpArgs false

set_option maxRecDepth 100000 in
set_option maxHeartbeats 8000000 in
theorem rcan_c (W0 : World) : ∀ (D : Nat) (w : World) (v : Value) (t : ET) (dep : Nat), ElemD Any W0 D v t → smK D t → Below W0.heap.size W0 w → 1 ≤ dep → dep ≤ 25 →
    Calls Tryz.prog 27 #[v, .int .i64 dep] w fun e w' => e = .returned (.bool (canK (25 - dep) t)) ∧ Below w.heap.size w w' := by
  intro D
  induction D with
  | zero => rintro w v t dep ⟨av, kv, _, _, h⟩; exact h.elim
  | succ D ih =>
    intro w v t dep h hsm hb0 hdep1 hdep
    have HIH := Lib.hid ih
    obtain ⟨av, kv, rfl, hpr, hkd⟩ := h
    obtain ⟨pa, ca, hav, hla0, hcm0⟩ := hpr.form
    obtain ⟨N, hN⟩ : ∃ N, N = t.attrs.length := ⟨_, rfl⟩
    rw [← hN] at hav
    subst hav
    rw [hN] at hpr
    obtain ⟨ka, kc, hkv, hlk0, hckm, -, hrows⟩ := hkd
    obtain ⟨M, hM⟩ : ∃ M, M = t.kids.length := ⟨_, rfl⟩
    rw [← hM] at hkv
    subst hkv
    rw [← hN] at hpr
    have HPR := Lib.hid hpr
    have HROW := Lib.hid hrows
    have HN := Lib.hid hN
    have HM := Lib.hid hM
    have hnM : M ≤ 9223372036854775807 := by unfold maxLen at hckm; omega
    have hnN : N ≤ 9223372036854775807 := by unfold maxLen at hcm0; omega
    obtain ⟨S1, hS1⟩ : ∃ S, S = t.space := ⟨_, rfl⟩
    obtain ⟨S2, hS2⟩ : ∃ S, S = t.name := ⟨_, rfl⟩
    obtain ⟨S3, hS3⟩ : ∃ S, S = t.text := ⟨_, rfl⟩
    rw [← hS1, ← hS2, ← hS3]
    obtain ⟨m1, m2, m3, m4, m5⟩ := hsm
    have HSA := Lib.hid m4
    have HSK := Lib.hid m5
    rw [← hS1] at m1
    rw [← hS2] at m2
    rw [← hS3] at m3
    obtain ⟨Z, hZ⟩ : ∃ Z, Z = w.alloc (.cells #[.string S1, .string S2, .slice pa N ca, .slice ka M kc, .string S3] 27) := ⟨_, rfl⟩
    have hwZ : Below w.heap.size w Z := hZ ▸ box_belT w _
    have HWZ := Lib.hid hwZ
    have H0Z := Lib.hid (hb0.trans (hwZ.mono hb0.size))
    have hb0' := H0Z.out
    have HNM := Lib.hid (fun (W : World) => rnameN_c W S2 (by omega))
    have HC1 := Lib.hid (fun (W : World) => rclean_c W S1 (by omega))
    have HC3 := Lib.hid (fun (W : World) => rclean_c W S3 (by omega))
    have HBL := Lib.hid (fun (W : World) => rblank_c W S3 (by omega))
    have HAT := Lib.hid (fun (W : World) (hb : Below Z.heap.size Z W) => rattrs_c W _ _ (hpr.below (hb0'.trans (hb.mono hb0'.size))) m4)
    obtain ⟨qa, hqa⟩ : ∃ q, (decide (t.attrs.length ≤ 100) && t.attrs.all attrB && decide ((keysL t.attrs).Nodup)) = q := ⟨_, rfl⟩
    rw [hqa] at HAT
    obtain ⟨qn, hqn⟩ : ∃ q, nameB S2.data.toList = q := ⟨_, rfl⟩
    obtain ⟨qs, hqs⟩ : ∃ q, cleanB S1 = q := ⟨_, rfl⟩
    obtain ⟨qt, hqt⟩ : ∃ q, cleanB S3 = q := ⟨_, rfl⟩
    obtain ⟨qb, hqb⟩ : ∃ q, blankB S3 = q := ⟨_, rfl⟩
    obtain ⟨b5, t5⟩ : ∃ b, (S1.toList == [104, 116, 116, 112, 58, 47, 47, 119, 119, 119, 46, 119, 51, 46, 111, 114, 103, 47, 88, 77, 76, 47, 49, 57, 57, 56, 47, 110, 97, 109, 101, 115, 112, 97, 99, 101]) = b := ⟨_, rfl⟩
    obtain ⟨b6, t6⟩ : ∃ b, (S1.toList == [104, 116, 116, 112, 58, 47, 47, 119, 119, 119, 46, 119, 51, 46, 111, 114, 103, 47, 50, 48, 48, 48, 47, 120, 109, 108, 110, 115, 47]) = b := ⟨_, rfl⟩
    obtain ⟨b7, t7⟩ : ∃ b, S3.toList.isEmpty = b := ⟨_, rfl⟩
    have HA := Lib.hid (show ∀ d, canK (d + 1) t = (decide (M ≤ 100) && qa && qn && qs && qt && !b5 && !b6 && !(decide (0 < M) && !b7 && qb) && t.kids.all (canK d)) from by
      intro d
      rw [← hqa]
      unfold canK
      rw [← hS1, ← hS2, ← hS3, ← hM, hqn, hqs, hqt, hqb, show (S1.toList == nsX) = b5 from t5, show (S1.toList == nsN) = b6 from t6, t7]
      cases decide (M ≤ 100) <;> cases decide (t.attrs.length ≤ 100) <;> cases qn <;> cases qs <;> cases qt <;> cases b5 <;> cases b6 <;> cases t.attrs.all attrB <;> cases decide ((keysL t.attrs).Nodup) <;> simp)
    rw [hqn] at HNM
    rw [hqs] at HC1
    rw [hqt] at HC3
    rw [hqb] at HBL
    have HB0 := Lib.hid (Below.refl Z.heap.size Z)
    clear ih hb0 hb0' hla0 hcm0 hlk0 hckm hrows hpr hN hM hS1 hS2 hS3 m1 m2 m3 m4 m5 hwZ hqn hqs hqt hqb hqa
    obtain ⟨R, hR⟩ : ∃ R, canK (25 - dep) t = R := ⟨_, rfl⟩
    rw [hR]
    have HR := Lib.hid hR
    clear hR
    by_cases h24 : 24 < dep
    · have hq : decide ((24 : Int) < (dep : Int)) = true := decide_eq_true (by omega)
      have HE := Lib.hid (show R = false from by rw [← HR.out, show 25 - dep = 0 by omega]; rfl)
      subst hZ
      go_enter Tryz.func27, Tryz.ntmps27
      go_wp2_with fail
      go_ret
      exact ⟨by rw [HE.out]; rfl, HWZ.out⟩
    have hq : decide ((24 : Int) < (dep : Int)) = false := decide_eq_false (by omega)
    obtain ⟨E, hE⟩ : ∃ E, E = 24 - dep := ⟨_, rfl⟩
    have HDE := Lib.hid (show 1 ≤ dep + 1 ∧ dep + 1 ≤ 25 ∧ 25 - (dep + 1) = E from by omega)
    have HA2 := Lib.hid (HA.out E)
    rw [show E + 1 = 25 - dep by omega, HR.out] at HA2
    clear HA hE
    by_cases hk : 100 < M
    · have hqk : decide ((100 : Int) < (M : Int)) = true := decide_eq_true (by omega)
      have HE := Lib.hid (show R = false from by rw [HA2.out, show decide (M ≤ 100) = false from decide_eq_false (by omega)]; simp)
      subst hZ
      go_enter Tryz.func27, Tryz.ntmps27
      go_wp2_with fail
      go_ret
      exact ⟨by rw [HE.out]; rfl, HWZ.out⟩
    have hqk : decide ((100 : Int) < (M : Int)) = false := decide_eq_false (by omega)
    rw [show decide (M ≤ 100) = true from decide_eq_true (by omega)] at HA2
    subst hZ
    go_enter Tryz.func27, Tryz.ntmps27
    go_wp2_with fail
    refine (HNM.out _).mono ?_
    rintro e w1 ⟨rfl, hb⟩
    have hb := HB0.out.trans (hb.mono (by simp))
    have HB1 := Lib.hid hb
    obtain ⟨c0, c1, c2, c3, c4, cz⟩ := box5 hb
    clear hb
    cases qn
    · have HE := Lib.hid (show R = false from by rw [HA2.out]; simp)
      go_wp2_with fail
      go_ret
      exact ⟨by rw [HE.out]; rfl, HWZ.out.trans (HB1.out.mono HWZ.out.size)⟩
    go_wp2_with fail
    refine (HC1.out _).mono ?_
    rintro e w2 ⟨rfl, hb⟩
    have hb := HB1.out.trans (hb.mono HB1.out.size)
    have HB2 := Lib.hid hb
    clear c0 c1 c2 c3 c4 cz
    obtain ⟨c0, c1, c2, c3, c4, cz⟩ := box5 hb
    clear hb
    cases qs
    · have HE := Lib.hid (show R = false from by rw [HA2.out]; simp)
      go_wp2_with fail
      go_ret
      exact ⟨by rw [HE.out]; rfl, HWZ.out.trans (HB2.out.mono HWZ.out.size)⟩
    cases b6
    rotate_left
    · have HE := Lib.hid (show R = false from by rw [HA2.out]; simp)
      go_wp2_with fail
      go_ret
      exact ⟨by rw [HE.out]; rfl, HWZ.out.trans (HB2.out.mono HWZ.out.size)⟩
    cases b5
    rotate_left
    · have HE := Lib.hid (show R = false from by rw [HA2.out]; simp)
      go_wp2_with fail
      go_ret
      exact ⟨by rw [HE.out]; rfl, HWZ.out.trans (HB2.out.mono HWZ.out.size)⟩
    go_wp2_with fail
    refine (HAT.out _ HB2.out).mono ?_
    rintro e w3 ⟨rfl, hb⟩
    have hb := HB2.out.trans (hb.mono HB2.out.size)
    have HB3 := Lib.hid hb
    clear c0 c1 c2 c3 c4 cz
    obtain ⟨c0, c1, c2, c3, c4, cz⟩ := box5 hb
    clear hb
    cases qa
    · have HE := Lib.hid (show R = false from by rw [HA2.out]; simp)
      go_wp2_with fail
      go_ret
      exact ⟨by rw [HE.out]; rfl, HWZ.out.trans (HB3.out.mono HWZ.out.size)⟩
    go_wp2_with fail
    refine (HC3.out _).mono ?_
    rintro e w4 ⟨rfl, hb⟩
    have hb := HB3.out.trans (hb.mono HB3.out.size)
    have HB4 := Lib.hid hb
    clear c0 c1 c2 c3 c4 cz
    obtain ⟨c0, c1, c2, c3, c4, cz⟩ := box5 hb
    clear hb
    cases qt
    · have HE := Lib.hid (show R = false from by rw [HA2.out]; simp)
      go_wp2_with fail
      go_ret
      exact ⟨by rw [HE.out]; rfl, HWZ.out.trans (HB4.out.mono HWZ.out.size)⟩
    have HX4 := Lib.hid ((HB4.out.block w.heap.size (by simp)).trans (heap_alloc_new w _))
    have HW4 := Lib.hid (HWZ.out.trans (HB4.out.mono HWZ.out.size))
    have H04 := Lib.hid (H0Z.out.trans (HB4.out.mono H0Z.out.size))
    by_cases hm0 : 0 < M
    · have hqm : decide ((0 : Int) < (M : Int)) = true := decide_eq_true (by omega)
      have hqm2 : decide (0 < M) = true := decide_eq_true hm0
      have HM0 := Lib.hid hqm2
      cases b7
      · go_wp2_with fail
        refine (HBL.out _).mono ?_
        rintro e w5 ⟨rfl, rfl⟩
        cases qb
        · have HTX := Lib.hid (show (!(decide (0 < M) && !false && false)) = true from by simp)
          go_wp2_with fail
          clear c0 c1 c2 c3 c4 cz
          go_loopw [68] (fun i wr => ∃ k : Nat, k ≤ M ∧ i = .int .i64 k ∧ Hid ((t.kids.take k).all (canK E) = true) ∧ Below w4.heap.size w4 wr) (fun i _ => M - (intOf i).toNat)
          case atStart => exact ⟨0, by omega, rfl, Lib.hid (by simp), Below.refl _ _⟩
          case round =>
            obtain ⟨k, hk, rfl, HALK, hbr⟩ := hrel
            have HBR := Lib.hid hbr
            have HB0R := Lib.hid (H04.out.trans (hbr.mono H04.out.size))
            clear hbr
            by_cases hlt : k < M
            · obtain ⟨g, o, ha, hgl, -, hx⟩ := HROW.out (by rw [← HM.out]; omega)
              have hkl : k < t.kids.length := by rw [← HM.out]; exact hlt
              obtain ⟨av, kv, ⟨g0, g1, g2, g3, g4⟩, hpr, hkd⟩ := hx k hkl
              subst ha
              obtain ⟨ka, kc, hkv, -⟩ := hkd.form
              obtain ⟨ra, rc, hrv, -⟩ := hpr.form
              have HED := Lib.hid (show ElemD Any W0 D (.agg #[.string t.kids[k].space, .string t.kids[k].name, av, kv, .string t.kids[k].text]) t.kids[k] from ⟨av, kv, rfl, hpr, hkd⟩)
              rw [hrv, hkv] at HED
              rw [hkv] at g3
              rw [hrv] at g2
              have e0 := (HB0R.out.cell (p := ⟨g, o + k * 5, none⟩) hgl).trans g0
              have e1 := (HB0R.out.cell (p := ⟨g, o + k * 5 + 1, none⟩) hgl).trans g1
              have e2 := (HB0R.out.cell (p := ⟨g, o + k * 5 + 2, none⟩) hgl).trans g2
              have e3 := (HB0R.out.cell (p := ⟨g, o + k * 5 + 3, none⟩) hgl).trans g3
              have e4 := (HB0R.out.cell (p := ⟨g, o + k * 5 + 4, none⟩) hgl).trans g4
              have HNX := Lib.hid (fun hb => all_next hkl HALK.out hb)
              have HBD := Lib.hid (fun hb => all_bad (p := canK E) hkl hb)
              have HSX := Lib.hid (HSK.out k hkl)
              generalize t.kids[k] = x at *
              obtain ⟨sp, nm, at2, ki, tx⟩ := x
              dsimp only [ET.space, ET.name, ET.text, ET.attrs, ET.kids] at e0 e1 e2 e3 e4 HED
              generalize hkn : ki.length = kn at *
              generalize hrn : at2.length = rn at *
              have HBA := Lib.hid (box_belT wr (.cells #[.string sp, .string nm, .slice ra rn rc, .slice ka kn kc, .string tx] 27))
              obtain ⟨q, hq1⟩ : ∃ q, canK E (.mk sp nm at2 ki tx) = q := ⟨_, rfl⟩
              have HREC := Lib.hid (HIH.out (wr.alloc (.cells #[.string sp, .string nm, .slice ra rn rc, .slice ka kn kc, .string tx] 27)) _ _ (dep + 1) HED.out HSX.out (HB0R.out.trans (HBA.out.mono HB0R.out.size)) HDE.out.1 HDE.out.2.1)
              rw [show (((dep + 1 : Nat) : Int)) = (dep : Int) + 1 by omega, HDE.out.2.2, hq1] at HREC
              rw [hq1] at HNX HBD
              have hw1 : IntKind.i64.wrap ((dep : Int) + 1) = (dep : Int) + 1 := by rw [IntKind.wrap_i64]; omega
              clear hx g0 g1 g2 g3 g4 hkd hpr hkv hrv hkn hrn hkl hq1
              go_wp2_with fail
              refine (HREC.out).mono ?_
              rintro e w5 ⟨rfl, hb⟩
              have HB5 := Lib.hid (HBR.out.trans ((HBA.out.trans (hb.mono HBA.out.size)).mono HBR.out.size))
              clear hb e0 e1 e2 e3 e4
              cases q
              · have HE := Lib.hid (show R = false from by rw [HA2.out, HBD.out rfl]; simp)
                go_wp2_with fail
                go_ret
                exact ⟨by rw [HE.out]; rfl, HW4.out.trans (HB5.out.mono HW4.out.size)⟩
              · have HE := Lib.hid (HNX.out rfl)
                go_wp2_with fail
                go_roundw
                case rel => exact ⟨k + 1, by omega, by go_num, HE, HB5.out⟩
                case measure => simp [intOf]; omega
            · have HKT := Lib.hid (all_end (l := t.kids) (p := canK E) (by rw [← HM.out]; omega) HALK.out)
              have HE := Lib.hid (show R = true from by rw [HA2.out, HKT.out, HTX.out]; simp)
              go_wp2_with fail
              go_ret
              exact ⟨by rw [HE.out]; rfl, HW4.out.trans (HBR.out.mono HW4.out.size)⟩
        · have HE := Lib.hid (show R = false from by rw [HA2.out, HM0.out]; simp)
          go_wp2_with fail
          go_ret
          exact ⟨by rw [HE.out]; rfl, HW4.out⟩
      · have HTX := Lib.hid (show (!(decide (0 < M) && !true && qb)) = true from by simp)
        go_wp2_with fail
        clear c0 c1 c2 c3 c4 cz
        go_loopw [68] (fun i wr => ∃ k : Nat, k ≤ M ∧ i = .int .i64 k ∧ Hid ((t.kids.take k).all (canK E) = true) ∧ Below w4.heap.size w4 wr) (fun i _ => M - (intOf i).toNat)
        case atStart => exact ⟨0, by omega, rfl, Lib.hid (by simp), Below.refl _ _⟩
        case round =>
          obtain ⟨k, hk, rfl, HALK, hbr⟩ := hrel
          have HBR := Lib.hid hbr
          have HB0R := Lib.hid (H04.out.trans (hbr.mono H04.out.size))
          clear hbr
          by_cases hlt : k < M
          · obtain ⟨g, o, ha, hgl, -, hx⟩ := HROW.out (by rw [← HM.out]; omega)
            have hkl : k < t.kids.length := by rw [← HM.out]; exact hlt
            obtain ⟨av, kv, ⟨g0, g1, g2, g3, g4⟩, hpr, hkd⟩ := hx k hkl
            subst ha
            obtain ⟨ka, kc, hkv, -⟩ := hkd.form
            obtain ⟨ra, rc, hrv, -⟩ := hpr.form
            have HED := Lib.hid (show ElemD Any W0 D (.agg #[.string t.kids[k].space, .string t.kids[k].name, av, kv, .string t.kids[k].text]) t.kids[k] from ⟨av, kv, rfl, hpr, hkd⟩)
            rw [hrv, hkv] at HED
            rw [hkv] at g3
            rw [hrv] at g2
            have e0 := (HB0R.out.cell (p := ⟨g, o + k * 5, none⟩) hgl).trans g0
            have e1 := (HB0R.out.cell (p := ⟨g, o + k * 5 + 1, none⟩) hgl).trans g1
            have e2 := (HB0R.out.cell (p := ⟨g, o + k * 5 + 2, none⟩) hgl).trans g2
            have e3 := (HB0R.out.cell (p := ⟨g, o + k * 5 + 3, none⟩) hgl).trans g3
            have e4 := (HB0R.out.cell (p := ⟨g, o + k * 5 + 4, none⟩) hgl).trans g4
            have HNX := Lib.hid (fun hb => all_next hkl HALK.out hb)
            have HBD := Lib.hid (fun hb => all_bad (p := canK E) hkl hb)
            have HSX := Lib.hid (HSK.out k hkl)
            generalize t.kids[k] = x at *
            obtain ⟨sp, nm, at2, ki, tx⟩ := x
            dsimp only [ET.space, ET.name, ET.text, ET.attrs, ET.kids] at e0 e1 e2 e3 e4 HED
            generalize hkn : ki.length = kn at *
            generalize hrn : at2.length = rn at *
            have HBA := Lib.hid (box_belT wr (.cells #[.string sp, .string nm, .slice ra rn rc, .slice ka kn kc, .string tx] 27))
            obtain ⟨q, hq1⟩ : ∃ q, canK E (.mk sp nm at2 ki tx) = q := ⟨_, rfl⟩
            have HREC := Lib.hid (HIH.out (wr.alloc (.cells #[.string sp, .string nm, .slice ra rn rc, .slice ka kn kc, .string tx] 27)) _ _ (dep + 1) HED.out HSX.out (HB0R.out.trans (HBA.out.mono HB0R.out.size)) HDE.out.1 HDE.out.2.1)
            rw [show (((dep + 1 : Nat) : Int)) = (dep : Int) + 1 by omega, HDE.out.2.2, hq1] at HREC
            rw [hq1] at HNX HBD
            have hw1 : IntKind.i64.wrap ((dep : Int) + 1) = (dep : Int) + 1 := by rw [IntKind.wrap_i64]; omega
            clear hx g0 g1 g2 g3 g4 hkd hpr hkv hrv hkn hrn hkl hq1
            go_wp2_with fail
            refine (HREC.out).mono ?_
            rintro e w5 ⟨rfl, hb⟩
            have HB5 := Lib.hid (HBR.out.trans ((HBA.out.trans (hb.mono HBA.out.size)).mono HBR.out.size))
            clear hb e0 e1 e2 e3 e4
            cases q
            · have HE := Lib.hid (show R = false from by rw [HA2.out, HBD.out rfl]; simp)
              go_wp2_with fail
              go_ret
              exact ⟨by rw [HE.out]; rfl, HW4.out.trans (HB5.out.mono HW4.out.size)⟩
            · have HE := Lib.hid (HNX.out rfl)
              go_wp2_with fail
              go_roundw
              case rel => exact ⟨k + 1, by omega, by go_num, HE, HB5.out⟩
              case measure => simp [intOf]; omega
          · have HKT := Lib.hid (all_end (l := t.kids) (p := canK E) (by rw [← HM.out]; omega) HALK.out)
            have HE := Lib.hid (show R = true from by rw [HA2.out, HKT.out, HTX.out]; simp)
            go_wp2_with fail
            go_ret
            exact ⟨by rw [HE.out]; rfl, HW4.out.trans (HBR.out.mono HW4.out.size)⟩
    · have hqm : decide ((0 : Int) < (M : Int)) = false := decide_eq_false (by omega)
      have HTX := Lib.hid (show (!(decide (0 < M) && !b7 && qb)) = true from by rw [show decide (0 < M) = false from decide_eq_false hm0]; simp)
      have hqm2 : decide (0 < M) = false := decide_eq_false hm0
      go_wp2_with fail
      clear c0 c1 c2 c3 c4 cz
      go_loopw [68] (fun i wr => ∃ k : Nat, k ≤ M ∧ i = .int .i64 k ∧ Hid ((t.kids.take k).all (canK E) = true) ∧ Below w4.heap.size w4 wr) (fun i _ => M - (intOf i).toNat)
      case atStart => exact ⟨0, by omega, rfl, Lib.hid (by simp), Below.refl _ _⟩
      case round =>
        obtain ⟨k, hk, rfl, HALK, hbr⟩ := hrel
        have HBR := Lib.hid hbr
        have HB0R := Lib.hid (H04.out.trans (hbr.mono H04.out.size))
        clear hbr
        by_cases hlt : k < M
        · exact absurd (show 0 < M by omega) hm0
        · have HKT := Lib.hid (all_end (l := t.kids) (p := canK E) (by rw [← HM.out]; omega) HALK.out)
          have HE := Lib.hid (show R = true from by rw [HA2.out, HKT.out, HTX.out]; simp)
          go_wp2_with fail
          go_ret
          exact ⟨by rw [HE.out]; rfl, HW4.out.trans (HBR.out.mono HW4.out.size)⟩
end Go.Proofs.YtpcajjbdlfookaaGreatDoor
